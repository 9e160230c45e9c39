/- A line's tokens read as those of one kind, by contract. -/
import Derived.Test.YtcbbffpalpieaaaGreatM09
import Derived.Test.YtcbbffpalpieaaaGreatM10
import Derived.Test.YtcbbffpalpieaaaGreatM08
import Derived.Test.YtcbbffpalpieaaaGreatM13
import Derived.Test.YtcbbffpalpieaaaGreatM03
namespace Go.Proofs.YtcbbffpalpieaaaGreat.QryB
set_option linter.unusedVariables false
set_option linter.unusedSimpArgs false
open Go.RowKit Go.Sort Go.Proofs Go.Proofs.YtcbbffpalpieaaaGreat.Plain Go.Proofs.YtcbbffpalpieaaaGreat.SynP Go.Proofs.YtcbbffpalpieaaaGreat.SynQ Go.Proofs.YtcbbffpalpieaaaGreat.TabP Go.Proofs.YtcbbffpalpieaaaGreat.Tab1 Go.Proofs.YtcbbffpalpieaaaGreat.Grown Go.Proofs.YtcbbffpalpieaaaGreat.SynA Go.Proofs.YtcbbffpalpieaaaGreat.SynC Go.Proofs.YtcbbffpalpieaaaGreat.SynR Go.Proofs.YtcbbffpalpieaaaGreat.SynS Go.Proofs.YtcbbffpalpieaaaGreat.SynV Go.Proofs.YtcbbffpalpieaaaGreat.QryP Go.Proofs.YtcbbffpalpieaaaGreat.Qry4 Go.Proofs.YtcbbffpalpieaaaGreat.Qry5 Go.Proofs.YtcbbffpalpieaaaGreat.Qry6 Go.Proofs.YtcbbffpalpieaaaGreat.Qry7 Go.Proofs.YtcbbffpalpieaaaGreat.QryA
set_option linter.unusedVariables false
set_option linter.unusedSimpArgs false
def textAt (L : List Tk) (k : Nat) : ByteArray := ((L[k]?).map Tk.text).getD noText
/-- The query, how many tokens go on so, and why it is none (0, 2, 3, 5: OK, ErrForm, ErrEnd, ErrMany). -/
def readQ (k : Int) (L : List Tk) : Qy × Nat × Int :=
  let n := agreeF L (shapeF k)
  if n = (shapeF k).length then
    let r := if hasWk k then readW (L.drop n) [] else ([], 0, false)
    let q : Qy := ⟨k, ⟨textAt L 1, textAt L 3⟩, if hasBk k then ⟨textAt L (n - 3), textAt L (n - 1)⟩ else zeroR, r.1⟩
    (q, n + r.2.1, if r.2.2 then 5 else if n + r.2.1 < L.length then 2 else if q.right then 0 else 3)
  else (⟨k, zeroR, zeroR, []⟩, n, if n < L.length then 2 else 3)
def ReadPost (r : Qy × Nat × Int) (w : World) (e : Ending) (w' : World) : Prop := ∃ A c, e = .returned (.tuple #[r.1.val A c, .int .i64 r.2.1, .int .i64 r.2.2]) ∧ SRow w' A r.1.who ∧ (∀ g o, A = some ⟨g, o, none⟩ → w.heap.size ≤ g) ∧ Below w.heap.size w w'
theorem read_no_eq {k : Int} {L : List Tk} (h : agreeF L (shapeF k) ≠ (shapeF k).length) : readQ k L = (⟨k, zeroR, zeroR, []⟩, agreeF L (shapeF k), if agreeF L (shapeF k) < L.length then 2 else 3) := by
  unfold readQ
  simp only []
  rw [if_neg h]
theorem zero_right (k : Int) : Qy.right ⟨k, zeroR, zeroR, []⟩ = false := by
  unfold Qy.right
  have : zeroR.ok = false := by decide +kernel
  rw [this]; rfl
theorem shape_len (k : Int) : (shapeF k).length ≤ 20 := by
  unfold shapeF roleF wordsL
  simp
  (repeat' split) <;> simp
theorem some_at {X : World} {n : Nat} (h : (X.cell? ⟨n, 5, none⟩).isSome = true) (i : Nat) (hi : i ≤ 5) : ∃ u, X.cell? ⟨n, i, none⟩ = some u := by
  unfold World.cell? at *
  cases hx : X.heap[n]? with
  | none => rw [hx] at h; simp at h
  | some x =>
    rw [hx] at h
    cases x with
    | cells c e f =>
      simp at h ⊢
      exact ⟨_, Array.getElem?_eq_getElem (by omega)⟩
    | _ => simp at h
set_option maxHeartbeats 1000000 in
/-- Six stores into a block of six cells. -/
theorem set6 (X : World) (n : Nat) (v0 v1 v2 v3 v4 v5 : Value) (o : Nat) (ho : o < 6) (h : (X.cell? ⟨n, 5, none⟩).isSome = true) : ((((((X.setCell ⟨n, 0, none⟩ v0).setCell ⟨n, 1, none⟩ v1).setCell ⟨n, 2, none⟩ v2).setCell ⟨n, 3, none⟩ v3).setCell ⟨n, 4, none⟩ v4).setCell ⟨n, 5, none⟩ v5).cell? ⟨n, o, none⟩ = (#[v0, v1, v2, v3, v4, v5] : Array Value)[o]? := by
  obtain ⟨u0, h0⟩ := some_at h 0 (by omega)
  obtain ⟨u1, h1⟩ := some_at h 1 (by omega)
  obtain ⟨u2, h2⟩ := some_at h 2 (by omega)
  obtain ⟨u3, h3⟩ := some_at h 3 (by omega)
  obtain ⟨u4, h4⟩ := some_at h 4 (by omega)
  obtain ⟨u5, h5⟩ := some_at h 5 (by omega)
  match o, ho with
  | 0, _ => simp [set_cell, h0, h1, h2, h3, h4, h5]
  | 1, _ => simp [set_cell, h0, h1, h2, h3, h4, h5]
  | 2, _ => simp [set_cell, h0, h1, h2, h3, h4, h5]
  | 3, _ => simp [set_cell, h0, h1, h2, h3, h4, h5]
  | 4, _ => simp [set_cell, h0, h1, h2, h3, h4, h5]
  | 5, _ => simp [set_cell, h0, h1, h2, h3, h4, h5]
theorem set6_far (X : World) (n g i : Nat) (v0 v1 v2 v3 v4 v5 : Value) (h : n ≠ g) : ((((((X.setCell ⟨n, 0, none⟩ v0).setCell ⟨n, 1, none⟩ v1).setCell ⟨n, 2, none⟩ v2).setCell ⟨n, 3, none⟩ v3).setCell ⟨n, 4, none⟩ v4).setCell ⟨n, 5, none⟩ v5).cell? ⟨g, i, none⟩ = X.cell? ⟨g, i, none⟩ := by
  rw [set_far _ _ _ _ _ _ h, set_far _ _ _ _ _ _ h, set_far _ _ _ _ _ _ h, set_far _ _ _ _ _ _ h, set_far _ _ _ _ _ _ h, set_far _ _ _ _ _ _ h]
theorem srow_set {w : World} {A : Option Addr} {T : List Str} (h : SRow w A T) {b : Nat} (hb : ∀ g o, A = some ⟨g, o, none⟩ → b ≠ g) (i : Nat) (v : Value) : SRow (w.setCell ⟨b, i, none⟩ v) A T := fun hp => by
  obtain ⟨g, o, e, hg, hc⟩ := h hp
  exact ⟨g, o, e, by rw [set_size]; exact hg, fun j hj => (set_far _ _ _ _ _ _ (hb g o e)).trans (hc j hj)⟩
def zero6 : Obj := .cells #[.int .i64 0, .string ⟨#[]⟩, .string ⟨#[]⟩, .string ⟨#[]⟩, .string ⟨#[]⟩, .slice none 0 0] 26
def kind6 (k : Int) : Obj := .cells #[.int .i64 k, .string ⟨#[]⟩, .string ⟨#[]⟩, .string ⟨#[]⟩, .string ⟨#[]⟩, .slice none 0 0] 26
/-- The two boxes behind the calls of shape and agree. -/
structure Boxes (k : Int) (w w2 : World) : Prop where
  res : w2.heap[w.heap.size]? = some (.cells #[.int .i64 0, .string ⟨#[]⟩, .string ⟨#[]⟩, .string ⟨#[]⟩, .string ⟨#[]⟩, .slice none 0 0] 26 (0, 0))
  box : w2.heap[w.heap.size + 1]? = some (.cells #[.int .i64 k, .string ⟨#[]⟩, .string ⟨#[]⟩, .string ⟨#[]⟩, .string ⟨#[]⟩, .slice none 0 0] 26 (0, 0))
  below : RowKit.Below w.heap.size w w2
  size : w.heap.size + 1 < w2.heap.size
theorem boxes {k : Int} {w w1 w2 : World} (h1 : RowKit.Below ((w.alloc zero6).alloc (kind6 k)).heap.size ((w.alloc zero6).alloc (kind6 k)) w1) (h2 : Grew w1 w2) : Boxes k w w2 := by
  have h := h1.trans (h2.below.mono h1.size)
  have hz := h.size
  simp only [World.size_alloc] at hz
  have r := heap_alloc_new (w.alloc zero6) (kind6 k)
  rw [World.size_alloc] at r
  refine ⟨?_, ?_, (((Below.refl _ _).alloc (Nat.le_refl _) _).alloc (by simp) _).trans (h.mono (by simp; omega)), by omega⟩
  · exact (h.block _ (by simp; omega)).trans ((Below.heap_alloc _ _ _ (by simp)).trans (heap_alloc_new w zero6))
  · exact (h.block _ (by simp)).trans r
set_option maxHeartbeats 2000000 in
set_option maxRecDepth 100000 in
theorem read_no (k : Int) (A : Option Addr) (ca : Nat) (L : List Tk) (w : World) (hL : L.length ≤ 1000) (hA : TkAt w A L) (h : agreeF L (shapeF k) ≠ (shapeF k).length) :
    Calls Tryz.prog 39 #[.int .i64 k, .slice A L.length ca] w (ReadPost (readQ k L) w) := by
  rw [read_no_eq h]
  generalize her : (if agreeF L (shapeF k) < L.length then (2 : Int) else 3) = er
  have HER := Lib.hid her
  have HN := Lib.hid h
  have HA := Lib.hid hA
  have hle := agreeF_le L (shapeF k)
  have hsl := shape_len k
  have HS := Lib.hid (Qry7.shape k ⟨#[]⟩ ⟨#[]⟩ ⟨#[]⟩ ⟨#[]⟩ none 0 0)
  have HG := Lib.hid (fun (V : Option Addr) (cv : Nat) (vs : List Value) (w' : World) (hb : RowKit.Below w.heap.size w w') (hv : VRow w' V vs) (hf : FnsAt w' vs (shapeF k)) => Qry5.agree A ca L V cv vs (shapeF k) w' hL (by omega) (HA.out.below hb) hv hf)
  clear hA h her
  go_enter Tryz.func39, Tryz.ntmps39
  go_wp2_with fail
  refine (HS.out _).mono ?_
  rintro e w1 ⟨v1, vs1, rfl, hown, hfn, hb1⟩
  obtain ⟨V, cv, rfl, _, hvr⟩ := VRow.of_own hown
  have hbw : RowKit.Below w.heap.size w w1 := (((Below.refl _ _).alloc (Nat.le_refl _) _).alloc (by simp) _).trans (hb1.mono (by simp; omega))
  have HGG := Lib.hid (HG.out V cv vs1 w1 hbw hvr hfn)
  have HB1 := Lib.hid hb1
  clear hown hfn hvr hbw hb1 HA
  go_wp2_with fail
  refine HGG.out.mono ?_
  rintro e w2 ⟨rfl, hg⟩
  have hbx := boxes (k := k) HB1.out hg
  generalize hn : agreeF L (shapeF k) = n at *
  generalize hm : (shapeF k).length = m at *
  have hnm := HN.out
  have d1 : ((n : Int) == m) = false := by simp; omega
  clear hg HGG HG HS hn hm HB1 hnm
  have bR := hbx.res
  have bQ := hbx.box
  have HB2 := Lib.hid hbx.below
  have z2 := hbx.size
  have hcR := fun o => Lib.cell_of_heap bR o
  have hfR := blk_frozen bR
  have hcQ := fun o => Lib.cell_of_heap bQ o
  have z3 : w.heap.size < w2.heap.size := by omega
  have HZ := Lib.hid (show Qy.val ⟨k, zeroR, zeroR, []⟩ none 0 = .agg #[.int .i64 k, .string ⟨#[]⟩, .string ⟨#[]⟩, .string ⟨#[]⟩, .string ⟨#[]⟩, .slice none 0 0] from rfl)
  by_cases hlt : n < L.length
  · have he : er = 2 := by have := HER.out; rw [if_pos hlt] at this; exact this.symm
    subst he
    clear HER hbx bR bQ
    have gc := set_cell
    go_wp2_with fail
    refine bodyPost_ret (v := .tuple #[.agg #[.int .i64 k, .string ⟨#[]⟩, .string ⟨#[]⟩, .string ⟨#[]⟩, .string ⟨#[]⟩, .slice none 0 0], .int .i64 n, .int .i64 2]) (by simp [results, Tryz.results39, go_sem, set6, hcR]) rfl ⟨none, 0, by rw [HZ.out], (fun h => by simp at h), (fun g o e => by cases e), ?_⟩
    exact (((((HB2.out.setCell (by simp) _).setCell (by simp) _).setCell (by simp) _).setCell (by simp) _).setCell (by simp) _).setCell (by simp) _
  · have he : er = 3 := by have := HER.out; rw [if_neg hlt] at this; exact this.symm
    subst he
    have HR := Lib.hid (Qry2.right k ⟨#[]⟩ ⟨#[]⟩ ⟨#[]⟩ ⟨#[]⟩ none 0 [] w2 ⟨⟨Nat.zero_le _, Nat.zero_le _⟩, ⟨Nat.zero_le _, Nat.zero_le _⟩, Nat.zero_le _, fun s h => by simp at h⟩ (fun h => by simp at h))
    have HF := Lib.hid (zero_right k)
    clear HER
    go_wp2_with fail
    refine HR.out.mono ?_
    rintro e w3 ⟨rfl, hb3⟩
    have hf' := HF.out
    unfold zeroR noText at hf'
    rw [hf']
    have bR3 := blk_below bR hb3 (by omega)
    have bQ3 := blk_below bQ hb3 (by omega)
    have HB3 := Lib.hid (HB2.out.trans (hb3.mono (by omega)))
    clear hcR hfR hcQ bR bQ hb3 hbx hf'
    have hcR := fun o => Lib.cell_of_heap bR3 o
    have hfR := blk_frozen bR3
    have hcQ := fun o => Lib.cell_of_heap bQ3 o
    have gc := set_cell
    clear bR3 bQ3
    go_wp2_with fail
    refine bodyPost_ret (v := .tuple #[.agg #[.int .i64 k, .string ⟨#[]⟩, .string ⟨#[]⟩, .string ⟨#[]⟩, .string ⟨#[]⟩, .slice none 0 0], .int .i64 n, .int .i64 3]) (by simp [results, Tryz.results39, go_sem, set6, hcR]) rfl ⟨none, 0, by rw [HZ.out], (fun h => by simp at h), (fun g o e => by cases e), ?_⟩
    exact (((((HB3.out.setCell (by simp) _).setCell (by simp) _).setCell (by simp) _).setCell (by simp) _).setCell (by simp) _).setCell (by simp) _
end Go.Proofs.YtcbbffpalpieaaaGreat.QryB
/- Plain mathematics: what a line's tokens are asked as, kind by kind. -/
namespace Go.Proofs.YtcbbffpalpieaaaGreat.QryC
set_option linter.unusedVariables false
set_option linter.unusedSimpArgs false
open Go.RowKit Go.Sort Go.Proofs.YtcbbffpalpieaaaGreat.Plain Go.Proofs.YtcbbffpalpieaaaGreat.SynP Go.Proofs.YtcbbffpalpieaaaGreat.TabP Go.Proofs.YtcbbffpalpieaaaGreat.SynR Go.Proofs.YtcbbffpalpieaaaGreat.QryP Go.Proofs.YtcbbffpalpieaaaGreat.Qry4 Go.Proofs.YtcbbffpalpieaaaGreat.Qry5 Go.Proofs.YtcbbffpalpieaaaGreat.Qry7 Go.Proofs.YtcbbffpalpieaaaGreat.QryA Go.Proofs.YtcbbffpalpieaaaGreat.QryB
def zeroQ : Qy := ⟨0, zeroR, zeroR, []⟩
/-- Where the n-th token begins, or the place behind the last one. -/
def placeOf (L : List Tk) (n : Nat) : Nat := if n < L.length then SynQ.colAt L n else SynQ.behindOf L
/-- The kinds behind the first k, with how far was read, and why it is none. -/
def goQ (L : List Tk) : Nat → Nat → Nat → Int → Qy × Int × Int
  | 0, _, f, y => (zeroQ, placeOf L f, y)
  | m + 1, k, f, y => let r := readQ ((k + 1 : Nat) : Int) L
    if r.2.2 = 0 then (r.1, 0, 0) else if f ≤ r.2.1 then goQ L m (k + 1) r.2.1 r.2.2 else goQ L m (k + 1) f y
def parseQ (L : List Tk) : Qy × Int × Int := goQ L 6 0 0 0
theorem goQ_hit {L : List Tk} {m k f : Nat} {y : Int} (h : (readQ ((k + 1 : Nat) : Int) L).2.2 = 0) : goQ L (m + 1) k f y = ((readQ ((k + 1 : Nat) : Int) L).1, 0, 0) := by
  show (if _ then _ else _) = _
  rw [if_pos h]
theorem goQ_far {L : List Tk} {m k f : Nat} {y : Int} (h : (readQ ((k + 1 : Nat) : Int) L).2.2 ≠ 0) (hf : f ≤ (readQ ((k + 1 : Nat) : Int) L).2.1) : goQ L (m + 1) k f y = goQ L m (k + 1) (readQ ((k + 1 : Nat) : Int) L).2.1 (readQ ((k + 1 : Nat) : Int) L).2.2 := by
  show (if _ then _ else _) = _
  rw [if_neg h, if_pos hf]
theorem goQ_near {L : List Tk} {m k f : Nat} {y : Int} (h : (readQ ((k + 1 : Nat) : Int) L).2.2 ≠ 0) (hf : ¬ f ≤ (readQ ((k + 1 : Nat) : Int) L).2.1) : goQ L (m + 1) k f y = goQ L m (k + 1) f y := by
  show (if _ then _ else _) = _
  rw [if_neg h, if_neg hf]
end Go.Proofs.YtcbbffpalpieaaaGreat.QryC
