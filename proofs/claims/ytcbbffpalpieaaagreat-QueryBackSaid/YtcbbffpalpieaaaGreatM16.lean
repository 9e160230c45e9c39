/- A line as a query, in the program, by contract. -/
import Derived.Test.YtcbbffpalpieaaaGreatM14
import Derived.Test.YtcbbffpalpieaaaGreatM15
import Derived.Test.YtcbbffpalpieaaaGreatM01
import Derived.Test.YtcbbffpalpieaaaGreatM12
import Derived.Lib.Join
namespace Go.Proofs.YtcbbffpalpieaaaGreat.QryE
set_option linter.unusedVariables false
set_option linter.unusedSimpArgs false
open Go.RowKit Go.Sort Go.Proofs Go.Proofs.YtcbbffpalpieaaaGreat.Plain Go.Proofs.YtcbbffpalpieaaaGreat.SynP Go.Proofs.YtcbbffpalpieaaaGreat.SynQ Go.Proofs.YtcbbffpalpieaaaGreat.TabP Go.Proofs.YtcbbffpalpieaaaGreat.Tab1 Go.Proofs.YtcbbffpalpieaaaGreat.Grown Go.Proofs.YtcbbffpalpieaaaGreat.Scan3 Go.Proofs.YtcbbffpalpieaaaGreat.SynA Go.Proofs.YtcbbffpalpieaaaGreat.SynC Go.Proofs.YtcbbffpalpieaaaGreat.SynR Go.Proofs.YtcbbffpalpieaaaGreat.SynS Go.Proofs.YtcbbffpalpieaaaGreat.SynU Go.Proofs.YtcbbffpalpieaaaGreat.SynV Go.Proofs.YtcbbffpalpieaaaGreat.SynX Go.Proofs.YtcbbffpalpieaaaGreat.QryP Go.Proofs.YtcbbffpalpieaaaGreat.Qry4 Go.Proofs.YtcbbffpalpieaaaGreat.Qry5 Go.Proofs.YtcbbffpalpieaaaGreat.Qry6 Go.Proofs.YtcbbffpalpieaaaGreat.Qry7 Go.Proofs.YtcbbffpalpieaaaGreat.QryA Go.Proofs.YtcbbffpalpieaaaGreat.QryB Go.Proofs.YtcbbffpalpieaaaGreat.QryC Go.Proofs.YtcbbffpalpieaaaGreat.QryD
set_option linter.unusedVariables false
set_option linter.unusedSimpArgs false
theorem kinds3 {k : Int} (h1 : 1 ≤ k) (h6 : k ≤ 6) : (k = 1 ∨ k = 2 ∨ k = 3) ∨ k = 4 ∨ (k = 5 ∨ k = 6) := by omega
theorem read (k : Int) (h1 : 1 ≤ k) (h6 : k ≤ 6) (A : Option Addr) (ca : Nat) (L : List Tk) (w : World) (hL : L.length ≤ 1000) (hca : L.length ≤ ca) (hs : SmallTk L) (hg : ∀ t ∈ L, goodTk t) (hA : TkAt w A L) :
    Calls Tryz.prog 39 #[.int .i64 k, .slice A L.length ca] w (ReadPost (readQ k L) w) := by
  by_cases h : agreeF L (shapeF k) = (shapeF k).length
  · have h0 := h
    rcases kinds3 h1 h6 with hk | rfl | hk
    · obtain ⟨s, hw, hsh, hB, hW⟩ := shape3 hk
      rw [hsh] at h
      obtain ⟨t0, L1, rfl, a0, h⟩ := agreeF_cons h
      obtain ⟨t1, L2, rfl, a1, h⟩ := agreeF_cons h
      obtain ⟨t2, L3, rfl, a2, h⟩ := agreeF_cons h
      obtain ⟨t3, L4, rfl, a3, h⟩ := agreeF_cons h
      obtain ⟨t4, L5, rfl, a4, h⟩ := agreeF_cons h
      exact read3 k hk A ca _ t0 t1 t2 t3 t4 L5 w (by simp) hL hca hs (hg t1 (by simp)) (hg t2 (by simp)) (hg t3 (by simp)) (fitsK a1) (fitsK a2) (fitsK a3) hA (by rw [h0, hsh]; rfl)
    · obtain ⟨hsh, hB, hW⟩ := shape4
      rw [hsh] at h
      obtain ⟨t0, L1, rfl, a0, h⟩ := agreeF_cons h
      obtain ⟨t1, L2, rfl, a1, h⟩ := agreeF_cons h
      obtain ⟨t2, L3, rfl, a2, h⟩ := agreeF_cons h
      obtain ⟨t3, L4, rfl, a3, h⟩ := agreeF_cons h
      obtain ⟨t4, L5, rfl, a4, h⟩ := agreeF_cons h
      obtain ⟨t5, L6, rfl, a5, h⟩ := agreeF_cons h
      exact read4 A ca _ t0 t1 t2 t3 t4 t5 L6 w (by simp) hL hca hs (hg t1 (by simp)) (hg t2 (by simp)) (hg t3 (by simp)) (fitsK a1) (fitsK a2) (fitsK a3) hA (by rw [h0, hsh]; rfl)
    · obtain ⟨s, hw, hsh, hB, hW⟩ := shape8 hk
      rw [hsh] at h
      obtain ⟨t0, L1, rfl, a0, h⟩ := agreeF_cons h
      obtain ⟨t1, L2, rfl, a1, h⟩ := agreeF_cons h
      obtain ⟨t2, L3, rfl, a2, h⟩ := agreeF_cons h
      obtain ⟨t3, L4, rfl, a3, h⟩ := agreeF_cons h
      obtain ⟨t4, L5, rfl, a4, h⟩ := agreeF_cons h
      obtain ⟨t5, L6, rfl, a5, h⟩ := agreeF_cons h
      obtain ⟨t6, L7, rfl, a6, h⟩ := agreeF_cons h
      obtain ⟨t7, L8, rfl, a7, h⟩ := agreeF_cons h
      exact read8 k hk A ca _ t0 t1 t2 t3 t4 t5 t6 t7 L8 w (by simp) hL hca hs (hg t1 (by simp)) (hg t2 (by simp)) (hg t3 (by simp)) (hg t5 (by simp)) (hg t6 (by simp)) (hg t7 (by simp)) (fitsK a1) (fitsK a2) (fitsK a3) (fitsK a5) (fitsK a6) (fitsK a7) hA (by rw [h0, hsh]; rfl)
  · exact read_no k A ca L w hL hA h
theorem readQ_le (k : Int) (L : List Tk) : (readQ k L).2.1 ≤ L.length := by
  have h1 := agreeF_le L (shapeF k)
  by_cases h : agreeF L (shapeF k) = (shapeF k).length
  · unfold readQ
    simp only []
    rw [if_pos h]
    have h2 := (readW_ok (L.drop (agreeF L (shapeF k))) [] (by simp) List.Pairwise.nil).2.2.1
    rw [List.length_drop] at h2
    show agreeF L (shapeF k) + _ ≤ _
    split
    · omega
    · simp; omega
  · rw [read_no_eq h]; exact h1.1
theorem place (A : Option Addr) (ca : Nat) (L : List Tk) (n : Nat) (w : World) (hL : L.length ≤ 100000) (hn : n ≤ L.length) (hA : TkAt w A L) (hs : SmallTk L) : Calls Tryz.prog 40 #[.slice A L.length ca, .int .i64 n] w fun e w' => e = .returned (.int .i64 (placeOf L n)) ∧ RowKit.Below w.heap.size w w' := by
  by_cases hlt : n < L.length
  · obtain ⟨g, o, rfl, hg, hc⟩ := hA (by omega)
    obtain ⟨_, _, c⟩ := hc n hlt
    have hp : placeOf L n = L[n].col := by unfold placeOf; rw [if_pos hlt, colAt_eq hlt]
    have HP := Lib.hid hp
    have d1 : decide ((n : Int) < L.length) = true := by simp; omega
    have p1 : (0 : Int) ≤ n := by omega
    have p2 : (n : Int) < L.length := by omega
    clear hc hA hs hp
    generalize L[n] = t at *
    go_enter Tryz.func40, Tryz.ntmps40
    go_wp2_with fail
    go_ret
    exact ⟨ret_int (by rw [HP.out]), Below.refl _ _⟩
  · obtain rfl : n = L.length := by omega
    by_cases h0 : 0 < L.length
    · obtain ⟨g, o, rfl, hg, hc⟩ := hA h0
      have hb : placeOf L L.length = L[L.length - 1].col + L[L.length - 1].text.size := by unfold placeOf; rw [if_neg (by omega), behindOf_last h0]
      have HB := Lib.hid hb
      obtain ⟨s1, s2⟩ := hs L[L.length - 1] (List.getElem_mem _)
      obtain ⟨a, b, c⟩ := hc (L.length - 1) (by omega)
      obtain ⟨m, hm⟩ : ∃ m, L.length = m + 1 := ⟨L.length - 1, by omega⟩
      clear hc hA hs hb
      generalize L[L.length - 1] = t at *
      have e1 : (L.length : Int) - 1 = m := by omega
      rw [show L.length - 1 = m by omega] at a b c
      have w1 : ((L.length : Int) == 0) = false := by
        rw [beq_eq_false_iff_ne]; omega
      have w2 : decide ((m : Int) < L.length) = true := decide_eq_true (by omega)
      have w3 : m < L.length := by omega
      have w4 : decide ((L.length : Int) < L.length) = false := by simp
      have HM := Lib.hid hm
      clear hm hlt
      go_enter Tryz.func40, Tryz.ntmps40
      go_wp2_with fail
      go_ret
      exact ⟨ret_int (by rw [HB.out]; simp), (Below.refl _ _).alloc (Nat.le_refl _) _⟩
    · have : L = [] := List.eq_nil_of_length_eq_zero (by omega)
      subst this
      go_enter Tryz.func40, Tryz.ntmps40
      go_wp2_with fail
      go_ret
      exact ⟨rfl, Below.refl _ _⟩
/-- What a line is asked as. -/
def askA : TkAns → Qy × Int × Int
  | .bad c e => (zeroQ, c, e)
  | .ok L => parseQ L
def AskPost (p : Qy × Int × Int) (w : World) (e : Ending) (w' : World) : Prop := ∃ A c, e = .returned (.tuple #[p.1.val A c, .int .i64 p.2.1, .int .i64 p.2.2]) ∧ SRow w' A p.1.who ∧ (∀ g o, A = some ⟨g, o, none⟩ → w.heap.size ≤ g) ∧ RowKit.Below w.heap.size w w'
set_option maxHeartbeats 1000000 in
set_option maxRecDepth 100000 in
theorem parse_bad (s : ByteArray) (w : World) (hs : s.size ≤ 1000000) (c : Nat) (er : Int) (h : ansOf s = .bad c er) : Calls Tryz.prog 20 #[.string s] w (AskPost (askA (.bad c er)) w) := by
  have HT := Lib.hid (tokens s · hs)
  rw [h] at HT
  have he := ans_bad h
  have e1 : (er != 0) = true := by rcases he with rfl | rfl <;> rfl
  have HZ := Lib.hid (show (askA (.bad c er)).1.val none 0 = .agg #[.int .i64 0, .string ⟨#[]⟩, .string ⟨#[]⟩, .string ⟨#[]⟩, .string ⟨#[]⟩, .slice none 0 0] from rfl)
  clear h he
  go_enter Tryz.func20, Tryz.ntmps20
  go_wp2_with fail
  refine (HT.out _).mono ?_
  rintro e w1 ⟨v, rfl, hown, hb1⟩
  have bR := blk_below (heap_alloc_new w zero6) hb1 (by simp)
  unfold zero6 at bR
  have hcR := fun o => Lib.cell_of_heap bR o
  have hfR := blk_frozen bR
  have hb0 := ((Below.refl w.heap.size w).alloc (Nat.le_refl _) zero6).trans (hb1.mono (by simp))
  have gc := set_cell
  simp only [okErr, okCol]
  clear hown bR hb1
  go_wp2_with fail
  refine bodyPost_ret (v := .tuple #[.agg #[.int .i64 0, .string ⟨#[]⟩, .string ⟨#[]⟩, .string ⟨#[]⟩, .string ⟨#[]⟩, .slice none 0 0], .int .i64 c, .int .i64 er]) (by simp [results, Tryz.results20, go_sem, set6, hcR]) rfl ⟨none, 0, by rw [HZ.out]; rfl, (fun h => by simp [askA, zeroQ] at h), (fun g o e => by cases e), ?_⟩
  exact (((((hb0.setCell (by simp) _).setCell (by simp) _).setCell (by simp) _).setCell (by simp) _).setCell (by simp) _).setCell (by simp) _
set_option maxHeartbeats 4000000 in
set_option maxRecDepth 100000 in
theorem parse_ok (s : ByteArray) (w : World) (hs : s.size ≤ 1000000) (L : List Tk) (h : ansOf s = .ok L) : Calls Tryz.prog 20 #[.string s] w (AskPost (parseQ L) w) := by
  have hgood := ans_good h
  have hlen := ans_len h
  have Hg := Lib.hid (fun t ht => (hgood t ht).1)
  have Hs : Hid (SmallTk L) := Lib.hid (fun t ht => ⟨by have := (hgood t ht).2.1; omega, by have := (hgood t ht).2.2; omega⟩)
  have HT := Lib.hid (tokens s · hs)
  rw [h] at HT
  clear h hgood
  go_enter Tryz.func20, Tryz.ntmps20
  go_wp2_with fail
  refine (HT.out _).mono ?_
  rintro e w1 ⟨v, rfl, hown, hb1⟩
  obtain ⟨A, ca, rfl, hca, hA⟩ := of_rowTk hown
  simp only [okErr, okCol, okToks] at hca hA ⊢
  have bR := blk_below (heap_alloc_new w zero6) hb1 (by simp)
  unfold zero6 at bR
  have hb0 := ((Below.refl w.heap.size w).alloc (Nat.le_refl _) zero6).trans (hb1.mono (by simp))
  have z1 := hb1.size
  simp only [World.size_alloc] at z1
  have BR := Lib.hid bR
  have HA := Lib.hid hA
  have HB0 := Lib.hid hb0
  clear hown bR hb1 hA hb0
  go_wp2_with fail
  go_loopw [7, 8, 9] (fun y f kd wr => ∃ (k fn : Nat) (yv : Int), k ≤ 6 ∧ fn ≤ L.length ∧ kd = .int .i64 ((k + 1 : Nat) : Int) ∧ f = .int .i64 fn ∧ y = .int .i64 yv ∧ Hid (parseQ L = goQ L (6 - k) k fn yv) ∧ RowKit.Below w1.heap.size w1 wr) (fun _ _ kd _ => 7 - (intOf kd).toNat)
  case atStart => exact ⟨0, 0, 0, by omega, by omega, rfl, rfl, rfl, Lib.hid rfl, Below.refl _ _⟩
  case round =>
    obtain ⟨k, fn, yv, hk, hfn, rfl, rfl, rfl, hrun, hbel⟩ := hrel
    by_cases hlt : k < 6
    · have z2 := hbel.size
      have HRd := Lib.hid (read ((k + 1 : Nat) : Int) (by omega) (by omega) A ca L wr (by omega) hca Hs.out Hg.out (HA.out.below hbel))
      obtain ⟨m, hm⟩ : ∃ m, 6 - k = m + 1 := ⟨5 - k, by omega⟩
      have hm5 : m = 6 - (k + 1) := by omega
      have hrun' := hrun.out
      rw [hm] at hrun'
      have hrl := readQ_le ((k + 1 : Nat) : Int) L
      have G1 := Lib.hid (fun h => hrun'.trans (goQ_hit (y := yv) h))
      have G2 := Lib.hid (fun h h' => hrun'.trans (goQ_far (y := yv) h h'))
      have G3 := Lib.hid (fun h h' => hrun'.trans (goQ_near (y := yv) h h'))
      rw [hm5] at G2 G3
      generalize readQ ((k + 1 : Nat) : Int) L = r at *
      obtain ⟨q, n, er⟩ := r
      obtain ⟨qk, ⟨ao, an⟩, ⟨bo, bn⟩, T⟩ := q
      simp only at hrl
      clear hm hm5 hrun' hrun
      go_wp2_with fail
      refine HRd.out.mono ?_
      rintro e w2 ⟨Aq, cq, rfl, hrow, hfr, hb2⟩
      have hbw2 := hbel.trans (hb2.mono z2)
      have HRow := Lib.hid hrow
      have HFr : Hid (∀ g o, Aq = some ⟨g, o, none⟩ → w1.heap.size ≤ g) := Lib.hid (fun g o e => by have := hfr g o e; omega)
      have HBW := Lib.hid hbw2
      unfold Qy.val
      simp only at HRow ⊢
      clear hrow hfr hb2 hbel hbw2
      by_cases he : er = 0
      · subst he
        have hfin := Lib.hid (G1.out rfl)
        have z3 := HBW.out.size
        have z4 : w.heap.size < w2.heap.size := by omega
        have bR0 := blk_below BR.out HBW.out (by omega)
        have hcR := fun o => Lib.cell_of_heap bR0 o
        have hfR := blk_frozen bR0
        have hbf := Lib.hid (HB0.out.trans (HBW.out.mono (by omega : w.heap.size ≤ w1.heap.size)))
        have gal : ∀ (X : World) (o : Obj) (i : Nat), w.heap.size < X.heap.size → (X.alloc o).cell? ⟨w.heap.size, i, none⟩ = X.cell? ⟨w.heap.size, i, none⟩ := fun X o i h => World.cell?_alloc_past _ _ _ h
        clear bR0 G1 G2 G3
        go_wp2_with fail
        refine bodyPost_ret (v := .tuple #[.agg #[.int .i64 qk, .string ao, .string an, .string bo, .string bn, .slice Aq T.length cq], .int .i64 0, .int .i64 0]) (by simp [results, Tryz.results20, go_sem, set6, hcR, z4, set_size, gal]) rfl ⟨Aq, cq, by rw [hfin.out]; rfl, ?_, (fun g o e => by have := HFr.out g o e; omega), ?_⟩
        · rw [hfin.out]
          exact (srow_set6 HRow.out (fun g o e => by have := HFr.out g o e; omega) _ _ _ _ _ _).keep ((Below.refl _ _).alloc (Nat.le_refl _) _)
        · exact (below_set6 hbf.out (Nat.le_refl _) _ _ _ _ _ _).alloc (by rw [set_size, set_size, set_size, set_size, set_size, set_size]; omega) _
      · have d0 : (er == 0) = false := by simpa using he
        by_cases hf : fn ≤ n
        · have d1 : decide ((fn : Int) ≤ n) = true := by simp; omega
          have hnext := Lib.hid (G2.out he hf)
          clear G1 G2 G3 he
          go_wp2_with fail
          go_roundw
          case rel => exact ⟨k + 1, n, er, by omega, by omega, by go_num, rfl, rfl, hnext, HBW.out.alloc (by have := HBW.out.size; omega) _⟩
          case measure => simp [intOf]; omega
        · have d1 : decide ((fn : Int) ≤ n) = false := by simp; omega
          have hnext := Lib.hid (G3.out he hf)
          clear G1 G2 G3 he
          go_wp2_with fail
          go_roundw
          case rel => exact ⟨k + 1, fn, yv, by omega, by omega, by go_num, rfl, rfl, hnext, HBW.out.alloc (by have := HBW.out.size; omega) _⟩
          case measure => simp [intOf]; omega
    · obtain rfl : k = 6 := by omega
      have HP := Lib.hid (place A ca L fn wr (by omega) hfn (HA.out.below hbel) Hs.out)
      have hfin : Hid (parseQ L = (zeroQ, (placeOf L fn : Int), yv)) := Lib.hid hrun.out
      go_wp2_with fail
      refine HP.out.mono ?_
      rintro e w3 ⟨rfl, hb3⟩
      have hbw3 := hbel.trans (hb3.mono hbel.size)
      have bR := blk_below BR.out hbw3 (by omega)
      have hcR := fun o => Lib.cell_of_heap bR o
      have hfR := blk_frozen bR
      have hbf := Lib.hid (HB0.out.trans (hbw3.mono (by omega : w.heap.size ≤ w1.heap.size)))
      have gc := set_cell
      clear bR hbw3 hb3 hbel hrun
      go_wp2_with fail
      refine bodyPost_ret (v := .tuple #[.agg #[.int .i64 0, .string ⟨#[]⟩, .string ⟨#[]⟩, .string ⟨#[]⟩, .string ⟨#[]⟩, .slice none 0 0], .int .i64 (placeOf L fn), .int .i64 yv]) (by simp [results, Tryz.results20, go_sem, set6, hcR]) rfl ⟨none, 0, by rw [hfin.out]; rfl, (fun h => by rw [hfin.out] at h; simp [zeroQ] at h), (fun g o e => by cases e), ?_⟩
      exact (((((hbf.out.setCell (by simp) _).setCell (by simp) _).setCell (by simp) _).setCell (by simp) _).setCell (by simp) _).setCell (by simp) _
theorem parse (s : ByteArray) (w : World) (hs : s.size ≤ 1000000) : Calls Tryz.prog 20 #[.string s] w (AskPost (askA (ansOf s)) w) := by
  cases h : ansOf s with
  | bad c e => exact parse_bad s w hs c e h
  | ok L => exact parse_ok s w hs L h
end Go.Proofs.YtcbbffpalpieaaaGreat.QryE
/- Plain mathematics: the lines of queries. -/
namespace Go.Proofs.YtcbbffpalpieaaaGreat.QryL
set_option linter.unusedVariables false
set_option linter.unusedSimpArgs false
open Go.RowKit Go.Sort Go.Proofs.YtcbbffpalpieaaaGreat.Plain Go.Proofs.YtcbbffpalpieaaaGreat.SynP Go.Proofs.YtcbbffpalpieaaaGreat.TabP Go.Proofs.YtcbbffpalpieaaaGreat.SynW Go.Proofs.YtcbbffpalpieaaaGreat.QryP
def bs (x : ByteArray) : Str := x.data.toList
/-- Texts, each with a blank ahead. -/
def tailW (T : List Str) : Str := (T.map fun s => 32 :: s).flatten
/-- A query's line, if it may be. -/
def lineL (q : Qy) : Str := bs (leadT q.kind) ++ tailW [bs (textR q.a)] ++ (32 :: bs (wordsT q.kind)) ++ (if hasBk q.kind = true then tailW [bs (textR q.b)] else []) ++ tailW q.who
def lineQ (q : Qy) : ByteArray := if q.right = true then ⟨(lineL q).toArray⟩ else noText
theorem tailW_nil : tailW [] = [] := rfl
theorem tailW_app (S T : List Str) : tailW (S ++ T) = tailW S ++ tailW T := by unfold tailW; rw [List.map_append, List.flatten_append]
theorem tailW_cons (s : Str) (T : List Str) : tailW (s :: T) = 32 :: s ++ tailW T := rfl
theorem join_tail (x : Str) : ∀ T : List Str, Lib.join (x :: T) [32] = x ++ tailW T
  | [] => by rw [Lib.join_one, tailW_nil, List.append_nil]
  | y :: T => by
    have ih := join_tail y T
    have e : Lib.join (x :: y :: T) [32] = x ++ ([32] ++ Lib.join (y :: T) [32]) := by
      unfold Lib.join; rw [List.intercalate_cons_cons]; simp
    rw [e, ih, tailW_cons]; simp
/-- The words of a kind that is one, each with a blank ahead. -/
theorem words_tail {k : Int} (h : k = 1 ∨ k = 2 ∨ k = 3 ∨ k = 4 ∨ k = 5 ∨ k = 6) : tailW (wordsL k) = 32 :: bs (wordsT k) := by
  rcases h with rfl | rfl | rfl | rfl | rfl | rfl <;> rfl
theorem right_kind {q : Qy} (h : q.right = true) : q.kind = 1 ∨ q.kind = 2 ∨ q.kind = 3 ∨ q.kind = 4 ∨ q.kind = 5 ∨ q.kind = 6 := by
  rcases kinds6 q.kind with h1 | h1 | h1 | h1 | h1 | h1 | h1
  · exact .inl h1
  · exact .inr (.inl h1)
  · exact .inr (.inr (.inl h1))
  · exact .inr (.inr (.inr (.inl h1)))
  · exact .inr (.inr (.inr (.inr (.inl h1))))
  · exact .inr (.inr (.inr (.inr (.inr h1))))
  · unfold Qy.right at h
    rw [if_neg (by omega), if_neg (by omega), if_neg (by omega), if_neg (by omega)] at h
    simp at h
/-- What a query that may be is made of. -/
theorem right_parts {q : Qy} (h : q.right = true) : q.a.ok = true ∧ ((hasWk q.kind = true ∧ hasBk q.kind = false ∧ whoOk q.who = true ∧ q.b = zeroR ∧ (q.kind ≠ 3 → 0 < q.who.length)) ∨ (q.kind = 4 ∧ q.who = [] ∧ q.b = zeroR) ∨ (hasBk q.kind = true ∧ hasWk q.kind = false ∧ q.who = [] ∧ q.b.ok = true)) := by
  obtain ⟨k, a, b, T⟩ := q
  have hk := right_kind h
  unfold Qy.right at h
  rw [Bool.and_eq_true] at h
  refine ⟨h.1, ?_⟩
  have h2 := h.2
  simp only at hk h2 ⊢
  rcases hk with rfl | rfl | rfl | rfl | rfl | rfl
  · simp at h2
    exact .inl ⟨rfl, rfl, h2.1.2, h2.2, fun _ => h2.1.1⟩
  · simp at h2
    exact .inl ⟨rfl, rfl, h2.1.2, h2.2, fun _ => h2.1.1⟩
  · simp at h2
    exact .inl ⟨rfl, rfl, h2.1, h2.2, fun h => absurd rfl h⟩
  · simp at h2
    exact .inr (.inl ⟨rfl, h2.1, h2.2⟩)
  · simp at h2
    exact .inr (.inr ⟨rfl, rfl, h2.1, h2.2⟩)
  · simp at h2
    exact .inr (.inr ⟨rfl, rfl, h2.1, h2.2⟩)
theorem who_parts {T : List Str} (h : whoOk T = true) : T.length ≤ 12 ∧ (∀ s ∈ T, prinS s = true) ∧ T.Pairwise (· < ·) := by
  unfold whoOk at h
  simp only [Bool.and_eq_true, decide_eq_true_eq, List.all_eq_true] at h
  exact ⟨h.1.1, h.1.2, tab_id.1 h.2⟩
theorem prin_len {s : Str} (h : prinS s = true) : s.length ≤ 8 := by
  obtain ⟨c, l, e, _, _, _, h8, _⟩ := named_cons (w := ⟨s.toArray⟩) (f := capB) (by simpa [prinS] using h)
  have : (⟨s.toArray⟩ : ByteArray).size = s.length := by simp [ByteArray.size]
  omega
theorem tailW_len {T : List Str} {m : Nat} (h : ∀ s ∈ T, s.length ≤ m) : (tailW T).length ≤ T.length * (m + 1) := by
  induction T with
  | nil => simp [tailW]
  | cons s T ih =>
    rw [tailW_cons]
    have h1 := h s (List.mem_cons_self ..)
    have h2 := ih fun s hs => h s (List.mem_cons_of_mem _ hs)
    simp only [List.length_append, List.length_cons]
    rw [Nat.add_mul]; omega
end Go.Proofs.YtcbbffpalpieaaaGreat.QryL
