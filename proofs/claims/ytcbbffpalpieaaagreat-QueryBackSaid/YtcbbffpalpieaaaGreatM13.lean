/- The role that tokens begin with. -/
import Derived.Test.YtcbbffpalpieaaaGreatM12
import Derived.RegionTactic
import Derived.ChangeAlike
namespace Go.Proofs.YtcbbffpalpieaaaGreat.SynU
set_option linter.unusedVariables false
set_option linter.unusedSimpArgs false
open Go.RowKit Go.Sort Go.Proofs Go.Proofs.YtcbbffpalpieaaaGreat.Plain Go.Proofs.YtcbbffpalpieaaaGreat.SynP Go.Proofs.YtcbbffpalpieaaaGreat.SynQ Go.Proofs.YtcbbffpalpieaaaGreat.Grown Go.Proofs.YtcbbffpalpieaaaGreat.SynA Go.Proofs.YtcbbffpalpieaaaGreat.SynC Go.Proofs.YtcbbffpalpieaaaGreat.SynR Go.Proofs.YtcbbffpalpieaaaGreat.SynW Go.Proofs.YtcbbffpalpieaaaGreat.Scan3 Go.Proofs.YtcbbffpalpieaaaGreat.Scan5 Go.Proofs.YtcbbffpalpieaaaGreat.Syn1 Go.Proofs.YtcbbffpalpieaaaGreat.Syn2 Go.Proofs.YtcbbffpalpieaaaGreat.Syn4 Go.Proofs.YtcbbffpalpieaaaGreat.SynL Go.Proofs.YtcbbffpalpieaaaGreat.SynS Go.Proofs.YtcbbffpalpieaaaGreat.SynT Go.Proofs.YtcbbffpalpieaaaGreat.Syn7
set_option linter.unusedVariables false
set_option linter.unusedSimpArgs false
/-- The role that tokens begin with, what is behind it, and whether there is one. -/
def readR : List Tk → Rl × List Tk × Bool
  | a :: b :: c :: rest => if (⟨a.text, c.text⟩ : Rl).ok = true ∧ kts [a, b, c] = kts (roleTk ⟨a.text, c.text⟩ 0) then (⟨a.text, c.text⟩, rest, true) else (zeroR, a :: b :: c :: rest, false)
  | L => (zeroR, L, false)
def ReadPost (L : List Tk) (w : World) (e : Ending) (w' : World) : Prop := ∃ v, e = .returned (.tuple #[(readR L).1.val, v, .bool (readR L).2.2]) ∧ w'.ownsRow w.heap.size 44 3 v (readR L).2.1.length (tkCells (readR L).2.1) ∧ Below w.heap.size w w'
theorem readR_short {L : List Tk} (h : L.length < 3) : readR L = (zeroR, L, false) := by
  match L, h with
  | [], _ => rfl
  | [_], _ => rfl
  | [_, _], _ => rfl
theorem own_more {w : World} {B B' : Nat} {e : TypeId} {size n : Nat} {v : Value} {xs : List Value} (h : w.ownsRow B e size v n xs) (hB : B' ≤ B) : w.ownsRow B' e size v n xs := by
  refine ⟨h.1, ?_⟩
  rcases h.2 with h0 | ⟨g, cap, cur, hv, hg, r⟩
  · exact .inl h0
  · exact .inr ⟨g, cap, cur, hv, Nat.le_trans hB hg, r⟩
/-- A store into a block ahead of a row's. -/
theorem own_set {w : World} {B : Nat} {e : TypeId} {size n : Nat} {v : Value} {xs : List Value} {p : Addr} (h : w.ownsRow B e size v n xs) (hp : p.block < B) (u : Value) : (w.setCell p u).ownsRow B e size v n xs := by
  refine ⟨h.1, ?_⟩
  rcases h.2 with h0 | ⟨g, cap, cur, hv, hg, hh, r⟩
  · exact .inl h0
  · exact .inr ⟨g, cap, cur, hv, hg, by rw [Below.heap_setCell _ _ _ _ (by omega)]; exact hh, r⟩
set_option maxRecDepth 100000 in
theorem readRole_short (A : Option Addr) (ca : Nat) (L : List Tk) (w : World) (h : L.length < 3) (hA : TkAt w A L) : Calls Tryz.prog 67 #[.slice A L.length ca] w (ReadPost L w) := by
  have H := Lib.hid (readR_short h)
  have HA := Lib.hid hA
  have d : decide ((3 : Int) ≤ L.length) = false := by simp; omega
  clear hA
  go_enter Tryz.func67, Tryz.ntmps67
  go_wp2_with fail
  refine (cloneTk A ca L _ (by omega) (HA.out.below ((Below.refl _ _).alloc (Nat.le_refl _) _))).mono ?_
  rintro e w1 ⟨v, rfl, hown, hb⟩
  have hc := (hb.cell (p := ⟨w.heap.size, 0, none⟩) (by simp)).trans (Lib.cell_of_heap (heap_alloc_new w _) 0)
  have hc1 := (hb.cell (p := ⟨w.heap.size, 1, none⟩) (by simp)).trans (Lib.cell_of_heap (heap_alloc_new w _) 1)
  simp only [List.getElem?_toArray, List.getElem?_cons_zero, List.getElem?_cons_succ] at hc hc1
  have hf : ∀ o, w1.frozen? ⟨w.heap.size, o, none⟩ = false := fun o => (hb.frozen (p := ⟨w.heap.size, o, none⟩) (by simp)).trans (by simp)
  have gc := set_cell
  have hb0 := ((Below.refl w.heap.size w).alloc (Nat.le_refl _) (.cells #[.string ⟨#[]⟩, .string ⟨#[]⟩] 23)).trans (hb.mono (by simp))
  go_wp2_with fail
  refine bodyPost_ret (v := .tuple #[.agg #[.string ⟨#[]⟩, .string ⟨#[]⟩], v, .bool false]) (by simp [results, Tryz.results67, go_sem, hc, hc1, gc]) rfl ⟨v, by rw [H.out]; rfl, ?_, ?_⟩
  · rw [H.out]
    exact own_more (own_set (own_set hown (by simp) _) (by simp) _) (by simp)
  · exact (hb0.setCell (by simp) _).setCell (by simp) _
theorem readR_no {a b c : Tk} {rest : List Tk} (h : (⟨a.text, c.text⟩ : Rl).ok = false) : readR (a :: b :: c :: rest) = (zeroR, a :: b :: c :: rest, false) :=
  if_neg (fun e => by rw [h] at e; cases e.1)
theorem readR_ne {a b c : Tk} {rest : List Tk} (h : kts [a, b, c] ≠ kts (roleTk ⟨a.text, c.text⟩ 0)) : readR (a :: b :: c :: rest) = (zeroR, a :: b :: c :: rest, false) :=
  if_neg (fun e => h e.2)
theorem readR_yes {a b c : Tk} {rest : List Tk} (h : (⟨a.text, c.text⟩ : Rl).ok = true) (h2 : kts [a, b, c] = kts (roleTk ⟨a.text, c.text⟩ 0)) : readR (a :: b :: c :: rest) = (⟨a.text, c.text⟩, rest, true) :=
  if_pos ⟨h, h2⟩
set_option maxHeartbeats 1000000 in
set_option maxRecDepth 100000 in
theorem readRole_no (A : Option Addr) (ca n : Nat) (a b c : Tk) (rest : List Tk) (w : World) (hn : n = rest.length + 3) (hL : rest.length ≤ 1000) (s1 : a.text.size ≤ maxLen) (s2 : c.text.size ≤ maxLen) (hA : TkAt w A (a :: b :: c :: rest)) (h : (⟨a.text, c.text⟩ : Rl).ok = false) :
    Calls Tryz.prog 67 #[.slice A n ca] w (ReadPost (a :: b :: c :: rest) w) := by
  have H := Lib.hid (readR_no (b := b) (rest := rest) h)
  have HR := Lib.hid (isRole' a.text c.text · s1 s2)
  rw [h] at HR
  have HA := Lib.hid hA
  obtain ⟨g, o, rfl, hg, hc⟩ := hA (by simp)
  obtain ⟨_, t0, _⟩ := hc 0 (by simp)
  obtain ⟨_, t2, _⟩ := hc 2 (by simp)
  simp only [Nat.zero_mul, Nat.add_zero, List.getElem_cons_zero, List.getElem_cons_succ] at t0 t2
  have d : decide ((3 : Int) ≤ n) = true := by simp; omega
  have d0 : (0 : Int) < n := by omega
  have d2 : (2 : Int) < n := by omega
  have hm := mixed
  have Hn := Lib.hid hn
  clear h hc s1 s2 hA hn
  go_enter Tryz.func67, Tryz.ntmps67
  go_wp2_with fail
  go_region
  go_wp2_with fail
  have gC := grow_cell
  go_quiet_grown ((go_at_call 27; exact grewCall1 (HR.out _)))
  clear gC
  have hW : Below w.heap.size w ((w.alloc (.cells #[.string ⟨#[]⟩, .string ⟨#[]⟩] 23)).alloc (.cells #[.string a.text, .string c.text] 23)).drew := (((Below.refl _ _).alloc (Nat.le_refl _) _).alloc (by simp) _).drew
  have hg1 := Grew.mk ((w.alloc (.cells #[.string ⟨#[]⟩, .string ⟨#[]⟩] 23)).alloc (.cells #[.string a.text, .string c.text] 23)).drew nq osq
  generalize grow (((w.alloc (.cells #[.string ⟨#[]⟩, .string ⟨#[]⟩] 23)).alloc (.cells #[.string a.text, .string c.text] 23)).drew.drewN nq) osq = w1 at *
  have hbA : Below w.heap.size w w1 := hW.trans (hg1.below.mono (by simp; omega))
  have hcl := cloneTk (some ⟨g, o, none⟩) ca (a :: b :: c :: rest) w1 (by simp; omega) (HA.out.below hbA)
  rw [show (a :: b :: c :: rest).length = n from Hn.out.symm] at hcl
  have Hcl := Lib.hid hcl
  have z1 := hg1.size
  simp only [World.size_alloc, World.size_drew] at z1
  have hc0 : w1.cell? ⟨w.heap.size, 0, none⟩ = some (.string ⟨#[]⟩) := (hg1.cell (a := ⟨w.heap.size, 0, none⟩) (by simp; omega)).trans (by simp)
  have hc1 : w1.cell? ⟨w.heap.size, 1, none⟩ = some (.string ⟨#[]⟩) := (hg1.cell (a := ⟨w.heap.size, 1, none⟩) (by simp; omega)).trans (by simp)
  have hf0 : ∀ o, w1.frozen? ⟨w.heap.size, o, none⟩ = false := fun o => (hg1.frozen (a := ⟨w.heap.size, o, none⟩) (by simp; omega)).trans (by simp)
  clear hg1 hW hcl t0 t2
  go_wp2_with fail
  refine Hcl.out.mono ?_
  rintro e w2 ⟨v, rfl, hown, hb⟩
  have hd0 := (hb.cell (p := ⟨w.heap.size, 0, none⟩) (by show w.heap.size < _; omega)).trans hc0
  have hd1 := (hb.cell (p := ⟨w.heap.size, 1, none⟩) (by show w.heap.size < _; omega)).trans hc1
  have hf : ∀ o, w2.frozen? ⟨w.heap.size, o, none⟩ = false := fun o => (hb.frozen (p := ⟨w.heap.size, o, none⟩) (by show w.heap.size < _; omega)).trans (hf0 o)
  have gc := set_cell
  have hb0 := hbA.trans (hb.mono (by omega))
  clear hc0 hc1 hf0 hbA
  go_wp2_with fail
  refine bodyPost_ret (v := .tuple #[.agg #[.string ⟨#[]⟩, .string ⟨#[]⟩], v, .bool false]) (by simp [results, Tryz.results67, go_sem, hd0, hd1, gc]) rfl ⟨v, by rw [H.out]; rfl, ?_, ?_⟩
  · rw [H.out]
    refine own_more (own_set (own_set ?_ (by show w.heap.size < _; omega) _) (by show w.heap.size < _; omega) _) (by omega : w.heap.size ≤ w1.heap.size)
    exact hown
  · exact (hb0.setCell (by simp) _).setCell (by simp) _
theorem keepB {W w1 w2 : World} {n k : Nat} {x y : Option Value} (h : RowKit.Below k W w1 ∧ w1.cell? ⟨n, 0, none⟩ = x ∧ w1.cell? ⟨n, 1, none⟩ = y) (hn : n < k) (hk : k ≤ W.heap.size) (hb : RowKit.Below w1.heap.size w1 w2) :
    RowKit.Below k W w2 ∧ w2.cell? ⟨n, 0, none⟩ = x ∧ w2.cell? ⟨n, 1, none⟩ = y := by
  have hs := h.1.size
  exact ⟨h.1.trans (hb.mono (by omega)), (hb.cell (p := ⟨n, 0, none⟩) (by show n < _; omega)).trans h.2.1, (hb.cell (p := ⟨n, 1, none⟩) (by show n < _; omega)).trans h.2.2⟩
theorem keepFar {w : World} {n : Nat} {x y : Option Value} {a b : Value} (h : w.cell? ⟨n + 1, 0, none⟩ = x ∧ w.cell? ⟨n + 1, 1, none⟩ = y) (_ : 0 = 0) : ((w.setCell ⟨n, 0, none⟩ a).setCell ⟨n, 1, none⟩ b).cell? ⟨n + 1, 0, none⟩ = x ∧ ((w.setCell ⟨n, 0, none⟩ a).setCell ⟨n, 1, none⟩ b).cell? ⟨n + 1, 1, none⟩ = y :=
  ⟨by rw [set_far _ _ _ _ _ _ (by omega), set_far _ _ _ _ _ _ (by omega)]; exact h.1, by rw [set_far _ _ _ _ _ _ (by omega), set_far _ _ _ _ _ _ (by omega)]; exact h.2⟩
theorem tk_three {w : World} {A : Option Addr} {a b c : Tk} {rest : List Tk} (h : TkAt w A (a :: b :: c :: rest)) : TkAt w A [a, b, c] := fun _ => by
  obtain ⟨g, o, e, hg, hc⟩ := h (by simp)
  exact ⟨g, o, e, hg, fun j hj => match j, hj with
    | 0, _ => hc 0 (by simp)
    | 1, _ => hc 1 (by simp)
    | 2, _ => hc 2 (by simp)⟩
theorem tk_rest {w : World} {g o : Nat} {a b c : Tk} {rest : List Tk} (h : TkAt w (some ⟨g, o, none⟩) (a :: b :: c :: rest)) : TkAt w (some ⟨g, o + 9, none⟩) rest := fun _ => by
  obtain ⟨g', o', e, hg, hc⟩ := h (by simp)
  injection e with e
  injection e with e1 e2
  subst e1; subst e2
  refine ⟨g, o + 9, rfl, hg, fun j hj => ?_⟩
  obtain ⟨x, y, z⟩ := hc (j + 3) (by simp; omega)
  simp only [List.getElem_cons_succ] at x y z
  rw [show o + (j + 3) * 3 = o + 9 + j * 3 by omega] at x y z
  exact ⟨x, y, z⟩
theorem of_rowTk {w : World} {B : Nat} {v : Value} {L : List Tk} (h : w.ownsRow B 44 3 v L.length (tkCells L)) : ∃ A cap, v = .slice A L.length cap ∧ L.length ≤ cap ∧ TkAt w A L := by
  obtain ⟨A, cap, e, hc, hr⟩ := TkRow.of_own h
  exact ⟨A, cap, e, hc, TkAt.of_row hr⟩
set_option maxHeartbeats 2000000 in
set_option maxRecDepth 100000 in
theorem readRole_ne (A : Option Addr) (ca n : Nat) (a b c : Tk) (rest : List Tk) (w : World) (hn : n = rest.length + 3) (hca : n ≤ ca) (hL : rest.length ≤ 1000) (s1 : a.text.size ≤ maxLen) (s2 : c.text.size ≤ maxLen) (hA : TkAt w A (a :: b :: c :: rest)) (h : (⟨a.text, c.text⟩ : Rl).ok = true) (h2 : kts [a, b, c] ≠ kts (roleTk ⟨a.text, c.text⟩ 0)) :
    Calls Tryz.prog 67 #[.slice A n ca] w (ReadPost (a :: b :: c :: rest) w) := by
  have H := Lib.hid (readR_ne (rest := rest) h2)
  have HR := Lib.hid (isRole' a.text c.text · s1 s2)
  rw [h] at HR
  have ht := fun w => roleTokens ⟨a.text, c.text⟩ w h
  unfold Rl.val at ht
  have HT := Lib.hid ht
  clear ht
  have HA := Lib.hid hA
  obtain ⟨g, o, rfl, hg, hc⟩ := hA (by simp)
  obtain ⟨_, t0, _⟩ := hc 0 (by simp)
  obtain ⟨_, t2, _⟩ := hc 2 (by simp)
  simp only [Nat.zero_mul, Nat.add_zero, List.getElem_cons_zero, List.getElem_cons_succ] at t0 t2
  have d : decide ((3 : Int) ≤ n) = true := by simp; omega
  have d0 : (0 : Int) < n := by omega
  have d2 : (2 : Int) < n := by omega
  have hm := mixed
  have Hn := Lib.hid hn
  have hs := (fun (B : Option Addr) (cb : Nat) (w1 : World) (x : TkAt w1 (some ⟨g, o, none⟩) [a, b, c]) (y : TkAt w1 B (roleTk ⟨a.text, c.text⟩ 0)) => same (some ⟨g, o, none⟩) B ca cb [a, b, c] (roleTk ⟨a.text, c.text⟩ 0) w1 (by simp) (by simp [roleTk]) x y)
  rw [decide_eq_false h2] at hs
  have HS := Lib.hid hs
  clear hs
  have hM : (roleTk ⟨a.text, c.text⟩ 0).length = 3 := rfl
  clear h hc s1 s2 hA hn h2
  have dca : decide ((3 : Int) ≤ ca) = true := by simp; omega
  have dca' : (3 : Int) ≤ ca := by omega
  go_enter Tryz.func67, Tryz.ntmps67
  go_wp2_with fail
  go_region
  go_wp2_with fail
  have hst : RowKit.Below (w.heap.size + 2) ((w.alloc (.cells #[.string ⟨#[]⟩, .string ⟨#[]⟩] 23)).alloc (.cells #[.string a.text, .string c.text] 23)) ((w.alloc (.cells #[.string ⟨#[]⟩, .string ⟨#[]⟩] 23)).alloc (.cells #[.string a.text, .string c.text] 23)).drew.drew ∧ ((w.alloc (.cells #[.string ⟨#[]⟩, .string ⟨#[]⟩] 23)).alloc (.cells #[.string a.text, .string c.text] 23)).drew.drew.cell? ⟨w.heap.size + 1, 0, none⟩ = some (.string a.text) ∧ ((w.alloc (.cells #[.string ⟨#[]⟩, .string ⟨#[]⟩] 23)).alloc (.cells #[.string a.text, .string c.text] 23)).drew.drew.cell? ⟨w.heap.size + 1, 1, none⟩ = some (.string c.text) := ⟨(Below.refl _ _).drew.drew, by simp, by simp⟩
  have hw0 : RowKit.Below w.heap.size w ((w.alloc (.cells #[.string ⟨#[]⟩, .string ⟨#[]⟩] 23)).alloc (.cells #[.string a.text, .string c.text] 23)) := ((Below.refl _ _).alloc (Nat.le_refl _) _).alloc (by simp) _
  have Htk := Lib.hid (fun (w1 : World) (hb : RowKit.Below (w.heap.size + 2) ((w.alloc (.cells #[.string ⟨#[]⟩, .string ⟨#[]⟩] 23)).alloc (.cells #[.string a.text, .string c.text] 23)) w1) => tk_three (HA.out.below (hw0.trans (hb.mono (by omega)))))
  have Htk2 := Lib.hid (fun (w1 : World) (hb : RowKit.Below (w.heap.size + 2) ((w.alloc (.cells #[.string ⟨#[]⟩, .string ⟨#[]⟩] 23)).alloc (.cells #[.string a.text, .string c.text] 23)) w1) => HA.out.below (hw0.trans (hb.mono (by omega))))
  have Hw0 := Lib.hid hw0
  clear hw0 hM
  go_region_held3 (fun w' => RowKit.Below (w.heap.size + 2) ((w.alloc (.cells #[.string ⟨#[]⟩, .string ⟨#[]⟩] 23)).alloc (.cells #[.string a.text, .string c.text] 23)) w' ∧ w'.cell? ⟨w.heap.size + 1, 0, none⟩ = some (.string a.text) ∧ w'.cell? ⟨w.heap.size + 1, 1, none⟩ = some (.string c.text))
    (first | exact hst | assumption | exact keepB (by assumption) (by omega) (by simp) (by assumption))
    (first | (go_at_call 27; refine (HR.out _).mono ?_; rintro e w' ⟨rfl, hg⟩; have hgb := hg.below) | (go_at_call 89; refine (HT.out _).mono ?_; rintro e w' ⟨v, rfl, hown, hgb⟩; obtain ⟨B, cb, rfl, hcb, hr⟩ := of_rowTk hown) | (go_at_call 88; refine (HS.out _ _ _ (Htk.out _ (by apply And.left; assumption)) hr).mono ?_; rintro e w' ⟨rfl, hgb⟩))
  rename_i hHeld
  obtain ⟨hB, hx, hy⟩ := hHeld
  have hbA : RowKit.Below w.heap.size w w' := Hw0.out.trans (hB.mono (by omega))
  have hcl := cloneTk (some ⟨g, o, none⟩) ca (a :: b :: c :: rest) w' (by simp; omega) (HA.out.below hbA)
  rw [show (a :: b :: c :: rest).length = n from Hn.out.symm] at hcl
  have Hcl := Lib.hid hcl
  have z1 := hB.size
  simp only [World.size_alloc] at z1
  have hc0 : w'.cell? ⟨w.heap.size, 0, none⟩ = some (.string ⟨#[]⟩) := (hB.cell (p := ⟨w.heap.size, 0, none⟩) (by show w.heap.size < _; omega)).trans (by simp)
  have hc1 : w'.cell? ⟨w.heap.size, 1, none⟩ = some (.string ⟨#[]⟩) := (hB.cell (p := ⟨w.heap.size, 1, none⟩) (by show w.heap.size < _; omega)).trans (by simp)
  have hf0 : ∀ o, w'.frozen? ⟨w.heap.size, o, none⟩ = false := fun o => (hB.frozen (p := ⟨w.heap.size, o, none⟩) (by show w.heap.size < _; omega)).trans (by simp)
  clear hB hcl t0 t2 hst hx hy hr hown hcb hgb hg
  go_wp2_with fail
  refine Hcl.out.mono ?_
  rintro e w3 ⟨v, rfl, hown, hb⟩
  have hd0 := (hb.cell (p := ⟨w.heap.size, 0, none⟩) (by show w.heap.size < _; omega)).trans hc0
  have hd1 := (hb.cell (p := ⟨w.heap.size, 1, none⟩) (by show w.heap.size < _; omega)).trans hc1
  have hf : ∀ o, w3.frozen? ⟨w.heap.size, o, none⟩ = false := fun o => (hb.frozen (p := ⟨w.heap.size, o, none⟩) (by show w.heap.size < _; omega)).trans (hf0 o)
  have gc := set_cell
  have hb0 := hbA.trans (hb.mono (by omega))
  clear hc0 hc1 hf0 hbA
  go_wp2_with fail
  refine bodyPost_ret (v := .tuple #[.agg #[.string ⟨#[]⟩, .string ⟨#[]⟩], v, .bool false]) (by simp [results, Tryz.results67, go_sem, hd0, hd1, gc]) rfl ⟨v, by rw [H.out]; rfl, ?_, ?_⟩
  · rw [H.out]
    refine own_more (own_set (own_set ?_ (by show w.heap.size < _; omega) _) (by show w.heap.size < _; omega) _) (by omega : w.heap.size ≤ w'.heap.size)
    exact hown
  · exact (hb0.setCell (by simp) _).setCell (by simp) _
set_option maxHeartbeats 2000000 in
set_option maxRecDepth 100000 in
theorem readRole_yes (A : Option Addr) (ca n : Nat) (a b c : Tk) (rest : List Tk) (w : World) (hn : n = rest.length + 3) (hca : n ≤ ca) (h3 : ca ≠ 3) (hL : rest.length ≤ 1000) (s1 : a.text.size ≤ maxLen) (s2 : c.text.size ≤ maxLen) (hA : TkAt w A (a :: b :: c :: rest)) (h : (⟨a.text, c.text⟩ : Rl).ok = true) (h2 : kts [a, b, c] = kts (roleTk ⟨a.text, c.text⟩ 0)) :
    Calls Tryz.prog 67 #[.slice A n ca] w (ReadPost (a :: b :: c :: rest) w) := by
  have e3 : ((ca : Int) == 3) = false := by simp; omega
  have hcp : 0 < ca - 3 := by omega
  have H := Lib.hid (readR_yes (rest := rest) h h2)
  have HR := Lib.hid (isRole' a.text c.text · s1 s2)
  rw [h] at HR
  have ht := fun w => roleTokens ⟨a.text, c.text⟩ w h
  unfold Rl.val at ht
  have HT := Lib.hid ht
  clear ht
  have HA := Lib.hid hA
  obtain ⟨g, o, rfl, hg, hc⟩ := hA (by simp)
  obtain ⟨_, t0, _⟩ := hc 0 (by simp)
  obtain ⟨_, t2, _⟩ := hc 2 (by simp)
  simp only [Nat.zero_mul, Nat.add_zero, List.getElem_cons_zero, List.getElem_cons_succ] at t0 t2
  have d : decide ((3 : Int) ≤ n) = true := by simp; omega
  have d0 : (0 : Int) < n := by omega
  have d2 : (2 : Int) < n := by omega
  have hm := mixed
  have Hn := Lib.hid hn
  have hs := (fun (B : Option Addr) (cb : Nat) (w1 : World) (x : TkAt w1 (some ⟨g, o, none⟩) [a, b, c]) (y : TkAt w1 B (roleTk ⟨a.text, c.text⟩ 0)) => same (some ⟨g, o, none⟩) B ca cb [a, b, c] (roleTk ⟨a.text, c.text⟩ 0) w1 (by simp) (by simp [roleTk]) x y)
  rw [decide_eq_true h2] at hs
  have HS := Lib.hid hs
  clear hs
  have hM : (roleTk ⟨a.text, c.text⟩ 0).length = 3 := rfl
  clear h hc s1 s2 hA hn h2
  have dca : decide ((3 : Int) ≤ ca) = true := by simp; omega
  have dca' : (3 : Int) ≤ ca := by omega
  go_enter Tryz.func67, Tryz.ntmps67
  go_wp2_with fail
  go_region
  go_wp2_with fail
  have hst : RowKit.Below (w.heap.size + 2) ((w.alloc (.cells #[.string ⟨#[]⟩, .string ⟨#[]⟩] 23)).alloc (.cells #[.string a.text, .string c.text] 23)) ((w.alloc (.cells #[.string ⟨#[]⟩, .string ⟨#[]⟩] 23)).alloc (.cells #[.string a.text, .string c.text] 23)).drew.drew ∧ ((w.alloc (.cells #[.string ⟨#[]⟩, .string ⟨#[]⟩] 23)).alloc (.cells #[.string a.text, .string c.text] 23)).drew.drew.cell? ⟨w.heap.size + 1, 0, none⟩ = some (.string a.text) ∧ ((w.alloc (.cells #[.string ⟨#[]⟩, .string ⟨#[]⟩] 23)).alloc (.cells #[.string a.text, .string c.text] 23)).drew.drew.cell? ⟨w.heap.size + 1, 1, none⟩ = some (.string c.text) := ⟨(Below.refl _ _).drew.drew, by simp, by simp⟩
  have hw0 : RowKit.Below w.heap.size w ((w.alloc (.cells #[.string ⟨#[]⟩, .string ⟨#[]⟩] 23)).alloc (.cells #[.string a.text, .string c.text] 23)) := ((Below.refl _ _).alloc (Nat.le_refl _) _).alloc (by simp) _
  have Htk := Lib.hid (fun (w1 : World) (hb : RowKit.Below (w.heap.size + 2) ((w.alloc (.cells #[.string ⟨#[]⟩, .string ⟨#[]⟩] 23)).alloc (.cells #[.string a.text, .string c.text] 23)) w1) => tk_three (HA.out.below (hw0.trans (hb.mono (by omega)))))
  have Htk2 := Lib.hid (fun (w1 : World) (hb : RowKit.Below (w.heap.size + 2) ((w.alloc (.cells #[.string ⟨#[]⟩, .string ⟨#[]⟩] 23)).alloc (.cells #[.string a.text, .string c.text] 23)) w1) => HA.out.below (hw0.trans (hb.mono (by omega))))
  have Hw0 := Lib.hid hw0
  clear hw0 hM
  go_region_held3 (fun w' => RowKit.Below (w.heap.size + 2) ((w.alloc (.cells #[.string ⟨#[]⟩, .string ⟨#[]⟩] 23)).alloc (.cells #[.string a.text, .string c.text] 23)) w' ∧ w'.cell? ⟨w.heap.size + 1, 0, none⟩ = some (.string a.text) ∧ w'.cell? ⟨w.heap.size + 1, 1, none⟩ = some (.string c.text))
    (first | exact hst | assumption | exact keepB (by assumption) (by omega) (by simp) (by assumption))
    (first | (go_at_call 27; refine (HR.out _).mono ?_; rintro e w' ⟨rfl, hg⟩; have hgb := hg.below) | (go_at_call 89; refine (HT.out _).mono ?_; rintro e w' ⟨v, rfl, hown, hgb⟩; obtain ⟨B, cb, rfl, hcb, hr⟩ := of_rowTk hown) | (go_at_call 88; refine (HS.out _ _ _ (Htk.out _ (by apply And.left; assumption)) hr).mono ?_; rintro e w' ⟨rfl, hgb⟩))
  rename_i hHeld
  obtain ⟨hB, hx, hy⟩ := hHeld
  have hbA : RowKit.Below w.heap.size w w' := Hw0.out.trans (hB.mono (by omega))
  have hcl := fun (w1 : World) (cc : Nat) (hb : RowKit.Below w.heap.size w w1) => cloneTk (some ⟨g, o + 9, none⟩) cc rest w1 (by omega) (tk_rest (HA.out.below hb))
  have e4 : rest.length = n - 3 := by have := Hn.out; omega
  rw [e4] at hcl
  have HCl := Lib.hid hcl
  have E4 := Lib.hid e4
  clear hcl e4
  have z1 := hB.size
  simp only [World.size_alloc] at z1
  have hc0 : w'.cell? ⟨w.heap.size, 0, none⟩ = some (.string ⟨#[]⟩) := (hB.cell (p := ⟨w.heap.size, 0, none⟩) (by show w.heap.size < _; omega)).trans (by simp)
  have hc1 : w'.cell? ⟨w.heap.size, 1, none⟩ = some (.string ⟨#[]⟩) := (hB.cell (p := ⟨w.heap.size, 1, none⟩) (by show w.heap.size < _; omega)).trans (by simp)
  have hf0 : ∀ o, w'.frozen? ⟨w.heap.size, o, none⟩ = false := fun o => (hB.frozen (p := ⟨w.heap.size, o, none⟩) (by show w.heap.size < _; omega)).trans (by simp)
  clear hB t0 t2 hst hr hown hcb hgb hg
  go_wp2_with fail
  have d3 : (3 : Int) ≤ (n : Int) := by omega
  have d4 : (n : Int) ≤ (ca : Int) := by omega
  have d5 : 3 ≤ n := by omega
  have d6 : ¬ ca = 3 := h3
  have d7 : ¬ ca ≤ 3 := by omega
  have d8 : ¬ ca - 3 = 0 := by omega
  have hst2 : w'.drew.cell? ⟨w.heap.size + 1, 0, none⟩ = some (.string a.text) ∧ w'.drew.cell? ⟨w.heap.size + 1, 1, none⟩ = some (.string c.text) := ⟨hx, hy⟩
  go_region_held3 (fun x => x.cell? ⟨w.heap.size + 1, 0, none⟩ = some (.string a.text) ∧ x.cell? ⟨w.heap.size + 1, 1, none⟩ = some (.string c.text))
    (first | exact hst2 | assumption | exact ⟨(hgb.cell (p := ⟨w.heap.size + 1, 0, none⟩) (by show w.heap.size + 1 < w'.heap.size; omega)).trans hx, (hgb.cell (p := ⟨w.heap.size + 1, 1, none⟩) (by show w.heap.size + 1 < w'.heap.size; omega)).trans hy⟩ | exact keepFar (by assumption) (by omega))
    ((go_at_call 90; refine (HCl.out _ _ hbA.drew).mono ?_; rintro e w2 ⟨v, rfl, hown, hgb⟩; have hd0 := (hgb.cell (p := ⟨w.heap.size, 0, none⟩) (by show w.heap.size < w'.heap.size; omega)).trans hc0; have hd1 := (hgb.cell (p := ⟨w.heap.size, 1, none⟩) (by show w.heap.size < w'.heap.size; omega)).trans hc1; have hf := fun o => (hgb.frozen (p := ⟨w.heap.size, o, none⟩) (by show w.heap.size < w'.heap.size; omega)).trans (hf0 o)))
  have gc := set_cell
  go_wp2_with fail
  refine bodyPost_ret (v := .tuple #[.agg #[.string a.text, .string c.text], v, .bool true]) (by simp [results, Tryz.results67, go_sem, hd0, hd1, gc]) rfl ⟨v, by rw [H.out]; rfl, ?_, ?_⟩
  · rw [H.out]
    refine own_more (own_set (own_set ?_ (by show w.heap.size < w'.heap.size; omega) _) (by show w.heap.size < w'.heap.size; omega) _) (by show w.heap.size ≤ w'.heap.size; omega)
    exact hown
  · exact ((hbA.drew.trans (hgb.mono (by show w.heap.size ≤ w'.heap.size; omega))).setCell (by simp) _).setCell (by simp) _
set_option maxHeartbeats 2000000 in
set_option maxRecDepth 100000 in
theorem readRole_yes3 (A : Option Addr) (a b c : Tk) (w : World) (s1 : a.text.size ≤ maxLen) (s2 : c.text.size ≤ maxLen) (hA : TkAt w A (a :: b :: c :: [])) (h : (⟨a.text, c.text⟩ : Rl).ok = true) (h2 : kts [a, b, c] = kts (roleTk ⟨a.text, c.text⟩ 0)) :
    Calls Tryz.prog 67 #[.slice A 3 3] w (ReadPost (a :: b :: c :: []) w) := by
  have H := Lib.hid (readR_yes (rest := []) h h2)
  have HR := Lib.hid (isRole' a.text c.text · s1 s2)
  rw [h] at HR
  have ht := fun w => roleTokens ⟨a.text, c.text⟩ w h
  unfold Rl.val at ht
  have HT := Lib.hid ht
  clear ht
  have HA := Lib.hid hA
  obtain ⟨g, o, rfl, hg, hc⟩ := hA (by simp)
  obtain ⟨_, t0, _⟩ := hc 0 (by simp)
  obtain ⟨_, t2, _⟩ := hc 2 (by simp)
  simp only [Nat.zero_mul, Nat.add_zero, List.getElem_cons_zero, List.getElem_cons_succ] at t0 t2
  have hm := mixed
  have hs := (fun (B : Option Addr) (cb : Nat) (w1 : World) (x : TkAt w1 (some ⟨g, o, none⟩) [a, b, c]) (y : TkAt w1 B (roleTk ⟨a.text, c.text⟩ 0)) => same (some ⟨g, o, none⟩) B 3 cb [a, b, c] (roleTk ⟨a.text, c.text⟩ 0) w1 (by simp) (by simp [roleTk]) x y)
  rw [decide_eq_true h2] at hs
  have HS := Lib.hid hs
  clear hs
  have hM : (roleTk ⟨a.text, c.text⟩ 0).length = 3 := rfl
  clear h hc s1 s2 hA h2
  go_enter Tryz.func67, Tryz.ntmps67
  go_wp2_with fail
  go_region
  go_wp2_with fail
  have hst : RowKit.Below (w.heap.size + 2) ((w.alloc (.cells #[.string ⟨#[]⟩, .string ⟨#[]⟩] 23)).alloc (.cells #[.string a.text, .string c.text] 23)) ((w.alloc (.cells #[.string ⟨#[]⟩, .string ⟨#[]⟩] 23)).alloc (.cells #[.string a.text, .string c.text] 23)).drew.drew ∧ ((w.alloc (.cells #[.string ⟨#[]⟩, .string ⟨#[]⟩] 23)).alloc (.cells #[.string a.text, .string c.text] 23)).drew.drew.cell? ⟨w.heap.size + 1, 0, none⟩ = some (.string a.text) ∧ ((w.alloc (.cells #[.string ⟨#[]⟩, .string ⟨#[]⟩] 23)).alloc (.cells #[.string a.text, .string c.text] 23)).drew.drew.cell? ⟨w.heap.size + 1, 1, none⟩ = some (.string c.text) := ⟨(Below.refl _ _).drew.drew, by simp, by simp⟩
  have hw0 : RowKit.Below w.heap.size w ((w.alloc (.cells #[.string ⟨#[]⟩, .string ⟨#[]⟩] 23)).alloc (.cells #[.string a.text, .string c.text] 23)) := ((Below.refl _ _).alloc (Nat.le_refl _) _).alloc (by simp) _
  have Htk := Lib.hid (fun (w1 : World) (hb : RowKit.Below (w.heap.size + 2) ((w.alloc (.cells #[.string ⟨#[]⟩, .string ⟨#[]⟩] 23)).alloc (.cells #[.string a.text, .string c.text] 23)) w1) => tk_three (HA.out.below (hw0.trans (hb.mono (by omega)))))
  have Htk2 := Lib.hid (fun (w1 : World) (hb : RowKit.Below (w.heap.size + 2) ((w.alloc (.cells #[.string ⟨#[]⟩, .string ⟨#[]⟩] 23)).alloc (.cells #[.string a.text, .string c.text] 23)) w1) => HA.out.below (hw0.trans (hb.mono (by omega))))
  have Hw0 := Lib.hid hw0
  clear hw0 hM
  go_region_held3 (fun w' => RowKit.Below (w.heap.size + 2) ((w.alloc (.cells #[.string ⟨#[]⟩, .string ⟨#[]⟩] 23)).alloc (.cells #[.string a.text, .string c.text] 23)) w' ∧ w'.cell? ⟨w.heap.size + 1, 0, none⟩ = some (.string a.text) ∧ w'.cell? ⟨w.heap.size + 1, 1, none⟩ = some (.string c.text))
    (first | exact hst | assumption | exact keepB (by assumption) (by omega) (by simp) (by assumption))
    (first | (go_at_call 27; refine (HR.out _).mono ?_; rintro e w' ⟨rfl, hg⟩; have hgb := hg.below) | (go_at_call 89; refine (HT.out _).mono ?_; rintro e w' ⟨v, rfl, hown, hgb⟩; obtain ⟨B, cb, rfl, hcb, hr⟩ := of_rowTk hown) | (go_at_call 88; refine (HS.out _ _ _ (Htk.out _ (by apply And.left; assumption)) hr).mono ?_; rintro e w' ⟨rfl, hgb⟩))
  rename_i hHeld
  obtain ⟨hB, hx, hy⟩ := hHeld
  have hbA : RowKit.Below w.heap.size w w' := Hw0.out.trans (hB.mono (by omega))
  have HCl := Lib.hid (fun (w1 : World) (cc : Nat) (hb : RowKit.Below w.heap.size w w1) => cloneTk (some ⟨g, o, none⟩) cc [] w1 (by simp) (fun h => by simp at h))
  have z1 := hB.size
  simp only [World.size_alloc] at z1
  have hc0 : w'.cell? ⟨w.heap.size, 0, none⟩ = some (.string ⟨#[]⟩) := (hB.cell (p := ⟨w.heap.size, 0, none⟩) (by show w.heap.size < _; omega)).trans (by simp)
  have hc1 : w'.cell? ⟨w.heap.size, 1, none⟩ = some (.string ⟨#[]⟩) := (hB.cell (p := ⟨w.heap.size, 1, none⟩) (by show w.heap.size < _; omega)).trans (by simp)
  have hf0 : ∀ o, w'.frozen? ⟨w.heap.size, o, none⟩ = false := fun o => (hB.frozen (p := ⟨w.heap.size, o, none⟩) (by show w.heap.size < _; omega)).trans (by simp)
  clear hB t0 t2 hst hr hown hcb hgb hg
  go_wp2_with fail
  have hst2 : w'.drew.cell? ⟨w.heap.size + 1, 0, none⟩ = some (.string a.text) ∧ w'.drew.cell? ⟨w.heap.size + 1, 1, none⟩ = some (.string c.text) := ⟨hx, hy⟩
  go_region_held3 (fun x => x.cell? ⟨w.heap.size + 1, 0, none⟩ = some (.string a.text) ∧ x.cell? ⟨w.heap.size + 1, 1, none⟩ = some (.string c.text))
    (first | exact hst2 | assumption | exact ⟨(hgb.cell (p := ⟨w.heap.size + 1, 0, none⟩) (by show w.heap.size + 1 < w'.heap.size; omega)).trans hx, (hgb.cell (p := ⟨w.heap.size + 1, 1, none⟩) (by show w.heap.size + 1 < w'.heap.size; omega)).trans hy⟩ | exact keepFar (by assumption) (by omega))
    ((go_at_call 90; refine (HCl.out _ _ hbA.drew).mono ?_; rintro e w2 ⟨v, rfl, hown, hgb⟩; have hd0 := (hgb.cell (p := ⟨w.heap.size, 0, none⟩) (by show w.heap.size < w'.heap.size; omega)).trans hc0; have hd1 := (hgb.cell (p := ⟨w.heap.size, 1, none⟩) (by show w.heap.size < w'.heap.size; omega)).trans hc1; have hf := fun o => (hgb.frozen (p := ⟨w.heap.size, o, none⟩) (by show w.heap.size < w'.heap.size; omega)).trans (hf0 o)))
  have gc := set_cell
  go_wp2_with fail
  refine bodyPost_ret (v := .tuple #[.agg #[.string a.text, .string c.text], v, .bool true]) (by simp [results, Tryz.results67, go_sem, hd0, hd1, gc]) rfl ⟨v, by rw [H.out]; rfl, ?_, ?_⟩
  · rw [H.out]
    refine own_more (own_set (own_set ?_ (by show w.heap.size < w'.heap.size; omega) _) (by show w.heap.size < w'.heap.size; omega) _) (by show w.heap.size ≤ w'.heap.size; omega)
    exact hown
  · exact ((hbA.drew.trans (hgb.mono (by show w.heap.size ≤ w'.heap.size; omega))).setCell (by simp) _).setCell (by simp) _
theorem readRole (A : Option Addr) (ca : Nat) (L : List Tk) (w : World) (hL : L.length ≤ 1000) (hca : L.length ≤ ca) (hs : SmallTk L) (hA : TkAt w A L) : Calls Tryz.prog 67 #[.slice A L.length ca] w (ReadPost L w) := by
  match L, hL, hca, hs, hA with
  | [], _, _, _, hA => exact readRole_short A ca [] w (by simp) hA
  | [x], _, _, _, hA => exact readRole_short A ca [x] w (by simp) hA
  | [x, y], _, _, _, hA => exact readRole_short A ca [x, y] w (by simp) hA
  | a :: b :: c :: rest, hL, hca, hs, hA =>
    have s1 : a.text.size ≤ maxLen := by have := (hs a (by simp)).2; unfold maxLen; omega
    have s2 : c.text.size ≤ maxLen := by have := (hs c (by simp)).2; unfold maxLen; omega
    simp only [List.length_cons] at hL hca
    cases h : Rl.ok ⟨a.text, c.text⟩
    · exact readRole_no A ca (rest.length + 3) a b c rest w rfl (by omega) s1 s2 hA h
    · by_cases h2 : kts [a, b, c] = kts (roleTk ⟨a.text, c.text⟩ 0)
      · by_cases h3 : ca = 3
        · have : rest = [] := List.eq_nil_of_length_eq_zero (by omega)
          subst this; subst h3
          exact readRole_yes3 A a b c w s1 s2 hA h h2
        · exact readRole_yes A ca (rest.length + 3) a b c rest w rfl (by omega) h3 (by omega) s1 s2 hA h h2
      · exact readRole_ne A ca (rest.length + 3) a b c rest w rfl (by omega) (by omega) s1 s2 hA h h2
end Go.Proofs.YtcbbffpalpieaaaGreat.SynU
/- The statement whose line has these tokens. -/
namespace Go.Proofs.YtcbbffpalpieaaaGreat.SynV
set_option linter.unusedVariables false
set_option linter.unusedSimpArgs false
open Go.RowKit Go.Sort Go.Proofs Go.Proofs.YtcbbffpalpieaaaGreat.Plain Go.Proofs.YtcbbffpalpieaaaGreat.SynP Go.Proofs.YtcbbffpalpieaaaGreat.SynQ Go.Proofs.YtcbbffpalpieaaaGreat.Grown Go.Proofs.YtcbbffpalpieaaaGreat.SynA Go.Proofs.YtcbbffpalpieaaaGreat.SynC Go.Proofs.YtcbbffpalpieaaaGreat.SynR Go.Proofs.YtcbbffpalpieaaaGreat.SynW Go.Proofs.YtcbbffpalpieaaaGreat.Scan3 Go.Proofs.YtcbbffpalpieaaaGreat.Scan5 Go.Proofs.YtcbbffpalpieaaaGreat.Syn1 Go.Proofs.YtcbbffpalpieaaaGreat.Syn2 Go.Proofs.YtcbbffpalpieaaaGreat.Syn4 Go.Proofs.YtcbbffpalpieaaaGreat.SynL Go.Proofs.YtcbbffpalpieaaaGreat.SynS Go.Proofs.YtcbbffpalpieaaaGreat.SynT Go.Proofs.YtcbbffpalpieaaaGreat.SynU
set_option linter.unusedVariables false
set_option linter.unusedSimpArgs false
theorem good1 {t : Tk} (h : goodTk t) (hk : t.kind = 1) : named capB t.text.data.toList = true := by
  rcases h with ⟨_, h⟩ | ⟨h, _⟩ | ⟨h, _⟩ | ⟨h, _⟩ | ⟨h, _⟩
  · exact h
  all_goals (rw [hk] at h; exact absurd h (by decide))
theorem good2 {t : Tk} (h : goodTk t) (hk : t.kind = 2) : named smallB t.text.data.toList = true := by
  rcases h with ⟨h, _⟩ | ⟨_, h⟩ | ⟨h, _⟩ | ⟨h, _⟩ | ⟨h, _⟩
  rotate_left
  · exact h
  all_goals (rw [hk] at h; exact absurd h (by decide))
theorem good3 {t : Tk} (h : goodTk t) (hk : t.kind = 3) : t.text = dot := by
  rcases h with ⟨h, _⟩ | ⟨h, _⟩ | ⟨_, h⟩ | ⟨h, _⟩ | ⟨h, _⟩
  rotate_left 2
  · exact h
  all_goals (rw [hk] at h; exact absurd h (by decide))
/-- Good tokens that are a role's are read as one. -/
theorem readR_good {a b c : Tk} {rest : List Tk} (ha : goodTk a) (hb : goodTk b) (hc : goodTk c) (ka : a.kind = 1) (kb : b.kind = 3) (kc : c.kind = 2) : readR (a :: b :: c :: rest) = (⟨a.text, c.text⟩, rest, true) := by
  refine readR_yes ?_ ?_
  · unfold Rl.ok; rw [Bool.and_eq_true]; exact ⟨good1 ha ka, good2 hc kc⟩
  · unfold kts roleTk
    simp [ka, kb, kc, good3 hb kb]
/-- What ReadRole answers of such tokens. -/
def RolePost (a c : Tk) (rest : List Tk) (w : World) (e : Ending) (w' : World) : Prop := ∃ A cap, e = .returned (.tuple #[.agg #[.string a.text, .string c.text], .slice A rest.length cap, .bool true]) ∧ rest.length ≤ cap ∧ TkAt w' A rest ∧ Below w.heap.size w w' ∧ ∀ g o, A = some ⟨g, o, none⟩ → w.heap.size ≤ g
theorem readGood (A : Option Addr) (ca n : Nat) (a b c : Tk) (rest : List Tk) (w : World) (hn : n = rest.length + 3) (hL : n ≤ 1000) (hca : n ≤ ca) (hs : SmallTk (a :: b :: c :: rest)) (ha : goodTk a) (hb : goodTk b) (hc : goodTk c) (ka : a.kind = 1) (kb : b.kind = 3) (kc : c.kind = 2) (hA : TkAt w A (a :: b :: c :: rest)) :
    Calls Tryz.prog 67 #[.slice A n ca] w (RolePost a c rest w) := by
  subst hn
  refine (readRole A ca (a :: b :: c :: rest) w hL hca hs hA).mono ?_
  rintro e w' ⟨v, rfl, hown, hb'⟩
  rw [readR_good ha hb hc ka kb kc] at hown
  obtain ⟨B, cap, rfl, hcap, hr⟩ := of_rowTk hown
  exact ⟨B, cap, by rw [readR_good ha hb hc ka kb kc]; rfl, hcap, hr, hb', fun g o e => by subst e; exact (hown.lt g rfl).1⟩
def StmtPost (s : St) (w : World) (e : Ending) (w' : World) : Prop := e = .returned s.val ∧ Below w.heap.size w w'
theorem blk_set {w : World} {n : Nat} {C : Array Value} {t : TypeId} (h : w.heap[n]? = some (.cells C t (0, 0))) (i : Nat) (v : Value) : (w.setCell ⟨n, i, none⟩ v).heap[n]? = some (.cells (C.setIfInBounds i v) t (0, 0)) := by
  simp [World.setCell, Array.getElem?_modify, h]
theorem blk_frozen {w : World} {n : Nat} {C : Array Value} {t : TypeId} (h : w.heap[n]? = some (.cells C t (0, 0))) (o : Nat) : w.frozen? ⟨n, o, none⟩ = false := by
  simp [World.frozen?, h]
theorem blk_below {w w' : World} {n B : Nat} {x : Option Obj} (h : w.heap[n]? = x) (hb : RowKit.Below B w w') (hn : n < B) : w'.heap[n]? = x := (hb.block n hn).trans h
theorem tk_tail {w : World} {g o : Nat} {a : Tk} {rest : List Tk} (h : TkAt w (some ⟨g, o, none⟩) (a :: rest)) : TkAt w (some ⟨g, o + 3, none⟩) rest := fun _ => by
  obtain ⟨g', o', e, hg, hc⟩ := h (by simp)
  injection e with e
  injection e with e1 e2
  subst e1; subst e2
  refine ⟨g, o + 3, rfl, hg, fun j hj => ?_⟩
  obtain ⟨x, y, z⟩ := hc (j + 1) (by simp; omega)
  simp only [List.getElem_cons_succ] at x y z
  rw [show o + (j + 1) * 3 = o + 3 + j * 3 by omega] at x y z
  exact ⟨x, y, z⟩
theorem tk_set {w : World} {A : Option Addr} {L : List Tk} (h : TkAt w A L) {b : Nat} (hb : ∀ g o, A = some ⟨g, o, none⟩ → b ≠ g) (i : Nat) (v : Value) : TkAt (w.setCell ⟨b, i, none⟩ v) A L := fun hp => by
  obtain ⟨g, o, e, hg, hc⟩ := h hp
  refine ⟨g, o, e, by rw [set_size]; exact hg, fun j hj => ?_⟩
  obtain ⟨x, y, z⟩ := hc j hj
  have hne := hb g o e
  exact ⟨(set_far _ _ _ _ _ _ hne).trans x, (set_far _ _ _ _ _ _ hne).trans y, (set_far _ _ _ _ _ _ hne).trans z⟩
theorem small_drop {L : List Tk} (h : SmallTk L) (n : Nat) : SmallTk (L.drop n) := fun t ht => h t (List.mem_of_mem_drop ht)
end Go.Proofs.YtcbbffpalpieaaaGreat.SynV
