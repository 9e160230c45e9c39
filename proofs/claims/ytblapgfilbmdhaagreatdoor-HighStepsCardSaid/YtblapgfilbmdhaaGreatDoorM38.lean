/- What of a right policy the laws of layers 11 and 12 stand on. -/
import Derived.Test.YtblapgfilbmdhaaGreatDoorM35
import Derived.Test.YtblapgfilbmdhaaGreatDoorM37
import Derived.Test.YtblapgfilbmdhaaGreatDoorM26
import Derived.Test.YtblapgfilbmdhaaGreatDoorM02
import Derived.Test.YtblapgfilbmdhaaGreatDoorM13
import Derived.ProofKit
import Derived.OpenShut
import Derived.Test.YtblapgfilbmdhaaGreatDoorM23
import Derived.Test.YtblapgfilbmdhaaGreatDoorM10
import Derived.Laws.EntriesVeiled
import Derived.Test.YtblapgfilbmdhaaGreatDoorM08
import Derived.Test.YtblapgfilbmdhaaGreatDoorM36
import Derived.Test.YtblapgfilbmdhaaGreatDoorM34
set_option linter.unusedVariables false
set_option linter.unusedSimpArgs false
namespace Go.Proofs.YtblapgfilbmdhaaGreatDoor.LwT
open Go.RowKit Go.Sort Go.Lib Go.Proofs Plain SynP TabP Tab2 PolE PolH PolI TblA TblC TblP TblQ TblR TblT SemA SemGa StR LwA LwE LwG LwH LwM
structure Rt (p : Py) : Prop where
  st : ∀ s ∈ p.stmts, s.right = true
  ps : (PT p).length ≤ 16
  ns : (NT p).length ≤ 12
theorem rt_of {p : Py} (h : rightR p = true) : Rt p := by
  unfold rightR at h
  simp only [Bool.and_eq_true] at h
  obtain ⟨h1, _, _, _, _, _, h7⟩ := h
  unfold fitsP at h7
  simp only [Bool.and_eq_true, decide_eq_true_eq] at h7
  exact ⟨fun s hs => List.all_eq_true.1 h1 s hs, h7.1.2, h7.2⟩
end Go.Proofs.YtblapgfilbmdhaaGreatDoor.LwT
namespace Go.Proofs.YtblapgfilbmdhaaGreatDoor.HiA
open Go.RowKit Go.Sort Go.Lib Go.Proofs Plain SynP SynD TabP PolE PolH TblR TblT LwH LwM LwL
def FT (p : Py) : Str := (fr (PT p) 1 (1000 + (PT p).length)).getD 0 []
theorem fr_one (T : List Str) : (fr T 1 (1000 + T.length)).length = 1 := by
  have h := fr_len T 1 (1000 + T.length)
  rcases Nat.lt_or_ge (fr T 1 (1000 + T.length)).length 1 with q | q
  · have := fr_enough T 1 (1000 + T.length) (by omega) (by omega)
    omega
  · omega
theorem fr_eq (p : Py) : fr (PT p) 1 (1000 + (PT p).length) = [FT p] := by
  have h := fr_one (PT p)
  unfold FT
  generalize fr (PT p) 1 (1000 + (PT p).length) = L at *
  match L, h with
  | [x], _ => rfl
def ET (p : Py) : List Str := tab (PT p ++ [FT p])
theorem et_up (p : Py) : (ET p).Pairwise (· < ·) := tab_sorted _
theorem et_mem {p : Py} {x : Str} : x ∈ ET p ↔ x ∈ PT p ∨ x = FT p := by
  unfold ET
  rw [mem_tab, List.mem_append, List.mem_singleton]
theorem et_len (p : Py) : (ET p).length ≤ (PT p).length + 1 := by
  unfold ET
  refine Nat.le_trans (tab_len_le _) ?_
  simp
def rolesAll (E N : List Str) : List Rl := E.flatMap fun a => N.map fun n => ⟨txt a, txt n⟩
def hRoles (p : Py) : List Rl := (rolesAll (ET p) (NT p)).filter fun r => !decide (r ∈ p.grow)
def memP (r : Rl) (x : Str) : St := ⟨1, r, txt x, ⟨⟨#[]⟩, ⟨#[]⟩⟩, ⟨⟨#[]⟩, ⟨#[]⟩⟩, ⟨#[]⟩⟩
def hPairs (p : Py) : List St := (hRoles p).flatMap fun r => (ET p).map (memP r)
def maxS (p : Py) : List St := sortL cmpS [] (p.stmts ++ hPairs p)
theorem flat_len {α β : Type} (f : α → List β) (k : Nat) : ∀ L : List α, (∀ x ∈ L, (f x).length = k) → (L.flatMap f).length = L.length * k
  | [], _ => by simp
  | x :: L, h => by
    rw [List.flatMap_cons, List.length_append, flat_len f k L (fun y hy => h y (by simp [hy])), h x (by simp), List.length_cons, Nat.add_mul]
    omega
theorem all_len (E N : List Str) : (rolesAll E N).length = E.length * N.length := by
  unfold rolesAll
  exact flat_len _ _ E (fun x _ => by simp)
theorem hr_len {p : Py} (h1 : (ET p).length ≤ 7) (h2 : (NT p).length ≤ 4) : (hRoles p).length ≤ 28 := by
  unfold hRoles
  refine Nat.le_trans (List.length_filter_le _ _) ?_
  rw [all_len]
  exact Nat.le_trans (Nat.mul_le_mul h1 h2) (by omega)
theorem hp_len {p : Py} (h1 : (ET p).length ≤ 7) (h2 : (NT p).length ≤ 4) : (hPairs p).length ≤ 196 := by
  unfold hPairs
  rw [flat_len _ (ET p).length (hRoles p) (fun x _ => by simp)]
  exact Nat.le_trans (Nat.mul_le_mul (hr_len h1 h2) h1) (by omega)
theorem mem_all {E N : List Str} {r : Rl} : r ∈ rolesAll E N ↔ bt r.owner ∈ E ∧ bt r.name ∈ N := by
  unfold rolesAll
  rw [List.mem_flatMap]
  constructor
  · rintro ⟨a, ha, h⟩
    obtain ⟨n, hn, rfl⟩ := List.mem_map.1 h
    rw [bt_txt, bt_txt]
    exact ⟨ha, hn⟩
  · rintro ⟨h1, h2⟩
    refine ⟨_, h1, List.mem_map.2 ⟨_, h2, ?_⟩⟩
    rw [txt_bt, txt_bt]
theorem mem_hr {p : Py} {r : Rl} : r ∈ hRoles p ↔ bt r.owner ∈ ET p ∧ bt r.name ∈ NT p ∧ r ∉ p.grow := by
  unfold hRoles
  rw [List.mem_filter, mem_all]
  simp [and_assoc]
theorem mem_hp {p : Py} {s : St} : s ∈ hPairs p ↔ ∃ r ∈ hRoles p, ∃ x ∈ ET p, s = memP r x := by
  unfold hPairs
  rw [List.mem_flatMap]
  constructor
  · rintro ⟨r, hr, h⟩
    obtain ⟨x, hx, rfl⟩ := List.mem_map.1 h
    exact ⟨r, hr, x, hx, rfl⟩
  · rintro ⟨r, hr, x, hx, rfl⟩
    exact ⟨r, hr, List.mem_map.2 ⟨x, hx, rfl⟩⟩
theorem mem_max {p : Py} {s : St} : s ∈ maxS p ↔ s ∈ p.stmts ∨ s ∈ hPairs p := by
  unfold maxS
  rw [sortL_mem]; simp
theorem max_len (p : Py) : (maxS p).length ≤ p.stmts.length + (hPairs p).length := by
  unfold maxS
  have := SynDA.sortL_len (c := cmpS) (p.stmts ++ hPairs p) []
  simpa using this
end Go.Proofs.YtblapgfilbmdhaaGreatDoor.HiA
namespace Go.Proofs.YtblapgfilbmdhaaGreatDoor.Ref1
open Go.RowKit Go.Sort Go.Proofs Plain Leaf Named Tab1 Tab2 Tab3 TabP
theorem xs_small (k : Nat) (h : k < 10) : xs k = [88, UInt8.ofNat (48 + k)] := by unfold xs; rw [Lib.decDigits_one h]
end Go.Proofs.YtblapgfilbmdhaaGreatDoor.Ref1
namespace Go.Proofs.YtblapgfilbmdhaaGreatDoor.Tab8
open Go.RowKit Go.Sort Go.Proofs Plain Named Tab1 Tab2 Tab3 Tab4 Tab5 Tab6 Tab7 TabP Ref1 Laid
structure Tbl (p : Value) (T : List Str) (w : World) : Prop where
  find : ∀ (s : ByteArray) w', Below w.heap.size w w' → Calls Tryz.prog 102 #[p, .string s] w' (FindPost T s.toList w')
  len : ∀ w', Below w.heap.size w w' → Calls Tryz.prog 98 #[p] w' fun e w'' => e = .returned (.int .i64 T.length) ∧ w' = w''
  at_in : ∀ (k : Nat) (h : k < T.length) w', Below w.heap.size w w' → Calls Tryz.prog 56 #[p, .int .i64 k] w' fun e w'' => e = .returned (.string ⟨T[k].toArray⟩) ∧ w' = w''
  at_out : ∀ (i : Int) w', i < 0 ∨ (T.length : Int) ≤ i → Below w.heap.size w w' → Calls Tryz.prog 56 #[p, .int .i64 i] w' fun e w'' => e = .returned (.string ⟨#[]⟩) ∧ w' = w''
  all : ∀ w', Below w.heap.size w w' → Calls Tryz.prog 95 #[p] w' (RowPost T w')
  with_ : ∀ (A : Option Addr) (c : Nat) (U : List Str) w', U.length ≤ 100000 → Below w.heap.size w w' → SRow w' A U → Calls Tryz.prog 93 #[p, .slice A U.length c] w' (NewPost (T ++ U) w')
  fresh : ∀ (n : Int) w', -9223372036854775808 ≤ n → n ≤ 9223372036854775807 → Below w.heap.size w w' → Pow w' → Calls Tryz.prog 131 #[p, .int .i64 n] w' (FreshPost T n w')
theorem Tbl.keep {p : Value} {T : List Str} {w w1 : World} (h : Tbl p T w) (hb : Below w.heap.size w w1) : Tbl p T w1 where
  find s w' h1 := h.find s w' (hb.trans (h1.mono hb.size))
  len w' h1 := h.len w' (hb.trans (h1.mono hb.size))
  at_in k hk w' h1 := h.at_in k hk w' (hb.trans (h1.mono hb.size))
  at_out i w' hi h1 := h.at_out i w' hi (hb.trans (h1.mono hb.size))
  all w' h1 := h.all w' (hb.trans (h1.mono hb.size))
  with_ A c U w' hU h1 hr := h.with_ A c U w' hU (hb.trans (h1.mono hb.size)) hr
  fresh n w' h0 h2 h1 hp := h.fresh n w' h0 h2 (hb.trans (h1.mono hb.size)) hp
theorem Tbl.of {w : World} {B : Nat} {p : Value} {T : List Str} (h : Tab1.TabAt w B p T) (hT : T.length ≤ 100000) (hs : T.Pairwise (· < ·)) : Tbl p T w := by
  obtain ⟨t, v, rfl, _, htb, hown⟩ := h
  obtain ⟨A, c, rfl, _, hrow⟩ := SRow.of_own hown
  have htl : t < w.heap.size := (Array.getElem?_eq_some_iff.1 htb).1
  have hcell : w.cell? ⟨t, 0, none⟩ = some (.slice A T.length c) := by rw [Lib.cell_of_heap htb]; rfl
  have hc : ∀ w', Below w.heap.size w w' → w'.cell? ⟨t, 0, none⟩ = some (.slice A T.length c) := fun w' hb => (hb.cell (p := ⟨t, 0, none⟩) htl).trans hcell
  have hf : ∀ (s : ByteArray) w', Below w.heap.size w w' → Calls Tryz.prog 102 #[.pointer (some ⟨t, 0, none⟩), .string s] w' (FindPost T s.toList w') := fun s w' hb =>
    Tab2.find t T A c s w' (by omega) hs (hrow.keep hb) (Nat.lt_of_lt_of_le htl hb.size) (hc w' hb)
  exact {
    find := hf
    len := fun w' hb => Tab1.len w' t A _ c (hc w' hb)
    at_in := fun k hk w' hb => Tab7.at_in t A T c k w' (hc w' hb) (by omega) (hrow.keep hb) hk
    at_out := fun i w' hi hb => Tab7.at_out t A _ c i w' (hc w' hb) hi
    all := fun w' hb => Tab7.all t A T c w' (hc w' hb) (by omega) (hrow.keep hb)
    with_ := fun A2 c2 U w' hU hb hr => with_row _ A A2 c c2 T U w' hT hU (hrow.keep hb) hr (Tab1.kept w' t _ (hc w' hb))
    fresh := fun n w' h0 h1 hb hp => Tab3.fresh _ T n w' h0 h1 hT hp (pow_lt hp) (fun s w'' hb2 => hf s w'' (hb.trans (hb2.mono hb.size))) }
theorem dec_word (u : Nat) : ∀ c ∈ Lib.decDigits u, wordB c.toNat = true := by
  have hd : ∀ k : Nat, k < 10 → wordB (UInt8.ofNat (48 + k)).toNat = true := by
    intro k hk
    rw [digit_toNat k hk]
    have : digB ((48 + k : Nat) : Int) = true := decide_eq_true ⟨by omega, by omega⟩
    unfold wordB
    rw [this]; simp
  induction u using Nat.strongRecOn with
  | ind u ih =>
    intro c hc
    rw [Lib.decDigits] at hc
    split at hc
    · rename_i h
      rw [List.mem_singleton] at hc
      subst hc
      exact hd u h
    · rename_i h
      rw [List.mem_append, List.mem_singleton] at hc
      rcases hc with hc | hc
      · exact ih (u / 10) (by omega) c hc
      · subst hc
        exact hd (u % 10) (Nat.mod_lt _ (by omega))
theorem pow_le_of_nDigits (k : Nat) (hk : 1 ≤ k) : 10 ^ (Lib.nDigits k - 1) ≤ k := by
  induction k using Nat.strongRecOn with
  | ind k ih =>
    by_cases h : k < 10
    · rw [Lib.nDigits_small h]; simp; omega
    · rw [Lib.nDigits_big h, Nat.add_sub_cancel]
      have h1 := ih (k / 10) (by omega) (by omega)
      have h2 := Lib.nDigits_pos (k / 10)
      rw [show Lib.nDigits (k / 10) = (Lib.nDigits (k / 10) - 1) + 1 from by omega, Nat.pow_succ]
      omega
theorem prin_xs (k : Nat) (h : k < 10000000) (hk : 1 ≤ k) : named capB (xs k) = true := by
  have hl : (Lib.decDigits k).length ≤ 7 := by
    rw [Lib.decDigits_length]
    rcases Nat.lt_or_ge 7 (Lib.nDigits k) with h7 | h7
    · exfalso
      have h1 : 10 ^ (Lib.nDigits k - 1) ≤ k := pow_le_of_nDigits k hk
      have h2 : 10 ^ 7 ≤ 10 ^ (Lib.nDigits k - 1) := Nat.pow_le_pow_right (by omega) (by omega)
      omega
    · exact h7
  unfold named
  have e1 : decide (0 < (xs k).length ∧ (xs k).length ≤ 8) = true := decide_eq_true (by unfold xs; simp; omega)
  have e2 : ((xs k).all fun c => wordB c.toNat) = true := by
    rw [List.all_eq_true]
    intro c hc
    unfold xs at hc
    rw [List.mem_cons] at hc
    rcases hc with hc | hc
    · subst hc; decide
    · exact dec_word k c hc
  rw [e1, e2]
  rfl
end Go.Proofs.YtblapgfilbmdhaaGreatDoor.Tab8
namespace Go.Proofs.YtblapgfilbmdhaaGreatDoor.HiB
open Go.RowKit Go.Sort Go.Lib Go.Proofs Plain SynP TabP Tab1 Tab2 Tab3 Tab5 Tab8 Laid PolA PolE PolG PolH PolOp PolLi TblR TblV LwH HiA
abbrev nx := @LwH.nx
theorem pt_small {p : Py} (hf : Few p) (hc : Came p) : (PT p).length ≤ 20000 := Nat.le_trans (tab_len_le _) (prinsT_len hf hc)
theorem newPT {p : Py} (hf : Few p) (hc : Came p) (A : Option Addr) (c : Nat) (w : World) (h : SRow w A (PT p)) : Calls Tryz.prog 91 #[.slice A (PT p).length c] w fun e w' => ∃ q, e = .returned q ∧ Tbl q (PT p) w' ∧ Below w.heap.size w w' := by
  have hl := pt_small hf hc
  refine (Tab1.new A c (PT p) w (by omega) h).mono ?_
  rintro e w' ⟨q, rfl, ht, hb⟩
  have e1 : tab (PT p) = PT p := tab_tab _
  rw [e1] at ht
  exact ⟨q, rfl, Tbl.of ht (by omega) (LwL.pt_up p), hb⟩
set_option maxHeartbeats 1000000 in
set_option maxRecDepth 100000 in
theorem fresh (p : Py) (A1 A2 A3 A4 : Option Addr) (c1 c2 c3 c4 : Nat) (w : World) (hw : Pow w) (hf : Few p) (hc : Came p) (hp : PG w A1 A2 A3 A4 p) :
    Calls Tryz.prog 94 #[p.val A1 A2 A3 A4 c1 c2 c3 c4] w fun e w' => e = .returned (.string (txt (FT p))) ∧ Below w.heap.size w w' := by
  have HPr := Lib.hid (fun w' (hb : Below w.heap.size w w') => PolH.prins p A1 A2 A3 A4 c1 c2 c3 c4 w' (hf.fit hc) (hp.below hb))
  have HNe := Lib.hid (fun A c w' (h : SRow w' A (PT p)) => newPT hf hc A c w' h)
  have HPw := Lib.hid (fun w' (hb : Below w.heap.size w w') => Pow.keep hw (pow_lt hw) hb)
  have HFr : Hid (∀ q w', Tbl q (PT p) w' → Pow w' → Calls Tryz.prog 131 #[q, .int .i64 1] w' (FreshPost (PT p) 1 w')) := Lib.hid (fun q w' h hq => h.fresh 1 w' (by omega) (by omega) (Below.refl _ _) hq)
  have ef := fr_eq p
  unfold FreshPost at HFr
  rw [ef] at HFr
  have ept : tab (prinsT p) = PT p := rfl
  rw [ept] at HPr
  unfold RowPost at HPr
  have etx : (⟨(FT p).toArray⟩ : ByteArray) = txt (FT p) := rfl
  generalize FT p = X at *
  generalize PT p = PP at *
  obtain ⟨S, G, H, Q⟩ := p
  unfold Py.val at *
  dsimp only at *
  have hbX := (Below.refl w.heap.size w).alloc (Nat.le_refl _) (.cells #[.slice A1 S.length c1, .slice A2 G.length c2, .slice A3 H.length c3, .slice A4 Q.length c4] 26)
  have cs := fun o => Lib.cell_of_heap (heap_alloc_new w (.cells #[.slice A1 S.length c1, .slice A2 G.length c2, .slice A3 H.length c3, .slice A4 Q.length c4] 26)) o
  have HB := Lib.hid hbX
  clear hbX hf hc hp hw ef ept
  go_enter Tryz.func94, Tryz.ntmps94
  go_upto_region 1 with fail
  generalize w.alloc (.cells #[.slice A1 S.length c1, .slice A2 G.length c2, .slice A3 H.length c3, .slice A4 Q.length c4] 26) = w0 at *
  go_wp2_with fail
  refine (HPr.out _ HB.out).mono ?_
  rintro e w1 ⟨v, rfl, ho, hb1⟩
  obtain ⟨A5, k5, rfl, _, hr5⟩ := SRow.of_own ho
  have HB1 := Lib.hid (nx HB.out hb1)
  clear ho hb1 cs HPr
  go_wp2_with fail
  refine (HNe.out _ _ _ hr5).mono ?_
  rintro e w2 ⟨q, rfl, ht, hb2⟩
  have HB2 := Lib.hid (nx HB1.out hb2)
  have HT := Lib.hid ht
  clear hr5 hb2 ht HNe
  go_wp2_with fail
  refine (HFr.out _ _ HT.out (HPw.out _ HB2.out)).mono ?_
  rintro e w3 ⟨v3, rfl, ho3, hb3⟩
  obtain ⟨A6, k6, rfl, _, hr6⟩ := SRow.of_own ho3
  obtain ⟨g, o, rfl, hg, hcl⟩ := hr6 (by simp)
  have y0 : w3.cell? ⟨g, o, none⟩ = some (.string (txt X)) := by have := hcl 0 (by simp); simpa [etx] using this
  have HF := Lib.hid (nx HB2.out hb3)
  clear ho3 hb3 hcl HT HFr HPw
  dsimp only [List.length_cons, List.length_nil]
  go_wp2_with fail
  go_ret
  exact ⟨rfl, HF.out⟩
set_option maxHeartbeats 2000000 in
set_option maxRecDepth 100000 in
theorem everybody (p : Py) (A1 A2 A3 A4 : Option Addr) (c1 c2 c3 c4 : Nat) (w : World) (hw : Pow w) (hf : Few p) (hc : Came p) (hp : PG w A1 A2 A3 A4 p) :
    Calls Tryz.prog 49 #[p.val A1 A2 A3 A4 c1 c2 c3 c4] w (RowPost (ET p) w) := by
  have HPr := Lib.hid (fun w' (hb : Below w.heap.size w w') => PolH.prins p A1 A2 A3 A4 c1 c2 c3 c4 w' (hf.fit hc) (hp.below hb))
  have HNe := Lib.hid (fun A c w' (h : SRow w' A (PT p)) => newPT hf hc A c w' h)
  have HFr := Lib.hid (fun w' (hb : Below w.heap.size w w') => fresh p A1 A2 A3 A4 c1 c2 c3 c4 w' (Pow.keep hw (pow_lt hw) hb) hf hc (hp.below hb))
  have hl := pt_small hf hc
  have HWi : Hid (∀ q w0 w' A c, Tbl q (PT p) w0 → Below w0.heap.size w0 w' → SRow w' A [FT p] → Calls Tryz.prog 93 #[q, .slice A 1 c] w' fun e w'' => ∃ q2, e = .returned q2 ∧ Tbl q2 (ET p) w'' ∧ Below w'.heap.size w' w'') := Lib.hid (fun q w0 w' A c ht hb hr => by
    refine (ht.with_ A c [FT p] w' (by simp) hb hr).mono ?_
    rintro e w'' ⟨q2, rfl, h2, hb2⟩
    exact ⟨q2, rfl, Tbl.of h2 (by have := et_len p; omega) (et_up p), hb2⟩)
  have HAl : Hid (∀ q w', Tbl q (ET p) w' → Calls Tryz.prog 95 #[q] w' (RowPost (ET p) w')) := Lib.hid (fun q w' h => h.all w' (Below.refl _ _))
  have HS1 : Hid (∀ (w' : World), SRow (w'.alloc (.cells #[.string (txt (FT p))] 9)) (some ⟨w'.heap.size, 0, none⟩) [FT p]) := Lib.hid (fun w' _ => ⟨w'.heap.size, 0, rfl, by simp, fun j hj => by
    have : j = 0 := by simp at hj; omega
    subst this
    rw [Lib.cell_of_heap (heap_alloc_new w' _)]; rfl⟩)
  have ept : tab (prinsT p) = PT p := rfl
  rw [ept] at HPr
  unfold RowPost at *
  generalize FT p = X at *
  generalize hET : ET p = EE at *
  generalize PT p = PP at *
  obtain ⟨S, G, H, Q⟩ := p
  unfold Py.val at *
  dsimp only at *
  have hbX := (Below.refl w.heap.size w).alloc (Nat.le_refl _) (.cells #[.slice A1 S.length c1, .slice A2 G.length c2, .slice A3 H.length c3, .slice A4 Q.length c4] 26)
  have hcl := heap_alloc_new w (.cells #[.slice A1 S.length c1, .slice A2 G.length c2, .slice A3 H.length c3, .slice A4 Q.length c4] 26)
  have HB := Lib.hid hbX
  clear hbX hf hc hp hw ept hl hET
  go_enter Tryz.func49, Tryz.ntmps49
  go_upto_region 1 with fail
  obtain ⟨bp, hbp⟩ : ∃ bp, w.heap.size = bp := ⟨_, rfl⟩
  simp only [hbp] at hcl ⊢
  generalize w.alloc (.cells #[.slice A1 S.length c1, .slice A2 G.length c2, .slice A3 H.length c3, .slice A4 Q.length c4] 26) = w0 at *
  have HKK : Hid (∀ w', Below w0.heap.size w0 w' → Below w0.heap.size w0 w' ∧ (∀ o, w'.cell? ⟨bp, o, none⟩ = (#[.slice A1 S.length c1, .slice A2 G.length c2, .slice A3 H.length c3, .slice A4 Q.length c4] : Array Value)[o]?)) := Lib.hid (fun w' hb => ⟨hb, fun o => Lib.cell_of_heap ((hb.block bp (Array.getElem?_eq_some_iff.1 hcl).1).trans hcl) o⟩)
  have hst := HKK.out w0.drew ((Below.refl _ _).drew)
  have M1 := Lib.hid (fun w' (hb' : Below w0.heap.size w0 w') => HPr.out w' (nx HB.out hb'))
  have M2 := Lib.hid (fun w' (hb' : Below w0.heap.size w0 w') => HFr.out w' (nx HB.out hb'))
  have M5 : Hid (∀ q w', Below w0.heap.size w0 w' → Tbl q EE w' → Calls Tryz.prog 95 #[q] w' fun e w'' => ∃ v, e = .returned v ∧ w''.ownsRow w.heap.size 9 1 v EE.length (EE.map encStr) ∧ Below w'.heap.size w' w'') := Lib.hid (fun q w' hb ht => by
    refine (HAl.out q w' ht).mono ?_
    rintro e w'' ⟨v, rfl, ho, hb2⟩
    exact ⟨v, rfl, Tab4.own_base ho (nx HB.out hb).size, hb2⟩)
  clear hcl HPr HFr
  go_region_held3 (fun w' => Below w0.heap.size w0 w' ∧ (∀ o, w'.cell? ⟨bp, o, none⟩ = (#[.slice A1 S.length c1, .slice A2 G.length c2, .slice A3 H.length c3, .slice A4 Q.length c4] : Array Value)[o]?))
    (first | with_reducible exact hst | with_reducible assumption | exact HKK.out _ (nx (by apply And.left; with_reducible assumption) (by with_reducible assumption)) | exact HKK.out _ (nx (by apply And.left; with_reducible assumption) (LwL.below_alloc _ _)))
    (first | ((with_reducible refine (M1.out _ (by apply And.left; with_reducible assumption)).mono ?_); rintro e x1 ⟨v1, rfl, ho1, hb1⟩; obtain ⟨Q1, q1, rfl, _, hr1⟩ := SRow.of_own ho1)
           | ((with_reducible refine (HNe.out _ _ _ (by first | with_reducible exact hr1 | exact hr1.keep hb2 | exact hr1.keep (LwL.below_alloc _ _) | exact hr1.keep (nx hb2 (LwL.below_alloc _ _)))).mono ?_); rintro e x3 ⟨qt, rfl, ht, hb3⟩)
           | ((with_reducible refine (M2.out _ (by apply And.left; with_reducible assumption)).mono ?_); rintro e x2 ⟨rfl, hb2⟩)
           | ((with_reducible refine (HWi.out _ x3 _ _ _ ht (by first | exact LwL.below_alloc _ _ | exact nx hb2 (LwL.below_alloc _ _) | exact hb2 | exact Below.refl _ _) (by first | exact HS1.out _ | exact (HS1.out _).keep hb3 | exact (HS1.out _).keep hb1 | exact (HS1.out _).keep (nx hb1 hb3))).mono ?_); rintro e x4 ⟨q2, rfl, ht2, hb4⟩)
           | ((with_reducible refine (M5.out _ _ (by apply And.left; with_reducible assumption) ht2).mono ?_); rintro e x5 ⟨v5, rfl, ho5, hb5⟩))
  all_goals rename_i hHeld
  all_goals (have HO := Lib.hid ho5; have HF := Lib.hid (nx HB.out hHeld.1); clear hHeld ho5; go_wp2_with fail; go_ret; exact ⟨_, rfl, by first | exact HO.out | (rw [← hbp]; exact HO.out), by first | exact HF.out | (rw [← hbp]; exact HF.out)⟩)
end Go.Proofs.YtblapgfilbmdhaaGreatDoor.HiB
namespace Go.Proofs.YtblapgfilbmdhaaGreatDoor.StH
open Go.Shelf Go.RowKit Go.Sort Go.Lib Go.Proofs Plain SynP Grown SynC SynD SynD2 SynD3 QryP PolA PolE StA StB StC StD StE StF StG
end Go.Proofs.YtblapgfilbmdhaaGreatDoor.StH
namespace Go.Proofs.YtblapgfilbmdhaaGreatDoor.StI
open Go.Shelf Go.RowKit Go.Sort Go.Lib Go.Proofs Plain SynP Grown SynC SynD SynD2 SynD3 QryP PolA PolE StA StB StC StD StE StF StG StH
theorem sg_own {w : World} {B : Nat} {v : Value} {T : List St} (h : w.ownsRow B 67 9 v T.length (stCells T)) : ∃ A c, v = .slice A T.length c ∧ SG w A T := by
  obtain ⟨A, c, e, _, hr⟩ := StRow.of_own h
  exact ⟨A, c, e, SG.of_row hr⟩
end Go.Proofs.YtblapgfilbmdhaaGreatDoor.StI
namespace Go.Proofs.YtblapgfilbmdhaaGreatDoor.LwF
open Go.RowKit Go.Sort Go.Lib Go.Proofs Plain SynP SynD2 PolA PolE PolG StI LwA LwC LwG
theorem new_cells (w : World) (C : Array Value) (t : TypeId) : ∀ j u, C.toList[j]? = some u → (w.alloc (.cells C t)).cell? ((⟨w.heap.size, 0, none⟩ : Addr).add j) = some u := by
  intro j u hu
  rw [LwA.add_off, Nat.zero_add, Lib.cell_of_heap (heap_alloc_new w _) j, ← hu]
  simp
end Go.Proofs.YtblapgfilbmdhaaGreatDoor.LwF
