/- Who follows by a statement to be in its head, of what was found, by contract. -/
import Derived.Test.YtblapgfilbmdhaaGreatDoorM33
import Derived.Test.YtblapgfilbmdhaaGreatDoorM12
import Derived.Test.YtblapgfilbmdhaaGreatDoorM20
import Derived.Test.YtblapgfilbmdhaaGreatDoorM26
import Derived.Test.YtblapgfilbmdhaaGreatDoorM27
set_option linter.unusedVariables false
set_option linter.unusedSimpArgs false
namespace Go.Proofs.YtblapgfilbmdhaaGreatDoor.LwC
open Go.RowKit Go.Sort Go.Lib Go.Proofs Plain SynP Tab3 Tab4 PolG LwA LwB
theorem below_own {a w w1 : World} {e : TypeId} {size n B C : Nat} {v : Value} {xs : List Value} {o : Obj} (hb : Below C a w) (hB : C ≤ B) (hown : w.ownsRow B e size v n xs) (hg : (w.alloc o).grownBy w1 v.ownBlock) (hC : C ≤ w.heap.size) : Below C a w1 :=
  (hb.alloc hC o).grown hg (by simp; omega) (fun k hk => by have := (hown.lt k hk).1; omega)
theorem keep_block {w w5 : World} {o : Obj} {B k n : Nat} {e t : TypeId} {v : Value} {xs : List Value} {c : Array Value} {px : Nat} (hown : w.ownsRow B e k v n xs) (hp : w.heap[px]? = some (.cells c t)) (ht : t ≠ e) (hg : (w.alloc o).grownBy w5 v.ownBlock) : w5.heap[px]? = some (.cells c t) := by
  have hlt : px < w.heap.size := (Array.getElem?_eq_some_iff.1 hp).1
  refine (hg.block px (by simp; omega) ?_).trans ((((Below.refl w.heap.size w).alloc (Nat.le_refl _) o).block px hlt).trans hp)
  intro e'
  rcases hown.2 with ⟨rfl, _⟩ | ⟨g, cap, cur, rfl, _, hg2, _⟩
  · simp [Value.ownBlock] at e'
  · simp only [Value.ownBlock, Option.some.injEq] at e'
    subst e'
    rw [hp] at hg2
    injection hg2 with hg2
    injection hg2 with _ h2 _
    exact ht h2
end Go.Proofs.YtblapgfilbmdhaaGreatDoor.LwC
namespace Go.Proofs.YtblapgfilbmdhaaGreatDoor.LwD
open Go.RowKit Go.Sort Go.Lib Go.Proofs Plain SynP Tab3 Tab4 PolE PolG LwA LwB LwC
structure Ev (S : List St) (L : List Pa) : Prop where
  nd : L.Nodup
  snd : ∀ p ∈ L, DerN S p.role p.who
  grd : ∀ p ∈ L, p ∈ gridN S
theorem Ev.nil (S : List St) : Ev S [] := ⟨List.nodup_nil, fun p h => absurd h (by simp), fun p h => absurd h (by simp)⟩
theorem Ev.len {S : List St} {L : List Pa} (h : Ev S L) : L.length ≤ S.length * S.length := by
  rw [← grid_len]
  exact len_sub h.nd h.grd
theorem Ev.put {S : List St} {L : List Pa} (h : Ev S L) {p : Pa} (hp : p ∉ L) (hd : DerN S p.role p.who) (hg : p ∈ gridN S) : Ev S (L ++ [p]) :=
  ⟨List.nodup_append.2 ⟨h.nd, by simp, fun a ha b hb => by
      simp at hb
      subst hb
      rintro rfl
      exact hp ha⟩,
    fun q hq => by
      rcases List.mem_append.1 hq with h1 | h1
      · exact h.snd q h1
      · simp at h1; subst h1; exact hd,
    fun q hq => by
      rcases List.mem_append.1 hq with h1 | h1
      · exact h.grd q h1
      · simp at h1; subst h1; exact hg⟩
def Cl (S : List St) (L : List Pa) : Prop := ∀ s ∈ S, ∀ x ∈ follows L s, (⟨s.head, x⟩ : Pa) ∈ L
theorem Ev.all {S : List St} {L : List Pa} (h : Ev S L) (hc : Cl S L) (r : Rl) (x : ByteArray) : (⟨r, x⟩ : Pa) ∈ L ↔ DerN S r x := ⟨fun hm => h.snd _ hm, fun d => closed hc d⟩
theorem keep_own {w w5 : World} {o : Obj} {B k n B2 k2 n2 : Nat} {e e2 : TypeId} {v v2 : Value} {xs xs2 : List Value} (hown : w.ownsRow B e k v n xs) (hf : w.ownsRow B2 e2 k2 v2 n2 xs2) (ht : e2 ≠ e) (hg : (w.alloc o).grownBy w5 v.ownBlock) : w5.ownsRow B2 e2 k2 v2 n2 xs2 := by
  refine ⟨hf.1, ?_⟩
  rcases hf.2 with h | ⟨g, cap, cur, e1, hb, hg2, hr⟩
  · exact .inl h
  · exact .inr ⟨g, cap, cur, e1, hb, keep_block hown hg2 ht hg, hr⟩
end Go.Proofs.YtblapgfilbmdhaaGreatDoor.LwD
namespace Go.Proofs.YtblapgfilbmdhaaGreatDoor.LwE
open Go.RowKit Go.Sort Go.Lib Go.Proofs Plain SynP TabP Tab1 Tab3 Tab4 Tab5 PolG PolH RefPr LwA LwB LwC
def insideB (a b : List Str) : Bool := decide (∀ x ∈ a, x ∈ b)
set_option maxHeartbeats 1000000 in
set_option maxRecDepth 100000 in
theorem insideN (A B : Option Addr) (ca cb : Nat) (T U : List Str) (w : World) (hT : T.length ≤ 1000000) (hU : U.length ≤ 1000000) (hA : SRow w A T) (hB : SRow w B U) :
    Calls Tryz.prog 17 #[.slice A T.length ca, .slice B U.length cb] w fun e w' => e = .returned (.bool (insideB T U)) ∧ w = w' := by
  have HH := Lib.hid (fun s => Tab3.has B cb U s w (by omega) hB)
  have HA := Lib.hid hA
  obtain ⟨ans, hans⟩ : ∃ a, insideB T U = a := ⟨_, rfl⟩
  rw [hans]
  have HAn := Lib.hid hans
  clear hA hB hans
  go_enter Tryz.func17, Tryz.ntmps17
  go_wp2_with fail
  go_loopw [9] (fun i wr => ∃ k : Nat, k ≤ T.length ∧ i = .int .i64 k ∧ Hid (∀ x ∈ T.take k, x ∈ U) ∧ wr = w) (fun i _ => T.length - (intOf i).toNat)
  case atStart => exact ⟨0, by omega, rfl, Lib.hid (by simp), rfl⟩
  case round =>
    obtain ⟨k, hk, rfl, hin, rfl⟩ := hrel
    by_cases hlt : k < T.length
    · have d1 : decide ((k : Int) < T.length) = true := by simp; omega
      obtain ⟨g, o, rfl, hg, hc⟩ := HA.out (by omega)
      have y0 := hc k hlt
      have HTk : Hid (T.take (k + 1) = T.take k ++ [T[k]]) := Lib.hid (List.take_succ_eq_append_getElem hlt)
      have HMe := Lib.hid (List.getElem_mem (l := T) (n := k) hlt)
      have p1 : (0 : Int) ≤ k := by omega
      have p2 : (k : Int) < T.length := by omega
      clear hc
      generalize T[k] = x at *
      have hx : (⟨x.toArray⟩ : ByteArray).toList = x := by rw [Go.ByteArray.toList_eq]
      have H1 := Lib.hid (HH.out ⟨x.toArray⟩)
      rw [hx] at H1
      clear hx
      by_cases hm : x ∈ U
      · rw [decide_eq_true hm] at H1
        have HN : Hid (∀ y ∈ T.take (k + 1), y ∈ U) := Lib.hid (fun y hy => by
          rw [HTk.out, List.mem_append, List.mem_singleton] at hy
          rcases hy with hy | rfl
          · exact hin.out y hy
          · exact hm)
        clear hm hin HTk
        go_wp2_with fail
        refine H1.out.mono ?_
        rintro e w1 ⟨rfl, rfl⟩
        clear H1
        go_wp2_with fail
        go_roundw
        case rel => exact ⟨k + 1, by omega, by go_num, HN, trivial⟩
        case measure => simp [intOf]; omega
      · rw [decide_eq_false hm] at H1
        have HF : Hid (ans = false) := Lib.hid (by
          rw [← HAn.out]
          unfold insideB
          exact decide_eq_false (fun h => hm (h x HMe.out)))
        clear hm hin HTk
        go_wp2_with fail
        refine H1.out.mono ?_
        rintro e w1 ⟨rfl, rfl⟩
        clear H1
        go_wp2_with fail
        go_ret
        exact ⟨ret_bool HF.out.symm, rfl⟩
    · have d1 : decide ((k : Int) < T.length) = false := by simp; omega
      have hkT : k = T.length := by omega
      subst hkT
      have HF : Hid (ans = true) := Lib.hid (by
        rw [← HAn.out]
        unfold insideB
        exact decide_eq_true (fun x hx => hin.out x (by rw [List.take_length]; exact hx)))
      clear hin
      go_wp2_with fail
      go_ret
      exact ⟨ret_bool HF.out.symm, rfl⟩
end Go.Proofs.YtblapgfilbmdhaaGreatDoor.LwE
namespace Go.Proofs.YtblapgfilbmdhaaGreatDoor.TblT
open Go.RowKit Go.Sort Go.Lib Go.Proofs Plain SynP TabP Tab1 Tab2 TblA TblB TblC TblF TblP TblQ TblR
theorem txt_toList (l : Str) : (txt l).toList = l := by unfold txt; rw [Go.ByteArray.toList_eq]
theorem txt_of (s : ByteArray) : txt s.toList = s := by unfold txt; rw [Go.ByteArray.toList_eq]
theorem findI_get {T : List Str} {s : Str} (h : 0 ≤ findI T s) : (findI T s).toNat < T.length ∧ T.getD (findI T s).toNat [] = s := by
  unfold findI at *
  by_cases hm : s ∈ T
  · rw [if_pos hm] at h ⊢
    have hlt := List.idxOf_lt_length_iff.2 hm
    rw [Int.toNat_natCast, List.getD_eq_getElem?_getD, List.getElem?_eq_getElem hlt]
    exact ⟨hlt, List.getElem_idxOf hlt⟩
  · rw [if_neg hm] at h; omega
theorem role_get {P L : List Str} {r : Rl} (h : 0 ≤ roleI P L r) : roleI P L r < ((P.length * L.length : Nat) : Int) ∧ rolI P L (roleI P L r) = r := by
  have hbd := roleI_bd P L r
  have hlt : roleI P L r < ((P.length * L.length : Nat) : Int) := by rw [Int.natCast_mul]; omega
  refine ⟨hlt, ?_⟩
  unfold rolI
  rw [if_pos ⟨h, hlt⟩]
  unfold roleI at *
  by_cases hh : findI P r.owner.toList < 0 ∨ findI L r.name.toList < 0
  · rw [if_pos hh] at h; omega
  · rw [if_neg hh] at h hlt ⊢
    obtain ⟨a1, a2⟩ := findI_get (T := P) (s := r.owner.toList) (by omega)
    obtain ⟨b1, b2⟩ := findI_get (T := L) (s := r.name.toList) (by omega)
    have hx : 0 ≤ findI P r.owner.toList := by omega
    have hy : 0 ≤ findI L r.name.toList := by omega
    generalize findI P r.owner.toList = x at *
    generalize findI L r.name.toList = y at *
    obtain ⟨i, rfl⟩ : ∃ i : Nat, x = i := ⟨x.toNat, by omega⟩
    obtain ⟨j, rfl⟩ : ∃ i : Nat, y = i := ⟨y.toNat, by omega⟩
    rw [Int.toNat_natCast] at a1 a2 b1 b2
    have e : ((i : Int) * (L.length : Int) + (j : Int)).toNat = i * L.length + j := by
      rw [← Int.natCast_mul, ← Int.natCast_add, Int.toNat_natCast]
    rw [e]
    have hdiv : (i * L.length + j) / L.length = i := by
      rw [Nat.mul_comm, Nat.mul_add_div (by omega), Nat.div_eq_of_lt b1, Nat.add_zero]
    have hmod : (i * L.length + j) % L.length = j := by
      rw [Nat.mul_comm, Nat.mul_add_mod, Nat.mod_eq_of_lt b1]
    rw [hdiv, hmod, a2, b2, txt_of, txt_of]
theorem own_of_right {s : St} (h : s.right = true) : s.head.ok = true ∧ s.says = true ∧ s = s.own := by
  unfold St.right at h
  rw [Bool.and_eq_true, Bool.and_eq_true] at h
  exact ⟨h.1.1, h.1.2, of_decide_eq_true h.2⟩
theorem inB_of {n x : Int} (h : 0 ≤ x) (h2 : x < n) : inB n x = true := by unfold inB; exact decide_eq_true ⟨h, h2⟩
theorem one_in {n x : Int} : allB n [x] = inB n x := by simp [allB]
theorem three_in {n x y z : Int} : allB n [x, y, z] = (inB n x && (inB n y && inB n z)) := by simp [allB]
theorem decb {a : Int} (h : decide (0 ≤ a) = true) : 0 ≤ a := of_decide_eq_true h
theorem there {P L : List Str} {s : St} (h : ruleOk P L s = true) : rightU P.length L.length (ruleV P L s) = true ∧ stA P L (ruleV P L s) = s := by
  unfold ruleOk at h
  rw [Bool.and_eq_true, Bool.and_eq_true] at h
  obtain ⟨⟨hr, hh⟩, hrest⟩ := h
  obtain ⟨h1, h2, h3⟩ := own_of_right hr
  have hh := decb hh
  obtain ⟨a1, a2⟩ := role_get hh
  have hk := kind_of_right hr
  obtain ⟨k, hd, wh, ra, rb, v⟩ := s
  simp only at hh a1 a2 hk h1
  have hn : 0 < P.length ∧ 0 < L.length := by
    constructor
    · rcases Nat.eq_zero_or_pos P.length with h0 | h0
      · rw [h0, Nat.zero_mul] at a1; omega
      · exact h0
    · rcases Nat.eq_zero_or_pos L.length with h0 | h0
      · rw [h0, Nat.mul_zero] at a1; omega
      · exact h0
  have hz : inB ((P.length * L.length : Nat) : Int) 0 = true := inB_of (by omega) (by have := Nat.mul_pos hn.1 hn.2; omega)
  have hzP : inB (P.length : Int) 0 = true := inB_of (by omega) (by omega)
  have hzL : inB (L.length : Int) 0 = true := inB_of (by omega) (by omega)
  have hH := inB_of hh a1
  rcases hk with rfl | rfl | rfl | rfl
  · have hw : 0 ≤ findI P wh.toList := decb hrest
    obtain ⟨b1, b2⟩ := findI_get hw
    have hv : ruleV P L ⟨1, hd, wh, ra, rb, v⟩ = ⟨1, roleI P L hd, findI P wh.toList, 0, 0, 0⟩ := rfl
    have hR : rightU P.length L.length ⟨1, roleI P L hd, findI P wh.toList, 0, 0, 0⟩ = true := by
      unfold rightU
      rw [three_in, one_in, one_in]
      simp only
      rw [hH, hz, hzL, inB_of hw (by omega)]
      simp [bareK, bareU]
    rw [hv]
    refine ⟨hR, ?_⟩
    unfold stA
    rw [hR, if_pos rfl]
    have hs : stU P L ⟨1, roleI P L hd, findI P wh.toList, 0, 0, 0⟩ = ⟨1, rolI P L (roleI P L hd), txt (P.getD (findI P wh.toList).toNat []), zeroR, zeroR, noText⟩ := rfl
    rw [hs, a2, b2, txt_of, h3]
    rfl
  · have ha : 0 ≤ roleI P L ra := decb hrest
    obtain ⟨b1, b2⟩ := role_get ha
    have hv : ruleV P L ⟨2, hd, wh, ra, rb, v⟩ = ⟨2, roleI P L hd, 0, roleI P L ra, 0, 0⟩ := rfl
    have hR : rightU P.length L.length ⟨2, roleI P L hd, 0, roleI P L ra, 0, 0⟩ = true := by
      unfold rightU
      rw [three_in, one_in, one_in]
      simp only
      rw [hH, hz, hzL, hzP, inB_of ha b1]
      simp [bareK, bareU]
    rw [hv]
    refine ⟨hR, ?_⟩
    unfold stA
    rw [hR, if_pos rfl]
    have hs : stU P L ⟨2, roleI P L hd, 0, roleI P L ra, 0, 0⟩ = ⟨2, rolI P L (roleI P L hd), noText, rolI P L (roleI P L ra), zeroR, noText⟩ := rfl
    rw [hs, a2, b2, h3]
    rfl
  · have hrest2 : (decide (0 ≤ findI L v.toList) && decide (0 ≤ roleI P L ra)) = true := hrest
    rw [Bool.and_eq_true] at hrest2
    have hw : 0 ≤ findI L v.toList := decb hrest2.1
    have ha : 0 ≤ roleI P L ra := decb hrest2.2
    obtain ⟨b1, b2⟩ := role_get ha
    obtain ⟨c1, c2⟩ := findI_get hw
    have hv : ruleV P L ⟨3, hd, wh, ra, rb, v⟩ = ⟨3, roleI P L hd, 0, roleI P L ra, 0, findI L v.toList⟩ := rfl
    have hR : rightU P.length L.length ⟨3, roleI P L hd, 0, roleI P L ra, 0, findI L v.toList⟩ = true := by
      unfold rightU
      rw [three_in, one_in, one_in]
      simp only
      rw [hH, hz, hzP, inB_of ha b1, inB_of hw (by omega)]
      simp [bareK, bareU]
    rw [hv]
    refine ⟨hR, ?_⟩
    unfold stA
    rw [hR, if_pos rfl]
    have hs : stU P L ⟨3, roleI P L hd, 0, roleI P L ra, 0, findI L v.toList⟩ = ⟨3, rolI P L (roleI P L hd), noText, rolI P L (roleI P L ra), zeroR, txt (L.getD (findI L v.toList).toNat [])⟩ := rfl
    rw [hs, a2, b2, c2, txt_of, h3]
    rfl
  · have hrest2 : (decide (0 ≤ roleI P L ra) && decide (0 ≤ roleI P L rb)) = true := hrest
    rw [Bool.and_eq_true] at hrest2
    have ha : 0 ≤ roleI P L ra := decb hrest2.1
    have hb : 0 ≤ roleI P L rb := decb hrest2.2
    obtain ⟨b1, b2⟩ := role_get ha
    obtain ⟨c1, c2⟩ := role_get hb
    have hv : ruleV P L ⟨4, hd, wh, ra, rb, v⟩ = ⟨4, roleI P L hd, 0, roleI P L ra, roleI P L rb, 0⟩ := rfl
    have hR : rightU P.length L.length ⟨4, roleI P L hd, 0, roleI P L ra, roleI P L rb, 0⟩ = true := by
      unfold rightU
      rw [three_in, one_in, one_in]
      simp only
      rw [hH, hzL, hzP, inB_of ha b1, inB_of hb c1]
      simp [bareK, bareU]
    rw [hv]
    refine ⟨hR, ?_⟩
    unfold stA
    rw [hR, if_pos rfl]
    have hs : stU P L ⟨4, roleI P L hd, 0, roleI P L ra, roleI P L rb, 0⟩ = ⟨4, rolI P L (roleI P L hd), noText, rolI P L (roleI P L ra), rolI P L (roleI P L rb), noText⟩ := rfl
    have h2' : (ra.ok && rb.ok && !decide (cmpR rb ra < 0)) = true := h2
    rw [Bool.and_eq_true] at h2'
    have hcmp : ¬ cmpR rb ra < 0 := by simpa using h2'.2
    rw [hs, a2, b2, c2, h3]
    show St.normal ⟨4, hd, noText, ra, rb, noText⟩ = ⟨4, hd, noText, ra, rb, noText⟩
    unfold St.normal
    rw [if_neg (by rintro ⟨_, h⟩; exact hcmp h)]
end Go.Proofs.YtblapgfilbmdhaaGreatDoor.TblT
namespace Go.Proofs.YtblapgfilbmdhaaGreatDoor.LwM
open Go.RowKit Go.Sort Go.Lib Go.Proofs Plain SynP SynJ TabP Tab2 PolA PolE PolG PolH RefPr TblA TblC TblF TblP TblQ TblR TblT TblW SemA SemGa LwA LwE LwG LwH
theorem findI_nn {T : List Str} {s : Str} (h : s ∈ T) : 0 ≤ findI T s := by
  unfold findI
  rw [if_pos h]; omega
theorem roleI_nn {P L : List Str} {r : Rl} (h1 : r.owner.toList ∈ P) (h2 : r.name.toList ∈ L) : 0 ≤ roleI P L r := by
  have a := findI_nn h1
  have b := findI_nn h2
  unfold roleI
  rw [if_neg (by omega)]
  exact Int.add_nonneg (Int.mul_nonneg a (by omega)) b
theorem roleI_eq {P L : List Str} {r : Rl} (h : 0 ≤ roleI P L r) : roleI P L r = findI P r.owner.toList * L.length + findI L r.name.toList ∧ 0 ≤ findI P r.owner.toList ∧ 0 ≤ findI L r.name.toList := by
  unfold roleI at *
  by_cases hh : findI P r.owner.toList < 0 ∨ findI L r.name.toList < 0
  · rw [if_pos hh] at h; omega
  · rw [if_neg hh] at h ⊢
    exact ⟨rfl, by omega, by omega⟩
def AllOk (P L : List Str) (S : List St) : Prop := ∀ s ∈ S, ruleOk P L s = true
theorem ok_parts {P L : List Str} {s : St} (h : ruleOk P L s = true) : 0 ≤ roleI P L s.head ∧ (s.kind = 1 → 0 ≤ findI P s.who.toList) ∧ (s.kind ≠ 1 → 0 ≤ roleI P L s.a) ∧ (s.kind = 4 → 0 ≤ roleI P L s.b) ∧ (s.kind = 3 → 0 ≤ findI L s.via.toList) := by
  unfold ruleOk at h
  simp only [Bool.and_eq_true, decide_eq_true_eq] at h
  obtain ⟨⟨_, h1⟩, h2⟩ := h
  refine ⟨h1, ?_⟩
  unfold restOk at h2
  by_cases k1 : s.kind = 1
  · simp only [k1, if_true, decide_eq_true_eq] at h2
    exact ⟨fun _ => h2, fun h => absurd k1 h, fun h => by omega, fun h => by omega⟩
  · rw [if_neg k1] at h2
    by_cases k3 : s.kind = 3
    · rw [if_pos k3] at h2
      simp only [Bool.and_eq_true, decide_eq_true_eq] at h2
      exact ⟨fun h => absurd h k1, fun _ => h2.2, fun h => by omega, fun _ => h2.1⟩
    · rw [if_neg k3] at h2
      by_cases k4 : s.kind = 4
      · rw [if_pos k4] at h2
        simp only [Bool.and_eq_true, decide_eq_true_eq] at h2
        exact ⟨fun h => absurd h k1, fun _ => h2.1, fun _ => h2.2, fun h => absurd h k3⟩
      · rw [if_neg k4] at h2
        exact ⟨fun h => absurd h k1, fun _ => of_decide_eq_true h2, fun h => absurd h k4, fun h => absurd h k3⟩
theorem rulesOf_eq {P L : List Str} {S : List St} (h : AllOk P L S) : rulesOf P L S = S.map (ruleV P L) := by
  unfold rulesOf rulesT
  rw [List.take_length, List.filter_eq_self.2 h]
theorem rules_right {P L : List Str} {S : List St} (h : AllOk P L S) : (rulesOf P L S).filter (rightU P.length L.length) = S.map (ruleV P L) := by
  rw [rulesOf_eq h]
  refine List.filter_eq_self.2 fun u hu => ?_
  obtain ⟨s, hs, rfl⟩ := List.mem_map.1 hu
  exact (there (h s hs)).1
theorem to_num {P L : List Str} {S : List St} (h : AllOk P L S) {r : Rl} {x : ByteArray} (d : DerN S r x) : 0 ≤ roleI P L r ∧ 0 ≤ findI P x.toList ∧ Der L.length (S.map (ruleV P L)) (roleI P L r) (findI P x.toList) := by
  induction d with
  | mem s hs hk =>
    obtain ⟨h0, h1, _, _, _⟩ := ok_parts (h s hs)
    have hd : Der L.length (S.map (ruleV P L)) (ruleV P L s).head (ruleV P L s).who := Der.mem (ruleV P L s) (List.mem_map.2 ⟨s, hs, rfl⟩) hk
    have e : (ruleV P L s).who = findI P s.who.toList := by unfold ruleV; simp [hk]
    rw [e] at hd
    exact ⟨h0, h1 hk, hd⟩
  | incl s x hs hk _ ih =>
    obtain ⟨h0, _, _, _, _⟩ := ok_parts (h s hs)
    refine ⟨h0, ih.2.1, Der.incl (ruleV P L s) _ (List.mem_map.2 ⟨s, hs, rfl⟩) hk ?_⟩
    have e : (ruleV P L s).a = roleI P L s.a := by unfold ruleV; simp [hk]
    rw [e]; exact ih.2.2
  | link s x y hs hk _ _ i1 i2 =>
    obtain ⟨h0, _, _, _, h4⟩ := ok_parts (h s hs)
    refine ⟨h0, i2.2.1, Der.link (ruleV P L s) (findI P x.toList) _ (List.mem_map.2 ⟨s, hs, rfl⟩) hk ?_ ?_⟩
    · have e : (ruleV P L s).a = roleI P L s.a := by unfold ruleV; simp [hk]
      rw [e]; exact i1.2.2
    · have e : (ruleV P L s).via = findI L s.via.toList := by unfold ruleV; simp [hk]
      rw [e, ← (roleI_eq i2.1).1]
      exact i2.2.2
  | both s x hs hk _ _ i1 i2 =>
    obtain ⟨h0, _, _, _, _⟩ := ok_parts (h s hs)
    refine ⟨h0, i1.2.1, Der.both (ruleV P L s) _ (List.mem_map.2 ⟨s, hs, rfl⟩) hk ?_ ?_⟩
    · have e : (ruleV P L s).a = roleI P L s.a := by unfold ruleV; simp [hk]
      rw [e]; exact i1.2.2
    · have e : (ruleV P L s).b = roleI P L s.b := by unfold ruleV; simp [hk]
      rw [e]; exact i2.2.2
theorem rolI_at {P L : List Str} {x y : Nat} (hx : x < P.length) (hy : y < L.length) : rolI P L ((x : Int) * L.length + y) = ⟨txt (P.getD x []), txt (L.getD y [])⟩ := by
  have hlt : x * L.length + y < P.length * L.length := by
    have : (x + 1) * L.length ≤ P.length * L.length := Nat.mul_le_mul_right _ hx
    rw [Nat.add_mul, Nat.one_mul] at this
    omega
  have e : ((x : Int) * L.length + y) = ((x * L.length + y : Nat) : Int) := by rw [Int.natCast_add, Int.natCast_mul]
  unfold rolI
  rw [e, if_pos ⟨by omega, by omega⟩, Int.toNat_natCast]
  have hdiv : (x * L.length + y) / L.length = x := by
    rw [Nat.mul_comm, Nat.mul_add_div (by omega), Nat.div_eq_of_lt hy, Nat.add_zero]
  have hmod : (x * L.length + y) % L.length = y := by
    rw [Nat.mul_comm, Nat.mul_add_mod, Nat.mod_eq_of_lt hy]
  rw [hdiv, hmod]
theorem to_name {P L : List Str} {S : List St} (h : AllOk P L S) {i j : Int} (d : Der L.length (S.map (ruleV P L)) i j) : 0 ≤ i ∧ (∃ n : Nat, j = n ∧ n < P.length) ∧ DerN S (rolI P L i) (txt (P.getD j.toNat [])) := by
  induction d with
  | mem u hu hk =>
    obtain ⟨s, hs, rfl⟩ := List.mem_map.1 hu
    have hk' : s.kind = 1 := hk
    obtain ⟨h0, h1, _, _, _⟩ := ok_parts (h s hs)
    have e : (ruleV P L s).who = findI P s.who.toList := by unfold ruleV; simp [hk']
    obtain ⟨g1, g2⟩ := findI_get (h1 hk')
    have e2 : (ruleV P L s).head = roleI P L s.head := rfl
    rw [e, e2, (role_get h0).2, g2, txt_of]
    exact ⟨h0, ⟨_, by have := h1 hk'; omega, g1⟩, .mem s hs hk'⟩
  | incl u x hu hk _ ih =>
    obtain ⟨s, hs, rfl⟩ := List.mem_map.1 hu
    have hk' : s.kind = 2 := hk
    obtain ⟨h0, _, h2, _, _⟩ := ok_parts (h s hs)
    have e : (ruleV P L s).a = roleI P L s.a := by unfold ruleV; simp [hk']
    have e2 : (ruleV P L s).head = roleI P L s.head := rfl
    rw [e, (role_get (h2 (by omega))).2] at ih
    rw [e2, (role_get h0).2]
    exact ⟨h0, ih.2.1, .incl s _ hs hk' ih.2.2⟩
  | link u x y hu hk _ _ i1 i2 =>
    obtain ⟨s, hs, rfl⟩ := List.mem_map.1 hu
    have hk' : s.kind = 3 := hk
    obtain ⟨h0, _, h2, _, h4⟩ := ok_parts (h s hs)
    have e : (ruleV P L s).a = roleI P L s.a := by unfold ruleV; simp [hk']
    have ev : (ruleV P L s).via = findI L s.via.toList := by unfold ruleV; simp [hk']
    have e2 : (ruleV P L s).head = roleI P L s.head := rfl
    obtain ⟨g1, g2⟩ := findI_get (h4 hk')
    rw [e, (role_get (h2 (by omega))).2] at i1
    obtain ⟨_, ⟨n, rfl, hn⟩, d1⟩ := i1
    rw [ev] at i2
    have ef : findI L s.via.toList = (((findI L s.via.toList).toNat : Nat) : Int) := by have := h4 hk'; omega
    rw [ef, rolI_at hn g1, g2, txt_of] at i2
    rw [Int.toNat_natCast] at d1
    rw [e2, (role_get h0).2]
    exact ⟨h0, i2.2.1, .link s _ _ hs hk' d1 i2.2.2⟩
  | both u x hu hk _ _ i1 i2 =>
    obtain ⟨s, hs, rfl⟩ := List.mem_map.1 hu
    have hk' : s.kind = 4 := hk
    obtain ⟨h0, _, h2, h3, _⟩ := ok_parts (h s hs)
    have e : (ruleV P L s).a = roleI P L s.a := by unfold ruleV; simp [hk']
    have eb : (ruleV P L s).b = roleI P L s.b := by unfold ruleV; simp [hk']
    have e2 : (ruleV P L s).head = roleI P L s.head := rfl
    rw [e, (role_get (h2 (by omega))).2] at i1
    rw [eb, (role_get (h3 hk')).2] at i2
    rw [e2, (role_get h0).2]
    exact ⟨h0, i1.2.1, .both s _ hs hk' i1.2.2 i2.2.2⟩
theorem der_iff {P L : List Str} {S : List St} (hP : P.Pairwise (· < ·)) (h : AllOk P L S) {r : Rl} (hr : 0 ≤ roleI P L r) {k : Nat} (hk : k < P.length) : Der L.length (S.map (ruleV P L)) (roleI P L r) k ↔ DerN S r (txt (P.getD k [])) := by
  constructor
  · intro d
    have := (to_name h d).2.2
    rwa [(role_get hr).2, Int.toNat_natCast] at this
  · intro d
    obtain ⟨_, _, d2⟩ := to_num h d
    have e : (txt (P.getD k [])).toList = P[k] := by rw [txt_toList, List.getD_eq_getElem?_getD, List.getElem?_eq_getElem hk]; rfl
    rw [e, findI_hit hP hk rfl] at d2
    exact d2
theorem mem_memT {P L : List Str} {S : List St} (hP : P.Pairwise (· < ·)) (h : AllOk P L S) (r : Rl) (y : Str) : y ∈ memT P L (rulesOf P L S) r ↔ DerN S r (txt y) := by
  unfold memT
  rw [List.mem_map]
  constructor
  · rintro ⟨k, hk, rfl⟩
    obtain ⟨h1, h2⟩ := mem_memD.1 hk
    rw [rules_right h] at h2
    have hr : 0 ≤ roleI P L r := (to_name h h2).1
    exact (der_iff hP h hr h1).1 h2
  · intro d
    obtain ⟨h1, h2, h3⟩ := to_num h d
    rw [txt_toList] at h2 h3
    obtain ⟨g1, g2⟩ := findI_get h2
    refine ⟨(findI P y).toNat, mem_memD.2 ⟨g1, ?_⟩, g2⟩
    rw [rules_right h]
    have e : (((findI P y).toNat : Nat) : Int) = findI P y := by omega
    rw [e]; exact h3
theorem memT_rising {P L : List Str} (hP : P.Pairwise (· < ·)) (T : List Ru) (r : Rl) : (memT P L T r).Pairwise (· < ·) := by
  unfold memT
  rw [List.pairwise_map]
  have h1 : (memD P.length L.length T (roleI P L r)).Pairwise (· < ·) := by
    unfold memD
    exact List.Pairwise.filter _ List.pairwise_lt_range
  refine List.Pairwise.imp_of_mem (fun {a b} ha hb hab => ?_) h1
  have hla := (mem_memD.1 ha).1
  have hlb := (mem_memD.1 hb).1
  rw [List.getD_eq_getElem?_getD, List.getD_eq_getElem?_getD, List.getElem?_eq_getElem hla, List.getElem?_eq_getElem hlb]
  exact List.pairwise_iff_getElem.1 hP a b hla hlb hab
theorem txt_bt (x : ByteArray) : txt (bt x) = x := by unfold txt bt; rfl
theorem bt_txt (y : Str) : bt (txt y) = y := by unfold txt bt; simp
theorem role_in {p : Py} {r : Rl} (h : r ∈ rolesP p) : r.owner.toList ∈ PT p ∧ r.name.toList ∈ NT p := by
  unfold PT NT
  rw [mem_tab, mem_tab]
  unfold prinsT namesT ownersR namesR
  rw [List.take_length]
  refine ⟨?_, ?_⟩
  · rw [List.mem_append, List.mem_append]
    exact .inl (.inl (List.mem_map.2 ⟨r, h, (bt_list _).symm⟩))
  · rw [List.mem_append]
    exact .inl (List.mem_map.2 ⟨r, h, (bt_list _).symm⟩)
theorem stmt_role {p : Py} {s : St} (hs : s ∈ p.stmts) {r : Rl} (hr : r ∈ rolesL s) : r ∈ rolesP p := by
  unfold rolesP rolesS
  rw [List.mem_append, List.mem_append, List.take_length]
  exact .inl (.inr (List.mem_flatten.2 ⟨_, List.mem_map.2 ⟨s, hs, rfl⟩, hr⟩))
theorem ok_of {p : Py} {s : St} (hs : s ∈ p.stmts) (hr : s.right = true) : ruleOk (PT p) (NT p) s = true := by
  have hrol : ∀ r ∈ rolesL s, 0 ≤ roleI (PT p) (NT p) r := fun r h => by
    obtain ⟨a, b⟩ := role_in (stmt_role hs h)
    exact roleI_nn a b
  have hh : 0 ≤ roleI (PT p) (NT p) s.head := hrol _ (by
    unfold rolesL
    split
    · simp
    · split <;> simp)
  unfold ruleOk
  rw [hr, decide_eq_true hh, Bool.true_and, Bool.true_and]
  unfold restOk
  have hk := kind_of_right hr
  by_cases k1 : s.kind = 1
  · rw [if_pos k1]
    refine decide_eq_true (findI_nn ?_)
    unfold PT
    rw [mem_tab]
    unfold prinsT whosS
    rw [List.mem_append, List.mem_append, List.take_length (l := p.stmts)]
    exact .inl (.inr (List.mem_map.2 ⟨s, List.mem_filter.2 ⟨hs, by simp [k1]⟩, (bt_list _).symm⟩))
  · rw [if_neg k1]
    have ha : 0 ≤ roleI (PT p) (NT p) s.a := hrol _ (by
      unfold rolesL
      split
      · simp
      · split
        · simp
        · exfalso; omega)
    by_cases k3 : s.kind = 3
    · rw [if_pos k3, decide_eq_true ha, Bool.and_true]
      refine decide_eq_true (findI_nn ?_)
      unfold NT
      rw [mem_tab]
      unfold namesT viasS
      rw [List.mem_append, List.take_length (l := p.stmts)]
      exact .inr (List.mem_map.2 ⟨s, List.mem_filter.2 ⟨hs, by simp [k3]⟩, (bt_list _).symm⟩)
    · rw [if_neg k3]
      by_cases k4 : s.kind = 4
      · rw [if_pos k4, decide_eq_true ha, Bool.true_and]
        exact decide_eq_true (hrol _ (by unfold rolesL; rw [if_neg (by omega), if_pos k4]; simp))
      · rw [if_neg k4]
        exact decide_eq_true ha
theorem min_ok {p : Py} (h : ∀ s ∈ p.stmts, s.right = true) : AllOk (PT p) (NT p) (minS p) := fun s hs => by
  unfold minS at hs
  have := (List.mem_filter.1 hs).1
  exact ok_of this (h s this)
end Go.Proofs.YtblapgfilbmdhaaGreatDoor.LwM
