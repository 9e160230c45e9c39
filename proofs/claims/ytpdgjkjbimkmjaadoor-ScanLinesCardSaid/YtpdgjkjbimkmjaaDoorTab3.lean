/- Fresh texts, and rows held against each other. -/
import Derived.Test.YtpdgjkjbimkmjaaDoorTab2
import Derived.IntWalk
import Derived.Lib.ItoaLen
namespace Go.Proofs.YtpdgjkjbimkmjaaDoor.Tab3
open Go.RowKit Go.Sort Go.Proofs Go.Proofs.YtpdgjkjbimkmjaaDoor.Plain Go.Proofs.YtpdgjkjbimkmjaaDoor.Tab1 Go.Proofs.YtpdgjkjbimkmjaaDoor.Tab2 Go.Proofs.YtpdgjkjbimkmjaaDoor.TabP
set_option maxRecDepth 100000 in
theorem same (A B : Option Addr) (ca cb : Nat) (T : List Str) (w : World) (hL : T.length ≤ 1000000) (hA : SRow w A T) (hB : SRow w B T) :
    Calls Tryd.prog 18 #[.slice A T.length ca, .slice B T.length cb] w fun e w' => e = .returned (.bool true) ∧ ∃ n, w' = w.drewN n := by
  go_enter Tryd.func18, Tryd.ntmps18
  go_wp2
  go_loopw [13] (fun i wr => ∃ k : Nat, k ≤ T.length ∧ i = .int .i64 k ∧ ∃ n, wr = w.drewN n) (fun i _ => T.length - (intOf i).toNat)
  case atStart => exact ⟨0, by omega, rfl, 0, rfl⟩
  case round =>
    obtain ⟨k, hk, rfl, n, rfl⟩ := hrel
    by_cases hlt : k < T.length
    · obtain ⟨g1, o1, rfl, _, h1⟩ := hA (by omega)
      obtain ⟨g2, o2, rfl, _, h2⟩ := hB (by omega)
      have a1 := h1 k hlt
      have a2 := h2 k hlt
      clear h1 h2 hA hB
      go_wp2_with fail
      go_quiet (fail)
      go_wp2_with fail
      go_roundw
      case rel => exact ⟨k + 1, by omega, by go_num, _, rfl⟩
      case measure => simp [intOf]; omega
    · go_wp2_with fail
      go_ret
      exact ⟨rfl, _, rfl⟩
theorem has (A : Option Addr) (c : Nat) (T : List Str) (s : ByteArray) (w : World) (hL : T.length ≤ 1000000) (hA : SRow w A T) :
    Calls Tryd.prog 42 #[.slice A T.length c, .string s] w fun e w' => e = .returned (.bool (decide (s.toList ∈ T))) ∧ w = w' := by
  go_enter Tryd.func42, Tryd.ntmps42
  go_wp2
  go_loop [9] (fun i => ∃ k : Nat, k ≤ T.length ∧ i = .int .i64 k ∧ Hid (∀ j, (h : j < T.length) → j < k → T[j] ≠ s.toList)) (fun i => T.length - (intOf i).toNat)
  case atStart => exact ⟨0, by omega, rfl, Lib.hid fun j _ h => by omega⟩
  case round =>
    obtain ⟨k, hk, rfl, hall⟩ := hrel
    by_cases hlt : k < T.length
    · obtain ⟨g1, o1, rfl, _, h1⟩ := hA (by omega)
      have a1 := h1 k hlt
      clear h1 hA
      by_cases he : T[k] = s.toList
      · have hin : Hid (decide (s.toList ∈ T) = true) := Lib.hid (decide_eq_true (by rw [← he]; exact List.getElem_mem _))
        have e1 : (T[k] == s.toList) = true := by simpa using he
        clear he hall
        go_wp2_with fail
        go_ret
        exact ⟨ret_bool hin.out.symm, rfl⟩
      · have e1 : (T[k] == s.toList) = false := by simpa using he
        have hnext : Hid (∀ j, (h : j < T.length) → j < k + 1 → T[j] ≠ s.toList) := Lib.hid fun j h hj => by
          by_cases e : j = k
          · subst e; exact he
          · exact hall.out j h (by omega)
        clear he hall
        go_wp2_with fail
        go_round
        case rel => exact ⟨k + 1, by omega, by go_num, hnext⟩
        case measure => simp [intOf]; omega
    · have hin : Hid (decide (s.toList ∈ T) = false) := Lib.hid (decide_eq_false (fun hm => by
        obtain ⟨j, hj, e⟩ := List.getElem_of_mem hm
        exact hall.out j hj (by omega) e))
      clear hall
      go_wp2_with fail
      go_ret
      exact ⟨ret_bool hin.out.symm, rfl⟩
abbrev Pow (w : World) : Prop := Lib.TabIs Tryd.prog w "internal/strconv.uint64pow10" .u64 Lib.pow10Tab
theorem powNamed : Tryd.prog.globalNamed "internal/strconv.uint64pow10" = some 0 := by kernel_rfl
theorem Pow.keep {w w' : World} (h : Pow w) (hg : 0 < w.heap.size) (hb : Below w.heap.size w w') : Pow w' := var?_below hb powNamed hg h
theorem infoStr : (Tryd.prog.info? 9).map (fun i => (i.zero, i.size, i.bytes)) = some (some (.string ⟨#[]⟩), 1, 16) := by kernel_rfl
theorem own_keep {w w' : World} {base : Nat} {e : TypeId} {size : Nat} {v : Value} {n : Nat} {xs : List Value} (h : w.ownsRow base e size v n xs) (hb : Below w.heap.size w w') : w'.ownsRow base e size v n xs := by
  refine ⟨h.1, ?_⟩
  rcases h.2 with h0 | ⟨g, cap, cur, rfl, hB, hh, r⟩
  · exact .inl h0
  · exact .inr ⟨g, cap, cur, rfl, hB, (hb.block g (h.lt g rfl).2).trans hh, r⟩
theorem new_cell1 (w : World) (a : Value) (t : TypeId) : ∀ j u, [a][j]? = some u → (w.alloc (.cells #[a] t)).cell? ((⟨w.heap.size, 0, none⟩ : Addr).add j) = some u := by
  intro j u hj
  match j, hj with
  | 0, hj => simp at hj; subst hj; simp [Addr.add]
theorem below_grow (w : World) (os : Array Obj) : Below w.heap.size w (grow w os) :=
  ⟨rfl, rfl, rfl, by simp [grow], fun k hk => heap_grow_old w os hk⟩
theorem itoa_nat (k : Nat) : Lib.itoa ((k : Int) + 1) = Lib.decDigits (k + 1) := by
  unfold Lib.itoa
  rw [if_neg (by omega)]
  rfl
theorem itoaC (k : Nat) (w : World) (hk : k ≤ 1000000) (hp : Pow w) : Calls Tryd.prog 40 #[.int .i64 ((k : Int) + 1)] w fun e w' => e = .returned (.string ⟨(Lib.decDigits (k + 1)).toArray⟩) ∧ Below w.heap.size w w' := by
  refine (Tryd.strconv_Itoa _ (by omega) (by omega) w hp).mono ?_
  rintro e w' ⟨rfl, q, os, rfl⟩
  exact ⟨by rw [itoa_nat], (below_drewN (Below.refl _ _) q).trans (below_grow (w.drewN q) os)⟩
theorem cat_xs (k : Nat) : (⟨#[88]⟩ ++ ⟨(Lib.decDigits k).toArray⟩ : ByteArray) = ⟨(xs k).toArray⟩ := by
  apply ByteArray.ext
  rw [ByteArray.data_append]
  apply Array.ext'
  simp [xs]
theorem findI_ge {T : List Str} {s : Str} (h : s ∈ T) : 0 ≤ findI T s := by unfold findI; rw [if_pos h]; omega
def FreshPost (T : List Str) (n : Int) (w : World) (e : Ending) (w' : World) : Prop :=
  ∃ v, e = .returned v ∧ w'.ownsRow w.heap.size 9 1 v (fr T n (1000 + T.length)).length ((fr T n (1000 + T.length)).map encStr) ∧ Below w.heap.size w w'
set_option maxHeartbeats 800000 in
set_option maxRecDepth 100000 in
theorem fresh (p : Value) (T : List Str) (n : Int) (w : World) (hn0 : -9223372036854775808 ≤ n) (hn1 : n ≤ 9223372036854775807) (hT : T.length ≤ 100000) (hpow : Pow w) (hg : 0 < w.heap.size)
    (hfind : ∀ (s : ByteArray) w', Below w.heap.size w w' → Calls Tryd.prog 16 #[p, .string s] w' (FindPost T s.toList w')) :
    Calls Tryd.prog 21 #[p, .int .i64 n] w (FreshPost T n w) := by
  obtain ⟨i0, hi, hz0, hz1, hz2⟩ := info_parts infoStr
  have HF := Lib.hid hfind
  have HP := Lib.hid hpow
  clear hfind hpow
  go_enter Tryd.func21, Tryd.ntmps21
  go_wp2_with fail
  go_loopw [5, 6] (fun v i wr => ∃ m : Nat, m ≤ 1000 + T.length ∧ i = .int .i64 ((m + 1 : Nat) : Int) ∧ wr.ownsRow w.heap.size 9 1 v (fr T n m).length ((fr T n m).map encStr) ∧ Below w.heap.size w wr) (fun _ i _ => 1002 + T.length - (intOf i).toNat)
  case atStart => exact ⟨0, by omega, rfl, World.ownsRow_nil _ _ _ _, Below.refl _ _⟩
  case round =>
    obtain ⟨m, hm, rfl, hown, hbel⟩ := hrel
    have hlen := fr_len T n m
    obtain ⟨A, c, rfl, hc, hrow⟩ := SRow.of_own hown
    by_cases hroom : ((fr T n m).length : Int) < n ∧ (fr T n m).length < 1000
    · have hd : decide (((fr T n m).length : Int) < min n 1000) = true := by rw [decide_eq_true_iff]; omega
      have hmm := fr_enough T n m hroom.1 hroom.2
      have hx := Lib.hid (show (⟨(xs (m + 1)).toArray⟩ : ByteArray).toList = xs (m + 1) from by rw [Go.ByteArray.toList_eq])
      have hdl : 1 + (Lib.decDigits (m + 1)).length ≤ 100 := by rw [Lib.decDigits_length]; have := Lib.nDigits_le20 (m + 1) (by omega); omega
      have hb16 : (fr T n m).length ≤ 1000 := hlen.2.1
      by_cases hin : xs (m + 1) ∈ T
      · have hnext := Lib.hid (fr_not (T := T) (n := n) (m := m) (fun h => h.2.2 hin))
        have hge := Lib.hid (findI_ge hin)
        have hd2 : decide (findI T (xs (m + 1)) < 0) = false := by rw [decide_eq_false_iff_not]; have := hge.out; omega
        clear hin
        go_wp2_with (go_at_call 40; refine (itoaC m _ (by omega) (HP.out.keep hg hbel)).mono ?_)
        rintro e w1 ⟨rfl, hb1⟩
        have hbel1 := hbel.trans (hb1.mono hbel.size)
        have hown1 := own_keep hown hb1
        clear hown hrow hbel hb1
        go_wp2_with fail
        rw [cat_xs]
        refine (HF.out _ _ hbel1).mono ?_
        rintro e w2 ⟨rfl, hb2⟩
        rw [hx.out]
        have hbel2 := hbel1.trans (hb2.mono hbel1.size)
        have hown2 := own_keep hown1 hb2
        clear hown1 hbel1 hb2
        go_wp2_with fail
        go_roundw
        case rel => exact ⟨m + 1, by omega, by go_num, by rw [hnext.out]; exact hown2, hbel2⟩
        case measure => simp [intOf]; omega
      · have hnext := Lib.hid (fr_add (T := T) (n := n) (m := m) hroom.1 hroom.2 hin)
        have hge := Lib.hid (findI_miss hin)
        have hd2 : decide (findI T (xs (m + 1)) < 0) = true := by rw [decide_eq_true_iff]; have := hge.out; omega
        clear hin
        go_wp2_with (go_at_call 40; refine (itoaC m _ (by omega) (HP.out.keep hg hbel)).mono ?_)
        rintro e w1 ⟨rfl, hb1⟩
        have hbel1 := hbel.trans (hb1.mono hbel.size)
        have hown1 := own_keep hown hb1
        clear hown hrow hbel hb1
        go_wp2_with fail
        rw [cat_xs]
        refine (HF.out _ _ hbel1).mono ?_
        rintro e w2 ⟨rfl, hb2⟩
        rw [hx.out]
        have hbel2 := hbel1.trans (hb2.mono hbel1.size)
        have hown2 := own_keep hown1 hb2
        clear hown1 hbel1 hb2
        go_wp2_with (at_builtin; refine wpList_append_own _ rfl _ _ 24 rfl w.heap.size 9 i0 (.string ⟨#[]⟩) 1 16 Tryd.underlying24 hi hz0 hz1 hz2 rfl (by decide) _ _ _ rfl (hown2.alloc _) ⟨w2.heap.size, 0, none⟩ 1 1 [.string ⟨(xs (m + 1)).toArray⟩] rfl rfl ?c1 ?c2 ?c3 ?c4 ?c5 ?_)
        case c1 => exact new_cell1 _ _ _
        case c2 => intro u hu; simp at hu; subst hu; rfl
        case c3 => unfold maxLen; omega
        case c4 => omega
        case c5 => have := hbel2.size; simp; omega
        intro v' w3 hown3 hgrow _
        have hbel3 := (hbel2.alloc hbel2.size _).grown hgrow (by have := hbel2.size; simp; omega) (fun k hk => (hown2.lt k hk).1)
        have hown4 : w3.ownsRow w.heap.size 9 1 v' (fr T n (m + 1)).length ((fr T n (m + 1)).map encStr) := by
          rw [hnext.out, List.length_append, List.map_append]
          exact hown3
        clear hown2 hown3 hbel2 hgrow
        go_wp2_with fail
        go_roundw
        case rel => exact ⟨m + 1, by omega, by go_num, hown4, hbel3⟩
        case measure => simp [intOf]; omega
    · have hd : decide (((fr T n m).length : Int) < min n 1000) = false := by rw [decide_eq_false_iff_not]; omega
      have hfin : Hid (fr T n (1000 + T.length) = fr T n m) := Lib.hid (by
        have := fr_done hroom (1000 + T.length - m)
        rw [show m + (1000 + T.length - m) = 1000 + T.length from by omega] at this
        exact this)
      go_wp2_with fail
      go_ret
      exact ⟨_, rfl, by rw [hfin.out]; exact hown, hbel⟩
end Go.Proofs.YtpdgjkjbimkmjaaDoor.Tab3
