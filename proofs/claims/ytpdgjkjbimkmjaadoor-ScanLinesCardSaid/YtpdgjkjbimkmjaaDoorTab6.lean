/- What is light; decimal numerals and fresh texts of the document. -/
import Derived.Test.YtpdgjkjbimkmjaaDoorTab5
import Derived.Laws.BytesArg
namespace Go.Proofs.YtpdgjkjbimkmjaaDoor.Tab6
open Go.RowKit Go.Sort Go.Proofs Go.Proofs.YtpdgjkjbimkmjaaDoor.Plain Go.Proofs.YtpdgjkjbimkmjaaDoor.Tab1 Go.Proofs.YtpdgjkjbimkmjaaDoor.Tab2 Go.Proofs.YtpdgjkjbimkmjaaDoor.Tab3 Go.Proofs.YtpdgjkjbimkmjaaDoor.Tab4 Go.Proofs.YtpdgjkjbimkmjaaDoor.Tab5 Go.Proofs.YtpdgjkjbimkmjaaDoor.TabP
def lightB (ls : List Str) : Bool := decide (ls.length ≤ 40) && ls.all fun s => decide (s.length ≤ 40)
theorem light (A : Option Addr) (c : Nat) (ls : List Str) (w : World) (hL : ls.length ≤ maxLen) (hw : ∀ s ∈ ls, s.length ≤ maxLen) (hA : SRow w A ls) :
    Calls Tryd.prog 12 #[.slice A ls.length c] w fun e w' => e = .returned (.bool (lightB ls)) ∧ w = w' := by
  unfold maxLen at hL
  by_cases h40 : ls.length ≤ 40
  · go_enter Tryd.func12, Tryd.ntmps12
    go_wp2
    go_loop [10] (fun i => ∃ k : Nat, k ≤ ls.length ∧ i = .int .i64 k ∧ Hid (∀ j, (h : j < ls.length) → j < k → ls[j].length ≤ 40)) (fun i => ls.length - (intOf i).toNat)
    case atStart => exact ⟨0, by omega, rfl, Lib.hid fun j _ h => by omega⟩
    case round =>
      obtain ⟨k, hk, rfl, hall⟩ := hrel
      by_cases hlt : k < ls.length
      · obtain ⟨g, off, rfl, hg, hcell⟩ := hA (by omega)
        have hx := hcell k hlt
        have hm := hw ls[k] (List.getElem_mem _)
        unfold maxLen at hm
        clear hcell
        by_cases h : ls[k].length ≤ 40
        · have hnext : Hid (∀ j, (h : j < ls.length) → j < k + 1 → ls[j].length ≤ 40) := Lib.hid fun j hj h2 => by
            by_cases e : j = k
            · subst e; exact h
            · exact hall.out j hj (by omega)
          clear hall
          go_wp2_with fail
          go_round
          case rel => exact ⟨k + 1, by omega, by go_num, hnext⟩
          case measure => simp [intOf]; omega
        · have hf : Hid (lightB ls = false) := Lib.hid (by
            unfold lightB
            have : (ls.all fun s => decide (s.length ≤ 40)) = false := by
              rw [List.all_eq_false]
              exact ⟨ls[k], List.getElem_mem _, by simpa using h⟩
            rw [this]; simp)
          clear hall
          go_wp2_with fail
          go_ret
          exact ⟨ret_bool hf.out.symm, rfl⟩
      · have hf : Hid (lightB ls = true) := Lib.hid (by
          unfold lightB
          have : (ls.all fun s => decide (s.length ≤ 40)) = true := by
            rw [List.all_eq_true]
            intro x hx
            obtain ⟨j, hj, rfl⟩ := List.getElem_of_mem hx
            exact decide_eq_true (hall.out j hj (by omega))
          rw [this, decide_eq_true h40]; rfl)
        clear hall
        go_wp2_with fail
        go_ret
        exact ⟨ret_bool hf.out.symm, rfl⟩
  · have hf : Hid (lightB ls = false) := Lib.hid (by unfold lightB; rw [decide_eq_false h40]; rfl)
    go_enter Tryd.func12, Tryd.ntmps12
    go_wp2
    go_ret
    exact ⟨ret_bool hf.out.symm, rfl⟩
def dgt (m : Nat) : UInt8 := UInt8.ofNat (48 + m % 10)
def oneB (c : UInt8) : ByteArray := ⟨#[c]⟩
theorem oneB_size (c : UInt8) : (oneB c).size = 1 := rfl
theorem conv1 (w : World) (m : Nat) : (convert 66 9 (.slice (some ⟨w.heap.size, 0, none⟩) 1 1)).run Tryd.prog (w.alloc (.cells #[.int .u8 (48 + (m : Int) % 10)] 5)) = .ok (.string (oneB (dgt m))) (w.alloc (.cells #[.int .u8 (48 + (m : Int) % 10)] 5)) := by
  have h := run_convert_bytes_arg (P := Tryd.prog) (w := w.alloc (.cells #[.int .u8 (48 + (m : Int) % 10)] 5)) 66 5 Tryd.underlying66 Tryd.underlying5 w.heap.size 0 1 1 [48 + (m : Int) % 10] rfl (fun i hi => by
    have : i = 0 := by omega
    subst this
    rw [Lib.cell_of_heap (heap_alloc_new w _)]; rfl) 9 Tryd.underlying9
  rw [h]
  have e : (48 + (m : Int) % 10).toNat = 48 + m % 10 := by omega
  unfold strOfNums
  rw [List.map_singleton, e]
  rfl
theorem cat_bytes (c : UInt8) (l : Str) : (oneB c ++ ⟨l.toArray⟩ : ByteArray) = ⟨(c :: l).toArray⟩ := by
  unfold oneB
  apply ByteArray.ext
  rw [ByteArray.data_append]
  apply Array.ext'
  simp
theorem dec_pow {m k : Nat} (hk : k < 20) (h : m < 10 ^ (20 - k)) (h10 : ¬ m < 10) : m / 10 < 10 ^ (20 - (k + 1)) ∧ k + 1 < 20 := by
  have hk2 : k + 1 < 20 := by
    rcases Nat.lt_or_ge (k + 1) 20 with h1 | h1
    · exact h1
    · have : k = 19 := by omega
      subst this
      exact absurd h h10
  refine ⟨?_, hk2⟩
  rw [show 20 - k = (20 - (k + 1)) + 1 from by omega, Nat.pow_succ] at h
  omega
def DecPost (N : Nat) (w : World) (e : Ending) (w' : World) : Prop := e = .returned (.string ⟨(Lib.decDigits N).toArray⟩) ∧ Below w.heap.size w w'
set_option maxRecDepth 100000 in
theorem dec (N : Nat) (w : World) (hN : N < 1000000) :
    Calls Tryd.prog 41 #[.int .i64 N] w (DecPost N w) := by
  go_enter Tryd.func41, Tryd.ntmps41
  go_wp2
  go_loopw [0, 3, 4] (fun n s i wr => ∃ (m k : Nat) (acc : Str), Hid (m < 10 ^ (20 - k)) ∧ k < 20 ∧ m ≤ N ∧ n = .int .i64 m ∧ s = .string ⟨acc.toArray⟩ ∧ i = .int .i64 k ∧ acc.length ≤ k ∧ Hid (Lib.decDigits N = Lib.decDigits m ++ acc) ∧ Below w.heap.size w wr) (fun _ _ i _ => 20 - (intOf i).toNat)
  case atStart => exact ⟨N, 0, [], Lib.hid (by simp; omega), by omega, Nat.le_refl _, rfl, rfl, rfl, by simp, Lib.hid (by simp), Below.refl _ _⟩
  case round =>
    obtain ⟨m, k, acc, hm, hk, hmN, rfl, rfl, rfl, hacc, hd, hbel⟩ := hrel
    have hm9 : (m : Int) % 10 ≤ 9 := by omega
    have hm0 : 0 ≤ (m : Int) % 10 := by omega
    by_cases h10 : m < 10
    · have hdig := Lib.hid (show Lib.decDigits N = dgt m :: acc from by unfold dgt; rw [hd.out, Lib.decDigits_one h10, Nat.mod_eq_of_lt h10]; rfl)
      have hq : ((m : Int) / 10 == 0) = true := by simp; omega
      have hsz := oneB_size (dgt m)
      clear hm hd
      go_wp2_with fail
      rw [conv1 wr m]
      simp only [Result.andThen]
      rw [Oper.upon_value]
      go_wp2_with fail
      go_ret
      refine ⟨?_, hbel.alloc hbel.size _⟩
      rw [hdig.out, ← cat_bytes]
      rfl
    · have hdig := Lib.hid (show Lib.decDigits N = Lib.decDigits (m / 10) ++ (dgt m :: acc) from by
        unfold dgt
        have h2 : Lib.decDigits m = Lib.decDigits (m / 10) ++ [UInt8.ofNat (48 + m % 10)] := by rw [Lib.decDigits, dif_neg h10]
        rw [hd.out, h2, List.append_assoc]; rfl)
      have hq : ((m : Int) / 10 == 0) = false := by simp; omega
      have hpow : Hid (m / 10 < 10 ^ (20 - (k + 1)) ∧ k + 1 < 20) := Lib.hid (dec_pow hk hm.out h10)
      have hsz := oneB_size (dgt m)
      clear hm hd
      go_wp2_with fail
      rw [conv1 wr m]
      simp only [Result.andThen]
      rw [Oper.upon_value]
      go_wp2_with fail
      rw [cat_bytes]
      go_roundw
      case rel => exact ⟨m / 10, k + 1, _, Lib.hid hpow.out.1, hpow.out.2, by omega, by go_num, rfl, by go_num, by simp; omega, hdig, hbel.alloc hbel.size _⟩
      case measure => simp [intOf]; omega
set_option maxHeartbeats 800000 in
set_option maxRecDepth 100000 in
theorem freshRef (A : Option Addr) (c : Nat) (T : List Str) (n : Int) (w : World) (hT : T.length ≤ 100000) (hA : SRow w A T) :
    Calls Tryd.prog 22 #[.slice A T.length c, .int .i64 n] w (FreshPost T n w) := by
  obtain ⟨i0, hi, hz0, hz1, hz2⟩ := info_parts infoStr
  have HA := Lib.hid hA
  clear hA
  go_enter Tryd.func22, Tryd.ntmps22
  go_wp2_with fail
  go_loopw [5, 6] (fun v i wr => ∃ m : Nat, m ≤ 1000 + T.length ∧ i = .int .i64 ((m + 1 : Nat) : Int) ∧ wr.ownsRow w.heap.size 9 1 v (fr T n m).length ((fr T n m).map encStr) ∧ Below w.heap.size w wr) (fun _ i _ => 1002 + T.length - (intOf i).toNat)
  case atStart => exact ⟨0, by omega, rfl, World.ownsRow_nil _ _ _ _, Below.refl _ _⟩
  case round =>
    obtain ⟨m, hm, rfl, hown, hbel⟩ := hrel
    have hlen := fr_len T n m
    have hb16 : (fr T n m).length ≤ 1000 := hlen.2.1
    obtain ⟨A1, c1, rfl, hc, hrow⟩ := SRow.of_own hown
    clear hrow
    by_cases hmm : m < 1000 + T.length
    · have hx := Lib.hid (show (⟨(xs (m + 1)).toArray⟩ : ByteArray).toList = xs (m + 1) from by rw [Go.ByteArray.toList_eq])
      have hdl : 1 + (Lib.decDigits (m + 1)).length ≤ 100 := by rw [Lib.decDigits_length]; have := Lib.nDigits_le20 (m + 1) (by omega); omega
      have hdec : Hid (∀ w, Calls Tryd.prog 41 #[.int .i64 ((m : Int) + 1)] w (DecPost (m + 1) w)) := Lib.hid fun w => by
        have := dec (m + 1) w (by omega)
        rwa [show ((m + 1 : Nat) : Int) = (m : Int) + 1 from by omega] at this
      by_cases hroom : ((fr T n m).length : Int) < n ∧ (fr T n m).length < 1000
      · have hd1 : decide (((fr T n m).length : Int) < n) = true := decide_eq_true hroom.1
        have hd2 : decide (((fr T n m).length : Int) < 1000) = true := by rw [decide_eq_true_iff]; omega
        have hd3 : decide ((fr T n m).length < 1000) = true := by rw [decide_eq_true_iff]; omega
        by_cases hin : xs (m + 1) ∈ T
        · have hnext := Lib.hid (fr_not (T := T) (n := n) (m := m) (fun h => h.2.2 hin))
          have hi2 : decide (xs (m + 1) ∈ T) = true := decide_eq_true hin
          clear hin
          go_wp2_with (go_at_call 41; refine (hdec.out _).mono ?_)
          rintro e w1 ⟨rfl, hb1⟩
          have hbel1 := hbel.trans (hb1.mono hbel.size)
          have hown1 := own_keep hown hb1
          have hrow1 := HA.out.keep hbel1
          clear hown hbel hb1
          go_wp2_with fail
          rw [cat_xs]
          refine (has A c T _ _ (by omega) hrow1).mono ?_
          rintro e w2 ⟨rfl, rfl⟩
          rw [hx.out]
          go_wp2_with fail
          go_roundw
          case rel => exact ⟨m + 1, by omega, by go_num, by rw [hnext.out]; exact hown1, hbel1⟩
          case measure => simp [intOf]; omega
        · have hnext := Lib.hid (fr_add (T := T) (n := n) (m := m) hroom.1 hroom.2 hin)
          have hi2 : decide (xs (m + 1) ∈ T) = false := decide_eq_false hin
          clear hin
          go_wp2_with (go_at_call 41; refine (hdec.out _).mono ?_)
          rintro e w1 ⟨rfl, hb1⟩
          have hbel1 := hbel.trans (hb1.mono hbel.size)
          have hown1 := own_keep hown hb1
          have hrow1 := HA.out.keep hbel1
          clear hown hbel hb1
          go_wp2_with fail
          rw [cat_xs]
          refine (has A c T _ _ (by omega) hrow1).mono ?_
          rintro e w2 ⟨rfl, rfl⟩
          rw [hx.out]
          go_wp2_with (at_builtin; refine wpList_append_own _ rfl _ _ 24 rfl w.heap.size 9 i0 (.string ⟨#[]⟩) 1 16 Tryd.underlying24 hi hz0 hz1 hz2 rfl (by decide) _ _ _ rfl (hown1.alloc _) ⟨w1.heap.size, 0, none⟩ 1 1 [.string ⟨(xs (m + 1)).toArray⟩] rfl rfl ?c1 ?c2 ?c3 ?c4 ?c5 ?_)
          case c1 => exact new_cell1 _ _ _
          case c2 => intro u hu; simp at hu; subst hu; rfl
          case c3 => unfold maxLen; omega
          case c4 => omega
          case c5 => have := hbel1.size; simp; omega
          intro v' w3 hown3 hgrow _
          have hbel3 := (hbel1.alloc hbel1.size _).grown hgrow (by have := hbel1.size; simp; omega) (fun k hk => (hown1.lt k hk).1)
          have hown4 := own_app hown3 hnext.out
          clear hown1 hown3 hbel1 hgrow hrow1
          go_wp2_with fail
          go_roundw
          case rel => exact ⟨m + 1, by omega, by go_num, hown4, hbel3⟩
          case measure => simp [intOf]; omega
      · have hnext := Lib.hid (fr_not (T := T) (n := n) (m := m) (fun h => hroom ⟨h.1, h.2.1⟩))
        by_cases hn1 : ((fr T n m).length : Int) < n
        · have hd2 : decide (((fr T n m).length : Int) < 1000) = false := by rw [decide_eq_false_iff_not]; omega
          have hd3 : decide ((fr T n m).length < 1000) = false := by rw [decide_eq_false_iff_not]; omega
          have hd1 : decide (((fr T n m).length : Int) < n) = true := decide_eq_true hn1
          clear hroom
          go_wp2_with (go_at_call 41; refine (hdec.out _).mono ?_)
          rintro e w1 ⟨rfl, hb1⟩
          have hbel1 := hbel.trans (hb1.mono hbel.size)
          have hown1 := own_keep hown hb1
          clear hown hbel hb1
          go_wp2_with fail
          go_roundw
          case rel => exact ⟨m + 1, by omega, by go_num, by rw [hnext.out]; exact hown1, hbel1⟩
          case measure => simp [intOf]; omega
        · have hd1 : decide (((fr T n m).length : Int) < n) = false := decide_eq_false hn1
          clear hroom
          go_wp2_with (go_at_call 41; refine (hdec.out _).mono ?_)
          rintro e w1 ⟨rfl, hb1⟩
          have hbel1 := hbel.trans (hb1.mono hbel.size)
          have hown1 := own_keep hown hb1
          clear hown hbel hb1
          go_wp2_with fail
          go_roundw
          case rel => exact ⟨m + 1, by omega, by go_num, by rw [hnext.out]; exact hown1, hbel1⟩
          case measure => simp [intOf]; omega
    · have e : m = 1000 + T.length := by omega
      subst e
      clear hmm
      go_wp2_with fail
      go_ret
      exact ⟨_, rfl, hown, hbel⟩
end Go.Proofs.YtpdgjkjbimkmjaaDoor.Tab6
