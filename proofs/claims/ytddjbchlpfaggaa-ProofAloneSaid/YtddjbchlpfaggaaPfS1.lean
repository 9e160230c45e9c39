/- The document's has, by contract. -/
import Derived.Test.YtddjbchlpfaggaaPfR
namespace Go.Proofs.Ytddjbchlpfaggaa.PfS1
open Go.RowKit Go.Lib Go.Proofs Go.Maps Go.Proofs.Ytddjbchlpfaggaa.TblC Go.Proofs.Ytddjbchlpfaggaa.TblV Go.Proofs.Ytddjbchlpfaggaa.TblQ Go.Proofs.Ytddjbchlpfaggaa.SemB Go.Proofs.Ytddjbchlpfaggaa.PfM Go.Proofs.Ytddjbchlpfaggaa.PfN Go.Proofs.Ytddjbchlpfaggaa.PfO Go.Proofs.Ytddjbchlpfaggaa.PfB Go.Proofs.Ytddjbchlpfaggaa.PfL
set_option linter.unusedVariables false
set_option linter.unusedSimpArgs false
theorem hasS_take {T : List Sp} {k : Nat} (hk : k < T.length) (f : Fa) : hasS (T.take (k + 1)) f = (hasS (T.take k) f || decide (T[k].fa = f)) := by
  rw [List.take_succ_eq_append_getElem hk, hasS_app, hasS_one]
set_option maxHeartbeats 1000000 in
set_option maxRecDepth 100000 in
theorem hasD (A : Option Addr) (ca : Nat) (T : List Sp) (r x : Int) (w : World) (hT : T.length ≤ 100000) (hA : TG w A T) :
    Calls Try.prog 17 #[.slice A T.length ca, .int .i64 r, .int .i64 x] w fun e w' => e = .returned (.bool (hasS T (r, x))) ∧ Below w.heap.size w w' := by
  have HA := Lib.hid (fun w' (hb : Below w.heap.size w w') => hA.below hb)
  clear hA
  go_enter Try.func17, Try.ntmps17
  go_wp2_with fail
  go_loopw [11] (fun i wr => ∃ k : Nat, k ≤ T.length ∧ i = .int .i64 k ∧ Below w.heap.size w wr ∧ Hid (hasS (T.take k) (r, x) = false)) (fun i _ => T.length - (intOf i).toNat)
  case atStart => exact ⟨0, by omega, rfl, Below.refl _ _, Lib.hid rfl⟩
  case round =>
    obtain ⟨k, hk, rfl, hb, HN⟩ := hrel
    by_cases hlt : k < T.length
    · have e1 : decide ((k : Int) < T.length) = true := by simp; omega
      obtain ⟨g, o, rfl, hg, hc⟩ := HA.out _ hb (by omega)
      have hc2 := hc k hlt
      have HS := Lib.hid (hasS_take hlt (r, x))
      have HB := Lib.hid (fun (cs : Array Value) => hb.alloc hb.size (.cells cs 30))
      have HY : Hid (T[k].fa = (r, x) → hasS T (r, x) = true) := Lib.hid (fun e => hasS_iff.2 ⟨_, List.getElem_mem hlt, e⟩)
      have q0 : (0 : Int) ≤ k := by omega
      have q1 : (k : Int) < T.length := by omega
      clear hc hb
      generalize T[k] = s at *
      obtain ⟨s0, s1, s2, s3⟩ := s
      simp only [Sp.cells] at hc2
      have y0 : wr.cell? ⟨g, o + k * 4, none⟩ = some (.int .i64 s0) := hc2 0 (by omega)
      have y1 : wr.cell? ⟨g, o + k * 4 + 1, none⟩ = some (.int .i64 s1) := hc2 1 (by omega)
      have y2 : wr.cell? ⟨g, o + k * 4 + 2, none⟩ = some (.int .i64 s2) := hc2 2 (by omega)
      have y3 : wr.cell? ⟨g, o + k * 4 + 3, none⟩ = some (.int .i64 s3) := hc2 3 (by omega)
      clear hc2
      by_cases h1 : s1 = r
      · by_cases h2 : s2 = x
        · subst h1
          subst h2
          have HE := Lib.hid (HY.out rfl)
          clear HY HS HN
          go_wp2_with fail
          go_ret
          exact ⟨SetB.ret_bool HE.out.symm, HB.out _⟩
        · subst h1
          have HN2 : Hid (hasS (T.take (k + 1)) (s1, x) = false) := Lib.hid (by rw [HS.out, HN.out]; unfold Sp.fa; simp [h2])
          clear HY HS HN
          have d2 : (s2 == x) = false := by simp [h2]
          go_wp2_with fail
          go_roundw
          case rel => exact ⟨k + 1, by omega, by go_num, HB.out _, HN2⟩
          case measure => simp [intOf]; omega
      · have HN2 : Hid (hasS (T.take (k + 1)) (r, x) = false) := Lib.hid (by rw [HS.out, HN.out]; unfold Sp.fa; simp [h1])
        clear HY HS HN
        have d1 : (s1 == r) = false := by simp [h1]
        go_wp2_with fail
        go_roundw
        case rel => exact ⟨k + 1, by omega, by go_num, HB.out _, HN2⟩
        case measure => simp [intOf]; omega
    · have e1 : decide ((k : Int) < T.length) = false := by simp; omega
      have HE : Hid (hasS T (r, x) = false) := Lib.hid (by
        have := HN.out
        rwa [List.take_of_length_le (by omega)] at this)
      have HB := Lib.hid hb
      clear HN hb
      go_wp2_with fail
      go_ret
      exact ⟨SetB.ret_bool HE.out.symm, HB.out⟩
end Go.Proofs.Ytddjbchlpfaggaa.PfS1
