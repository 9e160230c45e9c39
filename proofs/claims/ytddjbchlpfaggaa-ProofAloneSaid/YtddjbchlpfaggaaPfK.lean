/- What a step stands on (under), by contract; the telling of a proof in memory. -/
import Derived.Test.YtddjbchlpfaggaaPfJ
import Derived.Test.YtddjbchlpfaggaaPfI
namespace Go.Proofs.Ytddjbchlpfaggaa.PfK
open Go.RowKit Go.Lib Go.Proofs Go.Maps Go.Proofs.Ytddjbchlpfaggaa.SetQ Go.Proofs.Ytddjbchlpfaggaa.SetR Go.Proofs.Ytddjbchlpfaggaa.TblC Go.Proofs.Ytddjbchlpfaggaa.TblV Go.Proofs.Ytddjbchlpfaggaa.TblQ Go.Proofs.Ytddjbchlpfaggaa.SemB Go.Proofs.Ytddjbchlpfaggaa.SemC Go.Proofs.Ytddjbchlpfaggaa.SemD Go.Proofs.Ytddjbchlpfaggaa.SemGa Go.Proofs.Ytddjbchlpfaggaa.SemJ Go.Proofs.Ytddjbchlpfaggaa.PfM Go.Proofs.Ytddjbchlpfaggaa.PfN Go.Proofs.Ytddjbchlpfaggaa.PfO Go.Proofs.Ytddjbchlpfaggaa.PfA Go.Proofs.Ytddjbchlpfaggaa.PfB Go.Proofs.Ytddjbchlpfaggaa.PfC Go.Proofs.Ytddjbchlpfaggaa.PfJ
set_option linter.unusedVariables false
set_option linter.unusedSimpArgs false
def UnderPost (l : List Fa) (w : World) (e : Ending) (w' : World) : Prop :=
  ∃ A, e = .returned (.slice A l.length l.length) ∧ (0 < l.length → ∃ g, A = some ⟨g, 0, none⟩ ∧ w.heap.size ≤ g ∧ w'.heap[g]? = some (.cells (encP l).toArray 53 (0, 0))) ∧ Below w.heap.size w w'
/-- Three boxes. -/
theorem box3 (w : World) (c1 c2 c3 : Array Value) (t1 t2 t3 : TypeId) : ∃ w3, ((w.alloc (.cells c1 t1)).alloc (.cells c2 t2)).alloc (.cells c3 t3) = w3 ∧ Below w.heap.size w w3 ∧ w3.heap[w.heap.size]? = some (.cells c1 t1 (0, 0)) ∧ w3.heap[w.heap.size + 1]? = some (.cells c2 t2 (0, 0)) ∧ w3.heap[w.heap.size + 1 + 1]? = some (.cells c3 t3 (0, 0)) ∧ w3.heap.size = w.heap.size + 1 + 1 + 1 := by
  refine ⟨_, rfl, (((Below.refl w.heap.size w).alloc (Nat.le_refl _) _).alloc (by simp) _).alloc (by simp <;> omega) _, ?_, ?_, ?_, by simp⟩
  · exact (heap_alloc_old _ _ (by simp <;> omega)).trans (heap_alloc2_old w _ _)
  · exact (heap_alloc_old _ _ (by simp)).trans (heap_alloc2_new w _ _)
  · have e := heap_alloc_new ((w.alloc (.cells c1 t1)).alloc (.cells c2 t2)) (.cells c3 t3)
    have hz : ((w.alloc (.cells c1 t1)).alloc (.cells c2 t2)).heap.size = w.heap.size + 1 + 1 := by simp
    rw [hz] at e
    exact e
set_option maxHeartbeats 1000000 in
set_option maxRecDepth 100000 in
theorem under_ (d0 d1 : Int) (A : Option Addr) (n ca : Nat) (u : Ru) (s : Sp) (K : Nat) (w : World) (h3 : u.kind = 3 → (0 ≤ s.mid ∧ s.mid < 64) ∧ d1 = K ∧ K ≤ 64 ∧ 0 ≤ u.via ∧ u.via < 64) :
    Calls Try.prog 25 #[.agg #[.int .i64 d0, .int .i64 d1, .slice A n ca], .agg #[.int .i64 u.kind, .int .i64 u.head, .int .i64 u.who, .int .i64 u.a, .int .i64 u.b, .int .i64 u.via], .agg #[.int .i64 s.rule, .int .i64 s.role, .int .i64 s.who, .int .i64 s.mid]] w (UnderPost (under K u s) w) := by
  obtain ⟨u0, u1, u2, u3, u4, u5⟩ := u
  obtain ⟨s0, s1, s2, s3⟩ := s
  simp only at h3 ⊢
  obtain ⟨w3, hw3, hb, x1, x2, x3, hsz⟩ := box3 w #[.int .i64 d0, .int .i64 d1, .slice A n ca] #[.int .i64 u0, .int .i64 u1, .int .i64 u2, .int .i64 u3, .int .i64 u4, .int .i64 u5] #[.int .i64 s0, .int .i64 s1, .int .i64 s2, .int .i64 s3] 50 44 30
  have c1 := fun o => Lib.cell_of_heap x1 o
  have c2 := fun o => Lib.cell_of_heap x2 o
  have c3 := fun o => Lib.cell_of_heap x3 o
  have HB := Lib.hid hb
  have HSZ := Lib.hid hsz
  clear hb hsz x1 x2 x3
  have HE : Hid (∀ l : List Fa, 0 < l.length → UnderPost l w (.returned (.slice (some ⟨w3.heap.size, 0, none⟩) l.length l.length)) (w3.alloc (.cells (encP l).toArray 53))) := Lib.hid (fun l hl => ⟨_, rfl, fun _ => ⟨_, rfl, HB.out.size, heap_alloc_new w3 _⟩, HB.out.alloc HB.out.size _⟩)
  by_cases k2 : u0 = 2
  · subst k2
    have hU : under K ⟨2, u1, u2, u3, u4, u5⟩ ⟨s0, s1, s2, s3⟩ = [(u3, s2)] := by unfold under; simp
    rw [hU]
    have HF := Lib.hid (HE.out [(u3, s2)] (by simp))
    clear hU h3 HE
    go_enter Try.func25, Try.ntmps25
    go_upto_region 1 with fail
    go_wp2_with fail
    go_ret
    exact HF.out
  · have d2 : (u0 == 2) = false := by simp [k2]
    by_cases k3 : u0 = 3
    · subst k3
      obtain ⟨⟨m0, m1⟩, hK, lK, v0, v1⟩ := h3 rfl
      obtain ⟨m, rfl⟩ : ∃ m : Nat, s3 = m := ⟨s3.toNat, by omega⟩
      obtain ⟨v, rfl⟩ : ∃ v : Nat, u5 = v := ⟨u5.toNat, by omega⟩
      subst hK
      have hmk : m * K ≤ 4096 := PfF.mul_small (by omega) lK
      have hw1 : IntKind.i64.wrap ((m : Int) * (K : Int)) = ((m * K : Nat) : Int) := wrapN rfl (by omega)
      have hw2 : IntKind.i64.wrap (((m * K : Nat) : Int) + (v : Int)) = ((m * K + v : Nat) : Int) := by rw [IntKind.wrap_i64]; omega
      have hU : under K ⟨3, u1, u2, u3, u4, v⟩ ⟨s0, s1, s2, m⟩ = [(u3, (m : Int)), ((m : Int) * K + v, s2)] := by unfold under; simp
      rw [hU]
      have HF := Lib.hid (HE.out [(u3, (m : Int)), ((m : Int) * K + v, s2)] (by simp))
      clear hU HE
      go_enter Try.func25, Try.ntmps25
      go_upto_region 1 with fail
      go_wp2_with fail
      go_ret
      exact HF.out
    · have d3 : (u0 == 3) = false := by simp [k3]
      by_cases k4 : u0 = 4
      · subst k4
        have hU : under K ⟨4, u1, u2, u3, u4, u5⟩ ⟨s0, s1, s2, s3⟩ = [(u3, s2), (u4, s2)] := by unfold under; simp
        rw [hU]
        have HF := Lib.hid (HE.out [(u3, s2), (u4, s2)] (by simp))
        clear hU h3 HE
        go_enter Try.func25, Try.ntmps25
        go_upto_region 1 with fail
        go_wp2_with fail
        go_ret
        exact HF.out
      · have d4 : (u0 == 4) = false := by simp [k4]
        have hU : under K ⟨u0, u1, u2, u3, u4, u5⟩ ⟨s0, s1, s2, s3⟩ = [] := by
          unfold under
          simp only
          rw [if_neg k2, if_neg k3, if_neg k4]
        rw [hU]
        have HF : Hid (UnderPost [] w (.returned (.slice none 0 0)) w3) := Lib.hid ⟨none, rfl, fun h => by simp at h, HB.out⟩
        clear hU h3 HE
        go_enter Try.func25, Try.ntmps25
        go_upto_region 1 with fail
        go_wp2_with fail
        go_ret
        exact HF.out
end Go.Proofs.Ytddjbchlpfaggaa.PfK
