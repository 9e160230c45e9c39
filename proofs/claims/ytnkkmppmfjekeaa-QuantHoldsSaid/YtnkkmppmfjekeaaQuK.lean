/- The nodes that one comes to, and how many they are, by contract. -/
import Derived.Test.YtnkkmppmfjekeaaQuJ
import Derived.Laws.EntriesVeiled
namespace Go.Proofs.Ytnkkmppmfjekeaa.QuK
open Go.RowKit Go.Lib Go.Proofs Go.Maps Go.Proofs.Ytnkkmppmfjekeaa.CaA Go.Proofs.Ytnkkmppmfjekeaa.NdA Go.Proofs.Ytnkkmppmfjekeaa.NdB Go.Proofs.Ytnkkmppmfjekeaa.NdC Go.Proofs.Ytnkkmppmfjekeaa.NdE Go.Proofs.Ytnkkmppmfjekeaa.NdG Go.Proofs.Ytnkkmppmfjekeaa.NdI Go.Proofs.Ytnkkmppmfjekeaa.ItA Go.Proofs.Ytnkkmppmfjekeaa.ItB Go.Proofs.Ytnkkmppmfjekeaa.ItD Go.Proofs.Ytnkkmppmfjekeaa.ItH Go.Proofs.Ytnkkmppmfjekeaa.ItI Go.Proofs.Ytnkkmppmfjekeaa.ItK Go.Proofs.Ytnkkmppmfjekeaa.QuA Go.Proofs.Ytnkkmppmfjekeaa.QuB Go.Proofs.Ytnkkmppmfjekeaa.QuC Go.Proofs.Ytnkkmppmfjekeaa.QuM Go.Proofs.Ytnkkmppmfjekeaa.QuD Go.Proofs.Ytnkkmppmfjekeaa.QuJ
set_option linter.unusedVariables false
set_option linter.unusedSimpArgs false
abbrev four (w : World) (D : Nat) : World := (((w.alloc (.cells #[.pointer (some ⟨D, 0, none⟩)] 28)).alloc (.map #[] 0)).alloc (.cells #[.map (some (w.heap.size + 1))] 82)).alloc (.cells #[.func (.func 70) #[] #[.pointer (some ⟨w.heap.size, 0, none⟩), .pointer (some ⟨w.heap.size + 1 + 1, 0, none⟩), .pointer (some ⟨w.heap.size + 1 + 1 + 1, 0, none⟩)]] 104)
set_option maxRecDepth 100000 in
theorem start4 {D : Nat} {x : Bx} {c : Nat} {s : St} {N : Nat} {w : World} (H : Bd w D x c s N) :
    Below w.heap.size w (four w D) ∧ Rq (four w D) D x (w.heap.size + 1) (four w D) c s N [] ∧ RBoxes (four w D) D x (w.heap.size + 1) w.heap.size (w.heap.size + 1 + 1) (w.heap.size + 1 + 1 + 1) := by
  have hb : Below w.heap.size w (four w D) := (((((Below.refl _ _).alloc (Nat.le_refl _) _).alloc (by simp) _).alloc (by simp <;> omega) _).alloc (by simp <;> omega) _)
  have off : ∀ j, w.heap.size ≤ j → ¬ FootD D x j := fun j hj h => by have := H.foot h; omega
  have blk : ∀ (o1 o2 o3 o4 : Obj) (W : World), W = (((w.alloc o1).alloc o2).alloc o3).alloc o4 → W.heap[w.heap.size]? = some o1 ∧ W.heap[w.heap.size + 1]? = some o2 ∧ W.heap[w.heap.size + 1 + 1]? = some o3 ∧ W.heap[w.heap.size + 1 + 1 + 1]? = some o4 := fun o1 o2 o3 o4 W hW => by
    subst hW
    refine ⟨?_, ?_, ?_, ?_⟩
    · rw [heap_alloc_old _ _ (by simp <;> omega), heap_alloc_old _ _ (by simp <;> omega), heap_alloc_old _ _ (by simp), heap_alloc_new]
    · rw [heap_alloc_old _ _ (by simp <;> omega), heap_alloc_old _ _ (by simp)]
      simpa using heap_alloc_new (w.alloc o1) o2
    · rw [heap_alloc_old _ _ (by simp)]
      simpa using heap_alloc_new ((w.alloc o1).alloc o2) o3
    · simpa using heap_alloc_new (((w.alloc o1).alloc o2).alloc o3) o4
  obtain ⟨e1, e2, e3, e4⟩ := blk _ _ _ _ (four w D) rfl
  have hm : MapR (four w D) (w.heap.size + 1) [] s := by
    have h := MapR.made (w.alloc (.cells #[.pointer (some ⟨D, 0, none⟩)] 28)) s
    have hl := h.lt
    have h2 := h.heap (w' := four w D) (by
      rw [heap_alloc_old _ _ (by simp <;> omega), heap_alloc_old _ _ (by simp <;> omega)])
    simpa using h2
  refine ⟨hb, ⟨H.below hb, Frm.refl _ _, hm.lt, off _ (by omega), hm, List.nodup_nil, fun n h => by cases h⟩, ⟨e1, off _ (Nat.le_refl _), by omega⟩, ⟨e3, off _ (by omega), by omega⟩, ⟨e4, off _ (by omega), by omega⟩⟩
/-- The nodes of R are just those that one comes to from f. -/
structure All (s : St) (R : List Int) (f : Int) : Prop where
  nd : R.Nodup
  nodes : ∀ n ∈ R, nodeB s n = true
  went : Went s [] R f
def ReachPost (s : St) (f : Int) (w : World) (e : Ending) (w' : World) : Prop := ∃ m R, e = .returned (.map (some m)) ∧ MapR w' m R s ∧ All s R f ∧ Below w.heap.size w w'
set_option maxHeartbeats 1000000 in
set_option maxRecDepth 100000 in
theorem reached_ {D : Nat} {x : Bx} {c : Nat} {s : St} {N : Nat} {w : World} (f : Int) (hr : Rng f) (H : Bd w D x c s N) : Calls Try.prog 53 #[.pointer (some ⟨D, 0, none⟩), .int .i64 f] w (ReachPost s f w) := by
  have hmm := @run_makeMap Try.prog
  have hmf : ∀ (fn : Fn) (first cap : Array Value) (w : World), (Instr.makeFunc fn first cap).run Try.prog w = .ok (.func fn first cap) w := fun _ _ _ _ => rfl
  obtain ⟨hb4, hq, hB⟩ := start4 H
  have hW := walk D _ _ _ _ c x s N (f.toNat + 1) f _ [] (by omega) hr hq hB
  unfold WentPost at hW
  have HW := Lib.hid hW
  have HC := Lib.hid hB.xw.cell
  have HBx := Lib.hid hB
  have HF := Lib.hid (fun w' R' (h : Rq (four w D) D x (w.heap.size + 1) w' c s N R') => (show Below w.heap.size w w' from Frm.below hb4 h.frm (fun k hk => by omega)))
  unfold ReachPost
  clear hW hq hB hb4 H hr
  go_enter Try.func53, Try.ntmps53
  go_upto_region 4 with fail
  have cw := HC.out
  clear HC
  unfold four at HW HF cw HBx
  generalize (((w.alloc (.cells #[.pointer (some ⟨D, 0, none⟩)] 28)).alloc (.map #[] 0)).alloc (.cells #[.map (some (w.heap.size + 1))] 82)).alloc (.cells #[.func (.func 70) #[] #[.pointer (some ⟨w.heap.size, 0, none⟩), .pointer (some ⟨w.heap.size + 1 + 1, 0, none⟩), .pointer (some ⟨w.heap.size + 1 + 1 + 1, 0, none⟩)]] 104) = w4 at *
  go_wp2_with fail
  refine HW.out.mono ?_
  rintro e w' ⟨rfl, R', h1, h2⟩
  have cm := (HBx.out.next h1).xm.cell
  have HE := Lib.hid (And.intro h1.mp (And.intro (All.mk h1.nd h1.nodes h2) (HF.out w' R' h1)))
  clear h1 h2 HF HW cw HBx
  go_wp2_with fail
  go_ret
  exact ⟨_, R', rfl, HE.out.1, HE.out.2.1, HE.out.2.2⟩
set_option maxHeartbeats 1000000 in
set_option maxRecDepth 100000 in
theorem size_ {D : Nat} {x : Bx} {c : Nat} {s : St} {N : Nat} {w : World} (f : Int) (hr : Rng f) (H : Bd w D x c s N) : Calls Try.prog 24 #[.pointer (some ⟨D, 0, none⟩), .int .i64 f] w fun e w' => ∃ R : List Int, e = .returned (.int .i64 R.length) ∧ All s R f ∧ Below w.heap.size w w' := by
  have HR := Lib.hid (reached_ f hr H)
  unfold ReachPost at HR
  clear H hr
  go_enter Try.func24, Try.ntmps24
  go_wp2_with fail
  refine HR.out.mono ?_
  rintro e w' ⟨m, R, rfl, ⟨Dm, h1, h2, h3⟩, h4, h5⟩
  have HE := Lib.hid (And.intro h4 h5)
  have H2 := Lib.hid h2
  clear h3 h4 h5 HR h2
  go_wp2_with (at_len; refine wpList_len_own _ rfl _ 82 rfl 3 3 Try.underlying82 PE m R.length Dm rfl h1 ?_)
  go_wp2_with fail
  go_ret
  exact ⟨R, by rw [H2.out]; rfl, HE.out.1, HE.out.2⟩
/-- Of a node that goes on with no node. -/
theorem All.one {s : St} {R : List Int} {f : Int} (h : All s R f) (hf : nodeB s f = true) (h0 : nodeB s (at_ s f).lo = false) (h1 : nodeB s (at_ s f).hi = false) : R.length = 1 := by
  have hm : ∀ x ∈ R, x = f := fun x hx => by
    have := h.went.from_ x hx (by simp)
    cases this with
    | here _ => rfl
    | lo _ k => cases k with
      | here k => rw [h0] at k; cases k
      | lo k _ => rw [h0] at k; cases k
      | hi k _ => rw [h0] at k; cases k
    | hi _ k => cases k with
      | here k => rw [h1] at k; cases k
      | lo k _ => rw [h1] at k; cases k
      | hi k _ => rw [h1] at k; cases k
  have hin := h.went.mem hf
  match R, hin, hm, h.nd with
  | [a], _, _, _ => rfl
  | a :: b :: l, _, hm, hd =>
    have e1 := hm a (by simp)
    have e2 := hm b (by simp)
    have := (List.nodup_cons.1 hd).1
    exact absurd (by rw [e1, e2]; simp) this
end Go.Proofs.Ytnkkmppmfjekeaa.QuK
