/- Diagrams without some of their variables, by contract: Restrict, Some, Each. -/
import Derived.Test.YtnkkmppmfjekeaaQuE
import Derived.Test.YtnkkmppmfjekeaaQuF
import Derived.Test.YtnkkmppmfjekeaaQuG
import Derived.Laws.EntriesVeiled
namespace Go.Proofs.Ytnkkmppmfjekeaa.QuH
open Go.RowKit Go.Lib Go.Proofs Go.Proofs.Ytnkkmppmfjekeaa.CaA Go.Proofs.Ytnkkmppmfjekeaa.NdA Go.Proofs.Ytnkkmppmfjekeaa.NdB Go.Proofs.Ytnkkmppmfjekeaa.NdC Go.Proofs.Ytnkkmppmfjekeaa.NdE Go.Proofs.Ytnkkmppmfjekeaa.NdG Go.Proofs.Ytnkkmppmfjekeaa.NdI Go.Proofs.Ytnkkmppmfjekeaa.ItA Go.Proofs.Ytnkkmppmfjekeaa.ItB Go.Proofs.Ytnkkmppmfjekeaa.ItD Go.Proofs.Ytnkkmppmfjekeaa.ItH Go.Proofs.Ytnkkmppmfjekeaa.ItI Go.Proofs.Ytnkkmppmfjekeaa.ItK Go.Proofs.Ytnkkmppmfjekeaa.QuA Go.Proofs.Ytnkkmppmfjekeaa.QuB Go.Proofs.Ytnkkmppmfjekeaa.QuC Go.Proofs.Ytnkkmppmfjekeaa.QuM Go.Proofs.Ytnkkmppmfjekeaa.QuD
set_option linter.unusedVariables false
set_option linter.unusedSimpArgs false
/-- What is answered: with so many nodes, hits and calls more at most. -/
def QPost (D : Nat) (x : Bx) (c : Nat) (s : St) (N C K : Nat) (F : ItA.Fn) (w : World) (e : Ending) (w' : World) : Prop := ∃ a s' c', e = .returned (.int .i64 a) ∧ Ext s s' C ∧ isB s' a = true ∧ (∀ b, ev s'.L b a = F b) ∧ c' ≤ c + K ∧ Upto D x w w' c' s' (N + C)
abbrev six (w : World) (D g : Nat) (jv : Value) : World := (((((w.alloc (.cells #[.pointer (some ⟨D, 0, none⟩)] 28)).alloc (.cells #[jv] 77)).alloc (.cells #[.int .u64 g] 54)).alloc (.map #[] 0)).alloc (.cells #[.map (some (w.heap.size + 1 + 1 + 1))] 82)).alloc (.cells #[.func (.func 68) #[] #[.pointer (some ⟨w.heap.size, 0, none⟩), .pointer (some ⟨w.heap.size + 1 + 1, 0, none⟩), .pointer (some ⟨w.heap.size + 1 + 1 + 1 + 1, 0, none⟩), .pointer (some ⟨w.heap.size + 1 + 1 + 1 + 1 + 1, 0, none⟩), .pointer (some ⟨w.heap.size + 1, 0, none⟩)]] 47)
theorem start6 {D : Nat} {x : Bx} {c : Nat} {s : St} {N : Nat} {w : World} (H : Bd w D x c s N) (hs : s.spent = false) (S : Nat → Bool) (J : Jn) (g : Nat) (jv : Value) :
    Below w.heap.size w (six w D g jv) ∧ Wq (six w D g jv) D x (w.heap.size + 1 + 1 + 1) S J (six w D g jv) x c s N 0 (fun _ => none) ∧ Boxes (six w D g jv) D x (w.heap.size + 1 + 1 + 1) w.heap.size (w.heap.size + 1 + 1) (w.heap.size + 1 + 1 + 1 + 1) (w.heap.size + 1 + 1 + 1 + 1 + 1) (w.heap.size + 1) g jv := by
  have hb : Below w.heap.size w (six w D g jv) := (((((((Below.refl _ _).alloc (Nat.le_refl _) _).alloc (by simp) _).alloc (by simp <;> omega) _).alloc (by simp <;> omega) _).alloc (by simp <;> omega) _).alloc (by simp <;> omega) _)
  have off : ∀ j, w.heap.size ≤ j → ¬ FootD D x j := fun j hj h => by have := H.foot h; omega
  have blk : ∀ (o1 o2 o3 o4 o5 o6 : Obj) (W : World), W = (((((w.alloc o1).alloc o2).alloc o3).alloc o4).alloc o5).alloc o6 → W.heap[w.heap.size]? = some o1 ∧ W.heap[w.heap.size + 1]? = some o2 ∧ W.heap[w.heap.size + 1 + 1]? = some o3 ∧ W.heap[w.heap.size + 1 + 1 + 1]? = some o4 ∧ W.heap[w.heap.size + 1 + 1 + 1 + 1]? = some o5 ∧ W.heap[w.heap.size + 1 + 1 + 1 + 1 + 1]? = some o6 := fun o1 o2 o3 o4 o5 o6 W hW => by
    subst hW
    refine ⟨?_, ?_, ?_, ?_, ?_, ?_⟩
    · rw [heap_alloc_old _ _ (by simp <;> omega), heap_alloc_old _ _ (by simp <;> omega), heap_alloc_old _ _ (by simp <;> omega), heap_alloc_old _ _ (by simp <;> omega), heap_alloc_old _ _ (by simp), heap_alloc_new]
    · rw [heap_alloc_old _ _ (by simp <;> omega), heap_alloc_old _ _ (by simp <;> omega), heap_alloc_old _ _ (by simp <;> omega), heap_alloc_old _ _ (by simp)]
      simpa using heap_alloc_new (w.alloc o1) o2
    · rw [heap_alloc_old _ _ (by simp <;> omega), heap_alloc_old _ _ (by simp <;> omega), heap_alloc_old _ _ (by simp)]
      simpa using heap_alloc_new ((w.alloc o1).alloc o2) o3
    · rw [heap_alloc_old _ _ (by simp <;> omega), heap_alloc_old _ _ (by simp)]
      simpa using heap_alloc_new (((w.alloc o1).alloc o2).alloc o3) o4
    · rw [heap_alloc_old _ _ (by simp)]
      simpa using heap_alloc_new ((((w.alloc o1).alloc o2).alloc o3).alloc o4) o5
    · simpa using heap_alloc_new (((((w.alloc o1).alloc o2).alloc o3).alloc o4).alloc o5) o6
  obtain ⟨e1, e2, e3, e4, e5, e6⟩ := blk _ _ _ _ _ _ (six w D g jv) rfl
  have hm : MapV (six w D g jv) 3 iv (w.heap.size + 1 + 1 + 1) 0 (fun _ => none) := by
    have h := MapV.made (((w.alloc (.cells #[.pointer (some ⟨D, 0, none⟩)] 28)).alloc (.cells #[jv] 77)).alloc (.cells #[.int .u64 g] 54)) 3 iv
    have h2 := h.below ((Below.refl _ _).alloc (Nat.le_refl _) (.cells #[.map (some (w.heap.size + 1 + 1 + 1))] 82))
    have h3 := h2.below ((Below.refl _ _).alloc (Nat.le_refl _) (.cells #[.func (.func 68) #[] #[.pointer (some ⟨w.heap.size, 0, none⟩), .pointer (some ⟨w.heap.size + 1 + 1, 0, none⟩), .pointer (some ⟨w.heap.size + 1 + 1 + 1 + 1, 0, none⟩), .pointer (some ⟨w.heap.size + 1 + 1 + 1 + 1 + 1, 0, none⟩), .pointer (some ⟨w.heap.size + 1, 0, none⟩)]] 47))
    simpa using h3
  refine ⟨hb, ⟨H.below hb, Frm.refl _ _, fun j h => Or.inl h, hm.lt, off _ (by omega), hm, hs, fun n v h => by cases h⟩, ⟨e1, off _ (Nat.le_refl _), by omega⟩, ⟨e3, off _ (by omega), by omega⟩, ⟨e5, off _ (by omega), by omega⟩, ⟨e6, off _ (by omega), by omega⟩, ⟨e2, off _ (by omega), by omega⟩⟩
/-- What the walk left, seen from ahead of it. -/
theorem up_of {w w6 w' : World} {D : Nat} {x x' : Bx} {m c' N' cnt' : Nat} {s' : St} {S : Nat → Bool} {J : Jn} {M' : Int → Option Value} (hb : Below w.heap.size w w6) (hm : w.heap.size ≤ m) (H : Wq w6 D x m S J w' x' c' s' N' cnt' M') : Upto D x w w' c' s' N' :=
  ⟨x', H.bd, (Frm.of_below (F := FootD D x) hb).trans H.frm (fun j hj => by
    rcases hj with h | h
    · exact Or.inl h
    · exact Or.inr (by omega)), fun j hj => by
    rcases H.foot j hj with h | h
    · exact Or.inl h
    · exact Or.inr (Nat.le_trans hb.size h)⟩
theorem rowJ_drop {w : World} {A : Option Addr} {l : List Int} (h : RowJ w A l) : RowJ w A l := h
set_option maxHeartbeats 2000000 in
set_option maxRecDepth 100000 in
theorem or_ {D : Nat} {x : Bx} {c : Nat} {s : St} {N : Nat} {w : World} (A : Option Addr) (ca : Nat) (l : List Int) (f : Int) (hf : isB s f = true) (hs : s.spent = false) (hA : RowJ w A l) (hl : l.length ≤ 1000) (hbu : s.L.length + s.vars * 2 ^ s.vars ≤ s.budget) (hL : s.L.length + s.vars * 2 ^ s.vars ≤ 119900) (hN : N + s.vars * 2 ^ s.vars ≤ 900000) (hc : c + 2 * 2 ^ s.vars ≤ 1000000) (H : Bd w D x c s N) :
    Calls Try.prog 50 #[.pointer (some ⟨D, 0, none⟩), .int .i64 f, .slice A l.length ca, .func (.func 45) #[.pointer (some ⟨D, 0, none⟩)] #[]] w (QPost D x c s N (s.vars * 2 ^ s.vars) (2 * 2 ^ s.vars) (EL (fun i : Nat => l.any fun v => decide (v = (i : Int) ∧ i < s.vars)) (QuE.J) s.vars (fun b => ev s.L b f)) w) := by
  have hmm := @run_makeMap Try.prog
  have hmf : ∀ (fn : Fn) (first cap : Array Value) (w : World), (Instr.makeFunc fn first cap).run Try.prog w = .ok (.func fn first cap) w := fun _ _ _ _ => rfl
  have hwf := H.tk.tb.wf
  have hlen := H.tk.tb.len
  have h61 := hwf.v61
  obtain ⟨r1, r2⟩ := is_range (by omega) hf
  have hb2 : Below w.heap.size w ((w.alloc (.cells #[.pointer (some ⟨D, 0, none⟩)] 28)).alloc (.cells #[.func (.func 45) #[.pointer (some ⟨D, 0, none⟩)] #[]] 77)) := ((Below.refl _ _).alloc (Nat.le_refl _) _).alloc (by simp) _
  have HI := Lib.hid (is_ f r1 r2 (H.below hb2))
  rw [hf] at HI
  have HV := Lib.hid (vars_ (H.below hb2))
  have HA := Lib.hid (among_ A ca l s.vars ((w.alloc (.cells #[.pointer (some ⟨D, 0, none⟩)] 28)).alloc (.cells #[.func (.func 45) #[.pointer (some ⟨D, 0, none⟩)] #[]] 77)) (by omega) (by omega) (hA.below hb2))
  have hS : (fun i => (gone l s.vars).testBit i) = fun i : Nat => l.any fun v => decide (v = (i : Int) ∧ i < s.vars) := by funext i; exact gone_bit l s.vars i
  have hgl := gone_lt l s.vars
  have hpos : s.vars ≤ 61 := by omega
  have hdg := dg_top hwf hf
  rw [← hS]
  generalize gone l s.vars = g at *
  have h6 := start6 H hs (fun i => g.testBit i) (QuE.J) g (.func (.func 45) #[.pointer (some ⟨D, 0, none⟩)] #[])
  obtain ⟨hb6, hw6, hB6⟩ := h6
  have hW := QuE.walk D _ _ _ _ _ _ g s.vars f _ x c s N 0 _ hw6 hB6 hgl hdg hbu hL hN hc (by have := Nat.pow_le_pow_right (n := 2) (by omega) (show s.vars ≤ s.vars from Nat.le_refl _); omega)
  unfold WalkPost at hW
  have HW := Lib.hid hW
  have HU := Lib.hid (fun w' x' c' s' N' cnt' M' (h : Wq (six w D g (.func (.func 45) #[.pointer (some ⟨D, 0, none⟩)] #[])) D x (w.heap.size + 1 + 1 + 1) (fun i => g.testBit i) (QuE.J) w' x' c' s' N' cnt' M') => up_of hb6 (by omega) h)
  have HC := Lib.hid hB6.xw.cell
  have h0 : ∀ o, ((w.alloc (.cells #[.pointer (some ⟨D, 0, none⟩)] 28)).alloc (.cells #[.func (.func 45) #[.pointer (some ⟨D, 0, none⟩)] #[]] 77)).cell? ⟨w.heap.size, o, none⟩ = (#[.pointer (some ⟨D, 0, none⟩)] : Array Value)[o]? := fun o => Lib.cell_of_heap (heap_alloc2_old w _ _) o
  unfold QPost
  clear hW hw6 hB6 hb6 hb2 hwf hlen h61 hA H hbu hL hN hc hS hgl hpos hdg hf hs
  go_enter Try.func50, Try.ntmps50
  go_wp2_with fail
  refine HI.out.mono ?_
  rintro e w' ⟨rfl, rfl⟩
  clear HI
  go_wp2_with fail
  refine HV.out.mono ?_
  rintro e w' ⟨rfl, rfl⟩
  clear HV
  go_wp2_with fail
  refine HA.out.mono ?_
  rintro e w' ⟨rfl, rfl⟩
  clear HA h0
  go_upto_region 7 with fail
  have cw := HC.out
  clear HC
  unfold six at HW HU cw
  generalize (((((w.alloc (.cells #[.pointer (some ⟨D, 0, none⟩)] 28)).alloc (.cells #[.func (.func 45) #[.pointer (some ⟨D, 0, none⟩)] #[]] 77)).alloc (.cells #[.int .u64 g] 54)).alloc (.map #[] 0)).alloc (.cells #[.map (some (w.heap.size + 1 + 1 + 1))] 82)).alloc (.cells #[.func (.func 68) #[] #[.pointer (some ⟨w.heap.size, 0, none⟩), .pointer (some ⟨w.heap.size + 1 + 1, 0, none⟩), .pointer (some ⟨w.heap.size + 1 + 1 + 1 + 1, 0, none⟩), .pointer (some ⟨w.heap.size + 1 + 1 + 1 + 1 + 1, 0, none⟩), .pointer (some ⟨w.heap.size + 1, 0, none⟩)]] 47) = w6 at *
  go_wp2_with fail
  refine HW.out.mono ?_
  rintro e w' ⟨a, x', c', s', M', cnt', rfl, k1, k2, k3, k4, k5, k6, k7⟩
  have HE := Lib.hid (And.intro k4 (And.intro k5 (And.intro k7 (HU.out _ _ _ _ _ _ _ k1))))
  have hc2 : c' ≤ c + 2 * 2 ^ s.vars := by omega
  clear k1 k2 k3 k4 k5 k6 k7 HU HW cw
  go_wp2_with fail
  go_ret
  exact ⟨a, s', c', rfl, HE.out.1, HE.out.2.1, HE.out.2.2.1, hc2, HE.out.2.2.2⟩
set_option maxHeartbeats 2000000 in
set_option maxRecDepth 100000 in
theorem and_ {D : Nat} {x : Bx} {c : Nat} {s : St} {N : Nat} {w : World} (A : Option Addr) (ca : Nat) (l : List Int) (f : Int) (hf : isB s f = true) (hs : s.spent = false) (hA : RowJ w A l) (hl : l.length ≤ 1000) (hbu : s.L.length + s.vars * 2 ^ s.vars ≤ s.budget) (hL : s.L.length + s.vars * 2 ^ s.vars ≤ 119900) (hN : N + s.vars * 2 ^ s.vars ≤ 900000) (hc : c + 2 * 2 ^ s.vars ≤ 1000000) (H : Bd w D x c s N) :
    Calls Try.prog 50 #[.pointer (some ⟨D, 0, none⟩), .int .i64 f, .slice A l.length ca, .func (.func 44) #[.pointer (some ⟨D, 0, none⟩)] #[]] w (QPost D x c s N (s.vars * 2 ^ s.vars) (2 * 2 ^ s.vars) (EL (fun i : Nat => l.any fun v => decide (v = (i : Int) ∧ i < s.vars)) (QuF.J) s.vars (fun b => ev s.L b f)) w) := by
  have hmm := @run_makeMap Try.prog
  have hmf : ∀ (fn : Fn) (first cap : Array Value) (w : World), (Instr.makeFunc fn first cap).run Try.prog w = .ok (.func fn first cap) w := fun _ _ _ _ => rfl
  have hwf := H.tk.tb.wf
  have hlen := H.tk.tb.len
  have h61 := hwf.v61
  obtain ⟨r1, r2⟩ := is_range (by omega) hf
  have hb2 : Below w.heap.size w ((w.alloc (.cells #[.pointer (some ⟨D, 0, none⟩)] 28)).alloc (.cells #[.func (.func 44) #[.pointer (some ⟨D, 0, none⟩)] #[]] 77)) := ((Below.refl _ _).alloc (Nat.le_refl _) _).alloc (by simp) _
  have HI := Lib.hid (is_ f r1 r2 (H.below hb2))
  rw [hf] at HI
  have HV := Lib.hid (vars_ (H.below hb2))
  have HA := Lib.hid (among_ A ca l s.vars ((w.alloc (.cells #[.pointer (some ⟨D, 0, none⟩)] 28)).alloc (.cells #[.func (.func 44) #[.pointer (some ⟨D, 0, none⟩)] #[]] 77)) (by omega) (by omega) (hA.below hb2))
  have hS : (fun i => (gone l s.vars).testBit i) = fun i : Nat => l.any fun v => decide (v = (i : Int) ∧ i < s.vars) := by funext i; exact gone_bit l s.vars i
  have hgl := gone_lt l s.vars
  have hpos : s.vars ≤ 61 := by omega
  have hdg := dg_top hwf hf
  rw [← hS]
  generalize gone l s.vars = g at *
  have h6 := start6 H hs (fun i => g.testBit i) (QuF.J) g (.func (.func 44) #[.pointer (some ⟨D, 0, none⟩)] #[])
  obtain ⟨hb6, hw6, hB6⟩ := h6
  have hW := QuF.walk D _ _ _ _ _ _ g s.vars f _ x c s N 0 _ hw6 hB6 hgl hdg hbu hL hN hc (by have := Nat.pow_le_pow_right (n := 2) (by omega) (show s.vars ≤ s.vars from Nat.le_refl _); omega)
  unfold WalkPost at hW
  have HW := Lib.hid hW
  have HU := Lib.hid (fun w' x' c' s' N' cnt' M' (h : Wq (six w D g (.func (.func 44) #[.pointer (some ⟨D, 0, none⟩)] #[])) D x (w.heap.size + 1 + 1 + 1) (fun i => g.testBit i) (QuF.J) w' x' c' s' N' cnt' M') => up_of hb6 (by omega) h)
  have HC := Lib.hid hB6.xw.cell
  have h0 : ∀ o, ((w.alloc (.cells #[.pointer (some ⟨D, 0, none⟩)] 28)).alloc (.cells #[.func (.func 44) #[.pointer (some ⟨D, 0, none⟩)] #[]] 77)).cell? ⟨w.heap.size, o, none⟩ = (#[.pointer (some ⟨D, 0, none⟩)] : Array Value)[o]? := fun o => Lib.cell_of_heap (heap_alloc2_old w _ _) o
  unfold QPost
  clear hW hw6 hB6 hb6 hb2 hwf hlen h61 hA H hbu hL hN hc hS hgl hpos hdg hf hs
  go_enter Try.func50, Try.ntmps50
  go_wp2_with fail
  refine HI.out.mono ?_
  rintro e w' ⟨rfl, rfl⟩
  clear HI
  go_wp2_with fail
  refine HV.out.mono ?_
  rintro e w' ⟨rfl, rfl⟩
  clear HV
  go_wp2_with fail
  refine HA.out.mono ?_
  rintro e w' ⟨rfl, rfl⟩
  clear HA h0
  go_upto_region 7 with fail
  have cw := HC.out
  clear HC
  unfold six at HW HU cw
  generalize (((((w.alloc (.cells #[.pointer (some ⟨D, 0, none⟩)] 28)).alloc (.cells #[.func (.func 44) #[.pointer (some ⟨D, 0, none⟩)] #[]] 77)).alloc (.cells #[.int .u64 g] 54)).alloc (.map #[] 0)).alloc (.cells #[.map (some (w.heap.size + 1 + 1 + 1))] 82)).alloc (.cells #[.func (.func 68) #[] #[.pointer (some ⟨w.heap.size, 0, none⟩), .pointer (some ⟨w.heap.size + 1 + 1, 0, none⟩), .pointer (some ⟨w.heap.size + 1 + 1 + 1 + 1, 0, none⟩), .pointer (some ⟨w.heap.size + 1 + 1 + 1 + 1 + 1, 0, none⟩), .pointer (some ⟨w.heap.size + 1, 0, none⟩)]] 47) = w6 at *
  go_wp2_with fail
  refine HW.out.mono ?_
  rintro e w' ⟨a, x', c', s', M', cnt', rfl, k1, k2, k3, k4, k5, k6, k7⟩
  have HE := Lib.hid (And.intro k4 (And.intro k5 (And.intro k7 (HU.out _ _ _ _ _ _ _ k1))))
  have hc2 : c' ≤ c + 2 * 2 ^ s.vars := by omega
  clear k1 k2 k3 k4 k5 k6 k7 HU HW cw
  go_wp2_with fail
  go_ret
  exact ⟨a, s', c', rfl, HE.out.1, HE.out.2.1, HE.out.2.2.1, hc2, HE.out.2.2.2⟩
set_option maxHeartbeats 2000000 in
set_option maxRecDepth 100000 in
theorem pick_ {D : Nat} {x : Bx} {c : Nat} {s : St} {N : Nat} {w : World} (A : Option Addr) (ca : Nat) (l : List Int) (f : Int) (bs : Nat) (so : Bool) (hbs : w.heap[bs]? = some (.cells #[.bool so] 4 (0, 0))) (hbo : ¬ FootD D x bs) (hf : isB s f = true) (hs : s.spent = false) (hA : RowJ w A l) (hl : l.length ≤ 1000) (hbu : s.L.length + s.vars * 2 ^ s.vars ≤ s.budget) (hL : s.L.length + s.vars * 2 ^ s.vars ≤ 119900) (hN : N + s.vars * 2 ^ s.vars ≤ 900000) (hc : c + 2 * 2 ^ s.vars ≤ 1000000) (H : Bd w D x c s N) :
    Calls Try.prog 50 #[.pointer (some ⟨D, 0, none⟩), .int .i64 f, .slice A l.length ca, .func (.func 51) #[] #[.pointer (some ⟨bs, 0, none⟩)]] w (QPost D x c s N (s.vars * 2 ^ s.vars) (2 * 2 ^ s.vars) (EL (fun i : Nat => l.any fun v => decide (v = (i : Int) ∧ i < s.vars)) (QuG.J so) s.vars (fun b => ev s.L b f)) w) := by
  have hmm := @run_makeMap Try.prog
  have hmf : ∀ (fn : Fn) (first cap : Array Value) (w : World), (Instr.makeFunc fn first cap).run Try.prog w = .ok (.func fn first cap) w := fun _ _ _ _ => rfl
  have hwf := H.tk.tb.wf
  have hlen := H.tk.tb.len
  have h61 := hwf.v61
  obtain ⟨r1, r2⟩ := is_range (by omega) hf
  have hb2 : Below w.heap.size w ((w.alloc (.cells #[.pointer (some ⟨D, 0, none⟩)] 28)).alloc (.cells #[.func (.func 51) #[] #[.pointer (some ⟨bs, 0, none⟩)]] 77)) := ((Below.refl _ _).alloc (Nat.le_refl _) _).alloc (by simp) _
  have HI := Lib.hid (is_ f r1 r2 (H.below hb2))
  rw [hf] at HI
  have HV := Lib.hid (vars_ (H.below hb2))
  have HA := Lib.hid (among_ A ca l s.vars ((w.alloc (.cells #[.pointer (some ⟨D, 0, none⟩)] 28)).alloc (.cells #[.func (.func 51) #[] #[.pointer (some ⟨bs, 0, none⟩)]] 77)) (by omega) (by omega) (hA.below hb2))
  have hS : (fun i => (gone l s.vars).testBit i) = fun i : Nat => l.any fun v => decide (v = (i : Int) ∧ i < s.vars) := by funext i; exact gone_bit l s.vars i
  have hgl := gone_lt l s.vars
  have hpos : s.vars ≤ 61 := by omega
  have hdg := dg_top hwf hf
  rw [← hS]
  generalize gone l s.vars = g at *
  have h6 := start6 H hs (fun i => g.testBit i) (QuG.J so) g (.func (.func 51) #[] #[.pointer (some ⟨bs, 0, none⟩)])
  obtain ⟨hb6, hw6, hB6⟩ := h6
  have hW := QuG.walk D _ _ _ _ _ _ g bs so s.vars f _ x c s N 0 _ hw6 hB6 ⟨(hb6.block bs (Array.getElem?_eq_some_iff.1 hbs).1).trans hbs, hbo, by have := (Array.getElem?_eq_some_iff.1 hbs).1; omega⟩ hgl hdg hbu hL hN hc (by have := Nat.pow_le_pow_right (n := 2) (by omega) (show s.vars ≤ s.vars from Nat.le_refl _); omega)
  unfold WalkPost at hW
  have HW := Lib.hid hW
  have HU := Lib.hid (fun w' x' c' s' N' cnt' M' (h : Wq (six w D g (.func (.func 51) #[] #[.pointer (some ⟨bs, 0, none⟩)])) D x (w.heap.size + 1 + 1 + 1) (fun i => g.testBit i) (QuG.J so) w' x' c' s' N' cnt' M') => up_of hb6 (by omega) h)
  have HC := Lib.hid hB6.xw.cell
  have h0 : ∀ o, ((w.alloc (.cells #[.pointer (some ⟨D, 0, none⟩)] 28)).alloc (.cells #[.func (.func 51) #[] #[.pointer (some ⟨bs, 0, none⟩)]] 77)).cell? ⟨w.heap.size, o, none⟩ = (#[.pointer (some ⟨D, 0, none⟩)] : Array Value)[o]? := fun o => Lib.cell_of_heap (heap_alloc2_old w _ _) o
  unfold QPost
  clear hW hw6 hB6 hb6 hb2 hwf hlen h61 hA H hbu hL hN hc hS hgl hpos hdg hf hs hbs hbo
  go_enter Try.func50, Try.ntmps50
  go_wp2_with fail
  refine HI.out.mono ?_
  rintro e w' ⟨rfl, rfl⟩
  clear HI
  go_wp2_with fail
  refine HV.out.mono ?_
  rintro e w' ⟨rfl, rfl⟩
  clear HV
  go_wp2_with fail
  refine HA.out.mono ?_
  rintro e w' ⟨rfl, rfl⟩
  clear HA h0
  go_upto_region 7 with fail
  have cw := HC.out
  clear HC
  unfold six at HW HU cw
  generalize (((((w.alloc (.cells #[.pointer (some ⟨D, 0, none⟩)] 28)).alloc (.cells #[.func (.func 51) #[] #[.pointer (some ⟨bs, 0, none⟩)]] 77)).alloc (.cells #[.int .u64 g] 54)).alloc (.map #[] 0)).alloc (.cells #[.map (some (w.heap.size + 1 + 1 + 1))] 82)).alloc (.cells #[.func (.func 68) #[] #[.pointer (some ⟨w.heap.size, 0, none⟩), .pointer (some ⟨w.heap.size + 1 + 1, 0, none⟩), .pointer (some ⟨w.heap.size + 1 + 1 + 1 + 1, 0, none⟩), .pointer (some ⟨w.heap.size + 1 + 1 + 1 + 1 + 1, 0, none⟩), .pointer (some ⟨w.heap.size + 1, 0, none⟩)]] 47) = w6 at *
  go_wp2_with fail
  refine HW.out.mono ?_
  rintro e w' ⟨a, x', c', s', M', cnt', rfl, k1, k2, k3, k4, k5, k6, k7⟩
  have HE := Lib.hid (And.intro k4 (And.intro k5 (And.intro k7 (HU.out _ _ _ _ _ _ _ k1))))
  have hc2 : c' ≤ c + 2 * 2 ^ s.vars := by omega
  clear k1 k2 k3 k4 k5 k6 k7 HU HW cw
  go_wp2_with fail
  go_ret
  exact ⟨a, s', c', rfl, HE.out.1, HE.out.2.1, HE.out.2.2.1, hc2, HE.out.2.2.2⟩
end Go.Proofs.Ytnkkmppmfjekeaa.QuH
