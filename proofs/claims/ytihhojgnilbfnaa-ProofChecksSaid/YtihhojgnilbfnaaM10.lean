/- The document's Eval by contract. -/
import Derived.Test.YtihhojgnilbfnaaM09
import Derived.Test.YtihhojgnilbfnaaM01
import Derived.Lib.MinMax
import Derived.Test.YtihhojgnilbfnaaM07
namespace Go.Proofs.Ytihhojgnilbfnaa.SemRf
set_option linter.unusedVariables false
set_option linter.unusedSimpArgs false
open Go.RowKit Go.Lib Go.Proofs Go.Proofs.Ytihhojgnilbfnaa.TblB Go.Proofs.Ytihhojgnilbfnaa.TblC Go.Proofs.Ytihhojgnilbfnaa.TblV Go.Proofs.Ytihhojgnilbfnaa.TblP Go.Proofs.Ytihhojgnilbfnaa.TblQ Go.Proofs.Ytihhojgnilbfnaa.SemA Go.Proofs.Ytihhojgnilbfnaa.SemB Go.Proofs.Ytihhojgnilbfnaa.SemH Go.Proofs.Ytihhojgnilbfnaa.SemJ Go.Proofs.Ytihhojgnilbfnaa.SemR Go.Proofs.Ytihhojgnilbfnaa.SemRa Go.Proofs.Ytihhojgnilbfnaa.SemRb Go.Proofs.Ytihhojgnilbfnaa.SemRd Go.Proofs.Ytihhojgnilbfnaa.SemRe Go.Proofs.Ytihhojgnilbfnaa.SemRg Go.Proofs.Ytihhojgnilbfnaa.SemGa
set_option linter.unusedVariables false
set_option linter.unusedSimpArgs false
theorem infoBools : (Try.prog.info? 65).map (fun i => (i.zero, i.size, i.bytes)) = some (some (.slice none 0 0), 1, 24) := by kernel_rfl
theorem infoBool : (Try.prog.info? 4).map (fun i => (i.zero, i.size, i.bytes)) = some (some (.bool false), 1, 1) := by kernel_rfl
theorem madeB (n : Nat) : madeCells (Value.bool false).cells n = Array.replicate n (.bool false) := by
  apply Array.ext
  · simp [size_madeCells]
  · intro i h1 h2
    simp only [madeCells, Array.getElem_map, Array.getElem_range, Array.getElem_replicate]
    have : (Value.bool false).cells = #[Value.bool false] := rfl
    simp [this, Nat.mod_one]
theorem own_none (w : World) (B : Nat) (t : TypeId) : w.ownsRow B t 1 (.slice none 0 0) 0 [] := ⟨rfl, .inl ⟨rfl, rfl⟩⟩
theorem bwd (w : World) : Below w.heap.size w w.drew := (Below.refl _ _).drew
theorem below_fr {n mo : Nat} {R : Nat → Nat} {a b c : World} (hb : Below a.heap.size a b) (hf : Fr n R b c) (hR : ∀ r, r < n → mo + 1 ≤ R r) (hm : a.heap.size ≤ mo) : Below a.heap.size a c :=
  ⟨hf.os.trans hb.os, hf.tape.trans hb.tape, hf.output.trans hb.output, Nat.le_trans hb.size hf.size, fun k hk => (hf.block k (Nat.lt_of_lt_of_le hk hb.size) (fun r hr => by have := hR r hr; omega)).trans (hb.block k hk)⟩
theorem meas {P K n : Nat} {L : List Ru} {f g : Rel} {c : Bool} {a b : Nat} (h1 : a = outF n P f) (h2 : b = outF n P g) (h : Rd P K n L f L.length g c) : 2 * b + (match (.bool c : Value) with | .bool true => 1 | _ => 0) < 2 * a + 1 := by
  subst h1
  subst h2
  cases c with
  | false =>
    obtain ⟨rfl, _⟩ := h.no rfl
    simp
  | true =>
    obtain ⟨r, x, h3, h4, h5, h6⟩ := h.yes rfl
    have := outF_lt h.le h3 h4 h5 h6
    show 2 * _ + 1 < _
    omega
/-- The document's model of rules in memory. -/
def MoR (w : World) (mo P K : Nat) (L : List Ru) : Prop := ∃ gi ca R f, MR w mo gi ca P K (P * K) R f ∧ ∀ r x : Nat, f r x = true ↔ Der K (L.filter (rightU P K)) r x
theorem MoR.below {w w' : World} {mo P K : Nat} {L : List Ru} (h : MoR w mo P K L) (hb : Below w.heap.size w w') : MoR w' mo P K L := by
  obtain ⟨gi, ca, R, f, hm, hd⟩ := h
  exact ⟨gi, ca, R, f, hm.below hb, hd⟩
set_option maxHeartbeats 4000000 in
set_option maxRecDepth 100000 in
theorem evalR (d0 d1 : Int) (A : Option Addr) (ca : Nat) (L : List Ru) (w : World) (hL : L.length ≤ 1000) (hA : UG w A L) (P K : Nat) (hP : max 0 (min d0 64) = (P : Int)) (hK : max 0 (min d1 64) = (K : Int)) :
    Calls Try.prog 13 #[.int .i64 d0, .int .i64 d1, .slice A L.length ca] w fun e w' => ∃ mo : Nat, e = .returned (.pointer (some ⟨mo, 0, none⟩)) ∧ MoR w' mo P K L ∧ Below w.heap.size w w' := by
  have lP : P ≤ 64 := by omega
  have lK : K ≤ 64 := by omega
  obtain ⟨n, hn⟩ : ∃ n, P * K = n := ⟨_, rfl⟩
  have hn60 : P * K ≤ 64 * 64 := Nat.mul_le_mul lP lK
  have hmul : IntKind.i64.wrap ((P : Int) * (K : Int)) = (n : Int) := wrapN hn (by omega)
  have ln : n ≤ 4096 := by omega
  obtain ⟨i0, hi, hz0, hz1, hz2⟩ := info_parts infoBools
  obtain ⟨i1, hj, hy0, hy1, hy2⟩ := info_parts infoBool
  have mk := fun (w : World) => run_make (P := Try.prog) w 65 4 i1 _ Try.underlying65 hj hy0 .i64 .i64 P P (by omega) (by omega) (by rw [hy2]; omega) (by omega)
  rw [hy1] at mk
  simp only [Int.toNat_natCast, Nat.mul_one, madeB] at mk
  have HN := Lib.hid hn
  have HUA := Lib.hid (fun w' (hb : Below w.heap.size w w') => hA.below hb)
  have lL : L.length ≤ 1000 := hL
  clear hn hA hL hn60 hj hy0 hy1 hy2
  have hX0 := heap_alloc_new w (.cells #[.int .i64 P, .int .i64 K, .slice none 0 0] 64)
  have hB0 : Below w.heap.size w (w.alloc (.cells #[.int .i64 P, .int .i64 K, .slice none 0 0] 64)) := (Below.refl _ _).alloc (Nat.le_refl _) _
  have HR0 : Hid (Rs (w.alloc (.cells #[.int .i64 P, .int .i64 K, .slice none 0 0] 64)) (w.heap.size + 1) w.heap.size P K (.slice none 0 0) []) := Lib.hid ⟨own_none _ _ _, hX0, by omega, by simp, fun b hb => (by cases hb), List.nodup_nil, fun _ => rfl⟩
  have HB0 := Lib.hid hB0
  clear hX0 hB0
  go_enter Try.func13, Try.ntmps13
  go_upto_region 2 with fail
  generalize w.alloc (.cells #[.int .i64 P, .int .i64 K, .slice none 0 0] 64) = w0 at *
  obtain ⟨mo, hmo⟩ : ∃ mo, w.heap.size = mo := ⟨_, rfl⟩
  simp only [hmo] at HR0 ⊢
  go_wp2_with fail
  go_loopw [8] (fun i wr => ∃ (xs : List Nat) (v : Value), xs.length ≤ n ∧ i = .int .i64 xs.length ∧ Hid (Rs wr (mo + 1) mo P K v xs) ∧ Hid (Below w.heap.size w wr)) (fun i _ => n - (intOf i).toNat)
  case atStart => exact ⟨[], .slice none 0 0, by simp, rfl, HR0, HB0⟩
  case round =>
    obtain ⟨xs, v, hk, rfl, HR, HB⟩ := hrel
    have c0 : wr.cell? ⟨mo, 0, none⟩ = some (.int .i64 P) := Lib.cell_of_heap HR.out.h0 0
    have c1 : wr.cell? ⟨mo, 1, none⟩ = some (.int .i64 K) := Lib.cell_of_heap HR.out.h0 1
    by_cases hlt : xs.length < n
    · have e1 : decide ((xs.length : Int) < n) = true := by simp; omega
      go_upto_region 3 with fail
      go_quiet (fail)
      have HR1 := Lib.hid (HR.out.below (bwr wr nq))
      have HB1 := Lib.hid (below_drewN HB.out nq)
      clear c0 c1 HR HB
      go_upto_region 5 with fail
      generalize wr.drewN nq = X at *
      have hm0 := HR1.out.mb
      have hm1 := HR1.out.bs
      have hX1 : Below X.heap.size X (X.alloc (.cells (Array.replicate P (.bool false)) 4)) := (Below.refl _ _).alloc (Nat.le_refl _) _
      have hX2 := X2_below X P
      have hcell : ∀ w', Below X.heap.size X w' → ∀ o, w'.cell? ⟨mo, o, none⟩ = (#[.int .i64 P, .int .i64 K, v] : Array Value)[o]? := fun w' hb o => Lib.cell_of_heap (HR1.out.below hb).h0 o
      have a0 : X.drew.cell? ⟨mo, 0, none⟩ = some (.int .i64 P) := hcell _ (Below.refl _ _) 0
      have a2 : X.drew.cell? ⟨mo, 2, none⟩ = some v := hcell X (Below.refl _ _) 2
      have b0 : (X.alloc (.cells (Array.replicate P (.bool false)) 4)).drew.cell? ⟨mo, 0, none⟩ = some (.int .i64 P) := hcell _ hX1 0
      have b2 : (X.alloc (.cells (Array.replicate P (.bool false)) 4)).drew.cell? ⟨mo, 2, none⟩ = some v := hcell _ hX1 2
      have d0 : ((X.alloc (.cells (Array.replicate P (.bool false)) 4)).alloc (.cells #[.slice (some ⟨X.heap.size, 0, none⟩) P P] 65)).drew.cell? ⟨mo, 0, none⟩ = some (.int .i64 P) := hcell _ hX2 0
      have d2 : ((X.alloc (.cells (Array.replicate P (.bool false)) 4)).alloc (.cells #[.slice (some ⟨X.heap.size, 0, none⟩) P P] 65)).drew.cell? ⟨mo, 2, none⟩ = some v := hcell _ hX2 2
      have hXd : Below X.heap.size X X.drew := (Below.refl _ _).drew
      have HOw : Hid (((X.alloc (.cells (Array.replicate P (.bool false)) 4)).alloc (.cells #[.slice (some ⟨X.heap.size, 0, none⟩) P P] 65)).drew.ownsRow (mo + 1) 65 1 v xs.length (xs.map (rv P))) := Lib.hid ((HR1.out.below hX2).own)
      have HLit : Hid (∀ ad, some (⟨X.heap.size + 1, 0, none⟩ : Addr) = some ad → ∀ j u, [rv P X.heap.size][j]? = some u → ((X.alloc (.cells (Array.replicate P (.bool false)) 4)).alloc (.cells #[.slice (some ⟨X.heap.size, 0, none⟩) P P] 65)).drew.cell? (ad.add j) = some u) := Lib.hid (fun ad q j u hu => by
        injection q with q
        subst q
        have hb : ((X.alloc (.cells (Array.replicate P (.bool false)) 4)).alloc (.cells #[.slice (some ⟨X.heap.size, 0, none⟩) P P] 65)).heap[X.heap.size + 1]? = some (.cells #[.slice (some ⟨X.heap.size, 0, none⟩) P P] 65 (0, 0)) := by
          have := heap_alloc_new (X.alloc (.cells (Array.replicate P (.bool false)) 4)) (.cells #[.slice (some ⟨X.heap.size, 0, none⟩) P P] 65)
          rwa [show (X.alloc (.cells (Array.replicate P (.bool false)) 4)).heap.size = X.heap.size + 1 by simp] at this
        have h2 := Lib.cell_of_heap hb j
        rw [SemC.add_off, Nat.zero_add]
        refine Eq.trans h2 ?_
        rw [← hu]
        show ([rv P X.heap.size].toArray)[j]? = _
        rw [List.getElem?_toArray])
      have HOne : Hid (∀ u ∈ [rv P X.heap.size], u.oneCell' = true) := Lib.hid (fun u hu => by rw [List.mem_singleton] at hu; subst hu; rfl)
      have HSz : Hid (mo + 1 ≤ ((X.alloc (.cells (Array.replicate P (.bool false)) 4)).alloc (.cells #[.slice (some ⟨X.heap.size, 0, none⟩) P P] 65)).drew.heap.size) := Lib.hid (by
        have := X2_size X P
        show mo + 1 ≤ (X2 X P).heap.size
        omega)
      have HKp : Hid (∀ w1 v1, ((X.alloc (.cells (Array.replicate P (.bool false)) 4)).alloc (.cells #[.slice (some ⟨X.heap.size, 0, none⟩) P P] 65)).drew.grownBy w1 v.ownBlock → w1.cell? ⟨mo, 0, none⟩ = some (.int .i64 P) ∧ w1.frozen? ⟨mo, 2, none⟩ = false ∧ (w1.setCell ⟨mo, 2, none⟩ v1).cell? ⟨mo, 0, none⟩ = some (.int .i64 P) ∧ w1.cell? ⟨mo, 2, none⟩ = some v) := Lib.hid (fun w1 v1 hg => (HR1.out.below hXd).kept hg v1)
      have HPu : Hid (∀ w1 v1, w1.ownsRow (mo + 1) 65 1 v1 (xs.length + 1) (xs.map (rv P) ++ [rv P X.heap.size]) → ((X.alloc (.cells (Array.replicate P (.bool false)) 4)).alloc (.cells #[.slice (some ⟨X.heap.size, 0, none⟩) P P] 65)).drew.grownBy w1 v.ownBlock → Rs (w1.setCell ⟨mo, 2, none⟩ v1) (mo + 1) mo P K v1 (xs ++ [X.heap.size])) := Lib.hid (fun w1 v1 ho hg => (HR1.out.below hXd).push ho hg)
      have HPb : Hid (∀ w1 v1, ((X.alloc (.cells (Array.replicate P (.bool false)) 4)).alloc (.cells #[.slice (some ⟨X.heap.size, 0, none⟩) P P] 65)).drew.grownBy w1 v.ownBlock → Below w.heap.size w (w1.setCell ⟨mo, 2, none⟩ v1)) := Lib.hid (fun w1 v1 hg => (HR1.out.below hXd).push_below HB1.out.drew (by omega) hg)
      clear hcell hX1 hX2 hXd e1 hm0 hm1
      refine wp_region_held_drew (S := fun w' => w'.cell? ⟨mo, 0, none⟩ = some (.int .i64 P)) (by kernel_rfl) a0 (fun hHeld => ?_)
      refine wpAnyH_take (i := 0) (v := ?_) rfl (by kernel_rfl) (by kernel_rfl) (by kernel_rfl) (fun _ _ _ h => h) (Or.inl ⟨by kernel_rfl, ?_⟩) (by assumption) ?_
      rotate_left
      · intro w hSw; (try dsimp only at hSw); go_simp; try with_reducible rfl
      try simp only [Act.put, List.setIfInBounds_toArray, List.set_cons_zero, List.set_cons_succ]
      refine wpAnyH_take (i := 1) (v := ?_) rfl (by kernel_rfl) (by kernel_rfl) (by kernel_rfl) (fun _ _ _ h => h) (Or.inl ⟨by kernel_rfl, ?_⟩) (by assumption) ?_
      rotate_left
      · intro w hSw; (try dsimp only at hSw); go_simp; try with_reducible rfl
      try simp only [Act.put, List.setIfInBounds_toArray, List.set_cons_zero, List.set_cons_succ]
      refine wpAnyH_take (i := 5) (v := ?_) rfl (by kernel_rfl) (by kernel_rfl) (by kernel_rfl) (fun _ _ _ h => h) (Or.inl ⟨by kernel_rfl, ?_⟩) (by assumption) ?_
      rotate_left
      · intro w hSw; (try dsimp only at hSw); go_simp; try with_reducible rfl
      try simp only [Act.put, List.setIfInBounds_toArray, List.set_cons_zero, List.set_cons_succ]
      refine wpAnyH_take (i := 2) (v := ?_) rfl (by kernel_rfl) (by kernel_rfl) (by kernel_rfl) (fun _ _ _ h => h) (Or.inl ⟨by kernel_rfl, ?_⟩) (by assumption) ?_
      rotate_left
      · intro w hSw; (try dsimp only at hSw); go_simp; try with_reducible rfl
      try simp only [Act.put, List.setIfInBounds_toArray, List.set_cons_zero, List.set_cons_succ]
      refine wpAnyH_take (i := 6) (v := ?_) rfl (by kernel_rfl) (by kernel_rfl) (by kernel_rfl) (fun _ _ _ h => h) (Or.inl ⟨by kernel_rfl, ?_⟩) (by assumption) ?_
      rotate_left
      · intro w hSw; (try dsimp only at hSw); go_simp; try with_reducible rfl
      try simp only [Act.put, List.setIfInBounds_toArray, List.set_cons_zero, List.set_cons_succ]
      refine wpAnyH_take (i := 3) (v := ?_) rfl (by kernel_rfl) (by kernel_rfl) (by kernel_rfl) (fun _ _ _ h => h) (Or.inl ⟨by kernel_rfl, ?_⟩) (by assumption) ?_
      rotate_left
      · intro w hSw; (try dsimp only at hSw); go_simp; try with_reducible rfl
      try simp only [Act.put, List.setIfInBounds_toArray, List.set_cons_zero, List.set_cons_succ]
      refine wpAnyH_take (i := 7) (v := ?_) rfl (by kernel_rfl) (by kernel_rfl) (by kernel_rfl) (fun _ _ _ h => h) (Or.inl ⟨by kernel_rfl, ?_⟩) (by assumption) ?_
      rotate_left
      · intro w hSw; (try dsimp only at hSw); go_simp; try with_reducible rfl
      try simp only [Act.put, List.setIfInBounds_toArray, List.set_cons_zero, List.set_cons_succ]
      refine wpAnyH_take (i := 8) (v := ?_) rfl (by kernel_rfl) (by kernel_rfl) (by kernel_rfl) (fun _ _ _ h => h) (Or.inl ⟨by kernel_rfl, ?_⟩) (by assumption) ?_
      rotate_left
      · intro w hSw; (try dsimp only at hSw); go_simp; try with_reducible rfl
      try simp only [Act.put, List.setIfInBounds_toArray, List.set_cons_zero, List.set_cons_succ]
      refine wpAnyH_ready (rs := [4, 9]) (by kernel_rfl) (by simp) ?_
      refine AllReadyH.cons rfl (fun K hK => ?_) (AllReadyH.cons rfl (fun K hK => ?_) AllReadyH.nil)
      · go_simp
        refine hK.out _ _ a0 (fun hHeld => ?_)
        clear hK K
        try simp only [Act.put, List.setIfInBounds_toArray, List.set_cons_zero, List.set_cons_succ]
        refine wpAnyH_ready (rs := [9]) (by kernel_rfl) (by simp) ?_
        refine AllReadyH.cons rfl (fun K hK => ?_) AllReadyH.nil
        go_simp
        refine hK.out _ _ b0 (fun hHeld => ?_)
        clear hK K
        try simp only [Act.put, List.setIfInBounds_toArray, List.set_cons_zero, List.set_cons_succ]
        refine wpAnyH_ready (rs := [10]) (by kernel_rfl) (by simp) ?_
        refine AllReadyH.cons rfl (fun K hK => ?_) AllReadyH.nil
        go_simp
        refine hK.out _ _ d0 (fun hHeld => ?_)
        clear hK K
        try simp only [Act.put, List.setIfInBounds_toArray, List.set_cons_zero, List.set_cons_succ]
        refine wpAnyH_ready (rs := [11]) (by kernel_rfl) (by simp) ?_
        refine AllReadyH.cons rfl (fun K hK => ?_) AllReadyH.nil
        refine step_append_from _ rfl (.tmp 37) (.tmp 43) 62 rfl (mo + 1) 65 i0 (.slice none 0 0) 1 24 Try.underlying62 hi hz0 hz1 hz2 rfl (by decide) v xs.length (xs.map (rv P)) (by simp [Act.eval]) HOw.out (some ⟨X.heap.size + 1, 0, none⟩) 1 1 [rv P X.heap.size] (by simp [Act.eval]) rfl (fun q => by cases q) HLit.out HOne.out (by unfold maxLen; omega) (by omega) HSz.out ?_
        intro v1 w1 hown1 hg1
        obtain ⟨A5, c5, rfl⟩ := own_n hown1
        obtain ⟨k1, k2, k3, k4⟩ := HKp.out w1 (.slice A5 (xs.length + 1) c5) hg1
        refine hK.out _ _ k1 (fun hHeld => ?_)
        clear hK K
        try simp only [Act.put, List.setIfInBounds_toArray, List.set_cons_zero, List.set_cons_succ]
        refine wpAnyH_ready (rs := [12]) (by kernel_rfl) (by simp) ?_
        refine AllReadyH.cons rfl (fun K hK => ?_) AllReadyH.nil
        go_simp
        refine hK.out _ _ k1 (fun hHeld => ?_)
        clear hK K
        try simp only [Act.put, List.setIfInBounds_toArray, List.set_cons_zero, List.set_cons_succ]
        refine wpAnyH_ready (rs := [13]) (by kernel_rfl) (by simp) ?_
        refine AllReadyH.cons rfl (fun K hK => ?_) AllReadyH.nil
        go_simp
        refine hK.out _ _ k1 (fun hHeld => ?_)
        clear hK K
        try simp only [Act.put, List.setIfInBounds_toArray, List.set_cons_zero, List.set_cons_succ]
        refine wpAnyH_ready (rs := [14]) (by kernel_rfl) (by simp) ?_
        refine AllReadyH.cons rfl (fun K hK => ?_) AllReadyH.nil
        go_simp
        refine hK.out _ _ k3 (fun hHeld => ?_)
        clear hK K
        try simp only [Act.put, List.setIfInBounds_toArray, List.set_cons_zero, List.set_cons_succ]
        refine wpAnyH_done (by kernel_rfl) ?_ _
        have HR2 := Lib.hid (HPu.out w1 _ hown1 hg1)
        have HB2 := Lib.hid (HPb.out w1 (.slice A5 (xs.length + 1) c5) hg1)
        clear hown1 hg1 k1 k2 k3 k4 hHeld HOw HLit HKp HPu HPb HR1 HB1 a0 a2 b0 b2 d0 d2
        go_wp2_with fail
        go_roundw
        · exact ⟨xs ++ [X.heap.size], _, by simp; omega, by simp, HR2, HB2⟩
        · simp [intOf]; omega
      · go_simp
        refine hK.out _ _ b0 (fun hHeld => ?_)
        clear hK K
        try simp only [Act.put, List.setIfInBounds_toArray, List.set_cons_zero, List.set_cons_succ]
        refine wpAnyH_ready (rs := [4, 10]) (by kernel_rfl) (by simp) ?_
        refine AllReadyH.cons rfl (fun K hK => ?_) (AllReadyH.cons rfl (fun K hK => ?_) AllReadyH.nil)
        · go_simp
          refine hK.out _ _ b0 (fun hHeld => ?_)
          clear hK K
          try simp only [Act.put, List.setIfInBounds_toArray, List.set_cons_zero, List.set_cons_succ]
          refine wpAnyH_ready (rs := [10]) (by kernel_rfl) (by simp) ?_
          refine AllReadyH.cons rfl (fun K hK => ?_) AllReadyH.nil
          go_simp
          refine hK.out _ _ d0 (fun hHeld => ?_)
          clear hK K
          try simp only [Act.put, List.setIfInBounds_toArray, List.set_cons_zero, List.set_cons_succ]
          refine wpAnyH_ready (rs := [11]) (by kernel_rfl) (by simp) ?_
          refine AllReadyH.cons rfl (fun K hK => ?_) AllReadyH.nil
          refine step_append_from _ rfl (.tmp 37) (.tmp 43) 62 rfl (mo + 1) 65 i0 (.slice none 0 0) 1 24 Try.underlying62 hi hz0 hz1 hz2 rfl (by decide) v xs.length (xs.map (rv P)) (by simp [Act.eval]) HOw.out (some ⟨X.heap.size + 1, 0, none⟩) 1 1 [rv P X.heap.size] (by simp [Act.eval]) rfl (fun q => by cases q) HLit.out HOne.out (by unfold maxLen; omega) (by omega) HSz.out ?_
          intro v1 w1 hown1 hg1
          obtain ⟨A5, c5, rfl⟩ := own_n hown1
          obtain ⟨k1, k2, k3, k4⟩ := HKp.out w1 (.slice A5 (xs.length + 1) c5) hg1
          refine hK.out _ _ k1 (fun hHeld => ?_)
          clear hK K
          try simp only [Act.put, List.setIfInBounds_toArray, List.set_cons_zero, List.set_cons_succ]
          refine wpAnyH_ready (rs := [12]) (by kernel_rfl) (by simp) ?_
          refine AllReadyH.cons rfl (fun K hK => ?_) AllReadyH.nil
          go_simp
          refine hK.out _ _ k1 (fun hHeld => ?_)
          clear hK K
          try simp only [Act.put, List.setIfInBounds_toArray, List.set_cons_zero, List.set_cons_succ]
          refine wpAnyH_ready (rs := [13]) (by kernel_rfl) (by simp) ?_
          refine AllReadyH.cons rfl (fun K hK => ?_) AllReadyH.nil
          go_simp
          refine hK.out _ _ k1 (fun hHeld => ?_)
          clear hK K
          try simp only [Act.put, List.setIfInBounds_toArray, List.set_cons_zero, List.set_cons_succ]
          refine wpAnyH_ready (rs := [14]) (by kernel_rfl) (by simp) ?_
          refine AllReadyH.cons rfl (fun K hK => ?_) AllReadyH.nil
          go_simp
          refine hK.out _ _ k3 (fun hHeld => ?_)
          clear hK K
          try simp only [Act.put, List.setIfInBounds_toArray, List.set_cons_zero, List.set_cons_succ]
          refine wpAnyH_done (by kernel_rfl) ?_ _
          have HR2 := Lib.hid (HPu.out w1 _ hown1 hg1)
          have HB2 := Lib.hid (HPb.out w1 (.slice A5 (xs.length + 1) c5) hg1)
          clear hown1 hg1 k1 k2 k3 k4 hHeld HOw HLit HKp HPu HPb HR1 HB1 a0 a2 b0 b2 d0 d2
          go_wp2_with fail
          go_roundw
          · exact ⟨xs ++ [X.heap.size], _, by simp; omega, by simp, HR2, HB2⟩
          · simp [intOf]; omega
        · go_simp
          refine hK.out _ _ d0 (fun hHeld => ?_)
          clear hK K
          try simp only [Act.put, List.setIfInBounds_toArray, List.set_cons_zero, List.set_cons_succ]
          refine wpAnyH_ready (rs := [4]) (by kernel_rfl) (by simp) ?_
          refine AllReadyH.cons rfl (fun K hK => ?_) AllReadyH.nil
          go_simp
          refine hK.out _ _ d0 (fun hHeld => ?_)
          clear hK K
          try simp only [Act.put, List.setIfInBounds_toArray, List.set_cons_zero, List.set_cons_succ]
          refine wpAnyH_ready (rs := [11]) (by kernel_rfl) (by simp) ?_
          refine AllReadyH.cons rfl (fun K hK => ?_) AllReadyH.nil
          refine step_append_from _ rfl (.tmp 37) (.tmp 43) 62 rfl (mo + 1) 65 i0 (.slice none 0 0) 1 24 Try.underlying62 hi hz0 hz1 hz2 rfl (by decide) v xs.length (xs.map (rv P)) (by simp [Act.eval]) HOw.out (some ⟨X.heap.size + 1, 0, none⟩) 1 1 [rv P X.heap.size] (by simp [Act.eval]) rfl (fun q => by cases q) HLit.out HOne.out (by unfold maxLen; omega) (by omega) HSz.out ?_
          intro v1 w1 hown1 hg1
          obtain ⟨A5, c5, rfl⟩ := own_n hown1
          obtain ⟨k1, k2, k3, k4⟩ := HKp.out w1 (.slice A5 (xs.length + 1) c5) hg1
          refine hK.out _ _ k1 (fun hHeld => ?_)
          clear hK K
          try simp only [Act.put, List.setIfInBounds_toArray, List.set_cons_zero, List.set_cons_succ]
          refine wpAnyH_ready (rs := [12]) (by kernel_rfl) (by simp) ?_
          refine AllReadyH.cons rfl (fun K hK => ?_) AllReadyH.nil
          go_simp
          refine hK.out _ _ k1 (fun hHeld => ?_)
          clear hK K
          try simp only [Act.put, List.setIfInBounds_toArray, List.set_cons_zero, List.set_cons_succ]
          refine wpAnyH_ready (rs := [13]) (by kernel_rfl) (by simp) ?_
          refine AllReadyH.cons rfl (fun K hK => ?_) AllReadyH.nil
          go_simp
          refine hK.out _ _ k1 (fun hHeld => ?_)
          clear hK K
          try simp only [Act.put, List.setIfInBounds_toArray, List.set_cons_zero, List.set_cons_succ]
          refine wpAnyH_ready (rs := [14]) (by kernel_rfl) (by simp) ?_
          refine AllReadyH.cons rfl (fun K hK => ?_) AllReadyH.nil
          go_simp
          refine hK.out _ _ k3 (fun hHeld => ?_)
          clear hK K
          try simp only [Act.put, List.setIfInBounds_toArray, List.set_cons_zero, List.set_cons_succ]
          refine wpAnyH_done (by kernel_rfl) ?_ _
          have HR2 := Lib.hid (HPu.out w1 _ hown1 hg1)
          have HB2 := Lib.hid (HPb.out w1 (.slice A5 (xs.length + 1) c5) hg1)
          clear hown1 hg1 k1 k2 k3 k4 hHeld HOw HLit HKp HPu HPb HR1 HB1 a0 a2 b0 b2 d0 d2
          go_wp2_with fail
          go_roundw
          · exact ⟨xs ++ [X.heap.size], _, by simp; omega, by simp, HR2, HB2⟩
          · simp [intOf]; omega
    · have e1 : decide ((xs.length : Int) < n) = false := by simp; omega
      have hxn : xs.length = n := by omega
      go_upto_region 3 with fail
      go_quiet (fail)
      obtain ⟨gi, cg, rfl, hm, hgB, hRB⟩ := (HR.out.below (bwr wr nq)).model hxn
      have HB1 := Lib.hid (below_drewN HB.out nq)
      have HM := Lib.hid hm
      have HRB : Hid (∀ r, r < n → mo + 1 ≤ xs.getD r 0) := Lib.hid hRB
      clear c0 c1 HR HB hm hgB hRB hxn hlt e1
      generalize wr.drewN nq = X at *
      obtain ⟨R, HM, HRB⟩ : ∃ R : Nat → Nat, Hid (MR X mo gi cg P K n R fun _ _ => false) ∧ Hid (∀ r, r < n → mo + 1 ≤ R r) := ⟨_, HM, HRB⟩
      have HLo : Hid (w.heap.size ≤ mo) := Lib.hid (by omega)
      go_wp2_with fail
      go_loopw [9] (fun m wr => ∃ (b : Bool) (f : Rel), m = .bool b ∧ Hid (MR wr mo gi cg P K n R f) ∧ Hid (Below w.heap.size w wr) ∧ Hid (Snd K (L.filter (rightU P K)) f) ∧ Hid (b = false → Clo P K (L.filter (rightU P K)) f)) (fun m wr => 2 * outW n P R wr + (match m with | .bool true => 1 | _ => 0))
      case atStart => exact ⟨true, _, rfl, HM, HB1, Lib.hid (Snd.start _ _), Lib.hid (fun h => by cases h)⟩
      case round =>
        clear HM HB1
        obtain ⟨b, f, rfl, HM, HB, HS, HC⟩ := hrel
        cases b with
        | false =>
          go_wp2_with fail
          go_ret
          have hn := HN.out
          subst hn
          exact ⟨mo, rfl, ⟨gi, cg, R, f, HM.out, is_der (fun u hu => (List.mem_filter.1 hu).2) HS.out (HC.out (by first | rfl | trivial))⟩, by first | exact HB.out | (rw [← hmo]; exact HB.out)⟩
        | true =>
          have HO : Hid (outW n P R wr = outF n P f) := Lib.hid (outW_eq HM.out)
          generalize hmw : outW n P R wr = ow at *
          clear hmw HC
          go_wp2_with fail
          go_loopw [9, 50] (fun m i wy => ∃ (j : Nat) (c : Bool) (g : Rel), j ≤ L.length ∧ m = .bool c ∧ i = .int .i64 j ∧ Hid (MR wy mo gi cg P K n R g) ∧ Hid (Below w.heap.size w wy) ∧ Hid (Rd P K n L f j g c)) (fun _ i _ => L.length - (intOf i).toNat)
          case atStart => exact ⟨0, false, f, by omega, rfl, rfl, HM, HB, Lib.hid (Rd.start HS.out)⟩
          case round =>
            clear HM HB HS
            obtain ⟨j, c, g, hj, rfl, rfl, HM, HB, HR⟩ := hrel
            by_cases hlt : j < L.length
            · have e1 : decide ((j : Int) < L.length) = true := by simp; omega
              have p0 : (0 : Int) ≤ j := by omega
              have p1 : (j : Int) < L.length := by omega
              obtain ⟨ga, oa, hAe, hg, hcell⟩ := (HUA.out _ HB.out) (by omega)
              subst hAe
              have q1 := hcell j hlt
              have HNo : Hid (rightU P K L[j] = false → Rd P K n L f (j + 1) g c) := Lib.hid (fun h => HR.out.skip hlt h)
              have HYe : Hid (rightU P K L[j] = true → ∀ g' c', Mid P K g L[j] P g' c' → Rd P K n L f (j + 1) g' (c' || c)) := Lib.hid (fun h g' c' hm => HR.out.next HN.out.symm hlt h hm)
              clear hcell hg HR
              generalize L[j] = u at *
              have HRi := Lib.hid (fun w' => SemR.rightR P K u w' (by omega) (by omega))
              have HOn := Lib.hid (fun w' (hm : MR w' mo gi cg P K n R g) hr => once u w' hm (by omega) (by omega) HN.out.symm hr)
              generalize rightU P K u = rr at *
              obtain ⟨u0, u1, u2, u3, u4, u5⟩ := u
              unfold Ru.val at HRi HOn
              dsimp only [Ru.cells] at HRi HOn
              have a0 : wr.cell? ⟨ga, oa + j * 6, none⟩ = some (.int .i64 u0) := q1 0 (by omega)
              have a1 : wr.cell? ⟨ga, oa + j * 6 + 1, none⟩ = some (.int .i64 u1) := q1 1 (by omega)
              have a2 : wr.cell? ⟨ga, oa + j * 6 + 2, none⟩ = some (.int .i64 u2) := q1 2 (by omega)
              have a3 : wr.cell? ⟨ga, oa + j * 6 + 3, none⟩ = some (.int .i64 u3) := q1 3 (by omega)
              have a4 : wr.cell? ⟨ga, oa + j * 6 + 4, none⟩ = some (.int .i64 u4) := q1 4 (by omega)
              have a5 : wr.cell? ⟨ga, oa + j * 6 + 5, none⟩ = some (.int .i64 u5) := q1 5 (by omega)
              have hbX : Below wr.heap.size wr (wr.alloc (.cells #[.int .i64 u0, .int .i64 u1, .int .i64 u2, .int .i64 u3, .int .i64 u4, .int .i64 u5] 44)) := (Below.refl _ _).alloc (Nat.le_refl _) _
              have HX := Lib.hid (heap_alloc_new wr (.cells #[.int .i64 u0, .int .i64 u1, .int .i64 u2, .int .i64 u3, .int .i64 u4, .int .i64 u5] 44))
              have HM3 := Lib.hid (HM.out.below hbX)
              have HB3 := Lib.hid (SemI.nx HB.out hbX)
              have HRl : Hid (∀ r, r < n → wr.heap.size ≠ R r) := Lib.hid (fun r hr q => by have := HM.out.lt hr; omega)
              clear q1 hbX HM HB
              go_upto_region 12 with fail
              clear a0 a1 a2 a3 a4 a5
              obtain ⟨bx, hbx⟩ : ∃ bx, wr.heap.size = bx := ⟨_, rfl⟩
              rw [hbx] at HX HRl
              simp only [hbx] at ⊢
              generalize wr.alloc (.cells #[.int .i64 u0, .int .i64 u1, .int .i64 u2, .int .i64 u3, .int .i64 u4, .int .i64 u5] 44) = w3 at *
              have HCx := Lib.hid (fun w' (hb : Fr n R w3 w') (o : Nat) => Lib.cell_of_heap ((hb.block bx (lt_of HX.out) HRl.out).trans HX.out) o)
              clear HX HRl hbx
              have hS0 := (⟨fun o => Lib.cell_of_heap HM3.out.h0 o, HCx.out w3 (Fr.refl _ _ _)⟩ : (fun w' => (∀ o, w'.cell? ⟨mo, o, none⟩ = (#[.int .i64 P, .int .i64 K, .slice (if n = 0 then none else some ⟨gi, 0, none⟩) n cg] : Array Value)[o]?) ∧ ∀ o, w'.cell? ⟨bx, o, none⟩ = (#[.int .i64 u0, .int .i64 u1, .int .i64 u2, .int .i64 u3, .int .i64 u4, .int .i64 u5] : Array Value)[o]?) w3)
              refine wp_region_held_drew (S := fun w' => (∀ o, w'.cell? ⟨mo, o, none⟩ = (#[.int .i64 P, .int .i64 K, .slice (if n = 0 then none else some ⟨gi, 0, none⟩) n cg] : Array Value)[o]?) ∧ ∀ o, w'.cell? ⟨bx, o, none⟩ = (#[.int .i64 u0, .int .i64 u1, .int .i64 u2, .int .i64 u3, .int .i64 u4, .int .i64 u5] : Array Value)[o]?) (by kernel_rfl) hS0 (fun hHeld => ?_)
              refine wpAnyH_take (i := 0) (v := ?_) rfl (by kernel_rfl) (by kernel_rfl) (by kernel_rfl) (fun _ _ _ h => h) (Or.inl ⟨by kernel_rfl, ?_⟩) (by assumption) ?_
              rotate_left
              · intro w hSw; (try dsimp only at hSw); go_simp; try with_reducible rfl
              try simp only [Act.put, List.setIfInBounds_toArray, List.set_cons_zero, List.set_cons_succ]
              refine wpAnyH_take (i := 1) (v := ?_) rfl (by kernel_rfl) (by kernel_rfl) (by kernel_rfl) (fun _ _ _ h => h) (Or.inl ⟨by kernel_rfl, ?_⟩) (by assumption) ?_
              rotate_left
              · intro w hSw; (try dsimp only at hSw); go_simp; try with_reducible rfl
              try simp only [Act.put, List.setIfInBounds_toArray, List.set_cons_zero, List.set_cons_succ]
              refine wpAnyH_take (i := 4) (v := ?_) rfl (by kernel_rfl) (by kernel_rfl) (by kernel_rfl) (fun _ _ _ h => h) (Or.inl ⟨by kernel_rfl, ?_⟩) (by assumption) ?_
              rotate_left
              · intro w hSw; (try dsimp only at hSw); go_simp; try with_reducible rfl
              try simp only [Act.put, List.setIfInBounds_toArray, List.set_cons_zero, List.set_cons_succ]
              refine wpAnyH_take (i := 5) (v := ?_) rfl (by kernel_rfl) (by kernel_rfl) (by kernel_rfl) (fun _ _ _ h => h) (Or.inl ⟨by kernel_rfl, ?_⟩) (by assumption) ?_
              rotate_left
              · intro w hSw; (try dsimp only at hSw); go_simp; try with_reducible rfl
              try simp only [Act.put, List.setIfInBounds_toArray, List.set_cons_zero, List.set_cons_succ]
              refine wpAnyH_take (i := 2) (v := ?_) rfl (by kernel_rfl) (by kernel_rfl) (by kernel_rfl) (fun _ _ _ h => h) (Or.inl ⟨by kernel_rfl, ?_⟩) (by assumption) ?_
              rotate_left
              · intro w hSw; (try dsimp only at hSw); go_simp; try with_reducible rfl
              try simp only [Act.put, List.setIfInBounds_toArray, List.set_cons_zero, List.set_cons_succ]
              refine wpAnyH_take (i := 6) (v := ?_) rfl (by kernel_rfl) (by kernel_rfl) (by kernel_rfl) (fun _ _ _ h => h) (Or.inl ⟨by kernel_rfl, ?_⟩) (by assumption) ?_
              rotate_left
              · intro w hSw; (try dsimp only at hSw); go_simp; try with_reducible rfl
              try simp only [Act.put, List.setIfInBounds_toArray, List.set_cons_zero, List.set_cons_succ]
              refine wpAnyH_take (i := 3) (v := ?_) rfl (by kernel_rfl) (by kernel_rfl) (by kernel_rfl) (fun _ _ _ h => h) (Or.inl ⟨by kernel_rfl, ?_⟩) (by assumption) ?_
              rotate_left
              · intro w hSw; (try dsimp only at hSw); go_simp; try with_reducible rfl
              try simp only [Act.put, List.setIfInBounds_toArray, List.set_cons_zero, List.set_cons_succ]
              refine wpAnyH_take (i := 7) (v := ?_) rfl (by kernel_rfl) (by kernel_rfl) (by kernel_rfl) (fun _ _ _ h => h) (Or.inl ⟨by kernel_rfl, ?_⟩) (by assumption) ?_
              rotate_left
              · intro w hSw; (try dsimp only at hSw); go_simp; try with_reducible rfl
              try simp only [Act.put, List.setIfInBounds_toArray, List.set_cons_zero, List.set_cons_succ]
              refine wpAnyH_take (i := 8) (v := ?_) rfl (by kernel_rfl) (by kernel_rfl) (by kernel_rfl) (fun _ _ _ h => h) (Or.inl ⟨by kernel_rfl, ?_⟩) (by assumption) ?_
              rotate_left
              · intro w hSw; (try dsimp only at hSw); go_simp; try with_reducible rfl
              try simp only [Act.put, List.setIfInBounds_toArray, List.set_cons_zero, List.set_cons_succ]
              cases rr with
              | false =>
                refine wpAnyH_ready (rs := [9]) (by kernel_rfl) (by simp) ?_
                refine AllReadyH.cons rfl (fun K hK => ?_) AllReadyH.nil
                go_simp
                go_wp2_with (((with_reducible refine (HRi.out _).mono ?_); rintro e w4 ⟨rfl, hb4⟩; have HM4 := Lib.hid ((HM3.out.below (bwd w3)).below hb4); have HF4 := Lib.hid ((Fr.refl n R w3).below (bwd w3) |>.below hb4); have HB4 := Lib.hid (SemI.nx (SemI.nx HB3.out (bwd w3)) hb4)))
                refine hK.out _ _ ⟨fun o => Lib.cell_of_heap HM4.out.h0 o, HCx.out _ HF4.out⟩ (fun hHeld => ?_)
                clear hK K
                try simp only [Act.put, List.setIfInBounds_toArray, List.set_cons_zero, List.set_cons_succ]
                refine wpAnyH_take (i := 10) (v := ?_) rfl (by kernel_rfl) (by kernel_rfl) (by kernel_rfl) (fun _ _ _ h => h) (Or.inl ⟨by kernel_rfl, ?_⟩) (by assumption) ?_
                rotate_left
                · intro w hSw; (try dsimp only at hSw); go_simp; try with_reducible rfl
                try simp only [Act.put, List.setIfInBounds_toArray, List.set_cons_zero, List.set_cons_succ]
                refine wpAnyH_take (i := 11) (v := undef) rfl (by kernel_rfl) (by kernel_rfl) (by kernel_rfl) (fun _ _ _ h => h) (Or.inr ⟨by kernel_rfl, rfl⟩) (by assumption) ?_
                try simp only [Act.put, List.setIfInBounds_toArray, List.set_cons_zero, List.set_cons_succ]
                refine wpAnyH_take (i := 12) (v := undef) rfl (by kernel_rfl) (by kernel_rfl) (by kernel_rfl) (fun _ _ _ h => h) (Or.inr ⟨by kernel_rfl, rfl⟩) (by assumption) ?_
                try simp only [Act.put, List.setIfInBounds_toArray, List.set_cons_zero, List.set_cons_succ]
                refine wpAnyH_take (i := 13) (v := undef) rfl (by kernel_rfl) (by kernel_rfl) (by kernel_rfl) (fun _ _ _ h => h) (Or.inr ⟨by kernel_rfl, rfl⟩) (by assumption) ?_
                try simp only [Act.put, List.setIfInBounds_toArray, List.set_cons_zero, List.set_cons_succ]
                refine wpAnyH_take (i := 14) (v := ?_) rfl (by kernel_rfl) (by kernel_rfl) (by kernel_rfl) (fun _ _ _ h => h) (Or.inl ⟨by kernel_rfl, ?_⟩) (by assumption) ?_
                rotate_left
                · intro w hSw; (try dsimp only at hSw); go_simp; try with_reducible rfl
                try simp only [Act.put, List.setIfInBounds_toArray, List.set_cons_zero, List.set_cons_succ]
                refine wpAnyH_done (by kernel_rfl) ?_ _
                have HR2 := Lib.hid (HNo.out (by first | rfl | trivial))
                clear HNo HYe HRi HOn HCx hS0 hHeld HM3 HB3
                go_wp2_with fail
                go_roundw
                · exact ⟨j + 1, c, g, by omega, rfl, by simp, HM4, HB4, HR2⟩
                · simp [intOf]; omega
              | true =>
                refine wpAnyH_ready (rs := [9]) (by kernel_rfl) (by simp) ?_
                refine AllReadyH.cons rfl (fun K hK => ?_) AllReadyH.nil
                go_simp
                go_wp2_with (((with_reducible refine (HRi.out _).mono ?_); rintro e w4 ⟨rfl, hb4⟩; have HM4 := Lib.hid ((HM3.out.below (bwd w3)).below hb4); have HF4 := Lib.hid ((Fr.refl n R w3).below (bwd w3) |>.below hb4); have HB4 := Lib.hid (SemI.nx (SemI.nx HB3.out (bwd w3)) hb4)))
                refine hK.out _ _ ⟨fun o => Lib.cell_of_heap HM4.out.h0 o, HCx.out _ HF4.out⟩ (fun hHeld => ?_)
                clear hK K
                try simp only [Act.put, List.setIfInBounds_toArray, List.set_cons_zero, List.set_cons_succ]
                refine wpAnyH_take (i := 10) (v := ?_) rfl (by kernel_rfl) (by kernel_rfl) (by kernel_rfl) (fun _ _ _ h => h) (Or.inl ⟨by kernel_rfl, ?_⟩) (by assumption) ?_
                rotate_left
                · intro w hSw; (try dsimp only at hSw); go_simp; try with_reducible rfl
                try simp only [Act.put, List.setIfInBounds_toArray, List.set_cons_zero, List.set_cons_succ]
                refine wpAnyH_take (i := 11) (v := ?_) rfl (by kernel_rfl) (by kernel_rfl) (by kernel_rfl) (fun _ _ _ h => h) (Or.inl ⟨by kernel_rfl, ?_⟩) (by assumption) ?_
                rotate_left
                · intro w hSw; (try dsimp only at hSw); go_simp; try with_reducible rfl
                try simp only [Act.put, List.setIfInBounds_toArray, List.set_cons_zero, List.set_cons_succ]
                refine wpAnyH_take (i := 12) (v := ?_) rfl (by kernel_rfl) (by kernel_rfl) (by kernel_rfl) (fun _ _ _ h => h) (Or.inl ⟨by kernel_rfl, ?_⟩) (by assumption) ?_
                rotate_left
                · intro w hSw; (try dsimp only at hSw); go_simp; try with_reducible rfl
                try simp only [Act.put, List.setIfInBounds_toArray, List.set_cons_zero, List.set_cons_succ]
                refine wpAnyH_ready (rs := [13]) (by kernel_rfl) (by simp) ?_
                refine AllReadyH.cons rfl (fun K hK => ?_) AllReadyH.nil
                go_simp
                go_wp2_with (((with_reducible refine (HOn.out _ HM4.out (by first | rfl | trivial)).mono ?_); rintro e w5 ⟨g5, c5, rfl, hm5, hf5, hd5⟩; have HM5 := Lib.hid hm5; have HF5 := Lib.hid (HF4.out.trans hf5); have HB5 := Lib.hid (below_fr HB4.out hf5 HRB.out HLo.out); have HR5 := Lib.hid (HYe.out (by first | rfl | trivial) _ _ hd5)))
                refine hK.out _ _ ⟨fun o => Lib.cell_of_heap HM5.out.h0 o, HCx.out _ HF5.out⟩ (fun hHeld => ?_)
                clear hK K
                try simp only [Act.put, List.setIfInBounds_toArray, List.set_cons_zero, List.set_cons_succ]
                refine wpAnyH_take (i := 14) (v := ?_) rfl (by kernel_rfl) (by kernel_rfl) (by kernel_rfl) (fun _ _ _ h => h) (Or.inl ⟨by kernel_rfl, ?_⟩) (by assumption) ?_
                rotate_left
                · intro w hSw; (try dsimp only at hSw); go_simp; try with_reducible rfl
                try simp only [Act.put, List.setIfInBounds_toArray, List.set_cons_zero, List.set_cons_succ]
                refine wpAnyH_done (by kernel_rfl) ?_ _
                clear HNo HYe HRi HOn HCx hS0 hHeld HM3 HB3 HM4 HB4 HF4 hm5 hf5 hd5 HF5
                cases c5 with
                | false =>
                  go_wp2_with fail
                  go_roundw
                  · exact ⟨j + 1, c, g5, by omega, rfl, by simp, HM5, HB5, HR5⟩
                  · simp [intOf]; omega
                | true =>
                  go_wp2_with fail
                  go_roundw
                  · exact ⟨j + 1, true, g5, by omega, rfl, by simp, HM5, HB5, HR5⟩
                  · simp [intOf]; omega
            · have e1 : decide ((j : Int) < L.length) = false := by simp; omega
              obtain rfl : j = L.length := by omega
              have HO2 : Hid (outW n P R wr = outF n P g) := Lib.hid (outW_eq HM.out)
              go_wp2_with fail
              go_roundw
              · exact ⟨c, g, rfl, HM, HB, Lib.hid HR.out.snd, Lib.hid (fun q => by subst q; exact HR.out.close)⟩
              · exact meas HO.out HO2.out HR.out
end Go.Proofs.Ytihhojgnilbfnaa.SemRf
/- The document's Has by contract. -/
namespace Go.Proofs.Ytihhojgnilbfnaa.SemRh
set_option linter.unusedVariables false
set_option linter.unusedSimpArgs false
open Go.RowKit Go.Lib Go.Proofs Go.Proofs.Ytihhojgnilbfnaa.TblB Go.Proofs.Ytihhojgnilbfnaa.TblC Go.Proofs.Ytihhojgnilbfnaa.TblV Go.Proofs.Ytihhojgnilbfnaa.TblP Go.Proofs.Ytihhojgnilbfnaa.TblQ Go.Proofs.Ytihhojgnilbfnaa.SemA Go.Proofs.Ytihhojgnilbfnaa.SemB Go.Proofs.Ytihhojgnilbfnaa.SemJ Go.Proofs.Ytihhojgnilbfnaa.SemR Go.Proofs.Ytihhojgnilbfnaa.SemRa Go.Proofs.Ytihhojgnilbfnaa.SemRb Go.Proofs.Ytihhojgnilbfnaa.SemRd Go.Proofs.Ytihhojgnilbfnaa.SemRf Go.Proofs.Ytihhojgnilbfnaa.SemGa
set_option linter.unusedVariables false
set_option linter.unusedSimpArgs false
theorem right_all {P K : Nat} {L : List Ru} : ∀ u ∈ L.filter (rightU P K), rightU P K u = true := fun u hu => (List.mem_filter.1 hu).2
/-- Only what is in the dimensions follows. -/
theorem der_in {P K : Nat} {L : List Ru} {r x : Int} (d : Der K (L.filter (rightU P K)) r x) : 0 ≤ r ∧ r < ((P * K : Nat) : Int) ∧ 0 ≤ x ∧ x < (P : Int) := by
  have hc : Clo P K (L.filter (rightU P K)) (fun r x => derB P K L r x) := fun u hu x hx hc => by
    have := Snd.step hu (right_all u hu) (fun r x => derB P K L r x) x (fun r x h => derB_iff.1 h) hc
    show derB P K L _ _ = true
    exact derB_iff.2 (this _ _ (upd_same _ _ _))
  obtain ⟨r', x', rfl, rfl, h1, h2, _⟩ := hc.der right_all d
  omega
theorem der_no {P K : Nat} {L : List Ru} {r x : Int} (h : ¬ (0 ≤ r ∧ r < ((P * K : Nat) : Int) ∧ 0 ≤ x ∧ x < (P : Int))) : derB P K L r x = false := by
  cases hb : derB P K L r x
  · rfl
  · exact absurd (der_in (derB_iff.1 hb)) h
set_option maxHeartbeats 2000000 in
set_option maxRecDepth 100000 in
theorem hasR {w : World} {mo P K : Nat} {L : List Ru} (h : MoR w mo P K L) (r x : Int) : Calls Try.prog 15 #[.pointer (some ⟨mo, 0, none⟩), .int .i64 r, .int .i64 x] w fun e w' => e = .returned (.bool (derB P K L r x)) ∧ Below w.heap.size w w' := by
  obtain ⟨gi, cg, R, f, hm, hd⟩ := h
  obtain ⟨n, hn⟩ : ∃ n, P * K = n := ⟨_, rfl⟩
  rw [hn] at hm
  have c0 : w.cell? ⟨mo, 0, none⟩ = some (.int .i64 P) := Lib.cell_of_heap hm.h0 0
  have c2 : w.cell? ⟨mo, 2, none⟩ = some (.slice (if n = 0 then none else some ⟨gi, 0, none⟩) n cg) := Lib.cell_of_heap hm.h0 2
  have HB := Lib.hid (Below.refl w.heap.size w)
  have HNo : Hid (¬ (0 ≤ r ∧ r < (n : Int) ∧ 0 ≤ x ∧ x < (P : Int)) → derB P K L r x = false) := Lib.hid (fun h => der_no (by rw [hn]; exact h))
  by_cases h1 : 0 ≤ r
  · by_cases h2 : r < (n : Int)
    · have hn0 : n ≠ 0 := by omega
      rw [if_neg hn0] at c2
      by_cases h3 : 0 ≤ x
      · by_cases h4 : x < (P : Int)
        · obtain ⟨r', rfl⟩ : ∃ k : Nat, r = k := ⟨r.toNat, by omega⟩
          obtain ⟨x', rfl⟩ : ∃ k : Nat, x = k := ⟨x.toNat, by omega⟩
          obtain ⟨c1, i1⟩ := hm.hi r' (by omega)
          obtain ⟨r1, q1⟩ := hm.row (r := r') (x := x') (by omega) (by omega)
          have e : derB P K L r' x' = f r' x' := by
            rw [Bool.eq_iff_iff, derB_iff, hd]
          rw [e]
          clear hm hd HNo hn hn0 e
          generalize f r' x' = b at *
          have e1 : decide ((0 : Int) ≤ r') = true := decide_eq_true h1
          have e2 : decide ((r' : Int) < n) = true := decide_eq_true h2
          have e3 : decide ((0 : Int) ≤ x') = true := decide_eq_true h3
          have e4 : decide ((x' : Int) < P) = true := decide_eq_true h4
          go_enter Try.func15, Try.ntmps15
          go_wp2_with fail
          go_ret
          exact ⟨rfl, HB.out⟩
        · rw [HNo.out (by omega)]
          have e1 : decide ((0 : Int) ≤ r) = true := decide_eq_true h1
          have e2 : decide (r < (n : Int)) = true := decide_eq_true h2
          have e3 : decide ((0 : Int) ≤ x) = true := decide_eq_true h3
          have e4 : decide (x < (P : Int)) = false := decide_eq_false h4
          clear hm hd HNo hn hn0
          go_enter Try.func15, Try.ntmps15
          go_wp2_with fail
          go_ret
          exact ⟨rfl, HB.out⟩
      · rw [HNo.out (by omega)]
        have e1 : decide ((0 : Int) ≤ r) = true := decide_eq_true h1
        have e2 : decide (r < (n : Int)) = true := decide_eq_true h2
        have e3 : decide ((0 : Int) ≤ x) = false := decide_eq_false h3
        clear hm hd HNo hn hn0
        go_enter Try.func15, Try.ntmps15
        go_wp2_with fail
        go_ret
        exact ⟨rfl, HB.out⟩
    · rw [HNo.out (by omega)]
      have e1 : decide ((0 : Int) ≤ r) = true := decide_eq_true h1
      have e2 : decide (r < (n : Int)) = false := decide_eq_false h2
      generalize (if n = 0 then none else some (⟨gi, 0, none⟩ : Addr)) = pt at c2
      clear hm hd HNo hn
      go_enter Try.func15, Try.ntmps15
      go_wp2_with fail
      go_ret
      exact ⟨rfl, HB.out⟩
  · rw [HNo.out (by omega)]
    have e1 : decide ((0 : Int) ≤ r) = false := decide_eq_false h1
    clear hm hd HNo hn
    go_enter Try.func15, Try.ntmps15
    go_wp2_with fail
    go_ret
    exact ⟨rfl, HB.out⟩
end Go.Proofs.Ytihhojgnilbfnaa.SemRh
/- The walk of the law that proofs are told just where somebody is in a role. -/
namespace Go.Proofs.Ytihhojgnilbfnaa.PfU
set_option linter.unusedVariables false
set_option linter.unusedSimpArgs false
open Go.RowKit Go.Lib Go.Proofs Go.Maps Go.Proofs.Ytihhojgnilbfnaa.TblB Go.Proofs.Ytihhojgnilbfnaa.TblC Go.Proofs.Ytihhojgnilbfnaa.TblV Go.Proofs.Ytihhojgnilbfnaa.TblP Go.Proofs.Ytihhojgnilbfnaa.TblQ Go.Proofs.Ytihhojgnilbfnaa.SemA Go.Proofs.Ytihhojgnilbfnaa.SemB Go.Proofs.Ytihhojgnilbfnaa.SemGa Go.Proofs.Ytihhojgnilbfnaa.SemJ Go.Proofs.Ytihhojgnilbfnaa.SemK Go.Proofs.Ytihhojgnilbfnaa.SemSw Go.Proofs.Ytihhojgnilbfnaa.SemRf Go.Proofs.Ytihhojgnilbfnaa.SemRh Go.Proofs.Ytihhojgnilbfnaa.PfM Go.Proofs.Ytihhojgnilbfnaa.PfN Go.Proofs.Ytihhojgnilbfnaa.PfO Go.Proofs.Ytihhojgnilbfnaa.PfB Go.Proofs.Ytihhojgnilbfnaa.PfC Go.Proofs.Ytihhojgnilbfnaa.PfE Go.Proofs.Ytihhojgnilbfnaa.PfJ Go.Proofs.Ytihhojgnilbfnaa.PfL Go.Proofs.Ytihhojgnilbfnaa.PfR Go.Proofs.Ytihhojgnilbfnaa.PfS1 Go.Proofs.Ytihhojgnilbfnaa.PfS3 Go.Proofs.Ytihhojgnilbfnaa.PfS4 Go.Proofs.Ytihhojgnilbfnaa.PfS5
set_option linter.unusedVariables false
set_option linter.unusedSimpArgs false
/-- Is a fact stood on by one of these steps? -/
def ndB (K : Nat) (L : List Ru) (f : Fa) (l : List Sp) : Bool := l.any fun y => decide (f ∈ under K (ruleD L y.rule) y)
theorem ndB_step (K : Nat) (L : List Ru) (f : Fa) (l : List Sp) (j : Nat) (h : j < l.length) : ndB K L f (l.take (j + 1)) = (ndB K L f (l.take j) || decide (f ∈ under K (ruleD L l[j].rule) l[j])) := by
  unfold ndB
  rw [List.take_succ_eq_append_getElem h, List.any_append]
  simp
theorem nd_all {P K : Nat} {L : List Ru} {f : Fa} {T : List Sp} (h : Proof P K L f T) {i : Nat} (hi : i + 1 < T.length) : ndB K L T[i].fa (T.drop (i + 1)) = true := by
  have hn := h.need i T[i] (List.getElem?_eq_getElem (by omega))
  have hnd := chk_nd _ _ h.ck (by simp)
  rw [List.nil_append] at hnd
  rcases hn with q | ⟨b, y, hb, hy, hu⟩
  · exfalso
    obtain ⟨T', s, rfl, hs⟩ := h.last
    simp only [List.mem_singleton] at q
    rw [← hs] at q
    have hl : T'.length < (T' ++ [s]).length := by simp
    have hi2 : i < T'.length := by simp at hi; omega
    have e2 : (T' ++ [s])[T'.length] = s := by simp
    have := List.getElem_inj (xs := (T' ++ [s]).map Sp.fa) (i := i) (j := T'.length) (h₀ := by rw [List.length_map]; omega) (h₁ := by rw [List.length_map]; omega) hnd
    rw [List.getElem_map, List.getElem_map, e2] at this
    have := this.1 q
    omega
  · unfold ndB
    rw [List.any_eq_true]
    have hbl := (List.getElem?_eq_some_iff.1 hy).1
    refine ⟨y, ?_, by simpa [needs] using hu⟩
    refine List.mem_of_getElem? (i := b - (i + 1)) ?_
    rw [List.getElem?_drop, show i + 1 + (b - (i + 1)) = b by omega]
    exact hy
theorem der_pos {d0 d1 : Int} {L : List Ru} {T : List Sp} {f : Fa} (h : Proof d0.toNat d1.toNat L f T) : 0 ≤ d0 ∧ 0 ≤ d1 := by
  obtain ⟨T', s, rfl, hs⟩ := h.last
  have hc := h.ck
  obtain ⟨_, _, u, hu, _⟩ := chk_rng _ _ hc s (by simp)
  exact right_dims (ruleAt_some hu).2.2.2
theorem len_pf {P K : Nat} {L : List Ru} {f : Fa} {T : List Sp} (h : Proof P K L f T) (hP : P ≤ 10) (hK : K ≤ 6) : T.length ≤ 1000 := by
  have h1 := chk_len h.ck
  have h2 : P * K ≤ 10 * 6 := Nat.mul_le_mul hP hK
  have h3 : P * K * P ≤ 60 * 10 := Nat.mul_le_mul h2 hP
  omega
theorem checkD (d0 d1 : Int) (A : Option Addr) (ca : Nat) (L : List Ru) (B : Option Addr) (cb : Nat) (T : List Sp) (f : Fa) (w : World) (g1 : d0 ≤ 10) (g2 : d1 ≤ 6) (hL : L.length ≤ 60) (hcb : T.length ≤ cb) (hA : UG w A L) (hB : TG w B T) (hp : Proof d0.toNat d1.toNat L f T) :
    Calls Try.prog 8 #[.int .i64 d0, .int .i64 d1, .slice A L.length ca, .slice B T.length cb] w fun e w' => e = .returned (.bool true) ∧ Below w.heap.size w w' := by
  obtain ⟨p0, p1⟩ := der_pos hp
  obtain ⟨P, rfl⟩ : ∃ n : Nat, d0 = n := ⟨d0.toNat, by omega⟩
  obtain ⟨K, rfl⟩ : ∃ n : Nat, d1 = n := ⟨d1.toNat, by omega⟩
  simp only [Int.toNat_natCast] at hp
  have := len_pf hp (by omega) (by omega)
  exact check P K A ca L B cb T w (by omega) (by omega) hL (by omega) hcb hA hB hp.ck
theorem neededD (d0 d1 : Int) (A : Option Addr) (ca : Nat) (L : List Ru) (T : List Sp) (f : Fa) (w : World) (g1 : d0 ≤ 10) (g2 : d1 ≤ 6) (hL : L.length ≤ 60) (hA : UG w A L) (hp : Proof d0.toNat d1.toNat L f T) (j : Nat) (hj : j < T.length) (r y : Int) :
    Calls Try.prog 16 #[.int .i64 d1, .slice A L.length ca, .agg #[.int .i64 T[j].rule, .int .i64 T[j].role, .int .i64 T[j].who, .int .i64 T[j].mid], .int .i64 r, .int .i64 y] w fun e w' => e = .returned (.bool (decide ((r, y) ∈ under d1.toNat (ruleD L T[j].rule) T[j]))) ∧ Below w.heap.size w w' := by
  obtain ⟨p0, p1⟩ := der_pos hp
  obtain ⟨P, rfl⟩ : ∃ n : Nat, d0 = n := ⟨d0.toNat, by omega⟩
  obtain ⟨K, rfl⟩ : ∃ n : Nat, d1 = n := ⟨d1.toNat, by omega⟩
  simp only [Int.toNat_natCast] at hp ⊢
  have h1 := chk_at T [] j T[j] hp.ck (List.getElem?_eq_getElem hj)
  obtain ⟨u, hu, hf, _⟩ := okS_rng h1
  rw [ruleD_of hu]
  exact needed P K A ca L T[j].rule T[j].role T[j].who T[j].mid r y u w (by omega) (by omega) hL hA hu hf
set_option maxHeartbeats 4000000 in
set_option maxRecDepth 100000 in
theorem law (d0 d1 r x : Int) (A : Option Addr) (ca : Nat) (L : List Ru) (w : World) (hL : L.length ≤ maxLen) (hA : UG w A L) (hf : InR (r, x)) :
    Calls Try.prog 4 #[.agg #[.int .i64 d0, .int .i64 d1], .slice A L.length ca, .agg #[.int .i64 r, .int .i64 x]] w fun e w' => e = .returned (.bool true) ∧ Below w.heap.size w w' := by
  have hb0 : Below w.heap.size w ((w.alloc (.cells #[.int .i64 d0, .int .i64 d1] 22)).alloc (.cells #[.int .i64 r, .int .i64 x] 22)) := ((Below.refl _ _).alloc (Nat.le_refl _) _).alloc (by rw [World.size_alloc]; omega) _
  have hd1 := heap_alloc2_old w (.cells #[.int .i64 d0, .int .i64 d1] 22) (.cells #[.int .i64 r, .int .i64 x] 22)
  have hd2 := heap_alloc2_new w (.cells #[.int .i64 d0, .int .i64 d1] 22) (.cells #[.int .i64 r, .int .i64 x] 22)
  have HD1 := Lib.hid hd1
  have HD2 := Lib.hid hd2
  have HSm := Lib.hid (fun w' => small d0 d1 A ca L.length (by unfold maxLen at hL; exact hL) w')
  have HLv := Lib.hid (fun w' => lives w')
  have HB0 := Lib.hid hb0
  have HUA := Lib.hid (hA.below hb0)
  clear hb0 hA hd1 hd2
  cases hs : smallB d0 d1 L.length
  · rw [hs] at HSm
    clear hs HUA
    go_enter Try.func4, Try.ntmps4
    go_upto_region 1 with fail
    obtain ⟨bx, hbx⟩ : ∃ bx, w.heap.size = bx := ⟨_, rfl⟩
    simp only [hbx] at HD1 HD2 ⊢
    generalize (w.alloc (.cells #[.int .i64 d0, .int .i64 d1] 22)).alloc (.cells #[.int .i64 r, .int .i64 x] 22) = w0 at *
    have c0 := fun o => Lib.cell_of_heap HD1.out o
    go_wp2_with fail
    refine (HSm.out _).mono ?_
    rintro e w1 ⟨rfl, rfl⟩
    clear c0 HD1 HD2 HSm
    go_wp2_with fail
    refine (HLv.out _).mono ?_
    rintro e w2 ⟨rfl, hb⟩
    have HF := Lib.hid (SemI.nx HB0.out hb)
    clear hb HLv HB0
    go_wp2_with fail
    go_ret
    exact ⟨rfl, by first | exact HF.out | (rw [← hbx]; exact HF.out)⟩
  · rw [hs] at HSm
    unfold smallB at hs
    simp only [Bool.and_eq_true, decide_eq_true_eq] at hs
    obtain ⟨s1, s2, s3⟩ := hs
    have HEr := Lib.hid (fun w' hu => evalR d0 d1 A ca L w' (by omega) hu d0.toNat d1.toNat (by omega) (by omega))
    have HWy := Lib.hid (fun w' hu => why d0 d1 A ca L (r, x) w' s1 s2 s3 hu hf)
    have HCk := Lib.hid (fun w' hu B cb T hcb hB hp => checkD d0 d1 A ca L B cb T (r, x) w' s1 s2 s3 hcb hu hB hp)
    have HNd := Lib.hid (fun w' hu T hp => neededD d0 d1 A ca L T (r, x) w' s1 s2 s3 hu hp)
    have HLn : Hid (∀ T, Proof d0.toNat d1.toNat L (r, x) T → T.length ≤ 1000) := Lib.hid (fun T hp => len_pf hp (by omega) (by omega))
    unfold WhyPost at HWy
    generalize d0.toNat = P at *
    generalize d1.toNat = K at *
    clear s1 s2 s3 hf
    go_enter Try.func4, Try.ntmps4
    go_upto_region 1 with fail
    obtain ⟨bx, hbx⟩ : ∃ bx, w.heap.size = bx := ⟨_, rfl⟩
    simp only [hbx] at HD1 HD2 ⊢
    generalize (w.alloc (.cells #[.int .i64 d0, .int .i64 d1] 22)).alloc (.cells #[.int .i64 r, .int .i64 x] 22) = w0 at *
    have HC1 := Lib.hid (fun w' (hb : Below w0.heap.size w0 w') (o : Nat) => Lib.cell_of_heap ((hb.block _ (lt_of HD1.out)).trans HD1.out) o)
    have HC2 := Lib.hid (fun w' (hb : Below w0.heap.size w0 w') (o : Nat) => Lib.cell_of_heap ((hb.block _ (lt_of HD2.out)).trans HD2.out) o)
    clear HD1 HD2
    have c0 := HC1.out w0 (Below.refl _ _)
    go_wp2_with fail
    refine (HSm.out _).mono ?_
    rintro e w1 ⟨rfl, rfl⟩
    clear HSm
    go_wp2_with fail
    refine (HEr.out _ HUA.out).mono ?_
    rintro e w3 ⟨mo, rfl, hmo, hb3⟩
    have HB3 := Lib.hid hb3
    have HMo := Lib.hid hmo
    clear hb3 hmo c0 HEr
    have c0 := HC1.out w3 HB3.out
    have c1 := HC2.out w3 HB3.out
    go_wp2_with fail
    refine (HWy.out _ (HUA.out.below HB3.out)).mono ?_
    rintro e w4 ⟨hb4, hwhy⟩
    have HB4 := Lib.hid (SemI.nx HB3.out hb4)
    have HHas := Lib.hid (hasR (HMo.out.below hb4) r x)
    have HW := Lib.hid hwhy
    clear hwhy hb4 c0 c1 HWy HMo HB3
    have c0 := HC1.out w4 HB4.out
    have c1 := HC2.out w4 HB4.out
    rcases HW.out with ⟨hd, A2, c2, T, rfl, htg, hcap, hpr⟩ | ⟨hd, rfl⟩
    · rw [hd] at HHas
      clear hd HW
      have HT := Lib.hid htg
      have HCap := Lib.hid hcap
      have HP := Lib.hid hpr
      clear htg hcap hpr
      go_wp2_with fail
      refine HHas.out.mono ?_
      rintro e w5 ⟨rfl, hb5⟩
      have HB5 := Lib.hid (SemI.nx HB4.out hb5)
      have HT5 := Lib.hid (HT.out.below hb5)
      clear hb5 HHas HB4 HT c0 c1
      obtain ⟨m, hm⟩ : ∃ m, T.length = m + 1 := by
        obtain ⟨T', s, rfl, _⟩ := HP.out.last
        exact ⟨T'.length, by simp⟩
      obtain ⟨g, o, rfl, hg, hc⟩ := HT5.out (by omega)
      have hfa : (T[m].role = r ∧ T[m].who = x) := by
        obtain ⟨T', s, rfl, hs⟩ := HP.out.last
        have : m = T'.length := by simp at hm; omega
        subst this
        simp only [List.getElem_append_right (Nat.le_refl _), Nat.sub_self, List.getElem_cons_zero]
        simpa [Sp.fa] using hs
      have HCk2 := Lib.hid (fun w' (hb : Below w5.heap.size w5 w') => HCk.out w' (HUA.out.below (SemI.nx HB5.out hb)) (some ⟨g, o, none⟩) c2 T HCap.out (HT5.out.below hb) HP.out)
      have hy : ∀ w', Below w5.heap.size w5 w' → w'.cell? ⟨g, o + m * 4 + 1, none⟩ = some (.int .i64 r) ∧ w'.cell? ⟨g, o + m * 4 + 2, none⟩ = some (.int .i64 x) := fun w' hb => by
        have z1 := (hb.cell (p := ⟨g, o + m * 4 + 1, none⟩) hg).trans (hc m (by omega) 1 (by omega))
        have z2 := (hb.cell (p := ⟨g, o + m * 4 + 2, none⟩) hg).trans (hc m (by omega) 2 (by omega))
        rw [← hfa.1, ← hfa.2]
        exact ⟨z1, z2⟩
      rw [hm] at HCk2
      have HLen := Lib.hid (HLn.out T HP.out)
      have hlen := HLen.out
      have HN2 := Lib.hid (fun w' (hb : Below w5.heap.size w5 w') => HNd.out w' (HUA.out.below (SemI.nx HB5.out hb)) T HP.out)
      have HCap2 := Lib.hid (show m + 1 ≤ c2 by rw [← hm]; exact HCap.out)
      have hcap2 := HCap2.out
      simp only [hm]
      have hw1 : IntKind.i64.wrap ((m : Int) + 1 - 1) = m := by rw [IntKind.wrap_i64]; omega
      have hw2 : IntKind.i64.wrap (m : Int) = m := by rw [IntKind.wrap_i64]; omega
      have q0 : (0 : Int) ≤ m := by omega
      have q1 : (m : Int) < ((m + 1 : Nat) : Int) := by omega
      have q2 : (m : Int) < (m : Int) + 1 := by omega
      have HS : Hid (∀ w', Below w5.heap.size w5 w' → Below w5.heap.size w5 w' ∧ (∀ o, w'.cell? ⟨bx, o, none⟩ = (#[.int .i64 d0, .int .i64 d1] : Array Value)[o]?) ∧ (∀ o, w'.cell? ⟨bx + 1, o, none⟩ = (#[.int .i64 r, .int .i64 x] : Array Value)[o]?) ∧ w'.cell? ⟨g, o + m * 4 + 1, none⟩ = some (.int .i64 r) ∧ w'.cell? ⟨g, o + m * 4 + 2, none⟩ = some (.int .i64 x)) := Lib.hid (fun w' hb => ⟨hb, HC1.out w' (SemI.nx HB5.out hb), HC2.out w' (SemI.nx HB5.out hb), hy w' hb⟩)
      clear HCk HNd HLn hfa hc
      go_upto_region 10 with fail
      go_cut [94] from 61 to 93 (fun v wx => v = .bool false ∧ Hid (Below w5.heap.size w5 wx))
      case first =>
        have e0 : (((m : Int) + 1) == 0) = false := by simp; omega
        have H0 := HS.out w5.drew ((Below.refl _ _).drew)
        refine wp_region_held_drew (S := fun w' => Below w5.heap.size w5 w' ∧ (∀ o, w'.cell? ⟨bx, o, none⟩ = (#[.int .i64 d0, .int .i64 d1] : Array Value)[o]?) ∧ (∀ o, w'.cell? ⟨bx + 1, o, none⟩ = (#[.int .i64 r, .int .i64 x] : Array Value)[o]?) ∧ w'.cell? ⟨g, o + m * 4 + 1, none⟩ = some (.int .i64 r) ∧ w'.cell? ⟨g, o + m * 4 + 2, none⟩ = some (.int .i64 x)) (by kernel_rfl) H0 (fun hHeld => ?_)
        refine wpAnyH_take (i := 0) (v := ?_) rfl (by kernel_rfl) (by kernel_rfl) (by kernel_rfl) (fun _ _ _ h => h) (Or.inl ⟨by kernel_rfl, ?_⟩) (by assumption) ?_
        rotate_left
        · intro w hSw; obtain ⟨_, hS1, hS2, hS3, hS4⟩ := hSw; (try dsimp only at hS1 hS2 hS3 hS4); go_simp; try with_reducible rfl
        try simp (config := { maxSteps := 2000000 }) only [Act.put, List.setIfInBounds_toArray, List.set_cons_zero, List.set_cons_succ, List.getElem_toArray, List.getElem_cons_succ, List.getElem_cons_zero]
        refine wpAnyH_take (i := 1) (v := ?_) rfl (by kernel_rfl) (by kernel_rfl) (by kernel_rfl) (fun _ _ _ h => h) (Or.inl ⟨by kernel_rfl, ?_⟩) (by assumption) ?_
        rotate_left
        · intro w hSw; obtain ⟨_, hS1, hS2, hS3, hS4⟩ := hSw; (try dsimp only at hS1 hS2 hS3 hS4); go_simp; try with_reducible rfl
        try simp (config := { maxSteps := 2000000 }) only [Act.put, List.setIfInBounds_toArray, List.set_cons_zero, List.set_cons_succ, List.getElem_toArray, List.getElem_cons_succ, List.getElem_cons_zero]
        refine wpAnyH_take (i := 2) (v := ?_) rfl (by kernel_rfl) (by kernel_rfl) (by kernel_rfl) (fun _ _ _ h => h) (Or.inl ⟨by kernel_rfl, ?_⟩) (by assumption) ?_
        rotate_left
        · intro w hSw; obtain ⟨_, hS1, hS2, hS3, hS4⟩ := hSw; (try dsimp only at hS1 hS2 hS3 hS4); go_simp; try with_reducible rfl
        try simp (config := { maxSteps := 2000000 }) only [Act.put, List.setIfInBounds_toArray, List.set_cons_zero, List.set_cons_succ, List.getElem_toArray, List.getElem_cons_succ, List.getElem_cons_zero]
        refine wpAnyH_take (i := 3) (v := ?_) rfl (by kernel_rfl) (by kernel_rfl) (by kernel_rfl) (fun _ _ _ h => h) (Or.inl ⟨by kernel_rfl, ?_⟩) (by assumption) ?_
        rotate_left
        · intro w hSw; obtain ⟨_, hS1, hS2, hS3, hS4⟩ := hSw; (try dsimp only at hS1 hS2 hS3 hS4); go_simp; try with_reducible rfl
        try simp (config := { maxSteps := 2000000 }) only [Act.put, List.setIfInBounds_toArray, List.set_cons_zero, List.set_cons_succ, List.getElem_toArray, List.getElem_cons_succ, List.getElem_cons_zero]
        refine wpAnyH_take (i := 4) (v := ?_) rfl (by kernel_rfl) (by kernel_rfl) (by kernel_rfl) (fun _ _ _ h => h) (Or.inl ⟨by kernel_rfl, ?_⟩) (by assumption) ?_
        rotate_left
        · intro w hSw; obtain ⟨_, hS1, hS2, hS3, hS4⟩ := hSw; (try dsimp only at hS1 hS2 hS3 hS4); go_simp; try with_reducible rfl
        try simp (config := { maxSteps := 2000000 }) only [Act.put, List.setIfInBounds_toArray, List.set_cons_zero, List.set_cons_succ, List.getElem_toArray, List.getElem_cons_succ, List.getElem_cons_zero]
        refine wpAnyH_take (i := 5) (v := ?_) rfl (by kernel_rfl) (by kernel_rfl) (by kernel_rfl) (fun _ _ _ h => h) (Or.inl ⟨by kernel_rfl, ?_⟩) (by assumption) ?_
        rotate_left
        · intro w hSw; obtain ⟨_, hS1, hS2, hS3, hS4⟩ := hSw; (try dsimp only at hS1 hS2 hS3 hS4); go_simp; try with_reducible rfl
        try simp (config := { maxSteps := 2000000 }) only [Act.put, List.setIfInBounds_toArray, List.set_cons_zero, List.set_cons_succ, List.getElem_toArray, List.getElem_cons_succ, List.getElem_cons_zero]
        refine wpAnyH_take (i := 6) (v := ?_) rfl (by kernel_rfl) (by kernel_rfl) (by kernel_rfl) (fun _ _ _ h => h) (Or.inl ⟨by kernel_rfl, ?_⟩) (by assumption) ?_
        rotate_left
        · intro w hSw; obtain ⟨_, hS1, hS2, hS3, hS4⟩ := hSw; (try dsimp only at hS1 hS2 hS3 hS4); go_simp; try with_reducible rfl
        try simp (config := { maxSteps := 2000000 }) only [Act.put, List.setIfInBounds_toArray, List.set_cons_zero, List.set_cons_succ, List.getElem_toArray, List.getElem_cons_succ, List.getElem_cons_zero]
        refine wpAnyH_take (i := 7) (v := ?_) rfl (by kernel_rfl) (by kernel_rfl) (by kernel_rfl) (fun _ _ _ h => h) (Or.inl ⟨by kernel_rfl, ?_⟩) (by assumption) ?_
        rotate_left
        · intro w hSw; obtain ⟨_, hS1, hS2, hS3, hS4⟩ := hSw; (try dsimp only at hS1 hS2 hS3 hS4); go_simp; try with_reducible rfl
        try simp (config := { maxSteps := 2000000 }) only [Act.put, List.setIfInBounds_toArray, List.set_cons_zero, List.set_cons_succ, List.getElem_toArray, List.getElem_cons_succ, List.getElem_cons_zero]
        refine wpAnyH_take (i := 8) (v := ?_) rfl (by kernel_rfl) (by kernel_rfl) (by kernel_rfl) (fun _ _ _ h => h) (Or.inl ⟨by kernel_rfl, ?_⟩) (by assumption) ?_
        rotate_left
        · intro w hSw; obtain ⟨_, hS1, hS2, hS3, hS4⟩ := hSw; (try dsimp only at hS1 hS2 hS3 hS4); go_simp; try with_reducible rfl
        try simp (config := { maxSteps := 2000000 }) only [Act.put, List.setIfInBounds_toArray, List.set_cons_zero, List.set_cons_succ, List.getElem_toArray, List.getElem_cons_succ, List.getElem_cons_zero]
        refine wpAnyH_ready (rs := [9]) (by kernel_rfl) (by simp) ?_
        refine AllReadyH.cons rfl (fun K hK => ?_) AllReadyH.nil
        go_simp
        go_wp2_with ((with_reducible refine (HCk2.out _ hHeld.1).mono ?_); rintro e wa ⟨rfl, hba⟩)
        refine hK.out _ _ (HS.out _ (nx hHeld.1 hba)) (fun hHeld => ?_)
        clear hK K hba
        try simp (config := { maxSteps := 2000000 }) only [Act.put, List.setIfInBounds_toArray, List.set_cons_zero, List.set_cons_succ, List.getElem_toArray, List.getElem_cons_succ, List.getElem_cons_zero]
        refine wpAnyH_take (i := 10) (v := ?_) rfl (by kernel_rfl) (by kernel_rfl) (by kernel_rfl) (fun _ _ _ h => h) (Or.inl ⟨by kernel_rfl, ?_⟩) (by assumption) ?_
        rotate_left
        · intro w hSw; obtain ⟨_, hS1, hS2, hS3, hS4⟩ := hSw; (try dsimp only at hS1 hS2 hS3 hS4); go_simp; try with_reducible rfl
        try simp (config := { maxSteps := 2000000 }) only [Act.put, List.setIfInBounds_toArray, List.set_cons_zero, List.set_cons_succ, List.getElem_toArray, List.getElem_cons_succ, List.getElem_cons_zero]
        refine wpAnyH_take (i := 11) (v := ?_) rfl (by kernel_rfl) (by kernel_rfl) (by kernel_rfl) (fun _ _ _ h => h) (Or.inl ⟨by kernel_rfl, ?_⟩) (by assumption) ?_
        rotate_left
        · intro w hSw; obtain ⟨_, hS1, hS2, hS3, hS4⟩ := hSw; (try dsimp only at hS1 hS2 hS3 hS4); go_simp; try with_reducible rfl
        try simp (config := { maxSteps := 2000000 }) only [Act.put, List.setIfInBounds_toArray, List.set_cons_zero, List.set_cons_succ, List.getElem_toArray, List.getElem_cons_succ, List.getElem_cons_zero]
        refine wpAnyH_take (i := 12) (v := ?_) rfl (by kernel_rfl) (by kernel_rfl) (by kernel_rfl) (fun _ _ _ h => h) (Or.inl ⟨by kernel_rfl, ?_⟩) (by assumption) ?_
        rotate_left
        · intro w hSw; obtain ⟨_, hS1, hS2, hS3, hS4⟩ := hSw; (try dsimp only at hS1 hS2 hS3 hS4); go_simp; try with_reducible rfl
        try simp (config := { maxSteps := 2000000 }) only [Act.put, List.setIfInBounds_toArray, List.set_cons_zero, List.set_cons_succ, List.getElem_toArray, List.getElem_cons_succ, List.getElem_cons_zero]
        refine wpAnyH_take (i := 13) (v := ?_) rfl (by kernel_rfl) (by kernel_rfl) (by kernel_rfl) (fun _ _ _ h => h) (Or.inl ⟨by kernel_rfl, ?_⟩) (by assumption) ?_
        rotate_left
        · intro w hSw; obtain ⟨_, hS1, hS2, hS3, hS4⟩ := hSw; (try dsimp only at hS1 hS2 hS3 hS4); go_simp; try with_reducible rfl
        try simp (config := { maxSteps := 2000000 }) only [Act.put, List.setIfInBounds_toArray, List.set_cons_zero, List.set_cons_succ, List.getElem_toArray, List.getElem_cons_succ, List.getElem_cons_zero]
        refine wpAnyH_take (i := 14) (v := ?_) rfl (by kernel_rfl) (by kernel_rfl) (by kernel_rfl) (fun _ _ _ h => h) (Or.inl ⟨by kernel_rfl, ?_⟩) (by assumption) ?_
        rotate_left
        · intro w hSw; obtain ⟨_, hS1, hS2, hS3, hS4⟩ := hSw; (try dsimp only at hS1 hS2 hS3 hS4); go_simp; try with_reducible rfl
        try simp (config := { maxSteps := 2000000 }) only [Act.put, List.setIfInBounds_toArray, List.set_cons_zero, List.set_cons_succ, List.getElem_toArray, List.getElem_cons_succ, List.getElem_cons_zero]
        refine wpAnyH_take (i := 15) (v := ?_) rfl (by kernel_rfl) (by kernel_rfl) (by kernel_rfl) (fun _ _ _ h => h) (Or.inl ⟨by kernel_rfl, ?_⟩) (by assumption) ?_
        rotate_left
        · intro w hSw; obtain ⟨_, hS1, hS2, hS3, hS4⟩ := hSw; (try dsimp only at hS1 hS2 hS3 hS4); go_simp; try with_reducible rfl
        try simp (config := { maxSteps := 2000000 }) only [Act.put, List.setIfInBounds_toArray, List.set_cons_zero, List.set_cons_succ, List.getElem_toArray, List.getElem_cons_succ, List.getElem_cons_zero]
        refine wpAnyH_take (i := 16) (v := ?_) rfl (by kernel_rfl) (by kernel_rfl) (by kernel_rfl) (fun _ _ _ h => h) (Or.inl ⟨by kernel_rfl, ?_⟩) (by assumption) ?_
        rotate_left
        · intro w hSw; obtain ⟨_, hS1, hS2, hS3, hS4⟩ := hSw; (try dsimp only at hS1 hS2 hS3 hS4); go_simp; try with_reducible rfl
        try simp (config := { maxSteps := 2000000 }) only [Act.put, List.setIfInBounds_toArray, List.set_cons_zero, List.set_cons_succ, List.getElem_toArray, List.getElem_cons_succ, List.getElem_cons_zero]
        refine wpAnyH_take (i := 17) (v := ?_) rfl (by kernel_rfl) (by kernel_rfl) (by kernel_rfl) (fun _ _ _ h => h) (Or.inl ⟨by kernel_rfl, ?_⟩) (by assumption) ?_
        rotate_left
        · intro w hSw; obtain ⟨_, hS1, hS2, hS3, hS4⟩ := hSw; (try dsimp only at hS1 hS2 hS3 hS4); go_simp; try with_reducible rfl
        try simp (config := { maxSteps := 2000000 }) only [Act.put, List.setIfInBounds_toArray, List.set_cons_zero, List.set_cons_succ, List.getElem_toArray, List.getElem_cons_succ, List.getElem_cons_zero]
        refine wpAnyH_take (i := 18) (v := ?_) rfl (by kernel_rfl) (by kernel_rfl) (by kernel_rfl) (fun _ _ _ h => h) (Or.inl ⟨by kernel_rfl, ?_⟩) (by assumption) ?_
        rotate_left
        · intro w hSw; obtain ⟨_, hS1, hS2, hS3, hS4⟩ := hSw; (try dsimp only at hS1 hS2 hS3 hS4); go_simp; try with_reducible rfl
        try simp (config := { maxSteps := 2000000 }) only [Act.put, List.setIfInBounds_toArray, List.set_cons_zero, List.set_cons_succ, List.getElem_toArray, List.getElem_cons_succ, List.getElem_cons_zero]
        refine wpAnyH_take (i := 19) (v := ?_) rfl (by kernel_rfl) (by kernel_rfl) (by kernel_rfl) (fun _ _ _ h => h) (Or.inl ⟨by kernel_rfl, ?_⟩) (by assumption) ?_
        rotate_left
        · intro w hSw; obtain ⟨_, hS1, hS2, hS3, hS4⟩ := hSw; (try dsimp only at hS1 hS2 hS3 hS4); go_simp; try with_reducible rfl
        try simp (config := { maxSteps := 2000000 }) only [Act.put, List.setIfInBounds_toArray, List.set_cons_zero, List.set_cons_succ, List.getElem_toArray, List.getElem_cons_succ, List.getElem_cons_zero]
        refine wpAnyH_take (i := 20) (v := ?_) rfl (by kernel_rfl) (by kernel_rfl) (by kernel_rfl) (fun _ _ _ h => h) (Or.inl ⟨by kernel_rfl, ?_⟩) (by assumption) ?_
        rotate_left
        · intro w hSw; obtain ⟨_, hS1, hS2, hS3, hS4⟩ := hSw; (try dsimp only at hS1 hS2 hS3 hS4); go_simp; try with_reducible rfl
        try simp (config := { maxSteps := 2000000 }) only [Act.put, List.setIfInBounds_toArray, List.set_cons_zero, List.set_cons_succ, List.getElem_toArray, List.getElem_cons_succ, List.getElem_cons_zero]
        refine wpAnyH_take (i := 21) (v := ?_) rfl (by kernel_rfl) (by kernel_rfl) (by kernel_rfl) (fun _ _ _ h => h) (Or.inl ⟨by kernel_rfl, ?_⟩) (by assumption) ?_
        rotate_left
        · intro w hSw; obtain ⟨_, hS1, hS2, hS3, hS4⟩ := hSw; (try dsimp only at hS1 hS2 hS3 hS4); go_simp; try with_reducible rfl
        try simp (config := { maxSteps := 2000000 }) only [Act.put, List.setIfInBounds_toArray, List.set_cons_zero, List.set_cons_succ, List.getElem_toArray, List.getElem_cons_succ, List.getElem_cons_zero]
        refine wpAnyH_take (i := 22) (v := ?_) rfl (by kernel_rfl) (by kernel_rfl) (by kernel_rfl) (fun _ _ _ h => h) (Or.inl ⟨by kernel_rfl, ?_⟩) (by assumption) ?_
        rotate_left
        · intro w hSw; obtain ⟨_, hS1, hS2, hS3, hS4⟩ := hSw; (try dsimp only at hS1 hS2 hS3 hS4); go_simp; try with_reducible rfl
        try simp (config := { maxSteps := 2000000 }) only [Act.put, List.setIfInBounds_toArray, List.set_cons_zero, List.set_cons_succ, List.getElem_toArray, List.getElem_cons_succ, List.getElem_cons_zero]
        refine wpAnyH_take (i := 23) (v := ?_) rfl (by kernel_rfl) (by kernel_rfl) (by kernel_rfl) (fun _ _ _ h => h) (Or.inl ⟨by kernel_rfl, ?_⟩) (by assumption) ?_
        rotate_left
        · intro w hSw; obtain ⟨_, hS1, hS2, hS3, hS4⟩ := hSw; (try dsimp only at hS1 hS2 hS3 hS4); go_simp; try with_reducible rfl
        try simp (config := { maxSteps := 2000000 }) only [Act.put, List.setIfInBounds_toArray, List.set_cons_zero, List.set_cons_succ, List.getElem_toArray, List.getElem_cons_succ, List.getElem_cons_zero]
        refine wpAnyH_take (i := 24) (v := ?_) rfl (by kernel_rfl) (by kernel_rfl) (by kernel_rfl) (fun _ _ _ h => h) (Or.inl ⟨by kernel_rfl, ?_⟩) (by assumption) ?_
        rotate_left
        · intro w hSw; obtain ⟨_, hS1, hS2, hS3, hS4⟩ := hSw; (try dsimp only at hS1 hS2 hS3 hS4); go_simp; try with_reducible rfl
        try simp (config := { maxSteps := 2000000 }) only [Act.put, List.setIfInBounds_toArray, List.set_cons_zero, List.set_cons_succ, List.getElem_toArray, List.getElem_cons_succ, List.getElem_cons_zero]
        refine wpAnyH_take (i := 25) (v := ?_) rfl (by kernel_rfl) (by kernel_rfl) (by kernel_rfl) (fun _ _ _ h => h) (Or.inl ⟨by kernel_rfl, ?_⟩) (by assumption) ?_
        rotate_left
        · intro w hSw; obtain ⟨_, hS1, hS2, hS3, hS4⟩ := hSw; (try dsimp only at hS1 hS2 hS3 hS4); go_simp; try with_reducible rfl
        try simp (config := { maxSteps := 2000000 }) only [Act.put, List.setIfInBounds_toArray, List.set_cons_zero, List.set_cons_succ, List.getElem_toArray, List.getElem_cons_succ, List.getElem_cons_zero]
        refine wpAnyH_take (i := 26) (v := ?_) rfl (by kernel_rfl) (by kernel_rfl) (by kernel_rfl) (fun _ _ _ h => h) (Or.inl ⟨by kernel_rfl, ?_⟩) (by assumption) ?_
        rotate_left
        · intro w hSw; obtain ⟨_, hS1, hS2, hS3, hS4⟩ := hSw; (try dsimp only at hS1 hS2 hS3 hS4); go_simp; try with_reducible rfl
        try simp (config := { maxSteps := 2000000 }) only [Act.put, List.setIfInBounds_toArray, List.set_cons_zero, List.set_cons_succ, List.getElem_toArray, List.getElem_cons_succ, List.getElem_cons_zero]
        refine wpAnyH_take (i := 27) (v := ?_) rfl (by kernel_rfl) (by kernel_rfl) (by kernel_rfl) (fun _ _ _ h => h) (Or.inl ⟨by kernel_rfl, ?_⟩) (by assumption) ?_
        rotate_left
        · intro w hSw; obtain ⟨_, hS1, hS2, hS3, hS4⟩ := hSw; (try dsimp only at hS1 hS2 hS3 hS4); go_simp; try with_reducible rfl
        try simp (config := { maxSteps := 2000000 }) only [Act.put, List.setIfInBounds_toArray, List.set_cons_zero, List.set_cons_succ, List.getElem_toArray, List.getElem_cons_succ, List.getElem_cons_zero]
        refine wpAnyH_take (i := 28) (v := ?_) rfl (by kernel_rfl) (by kernel_rfl) (by kernel_rfl) (fun _ _ _ h => h) (Or.inl ⟨by kernel_rfl, ?_⟩) (by assumption) ?_
        rotate_left
        · intro w hSw; obtain ⟨_, hS1, hS2, hS3, hS4⟩ := hSw; (try dsimp only at hS1 hS2 hS3 hS4); go_simp; try with_reducible rfl
        try simp (config := { maxSteps := 2000000 }) only [Act.put, List.setIfInBounds_toArray, List.set_cons_zero, List.set_cons_succ, List.getElem_toArray, List.getElem_cons_succ, List.getElem_cons_zero]
        refine wpAnyH_take (i := 29) (v := ?_) rfl (by kernel_rfl) (by kernel_rfl) (by kernel_rfl) (fun _ _ _ h => h) (Or.inl ⟨by kernel_rfl, ?_⟩) (by assumption) ?_
        rotate_left
        · intro w hSw; obtain ⟨_, hS1, hS2, hS3, hS4⟩ := hSw; (try dsimp only at hS1 hS2 hS3 hS4); go_simp; try with_reducible rfl
        try simp (config := { maxSteps := 2000000 }) only [Act.put, List.setIfInBounds_toArray, List.set_cons_zero, List.set_cons_succ, List.getElem_toArray, List.getElem_cons_succ, List.getElem_cons_zero]
        refine wpAnyH_take (i := 30) (v := ?_) rfl (by kernel_rfl) (by kernel_rfl) (by kernel_rfl) (fun _ _ _ h => h) (Or.inl ⟨by kernel_rfl, ?_⟩) (by assumption) ?_
        rotate_left
        · intro w hSw; obtain ⟨_, hS1, hS2, hS3, hS4⟩ := hSw; (try dsimp only at hS1 hS2 hS3 hS4); go_simp; try with_reducible rfl
        try simp (config := { maxSteps := 2000000 }) only [Act.put, List.setIfInBounds_toArray, List.set_cons_zero, List.set_cons_succ, List.getElem_toArray, List.getElem_cons_succ, List.getElem_cons_zero]
        refine wpAnyH_take (i := 31) (v := ?_) rfl (by kernel_rfl) (by kernel_rfl) (by kernel_rfl) (fun _ _ _ h => h) (Or.inl ⟨by kernel_rfl, ?_⟩) (by assumption) ?_
        rotate_left
        · intro w hSw; obtain ⟨_, hS1, hS2, hS3, hS4⟩ := hSw; (try dsimp only at hS1 hS2 hS3 hS4); go_simp; try with_reducible rfl
        try simp (config := { maxSteps := 2000000 }) only [Act.put, List.setIfInBounds_toArray, List.set_cons_zero, List.set_cons_succ, List.getElem_toArray, List.getElem_cons_succ, List.getElem_cons_zero]
        refine wpAnyH_take (i := 32) (v := ?_) rfl (by kernel_rfl) (by kernel_rfl) (by kernel_rfl) (fun _ _ _ h => h) (Or.inl ⟨by kernel_rfl, ?_⟩) (by assumption) ?_
        rotate_left
        · intro w hSw; obtain ⟨_, hS1, hS2, hS3, hS4⟩ := hSw; (try dsimp only at hS1 hS2 hS3 hS4); go_simp; try with_reducible rfl
        try simp (config := { maxSteps := 2000000 }) only [Act.put, List.setIfInBounds_toArray, List.set_cons_zero, List.set_cons_succ, List.getElem_toArray, List.getElem_cons_succ, List.getElem_cons_zero]
        refine wpAnyH_take (i := 33) (v := ?_) rfl (by kernel_rfl) (by kernel_rfl) (by kernel_rfl) (fun _ _ _ h => h) (Or.inl ⟨by kernel_rfl, ?_⟩) (by assumption) ?_
        rotate_left
        · intro w hSw; obtain ⟨_, hS1, hS2, hS3, hS4⟩ := hSw; (try dsimp only at hS1 hS2 hS3 hS4); go_simp; try with_reducible rfl
        try simp (config := { maxSteps := 2000000 }) only [Act.put, List.setIfInBounds_toArray, List.set_cons_zero, List.set_cons_succ, List.getElem_toArray, List.getElem_cons_succ, List.getElem_cons_zero]
        refine wpAnyH_done (by kernel_rfl) ?_ _
        have HBx := Lib.hid hHeld.1
        clear hHeld
        go_wp2_with fail
        go_meet
        case rel => exact ⟨rfl, HBx⟩
      case rest =>
        obtain ⟨rfl, hcut⟩ := hcut
        have HB6 := Lib.hid (SemI.nx HB5.out hcut.out)
        have HTc := Lib.hid (HT5.out.below hcut.out)
        have HN6 := Lib.hid (fun w' (hb : Below wc.heap.size wc w') => HN2.out w' (nx hcut.out hb))
        clear hcut HN2 HCk2 HS hy HT5 HB5
        have hm1 : m ≤ 999 := by omega
        go_wp2_with fail
        go_loopw [100] (fun i wr => ∃ k : Nat, k ≤ m ∧ i = .int .i64 k ∧ Below wc.heap.size wc wr) (fun i _ => m - (intOf i).toNat)
        case atStart => exact ⟨0, by omega, rfl, Below.refl _ _⟩
        case round =>
          obtain ⟨k, hk, rfl, hb⟩ := hrel
          by_cases hlt : k < m
          · have e1 : decide ((k : Int) < m) = true := by simp; omega
            have e1' : decide (k < m) = true := by simp; omega
            have hkT : k < T.length := by omega
            obtain ⟨g', o', hgo, hgw, hc⟩ := HTc.out.below hb (by omega)
            simp only [Option.some.injEq, Addr.mk.injEq, and_true] at hgo
            obtain ⟨rfl, rfl⟩ := hgo
            have hc2 := hc k hkT
            have HAll := Lib.hid (nd_all HP.out (i := k) (by omega))
            generalize T[k] = s at *
            obtain ⟨s0, t1, t2, s3⟩ := s
            simp only [Sp.cells] at hc2
            have y0 : wr.cell? ⟨g, o + k * 4, none⟩ = some (.int .i64 s0) := hc2 0 (by omega)
            have y1 : wr.cell? ⟨g, o + k * 4 + 1, none⟩ = some (.int .i64 t1) := hc2 1 (by omega)
            have y2 : wr.cell? ⟨g, o + k * 4 + 2, none⟩ = some (.int .i64 t2) := hc2 2 (by omega)
            have y3 : wr.cell? ⟨g, o + k * 4 + 3, none⟩ = some (.int .i64 s3) := hc2 3 (by omega)
            clear hc2 hc
            have hn := heap_alloc_new wr (.cells #[.int .i64 s0, .int .i64 t1, .int .i64 t2, .int .i64 s3] 30)
            have hbn := hb.alloc hb.size (.cells #[.int .i64 s0, .int .i64 t1, .int .i64 t2, .int .i64 s3] 30)
            have q0 : (0 : Int) ≤ k := by omega
            have q1 : (k : Int) < m := by omega
            have hw3 : IntKind.i64.wrap ((k : Int) + 1) = (k : Int) + 1 := by rw [IntKind.wrap_i64]; omega
            have q3 : (0 : Int) ≤ (k : Int) + 1 := by omega
            have q4 : (k : Int) + 1 ≤ ((m + 1 : Nat) : Int) := by omega
            have q5 : (k : Int) + 1 ≤ (m : Int) + 1 := by omega
            go_wp2_with fail
            obtain ⟨wn, hwn⟩ : ∃ x, wr.alloc (.cells #[.int .i64 s0, .int .i64 t1, .int .i64 t2, .int .i64 s3] 30) = x := ⟨_, rfl⟩
            rw [hwn] at hn hbn ⊢
            have hbn1 : Below wr.heap.size wr wn := by rw [← hwn]; exact (Below.refl _ _).alloc (Nat.le_refl _) _
            have HBn := Lib.hid hbn
            have hls : wr.heap.size < wn.heap.size := lt_of hn
            clear hwn y0 y1 y2 y3 hbn
            go_loopw [13, 110] (fun v i wr2 => ∃ (b : Bool) (j : Nat), j ≤ m - k ∧ v = .bool b ∧ i = .int .i64 j ∧ Below wn.heap.size wn wr2 ∧ Hid (b = ndB K L (t1, t2) ((T.drop (k + 1)).take j))) (fun _ i _ => m - k - (intOf i).toNat)
            case atStart => exact ⟨false, 0, by omega, rfl, rfl, Below.refl _ _, Lib.hid rfl⟩
            case round =>
              obtain ⟨b, j, hj, rfl, rfl, hb2, HN3⟩ := hrel
              have hBox := (hb2.block _ hls).trans hn
              have hb2' := nx hbn1 hb2
              by_cases hlj : j < m - k
              · have e2 : decide ((j : Int) < ((m - k : Nat) : Int)) = true := by simp; omega
                have e2' : decide (j < m - k) = true := by simp; omega
                have hjT : k + 1 + j < T.length := by omega
                obtain ⟨g2, o2, hgo, hgw2, hc⟩ := HTc.out.below (nx hb hb2') (by omega)
                simp only [Option.some.injEq, Addr.mk.injEq, and_true] at hgo
                obtain ⟨rfl, rfl⟩ := hgo
                have hc2 := hc (k + 1 + j) hjT
                have HN4 := Lib.hid (fun w' (hb : Below wc.heap.size wc w') => HN6.out w' hb (k + 1 + j) hjT t1 t2)
                have hjD : j < (T.drop (k + 1)).length := by rw [List.length_drop]; omega
                have HSt := Lib.hid (ndB_step K L (t1, t2) (T.drop (k + 1)) j hjD)
                rw [List.getElem_drop] at HSt
                generalize T[k + 1 + j] = z at *
                obtain ⟨z0, z1, z2, z3⟩ := z
                simp only [Sp.cells] at hc2
                have eo : ∀ i, o + (k + 1 + j) * 4 + i = o + (k + 1) * 4 + j * 4 + i := fun i => by omega
                have y0 : wr.cell? ⟨g, o + (k + 1) * 4 + j * 4, none⟩ = some (.int .i64 z0) := by have := hc2 0 (by omega); rw [eo] at this; exact this
                have y1 : wr.cell? ⟨g, o + (k + 1) * 4 + j * 4 + 1, none⟩ = some (.int .i64 z1) := by have := hc2 1 (by omega); rw [eo] at this; exact this
                have y2 : wr.cell? ⟨g, o + (k + 1) * 4 + j * 4 + 2, none⟩ = some (.int .i64 z2) := by have := hc2 2 (by omega); rw [eo] at this; exact this
                have y3 : wr.cell? ⟨g, o + (k + 1) * 4 + j * 4 + 3, none⟩ = some (.int .i64 z3) := by have := hc2 3 (by omega); rw [eo] at this; exact this
                clear hc2 hc eo
                have q6 : (0 : Int) ≤ j := by omega
                have q7 : (j : Int) < ((m - k : Nat) : Int) := by omega
                have hwj : IntKind.i64.wrap ((j : Int) + 1) = (j : Int) + 1 := by rw [IntKind.wrap_i64]; omega
                have hba : Below wr.heap.size wr (wr.alloc (.cells #[.int .i64 z0, .int .i64 z1, .int .i64 z2, .int .i64 z3] 30)) := (Below.refl _ _).alloc (Nat.le_refl _) _
                have hzn := heap_alloc_new wr (.cells #[.int .i64 z0, .int .i64 z1, .int .i64 z2, .int .i64 z3] 30)
                have HBA := Lib.hid (nx hb2 hba)
                have HBB := Lib.hid (nx hb (nx hb2' hba))
                have hB2 := (hba.block _ (lt_of hBox)).trans hBox
                have c3 := fun o => Lib.cell_of_heap hB2 o
                have c4 := fun o => Lib.cell_of_heap hzn o
                have c0 := HC1.out _ (nx HB6.out (nx hb (nx hb2' hba)))
                have HUC := Lib.hid (HUA.out.below (nx HB6.out (nx hb (nx hb2' hba))))
                cases b with
                | true =>
                  clear HBB HN4 HUC
                  go_wp2_with fail
                  go_roundw
                  case rel => exact ⟨true, j + 1, by omega, rfl, by go_num, HBA.out, Lib.hid (by rw [HSt.out, ← HN3.out]; rfl)⟩
                  case measure => simp [intOf]; omega
                | false =>
                  have HCall := Lib.hid (HN4.out _ HBB.out)
                  simp only at HCall
                  clear HN4 HUC
                  go_wp2_with fail
                  refine HCall.out.mono ?_
                  rintro e w8 ⟨rfl, hb8⟩
                  have HBD := Lib.hid (nx HBA.out hb8)
                  clear c0 c3 c4 hb8 HCall y0 y1 y2 y3 HBB
                  go_wp2_with fail
                  go_roundw
                  case rel => exact ⟨_, j + 1, by omega, rfl, by go_num, HBD.out, Lib.hid (by rw [HSt.out, ← HN3.out]; rfl)⟩
                  case measure => simp [intOf]; omega
              · have e2 : decide ((j : Int) < ((m - k : Nat) : Int)) = false := by simp; omega
                have e2' : decide (j < m - k) = false := by simp; omega
                have hb1 : b = true := by
                  have h1 := HN3.out
                  rw [List.take_of_length_le (by rw [List.length_drop]; omega)] at h1
                  exact h1.trans HAll.out
                subst hb1
                have HBE := Lib.hid (nx hb hb2')
                clear hb hb2 hb2'
                go_wp2_with fail
                go_roundw
                case rel => exact ⟨k + 1, by omega, by go_num, HBE.out⟩
                case measure => simp [intOf]; omega
          · have e1 : decide ((k : Int) < m) = false := by simp; omega
            have HBk := Lib.hid (nx HB6.out hb)
            clear hb
            go_wp2_with fail
            refine (HLv.out _).mono ?_
            rintro e w7 ⟨rfl, hb7⟩
            have HF := Lib.hid (SemI.nx HB0.out (SemI.nx HBk.out hb7))
            clear hb7 HLv HB0 HBk
            go_wp2_with fail
            go_ret
            exact ⟨rfl, by first | exact HF.out | (rw [← hbx]; exact HF.out)⟩
    · rw [hd] at HHas
      clear hd HW
      go_wp2_with fail
      refine HHas.out.mono ?_
      rintro e w5 ⟨rfl, hb5⟩
      have HB5 := Lib.hid (SemI.nx HB4.out hb5)
      clear hb5 HHas HB4 c0 c1
      go_wp2_with fail
      refine (HLv.out _).mono ?_
      rintro e w6 ⟨rfl, hb6⟩
      have HF := Lib.hid (SemI.nx HB0.out (SemI.nx HB5.out hb6))
      clear hb6 HLv HB0 HB5
      go_wp2_with fail
      go_ret
      exact ⟨rfl, by first | exact HF.out | (rw [← hbx]; exact HF.out)⟩
end Go.Proofs.Ytihhojgnilbfnaa.PfU
/- The walk of the law that a proof's own rules prove it, and that each of them is wanted. -/
namespace Go.Proofs.Ytihhojgnilbfnaa.SynC
set_option linter.unusedVariables false
set_option linter.unusedSimpArgs false
open Go.RowKit Go.Lib Go.Proofs
section
variable {P : Program} (w : World)
theorem wpList_append_from {ops : Array Oper} {rest : List Oper} {o : Oper} {a : Act} {Q : Exit → Act → World → Prop} (hgd : o.guard = none) (s x : Operand) (t : TypeId)
    (ho : o.op = .call { callee := .builtin .append, args := #[s, x], argTypes := #[t, t] })
    (base : Nat) (e : TypeId) (i : TypeInfo) (z : Value) (size bytes : Nat) (ht : P.underlying t = some (.slice e)) (hi : P.info? e = some i) (hz : i.zero = some z)
    (hsize : i.size = size) (hby : i.bytes = bytes) (hzs : z.cells.size = size) (hsz : 0 < size) (v : Value) (n : Nat) (xs : List Value) (hs : a.eval s = v) (hown : w.ownsRow base e size v n xs)
    (A : Option Addr) (m c : Nat) (news : List Value) (hx : a.eval x = .slice A m c) (hlen : news.length = m * size) (h0 : A = none → m = 0) (hA : ∀ ad, A = some ad → ∀ j u, news[j]? = some u → w.cell? (ad.add j) = some u) (h1 : ∀ u ∈ news, u.oneCell' = true)
    (h63 : n + m ≤ maxLen) (hbytes : (n + m) * bytes ≤ 140737488355328) (hbase : base ≤ w.heap.size)
    (h : ∀ v' w', w'.ownsRow base e size v' (n + m) (xs ++ news) → w.grownBy w' v.ownBlock → wpList P ops Q rest (a.put o.dst v') w') : wpList P ops Q (o :: rest) a w := by
  obtain ⟨v', w', hrun, h2, h3⟩ := run_append_from (P := P) w base t o.type e i z size bytes ht hi hz hsize hby hzs hsz v n xs hown A m c news hlen h0 hA h1 h63 hbytes hbase
  exact Lib.wpList_append_run w hgd s x t t ho v _ hs hx v' w' hrun (h v' w' h2 h3)
end
end Go.Proofs.Ytihhojgnilbfnaa.SynC
namespace Go.Proofs.Ytihhojgnilbfnaa.PfZ
open Go.RowKit Go.Lib Go.Proofs Go.Maps Go.Proofs.Ytihhojgnilbfnaa.TblB Go.Proofs.Ytihhojgnilbfnaa.TblC Go.Proofs.Ytihhojgnilbfnaa.TblV Go.Proofs.Ytihhojgnilbfnaa.TblP Go.Proofs.Ytihhojgnilbfnaa.TblQ Go.Proofs.Ytihhojgnilbfnaa.SetB Go.Proofs.Ytihhojgnilbfnaa.SetF Go.Proofs.Ytihhojgnilbfnaa.SetJ Go.Proofs.Ytihhojgnilbfnaa.SetR Go.Proofs.Ytihhojgnilbfnaa.SemA Go.Proofs.Ytihhojgnilbfnaa.SemB Go.Proofs.Ytihhojgnilbfnaa.SemC Go.Proofs.Ytihhojgnilbfnaa.SemD Go.Proofs.Ytihhojgnilbfnaa.SemGa Go.Proofs.Ytihhojgnilbfnaa.SemJ Go.Proofs.Ytihhojgnilbfnaa.SemK Go.Proofs.Ytihhojgnilbfnaa.SemSw Go.Proofs.Ytihhojgnilbfnaa.SemRf Go.Proofs.Ytihhojgnilbfnaa.SemRh Go.Proofs.Ytihhojgnilbfnaa.PfM Go.Proofs.Ytihhojgnilbfnaa.PfN Go.Proofs.Ytihhojgnilbfnaa.PfO Go.Proofs.Ytihhojgnilbfnaa.PfB Go.Proofs.Ytihhojgnilbfnaa.PfC Go.Proofs.Ytihhojgnilbfnaa.PfE Go.Proofs.Ytihhojgnilbfnaa.PfJ Go.Proofs.Ytihhojgnilbfnaa.PfL Go.Proofs.Ytihhojgnilbfnaa.PfR Go.Proofs.Ytihhojgnilbfnaa.PfS5 Go.Proofs.Ytihhojgnilbfnaa.PfU Go.Proofs.Ytihhojgnilbfnaa.PfX Go.Proofs.Ytihhojgnilbfnaa.PfY
set_option linter.unusedVariables false
set_option linter.unusedSimpArgs false
theorem no_zero (P K : Nat) : rightU P K zeroU = false := by
  cases h : rightU P K zeroU with
  | false => rfl
  | true =>
    have := (right_r h).1
    unfold Go.Proofs.Ytihhojgnilbfnaa.TblC.zeroU at this
    simp at this
theorem less_false {P K : Nat} {L : List Ru} {T : List Sp} {f : Fa} (h : Proof P K L f T) {i : Nat} (hi : ∃ s ∈ T, s.rule = i) : chk P K (L.set i zeroU) [] T = false := by
  cases hc : chk P K (L.set i zeroU) [] T with
  | false => rfl
  | true =>
    obtain ⟨s, hs, e⟩ := hi
    obtain ⟨_, _, u, hu, _⟩ := chk_rng _ _ hc s hs
    rw [e] at hu
    obtain ⟨_, r1, r2, r3⟩ := ruleAt_some hu
    rw [Int.toNat_natCast] at r1 r2
    rw [List.length_set] at r1
    rw [List.getElem?_set_self r1] at r2
    cases r2
    rw [no_zero] at r3
    cases r3
theorem uses_rng {P K : Nat} {L : List Ru} {T : List Sp} {f : Fa} (h : Proof P K L f T) {i : Int} (hi : i ∈ usesL T) : ∃ n : Nat, i = n ∧ n < L.length := by
  obtain ⟨s, hs, e⟩ := uses_mem.1 hi
  obtain ⟨_, _, u, hu, _⟩ := chk_rng _ _ h.ck s hs
  obtain ⟨r0, r1, _⟩ := ruleAt_some hu
  exact ⟨i.toNat, by omega, by rw [← e]; exact r1⟩
theorem some_der {P K : Nat} {L : List Ru} {T : List Sp} {r x : Int} (h : Proof P K L (r, x) T) : derB P K ((usesL T).map (ruleD L)) r x = true := by
  rw [derB_iff]
  obtain ⟨T', s, rfl, hs⟩ := h.last
  have := chk_der (L' := ((usesL (T' ++ [s])).map (ruleD L)).filter (rightU P K)) (T' ++ [s]) [] h.ck (fun f hf => by simp [hasS] at hf) (fun y hy u hu => by
    refine List.mem_filter.2 ⟨List.mem_map.2 ⟨y.rule, uses_mem.2 ⟨y, hy, rfl⟩, ruleD_of hu⟩, (ruleAt_some hu).2.2.2⟩) (r, x) (by
    rw [List.nil_append, hasS_app, hasS_one, hs]; simp)
  exact this
theorem uses_len (T : List Sp) : (usesL T).length ≤ T.length := by
  unfold usesL
  refine Nat.le_trans (Lib.compact_length_le _) ?_
  rw [srtI_len, List.length_map]; exact Nat.le_refl _
theorem pf_in {d0 d1 : Int} {L : List Ru} {T : List Sp} {f : Fa} (g1 : d0 ≤ 10) (g2 : d1 ≤ 6) (h : Proof d0.toNat d1.toNat L f T) : ∀ s ∈ T, InR s.fa := fun s hs => by
  obtain ⟨h1, h2, _⟩ := chk_rng _ _ h.ck s hs
  have h3 : d0.toNat * d1.toNat ≤ 10 * 6 := Nat.mul_le_mul (by omega) (by omega)
  unfold InR Sp.fa
  simp only
  omega
/-- A slice that reads as ints. -/
def ZG (w : World) (A : Option Addr) (Z : List Int) : Prop := 0 < Z.length → ∃ g, A = some ⟨g, 0, none⟩ ∧ g < w.heap.size ∧ ∀ j, (h : j < Z.length) → w.cell? ⟨g, j, none⟩ = some (.int .i64 Z[j])
theorem ZG.below {w w' : World} {A : Option Addr} {Z : List Int} (h : ZG w A Z) (hb : Below w.heap.size w w') : ZG w' A Z := fun hp => by
  obtain ⟨g, hA, hg, hc⟩ := h hp
  exact ⟨g, hA, Nat.lt_of_lt_of_le hg hb.size, fun j hj => (hb.cell (p := ⟨g, j, none⟩) hg).trans (hc j hj)⟩
theorem zg_own {w : World} {B : Nat} {v : Value} {Z : List Int} {t : TypeId} (h : w.ownsRow B t 1 v Z.length (Z.map (Value.int .i64))) : ∃ A ca, v = .slice A Z.length ca ∧ ZG w A Z := by
  have h0 := h
  rcases h.2 with ⟨rfl, hn⟩ | ⟨g, cap, cur, rfl, hb, hg, _⟩
  · exact ⟨none, 0, by rw [hn], fun hp => by omega⟩
  · refine ⟨_, cap, rfl, fun hp => ⟨g, rfl, (Array.getElem?_eq_some_iff.1 hg).1, fun j hj => ?_⟩⟩
    have k := h0.cells (g := g) rfl j (.int .i64 Z[j]) (by simp [List.getElem?_eq_getElem hj])
    rw [Go.Proofs.Ytihhojgnilbfnaa.SemC.add_off, Nat.zero_add] at k
    exact k
theorem ug_own {w : World} {B : Nat} {v : Value} {L : List Ru} {t : TypeId} (h : w.ownsRow B t 6 v L.length (cellsR L)) : ∃ A ca, v = .slice A L.length ca ∧ L.length ≤ ca ∧ UG w A L := by
  have h0 := h
  rcases h.2 with ⟨rfl, hn⟩ | ⟨g, cap, cur, rfl, hb, hg, hcap, _⟩
  · exact ⟨none, 0, by rw [hn], by omega, fun hp => by omega⟩
  · refine ⟨_, cap, rfl, hcap, fun hp => ⟨g, 0, rfl, (Array.getElem?_eq_some_iff.1 hg).1, fun j hj k hk => ?_⟩⟩
    have hx := cellsR_at L j k hj hk
    have hs : k < (L[j].cells).size := by show k < 6; exact hk
    rw [Array.getElem?_eq_getElem hs] at hx ⊢
    have := h0.cells (g := g) rfl _ _ hx
    rw [Go.Proofs.Ytihhojgnilbfnaa.SemC.add_off] at this
    rw [Nat.zero_add]
    rw [Nat.zero_add] at this
    exact this
theorem new_cell6 (w : World) (a0 a1 a2 a3 a4 a5 : Value) (t : TypeId) : ∀ j u, [a0, a1, a2, a3, a4, a5][j]? = some u → (w.alloc (.cells #[a0, a1, a2, a3, a4, a5] t)).cell? ((⟨w.heap.size, 0, none⟩ : Addr).add j) = some u := by
  intro j u hu
  rw [Go.Proofs.Ytihhojgnilbfnaa.SemC.add_off, Nat.zero_add, Lib.cell_of_heap (heap_alloc_new w _) j, ← hu]
  simp
theorem ucells_one (L : List Ru) : ∀ u ∈ cellsR L, u.oneCell' = true := by
  intro u hu
  unfold cellsR at hu
  rw [List.mem_flatMap] at hu
  obtain ⟨r, _, hu⟩ := hu
  simp [Ru.cells] at hu
  rcases hu with rfl | rfl | rfl | rfl | rfl | rfl <;> rfl
theorem ug_cells {w : World} {g o : Nat} {L : List Ru} (h : UG w (some ⟨g, o, none⟩) L) : ∀ ad, some (⟨g, o, none⟩ : Addr) = some ad → ∀ j u, (cellsR L)[j]? = some u → w.cell? (ad.add j) = some u := by
  rintro ad e j u hu
  injection e with e
  subst e
  have hj : j < L.length * 6 := by
    rw [← cellsR_len]
    rcases Nat.lt_or_ge j (cellsR L).length with h | h
    · exact h
    · rw [List.getElem?_eq_none h] at hu; cases hu
  obtain ⟨g', o', e, hg, hc⟩ := h (by omega)
  simp only [Option.some.injEq, Addr.mk.injEq, and_true] at e
  obtain ⟨rfl, rfl⟩ := e
  have a := hc (j / 6) (by omega) (j % 6) (by omega)
  have q := cellsR_at L (j / 6) (j % 6) (by omega) (by omega)
  rw [show j / 6 * 6 + j % 6 = j by omega] at q
  rw [Go.Proofs.Ytihhojgnilbfnaa.SemC.add_off, ← hu, q, ← a]
  congr 2
  omega
theorem own_emptyR (w : World) (t : TypeId) (size : Nat) : (w.alloc (.cells #[] t)).ownsRow w.heap.size t size (.slice (some ⟨w.heap.size, 0, none⟩) 0 0) 0 [] := by
  refine ⟨by simp, .inr ⟨w.heap.size, 0, #[], rfl, Nat.le_refl _, heap_alloc_new w _, by omega, ?_⟩⟩
  simp
theorem oth (w : World) (g i j : Nat) (v : Value) (h : i ≠ j) : (w.setCell ⟨g, i, none⟩ v).cell? ⟨g, j, none⟩ = w.cell? ⟨g, j, none⟩ :=
  World.cell?_setCell_other (h := fun e => h (by injection e)) ..
theorem oth2 (w : World) (g a i k : Nat) (v : Value) (h : a ≠ g ∨ i ≠ k) : (w.setCell ⟨g, i, none⟩ v).cell? ⟨a, k, none⟩ = w.cell? ⟨a, k, none⟩ :=
  World.cell?_setCell_other (h := fun e => by injection e with e1 e2; omega) ..
theorem set6at (w : World) (g o : Nat) (z : Value) (hc : ∀ k, k < 6 → ∃ u, w.cell? ⟨g, o + k, none⟩ = some u) :
    ∃ w5, ((((((w.setCell ⟨g, o, none⟩ z).setCell ⟨g, o + 1, none⟩ z).setCell ⟨g, o + 2, none⟩ z).setCell ⟨g, o + 3, none⟩ z).setCell ⟨g, o + 4, none⟩ z).setCell ⟨g, o + 5, none⟩ z) = w5 ∧
      (∀ a k, (a ≠ g ∨ k < o ∨ o + 6 ≤ k) → w5.cell? ⟨a, k, none⟩ = w.cell? ⟨a, k, none⟩) ∧ (∀ k, k < 6 → w5.cell? ⟨g, o + k, none⟩ = some z) ∧ (∀ B w0, Below B w0 w → B ≤ g → Below B w0 w5) := by
  refine ⟨_, rfl, fun a k h => ?_, fun k hk => ?_, fun B w0 hb hB => ?_⟩
  · rw [oth2 _ g a (o + 5) k z (by omega), oth2 _ g a (o + 4) k z (by omega), oth2 _ g a (o + 3) k z (by omega), oth2 _ g a (o + 2) k z (by omega), oth2 _ g a (o + 1) k z (by omega), oth2 _ g a (o) k z (by omega)]
  · obtain ⟨u0, z0⟩ := hc 0 (by omega)
    obtain ⟨u1, z1⟩ := hc 1 (by omega)
    obtain ⟨u2, z2⟩ := hc 2 (by omega)
    obtain ⟨u3, z3⟩ := hc 3 (by omega)
    obtain ⟨u4, z4⟩ := hc 4 (by omega)
    obtain ⟨u5, z5⟩ := hc 5 (by omega)
    have hk2 : k = 0 ∨ k = 1 ∨ k = 2 ∨ k = 3 ∨ k = 4 ∨ k = 5 := by omega
    rcases hk2 with rfl | rfl | rfl | rfl | rfl | rfl
    · show World.cell? _ ⟨g, o, none⟩ = some z
      rw [oth _ g (o + 5) (o) z (by omega), oth _ g (o + 4) (o) z (by omega), oth _ g (o + 3) (o) z (by omega), oth _ g (o + 2) (o) z (by omega), oth _ g (o + 1) (o) z (by omega)]
      exact World.cell?_setCell_same (u := u0) (h := z0) ..
    · rw [oth _ g (o + 5) (o + 1) z (by omega), oth _ g (o + 4) (o + 1) z (by omega), oth _ g (o + 3) (o + 1) z (by omega), oth _ g (o + 2) (o + 1) z (by omega)]
      exact World.cell?_setCell_same (u := u1) (h := by rw [oth _ g (o) (o + 1) z (by omega)]; exact z1) ..
    · rw [oth _ g (o + 5) (o + 2) z (by omega), oth _ g (o + 4) (o + 2) z (by omega), oth _ g (o + 3) (o + 2) z (by omega)]
      exact World.cell?_setCell_same (u := u2) (h := by rw [oth _ g (o + 1) (o + 2) z (by omega), oth _ g (o) (o + 2) z (by omega)]; exact z2) ..
    · rw [oth _ g (o + 5) (o + 3) z (by omega), oth _ g (o + 4) (o + 3) z (by omega)]
      exact World.cell?_setCell_same (u := u3) (h := by rw [oth _ g (o + 2) (o + 3) z (by omega), oth _ g (o + 1) (o + 3) z (by omega), oth _ g (o) (o + 3) z (by omega)]; exact z3) ..
    · rw [oth _ g (o + 5) (o + 4) z (by omega)]
      exact World.cell?_setCell_same (u := u4) (h := by rw [oth _ g (o + 3) (o + 4) z (by omega), oth _ g (o + 2) (o + 4) z (by omega), oth _ g (o + 1) (o + 4) z (by omega), oth _ g (o) (o + 4) z (by omega)]; exact z4) ..
    · exact World.cell?_setCell_same (u := u5) (h := by rw [oth _ g (o + 4) (o + 5) z (by omega), oth _ g (o + 3) (o + 5) z (by omega), oth _ g (o + 2) (o + 5) z (by omega), oth _ g (o + 1) (o + 5) z (by omega), oth _ g (o) (o + 5) z (by omega)]; exact z5) ..
  · exact (((((hb.setCell hB _).setCell hB _).setCell hB _).setCell hB _).setCell hB _).setCell hB _
/-- A row of rules, one of which is made the zero rule. -/
theorem ug_zeroed {w w5 : World} {g n : Nat} {L : List Ru} (h : UG w (some ⟨g, 0, none⟩) L) (hn : n < L.length) (hg : g < w5.heap.size) (h1 : ∀ a k, (a ≠ g ∨ k < n * 6 ∨ n * 6 + 6 ≤ k) → w5.cell? ⟨a, k, none⟩ = w.cell? ⟨a, k, none⟩) (h2 : ∀ k, k < 6 → w5.cell? ⟨g, n * 6 + k, none⟩ = some (.int .i64 0)) : UG w5 (some ⟨g, 0, none⟩) (L.set n TblC.zeroU) := fun hp => by
  rw [List.length_set] at hp
  obtain ⟨g', o', e, _, hc⟩ := h hp
  simp only [Option.some.injEq, Addr.mk.injEq, and_true] at e
  obtain ⟨rfl, rfl⟩ := e
  refine ⟨g, 0, rfl, hg, fun j hj k hk => ?_⟩
  rw [List.length_set] at hj
  by_cases he : j = n
  · subst he
    rw [Nat.zero_add, h2 k hk, List.getElem_set_self]
    have hk2 : k = 0 ∨ k = 1 ∨ k = 2 ∨ k = 3 ∨ k = 4 ∨ k = 5 := by omega
    rcases hk2 with rfl | rfl | rfl | rfl | rfl | rfl <;> rfl
  · rw [List.getElem_set_ne (by omega), ← hc j hj k hk]
    refine h1 _ _ ?_
    rcases Nat.lt_or_gt_of_ne he with q | q
    · exact .inr (.inl (by omega))
    · exact .inr (.inr (by omega))
set_option maxHeartbeats 4000000 in
set_option maxRecDepth 100000 in
theorem law (d0 d1 r x : Int) (A : Option Addr) (ca : Nat) (L : List Ru) (w : World) (hL : L.length ≤ maxLen) (hA : UG w A L) (hf : InR (r, x)) :
    Calls Try.prog 5 #[.agg #[.int .i64 d0, .int .i64 d1], .slice A L.length ca, .agg #[.int .i64 r, .int .i64 x]] w fun e w' => e = .returned (.bool true) ∧ Below w.heap.size w w' := by
  have hb0 : Below w.heap.size w ((w.alloc (.cells #[.int .i64 d0, .int .i64 d1] 22)).alloc (.cells #[.int .i64 r, .int .i64 x] 22)) := ((Below.refl _ _).alloc (Nat.le_refl _) _).alloc (by rw [World.size_alloc]; omega) _
  have hd1 := heap_alloc2_old w (.cells #[.int .i64 d0, .int .i64 d1] 22) (.cells #[.int .i64 r, .int .i64 x] 22)
  have hd2 := heap_alloc2_new w (.cells #[.int .i64 d0, .int .i64 d1] 22) (.cells #[.int .i64 r, .int .i64 x] 22)
  have HD1 := Lib.hid hd1
  have HD2 := Lib.hid hd2
  have HSm := Lib.hid (fun w' => small d0 d1 A ca L.length (by unfold maxLen at hL; exact hL) w')
  have HLv := Lib.hid (fun w' => lives w')
  have HB0 := Lib.hid hb0
  have HUA := Lib.hid (hA.below hb0)
  clear hb0 hA hd1 hd2
  cases hs : smallB d0 d1 L.length
  · rw [hs] at HSm
    clear hs HUA
    go_enter Try.func5, Try.ntmps5
    go_upto_region 1 with fail
    obtain ⟨bx, hbx⟩ : ∃ bx, w.heap.size = bx := ⟨_, rfl⟩
    simp only [hbx] at HD1 HD2 ⊢
    generalize (w.alloc (.cells #[.int .i64 d0, .int .i64 d1] 22)).alloc (.cells #[.int .i64 r, .int .i64 x] 22) = w0 at *
    have c0 := fun o => Lib.cell_of_heap HD1.out o
    go_wp2_with fail
    refine (HSm.out _).mono ?_
    rintro e w1 ⟨rfl, rfl⟩
    clear c0 HD1 HD2 HSm
    go_wp2_with fail
    refine (HLv.out _).mono ?_
    rintro e w2 ⟨rfl, hb⟩
    have HF := Lib.hid (SemI.nx HB0.out hb)
    clear hb HLv HB0
    go_wp2_with fail
    go_ret
    exact ⟨rfl, by first | exact HF.out | (rw [← hbx]; exact HF.out)⟩
  · rw [hs] at HSm
    unfold smallB at hs
    simp only [Bool.and_eq_true, decide_eq_true_eq] at hs
    obtain ⟨s1, s2, s3⟩ := hs
    have HEr := Lib.hid (fun A ca S w' (hl : S.length ≤ 1000) hu => evalR d0 d1 A ca S w' hl hu d0.toNat d1.toNat (by omega) (by omega))
    have HWy := Lib.hid (fun w' hu => why d0 d1 A ca L (r, x) w' s1 s2 s3 hu hf)
    have HCk := Lib.hid (fun A ca S w' (hl : S.length ≤ 1000) hu B cb T hT hB hI => checkP d0 d1 A ca S B cb T w' (by omega) (by omega) hl hT hu hB hI)
    have HPv := Lib.hid (fun w' hu B cb T m hm hT hB hI hl => proves d0 d1 A ca L r x B cb T w' (by omega) (by omega) (by omega) m hm hT hu hB hI hl)
    have HLn : Hid (∀ T, Proof d0.toNat d1.toNat L (r, x) T → T.length ≤ 600) := Lib.hid (fun T hp => by
      have h1 := chk_len hp.ck
      have h2 : d0.toNat * d1.toNat ≤ 10 * 6 := Nat.mul_le_mul (by omega) (by omega)
      have h3 : d0.toNat * d1.toNat * d0.toNat ≤ 60 * 10 := Nat.mul_le_mul h2 (by omega)
      omega)
    have HIn : Hid (∀ T, Proof d0.toNat d1.toNat L (r, x) T → ∀ s ∈ T, InR s.fa) := Lib.hid (fun T hp => pf_in s1 s2 hp)
    unfold WhyPost at HWy
    generalize d0.toNat = P at *
    generalize d1.toNat = K at *
    clear s1 s2 hf
    go_enter Try.func5, Try.ntmps5
    go_upto_region 1 with fail
    obtain ⟨bx, hbx⟩ : ∃ bx, w.heap.size = bx := ⟨_, rfl⟩
    simp only [hbx] at HD1 HD2 ⊢
    generalize (w.alloc (.cells #[.int .i64 d0, .int .i64 d1] 22)).alloc (.cells #[.int .i64 r, .int .i64 x] 22) = w0 at *
    have HC1 := Lib.hid (fun w' (hb : Below w0.heap.size w0 w') (o : Nat) => Lib.cell_of_heap ((hb.block _ (lt_of HD1.out)).trans HD1.out) o)
    have HC2 := Lib.hid (fun w' (hb : Below w0.heap.size w0 w') (o : Nat) => Lib.cell_of_heap ((hb.block _ (lt_of HD2.out)).trans HD2.out) o)
    clear HD1 HD2
    have c0 := HC1.out w0 (Below.refl _ _)
    have c1 := HC2.out w0 (Below.refl _ _)
    go_wp2_with fail
    refine (HSm.out _).mono ?_
    rintro e w1 ⟨rfl, rfl⟩
    clear HSm
    go_wp2_with fail
    refine (HWy.out _ HUA.out).mono ?_
    rintro e w4 ⟨hb4, hwhy⟩
    have HB4 := Lib.hid hb4
    have HW := Lib.hid hwhy
    clear hwhy hb4 c0 c1 HWy
    rcases HW.out with ⟨hd, A2, c2, T, rfl, htg, hcap, hpr⟩ | ⟨hd, rfl⟩
    · clear hd HW
      have hlast := hpr.last
      have hlen := HLn.out T hpr
      have hT0 : 0 < T.length := by
        obtain ⟨T', s, rfl, _⟩ := hlast
        simp
      have HU := Lib.hid (fun w' (hb : Below w4.heap.size w4 w') => uses A2 c2 T w' (by omega) hT0 (htg.below hb))
      have HT := Lib.hid htg
      have HP := Lib.hid hpr
      have HTI := Lib.hid (HIn.out T hpr)
      have hul := uses_len T
      have HRng : Hid (∀ j, (h : j < (usesL T).length) → ∃ n : Nat, (usesL T)[j] = n ∧ n < L.length) := Lib.hid (fun j h => uses_rng hpr (List.getElem_mem h))
      have HSd := Lib.hid (some_der hpr)
      have HLess : Hid (∀ i : Nat, (i : Int) ∈ usesL T → chk P K (L.set i zeroU) [] T = false) := Lib.hid (fun i hi => less_false hpr (uses_mem.1 hi))
      unfold UsesPost at HU
      obtain ⟨ZS, hZ⟩ : ∃ l, usesL T = l := ⟨_, rfl⟩
      rw [hZ] at HU HRng HSd HLess hul
      clear hpr hlast htg hcap hZ HLn HIn
      go_wp2_with fail
      refine (HU.out _ (Below.refl _ _)).mono ?_
      rintro e w5 ⟨v, rfl, hown, hb5⟩
      obtain ⟨A5, c5, rfl, hzg⟩ := zg_own hown
      have HB5 := Lib.hid (SemI.nx HB4.out hb5)
      have HT5 := Lib.hid (HT.out.below hb5)
      have HZ := Lib.hid hzg
      have HB45 := Lib.hid hb5
      clear hown hb5 hzg HB4 HT
      obtain ⟨i0, hi, hz0, hz1, hz2⟩ := info_parts SemC.infoRu
      have hzs600 : ZS.length ≤ 600 := by omega
      obtain ⟨S, hS⟩ : ∃ l, ZS.map (ruleD L) = l := ⟨_, rfl⟩
      have hSl : S.length = ZS.length := by rw [← hS, List.length_map]
      have HS := Lib.hid hS
      rw [hS] at HSd
      clear hS
      go_wp2_with fail
      go_loopw [9, 42] (fun v i wr => ∃ j : Nat, j ≤ ZS.length ∧ i = .int .i64 j ∧ Hid (wr.ownsRow w5.heap.size 44 6 v (S.take j).length (cellsR (S.take j))) ∧ Below w5.heap.size w5 wr) (fun _ i _ => ZS.length - (intOf i).toNat)
      case atStart => exact ⟨0, by omega, rfl, Lib.hid (World.ownsRow_nil _ _ _ _), Below.refl _ _⟩
      case round =>
        obtain ⟨j, hj, rfl, hown, hb⟩ := hrel
        by_cases hlt : j < ZS.length
        · have e1 : decide ((j : Int) < ZS.length) = true := by simp; omega
          obtain ⟨gz, hgz, hgzl, hzc⟩ := HZ.out.below hb (by omega)
          subst hgz
          obtain ⟨n, hn, hnL⟩ := HRng.out j hlt
          have yz := hzc j hlt
          rw [hn] at yz
          obtain ⟨g, o, hgA, hg, hc⟩ := (HUA.out.below (SemI.nx HB5.out hb)) (by omega)
          subst hgA
          have hcn := hc n hnL
          have hrd : ruleD L ZS[j] = L[n] := by
            rw [hn]
            unfold ruleD
            rw [Int.toNat_natCast, List.getD_eq_getElem?_getD, List.getElem?_eq_getElem hnL]
            rfl
          have HSk : Hid (S.take (j + 1) = S.take j ++ [L[n]]) := Lib.hid (by rw [← HS.out, List.take_succ_eq_append_getElem (by rw [List.length_map]; exact hlt), List.getElem_map, hrd])
          have hlj : (S.take j).length = j := by rw [List.length_take]; omega
          have p0 : (0 : Int) ≤ j := by omega
          have p1 : (j : Int) < ZS.length := by omega
          have p2 : decide ((n : Int) < 0) = false := by simp
          have p3 : decide ((L.length : Int) ≤ n) = false := by simp; omega
          have p4 : decide (L.length ≤ n) = false := by simp; omega
          have p5 : (0 : Int) ≤ n := by omega
          have p6 : (n : Int) < L.length := by omega
          clear hc hzc hn hrd
          generalize L[n] = u at *
          obtain ⟨u0, u1, u2, u3, u4, u5⟩ := u
          unfold Ru.cells at hcn
          simp only at hcn
          have y0 : wr.cell? ⟨g, o + n * 6, none⟩ = some (.int .i64 u0) := hcn 0 (by omega)
          have y1 : wr.cell? ⟨g, o + n * 6 + 1, none⟩ = some (.int .i64 u1) := hcn 1 (by omega)
          have y2 : wr.cell? ⟨g, o + n * 6 + 2, none⟩ = some (.int .i64 u2) := hcn 2 (by omega)
          have y3 : wr.cell? ⟨g, o + n * 6 + 3, none⟩ = some (.int .i64 u3) := hcn 3 (by omega)
          have y4 : wr.cell? ⟨g, o + n * 6 + 4, none⟩ = some (.int .i64 u4) := hcn 4 (by omega)
          have y5 : wr.cell? ⟨g, o + n * 6 + 5, none⟩ = some (.int .i64 u5) := hcn 5 (by omega)
          have hown2 := hown.out
          have HBr := Lib.hid hb
          have hzz : w5.heap.size ≤ wr.heap.size := hb.size
          clear hcn hown hb
          go_wp2_with (at_builtin; refine wpList_append_own _ rfl _ _ 23 rfl w5.heap.size 44 i0 TblC.zeroU.val 6 48 Try.underlying23 hi hz0 hz1 hz2 rfl (by decide) _ _ _ rfl (hown2.alloc _) ⟨wr.heap.size, 0, none⟩ 1 1 [.int .i64 u0, .int .i64 u1, .int .i64 u2, .int .i64 u3, .int .i64 u4, .int .i64 u5] rfl rfl ?c1 ?c2 ?c3 ?c4 ?c5 ?_)
          case c1 => exact new_cell6 _ _ _ _ _ _ _ _
          case c2 => intro u hu; simp at hu; rcases hu with rfl | rfl | rfl | rfl | rfl | rfl <;> rfl
          case c3 => unfold maxLen; omega
          case c4 => omega
          case c5 => simp; omega
          intro v' w3 hown' hgrow _
          have hown3 : w3.ownsRow w5.heap.size 44 6 v' (S.take (j + 1)).length (cellsR (S.take (j + 1))) := by
            rw [HSk.out, cellsR_app, List.length_append, hlj]
            exact hown'
          have hbel3 := below_own HBr.out hown2 hgrow
          have HO3 := Lib.hid hown3
          have HB3 := Lib.hid hbel3
          clear hown' hown2 hgrow hown3 hbel3 y0 y1 y2 y3 y4 y5 yz
          go_wp2_with fail
          go_roundw
          case rel => exact ⟨j + 1, by omega, by go_num, HO3, HB3.out⟩
          case measure => simp [intOf]; omega
        · have e1 : decide ((j : Int) < ZS.length) = false := by simp; omega
          have hjT : j = ZS.length := by omega
          subst hjT
          have hown2 := hown.out
          rw [List.take_of_length_le (by omega)] at hown2
          obtain ⟨A6, c6, rfl, hc6, hug⟩ := ug_own hown2
          have HUS := Lib.hid hug
          have HBr := Lib.hid (SemI.nx HB5.out hb)
          have HTr := Lib.hid (HT5.out.below hb)
          have HU2 := Lib.hid (HU.out wr (HB45.out.trans (hb.mono HB45.out.size)))
          clear hug hown2 hown hb hc6
          go_wp2_with fail
          refine HU2.out.mono ?_
          rintro e w7 ⟨v, rfl, hown, hb7⟩
          obtain ⟨A7, c7, rfl, hzg⟩ := zg_own hown
          have HB7 := Lib.hid (SemI.nx HBr.out hb7)
          have HT7 := Lib.hid (HTr.out.below hb7)
          have HS7 := Lib.hid (HUS.out.below hb7)
          have HZ7 := Lib.hid hzg
          clear hown hb7 hzg HBr HTr HUS HU2 HZ HT5 HB5 HB45 HU
          go_wp2_with fail
          go_loopw [65] (fun i wr => ∃ j : Nat, j ≤ ZS.length ∧ i = .int .i64 j ∧ Below w7.heap.size w7 wr) (fun i _ => ZS.length - (intOf i).toNat)
          case atStart => exact ⟨0, by omega, rfl, Below.refl _ _⟩
          case round =>
            obtain ⟨j, hj, rfl, hb⟩ := hrel
            by_cases hlt : j < ZS.length
            · have e1 : decide ((j : Int) < ZS.length) = true := by simp; omega
              obtain ⟨gz, hgz, hgzl, hzc⟩ := HZ7.out.below hb (by omega)
              subst hgz
              obtain ⟨n, hn, hnL⟩ := HRng.out j hlt
              have yz := hzc j hlt
              rw [hn] at yz
              have hff := HLess.out n (by rw [← hn]; exact List.getElem_mem hlt)
              have hua := HUA.out.below (SemI.nx HB7.out hb)
              obtain ⟨g, o, hgA, _, _⟩ := hua (by omega)
              subst hgA
              have Hc := Lib.hid (ug_cells (UG.below hua ((Below.refl wr.heap.size wr).alloc (Nat.le_refl _) (.cells #[] 44))))
              have p0 : (0 : Int) ≤ j := by omega
              have p1 : (j : Int) < ZS.length := by omega
              have p5 : (0 : Int) ≤ n := by omega
              have p6 : (n : Int) < L.length := by omega
              clear hzc hn hua
              go_wp2_with (at_builtin; refine SynC.wpList_append_from _ rfl _ _ 23 rfl wr.heap.size 44 i0 TblC.zeroU.val 6 48 Try.underlying23 hi hz0 hz1 hz2 rfl (by decide) _ _ _ rfl (own_emptyR wr _ 6) (some ⟨g, o, none⟩) L.length ca (cellsR L) rfl (cellsR_len L) (fun h => by cases h) Hc.out (ucells_one L) (by unfold maxLen; omega) (by omega) (by simp) ?_)
              intro v' w8 hown8 hgrow
              have hb8 : Below wr.heap.size wr w8 := ((Below.refl _ _).alloc (Nat.le_refl _) _).grown hgrow (by simp) (fun k hk => by simp [Value.ownBlock] at hk; omega)
              have hfr : ∃ g8 c8 cur, v' = .slice (some ⟨g8, 0, none⟩) L.length c8 ∧ wr.heap.size ≤ g8 ∧ w8.heap[g8]? = some (.cells cur 44 (0, 0)) := by
                rcases hown8.2 with ⟨_, h0⟩ | ⟨g8, cap, cur, e, hB, hh, _⟩
                · omega
                · exact ⟨g8, cap, cur, e, hB, hh⟩
              obtain ⟨g8, c8, cur, rfl, hg8, hh8⟩ := hfr
              obtain ⟨A8, c9, e8, hc8, hug8⟩ := ug_own hown8
              simp only [Value.slice.injEq] at e8
              obtain ⟨rfl, _, rfl⟩ := e8
              have hfz : ∀ o, w8.frozen? ⟨g8, o, none⟩ = false := fun o => frozen_of_row _ _ _ _ _ hh8
              obtain ⟨g9, o9, e9, _, hcc⟩ := hug8 (by omega)
              simp only [Option.some.injEq, Addr.mk.injEq, and_true] at e9
              obtain ⟨rfl, rfl⟩ := e9
              have hcn := hcc n hnL
              have hex : ∀ k, k < 6 → ∃ u, w8.cell? ⟨g8, n * 6 + k, none⟩ = some u := fun k hk => by
                have := hcn k hk
                rw [Nat.zero_add, Array.getElem?_eq_getElem (show k < (L[n].cells).size by show k < 6; exact hk)] at this
                exact ⟨_, this⟩
              obtain ⟨w9, hw9, ho9, hi9, hl9⟩ := set6at w8 g8 (n * 6) (.int .i64 0) hex
              have hb9 := hl9 _ _ hb8 hg8
              have hug9 := ug_zeroed hug8 hnL (Nat.lt_of_lt_of_le (lt_of hh8) (by rw [← hw9]; simp)) ho9 hi9
              have HCa := Lib.hid (HCk.out _ c8 _ w9 (by rw [List.length_set]; omega) hug9 A2 c2 T (by omega) (HT7.out.below (nx hb hb9)) HTI.out)
              rw [hff, List.length_set] at HCa
              have HB9 := Lib.hid (nx hb hb9)
              obtain ⟨x0, y0'⟩ := hex 0 (by omega)
              have y0 : w8.cell? ⟨g8, n * 6, none⟩ = some x0 := y0'
              obtain ⟨x1, y1'⟩ := hex 1 (by omega)
              obtain ⟨x2, y2'⟩ := hex 2 (by omega)
              obtain ⟨x3, y3'⟩ := hex 3 (by omega)
              obtain ⟨x4, y4'⟩ := hex 4 (by omega)
              obtain ⟨x5, y5'⟩ := hex 5 (by omega)
              have y1 : (w8.setCell ⟨g8, n * 6, none⟩ (.int .i64 0)).cell? ⟨g8, n * 6 + 1, none⟩ = some x1 := by rw [oth _ g8 (n * 6) (n * 6 + 1) _ (by omega)]; exact y1'
              have f1 : (w8.setCell ⟨g8, n * 6, none⟩ (.int .i64 0)).frozen? ⟨g8, n * 6 + 1, none⟩ = false := by simp [hfz]
              have y2 : ((w8.setCell ⟨g8, n * 6, none⟩ (.int .i64 0)).setCell ⟨g8, n * 6 + 1, none⟩ (.int .i64 0)).cell? ⟨g8, n * 6 + 2, none⟩ = some x2 := by rw [oth _ g8 (n * 6 + 1) (n * 6 + 2) _ (by omega), oth _ g8 (n * 6) (n * 6 + 2) _ (by omega)]; exact y2'
              have f2 : ((w8.setCell ⟨g8, n * 6, none⟩ (.int .i64 0)).setCell ⟨g8, n * 6 + 1, none⟩ (.int .i64 0)).frozen? ⟨g8, n * 6 + 2, none⟩ = false := by simp [hfz]
              have y3 : (((w8.setCell ⟨g8, n * 6, none⟩ (.int .i64 0)).setCell ⟨g8, n * 6 + 1, none⟩ (.int .i64 0)).setCell ⟨g8, n * 6 + 2, none⟩ (.int .i64 0)).cell? ⟨g8, n * 6 + 3, none⟩ = some x3 := by rw [oth _ g8 (n * 6 + 2) (n * 6 + 3) _ (by omega), oth _ g8 (n * 6 + 1) (n * 6 + 3) _ (by omega), oth _ g8 (n * 6) (n * 6 + 3) _ (by omega)]; exact y3'
              have f3 : (((w8.setCell ⟨g8, n * 6, none⟩ (.int .i64 0)).setCell ⟨g8, n * 6 + 1, none⟩ (.int .i64 0)).setCell ⟨g8, n * 6 + 2, none⟩ (.int .i64 0)).frozen? ⟨g8, n * 6 + 3, none⟩ = false := by simp [hfz]
              have y4 : ((((w8.setCell ⟨g8, n * 6, none⟩ (.int .i64 0)).setCell ⟨g8, n * 6 + 1, none⟩ (.int .i64 0)).setCell ⟨g8, n * 6 + 2, none⟩ (.int .i64 0)).setCell ⟨g8, n * 6 + 3, none⟩ (.int .i64 0)).cell? ⟨g8, n * 6 + 4, none⟩ = some x4 := by rw [oth _ g8 (n * 6 + 3) (n * 6 + 4) _ (by omega), oth _ g8 (n * 6 + 2) (n * 6 + 4) _ (by omega), oth _ g8 (n * 6 + 1) (n * 6 + 4) _ (by omega), oth _ g8 (n * 6) (n * 6 + 4) _ (by omega)]; exact y4'
              have f4 : ((((w8.setCell ⟨g8, n * 6, none⟩ (.int .i64 0)).setCell ⟨g8, n * 6 + 1, none⟩ (.int .i64 0)).setCell ⟨g8, n * 6 + 2, none⟩ (.int .i64 0)).setCell ⟨g8, n * 6 + 3, none⟩ (.int .i64 0)).frozen? ⟨g8, n * 6 + 4, none⟩ = false := by simp [hfz]
              have y5 : (((((w8.setCell ⟨g8, n * 6, none⟩ (.int .i64 0)).setCell ⟨g8, n * 6 + 1, none⟩ (.int .i64 0)).setCell ⟨g8, n * 6 + 2, none⟩ (.int .i64 0)).setCell ⟨g8, n * 6 + 3, none⟩ (.int .i64 0)).setCell ⟨g8, n * 6 + 4, none⟩ (.int .i64 0)).cell? ⟨g8, n * 6 + 5, none⟩ = some x5 := by rw [oth _ g8 (n * 6 + 4) (n * 6 + 5) _ (by omega), oth _ g8 (n * 6 + 3) (n * 6 + 5) _ (by omega), oth _ g8 (n * 6 + 2) (n * 6 + 5) _ (by omega), oth _ g8 (n * 6 + 1) (n * 6 + 5) _ (by omega), oth _ g8 (n * 6) (n * 6 + 5) _ (by omega)]; exact y5'
              have f5 : (((((w8.setCell ⟨g8, n * 6, none⟩ (.int .i64 0)).setCell ⟨g8, n * 6 + 1, none⟩ (.int .i64 0)).setCell ⟨g8, n * 6 + 2, none⟩ (.int .i64 0)).setCell ⟨g8, n * 6 + 3, none⟩ (.int .i64 0)).setCell ⟨g8, n * 6 + 4, none⟩ (.int .i64 0)).frozen? ⟨g8, n * 6 + 5, none⟩ = false := by simp [hfz]
              clear y0' y1' y2' y3' y4' y5'
              have c0 := HC1.out w9 (SemI.nx HB7.out HB9.out)
              clear hown8 hgrow hb8 hg8 hh8 hug8 hcc hcn hex ho9 hi9 hl9 hb9 hug9 hb hff yz
              go_wp2_with fail
              refine HCa.out.mono ?_
              rintro e w10 ⟨rfl, hb10⟩
              have HB10 := Lib.hid (nx HB9.out hb10)
              clear hb10 HCa c0 y0 y1 y2 y3 y4 y5 f1 f2 f3 f4 f5 hfz hw9
              go_wp2_with fail
              go_roundw
              case rel => exact ⟨j + 1, by omega, by go_num, HB10.out⟩
              case measure => simp [intOf]; omega
            · have e1 : decide ((j : Int) < ZS.length) = false := by simp; omega
              obtain ⟨m, hm⟩ : ∃ m, T.length = m + 1 := by
                obtain ⟨T', s, rfl, _⟩ := HP.out.last
                exact ⟨T'.length, by simp⟩
              have hfa : (T[m].role = r ∧ T[m].who = x) := by
                obtain ⟨T', s, rfl, hs⟩ := HP.out.last
                have : m = T'.length := by simp at hm; omega
                subst this
                simp only [List.getElem_append_right (Nat.le_refl _), Nat.sub_self, List.getElem_cons_zero]
                simpa [Sp.fa] using hs
              have HEv := Lib.hid (fun w' (hb : Below w7.heap.size w7 w') => HEr.out A6 c6 S w' (by omega) (HS7.out.below hb))
              rw [hSl] at HEv
              have HPr := Lib.hid (fun w' (hb : Below w7.heap.size w7 w') => HPv.out w' (HUA.out.below (SemI.nx HB7.out hb)) A2 c2 T m hm (by omega) (HT7.out.below hb) HTI.out hfa)
              rw [HP.out.ck] at HPr
              have HHa := Lib.hid (fun mo w' (h : MoR w' mo P K S) => hasR h r x)
              rw [HSd.out] at HHa
              have HSS : Hid (∀ w', Below w7.heap.size w7 w' → Below w7.heap.size w7 w' ∧ (∀ o, w'.cell? ⟨bx, o, none⟩ = (#[.int .i64 d0, .int .i64 d1] : Array Value)[o]?) ∧ (∀ o, w'.cell? ⟨bx + 1, o, none⟩ = (#[.int .i64 r, .int .i64 x] : Array Value)[o]?)) := Lib.hid (fun w' hb => ⟨hb, HC1.out w' (SemI.nx HB7.out hb), HC2.out w' (SemI.nx HB7.out hb)⟩)
              have HBw := Lib.hid hb
              clear hb hfa hm HEr HPv HCk HC1 HC2 HLess HRng
              go_upto_region 22 with fail
              have H0 := HSS.out wr.drew (HBw.out.drew)
              refine wp_region_held_drew (S := fun w' => Below w7.heap.size w7 w' ∧ (∀ o, w'.cell? ⟨bx, o, none⟩ = (#[.int .i64 d0, .int .i64 d1] : Array Value)[o]?) ∧ (∀ o, w'.cell? ⟨bx + 1, o, none⟩ = (#[.int .i64 r, .int .i64 x] : Array Value)[o]?)) (by kernel_rfl) H0 (fun hHeld => ?_)
              refine wpAnyH_take (i := 0) (v := ?_) rfl (by kernel_rfl) (by kernel_rfl) (by kernel_rfl) (fun _ _ _ h => h) (Or.inl ⟨by kernel_rfl, ?_⟩) (by assumption) ?_
              rotate_left
              · intro w hSw; obtain ⟨_, hS1, hS2⟩ := hSw; (try dsimp only at hS1 hS2); go_simp; try with_reducible rfl
              try simp (config := { maxSteps := 2000000 }) only [Act.put, List.setIfInBounds_toArray, List.set_cons_zero, List.set_cons_succ, List.getElem_toArray, List.getElem_cons_succ, List.getElem_cons_zero]
              refine wpAnyH_take (i := 1) (v := ?_) rfl (by kernel_rfl) (by kernel_rfl) (by kernel_rfl) (fun _ _ _ h => h) (Or.inl ⟨by kernel_rfl, ?_⟩) (by assumption) ?_
              rotate_left
              · intro w hSw; obtain ⟨_, hS1, hS2⟩ := hSw; (try dsimp only at hS1 hS2); go_simp; try with_reducible rfl
              try simp (config := { maxSteps := 2000000 }) only [Act.put, List.setIfInBounds_toArray, List.set_cons_zero, List.set_cons_succ, List.getElem_toArray, List.getElem_cons_succ, List.getElem_cons_zero]
              refine wpAnyH_take (i := 2) (v := ?_) rfl (by kernel_rfl) (by kernel_rfl) (by kernel_rfl) (fun _ _ _ h => h) (Or.inl ⟨by kernel_rfl, ?_⟩) (by assumption) ?_
              rotate_left
              · intro w hSw; obtain ⟨_, hS1, hS2⟩ := hSw; (try dsimp only at hS1 hS2); go_simp; try with_reducible rfl
              try simp (config := { maxSteps := 2000000 }) only [Act.put, List.setIfInBounds_toArray, List.set_cons_zero, List.set_cons_succ, List.getElem_toArray, List.getElem_cons_succ, List.getElem_cons_zero]
              refine wpAnyH_take (i := 3) (v := ?_) rfl (by kernel_rfl) (by kernel_rfl) (by kernel_rfl) (fun _ _ _ h => h) (Or.inl ⟨by kernel_rfl, ?_⟩) (by assumption) ?_
              rotate_left
              · intro w hSw; obtain ⟨_, hS1, hS2⟩ := hSw; (try dsimp only at hS1 hS2); go_simp; try with_reducible rfl
              try simp (config := { maxSteps := 2000000 }) only [Act.put, List.setIfInBounds_toArray, List.set_cons_zero, List.set_cons_succ, List.getElem_toArray, List.getElem_cons_succ, List.getElem_cons_zero]
              refine wpAnyH_take (i := 4) (v := ?_) rfl (by kernel_rfl) (by kernel_rfl) (by kernel_rfl) (fun _ _ _ h => h) (Or.inl ⟨by kernel_rfl, ?_⟩) (by assumption) ?_
              rotate_left
              · intro w hSw; obtain ⟨_, hS1, hS2⟩ := hSw; (try dsimp only at hS1 hS2); go_simp; try with_reducible rfl
              try simp (config := { maxSteps := 2000000 }) only [Act.put, List.setIfInBounds_toArray, List.set_cons_zero, List.set_cons_succ, List.getElem_toArray, List.getElem_cons_succ, List.getElem_cons_zero]
              refine wpAnyH_take (i := 6) (v := ?_) rfl (by kernel_rfl) (by kernel_rfl) (by kernel_rfl) (fun _ _ _ h => h) (Or.inl ⟨by kernel_rfl, ?_⟩) (by assumption) ?_
              rotate_left
              · intro w hSw; obtain ⟨_, hS1, hS2⟩ := hSw; (try dsimp only at hS1 hS2); go_simp; try with_reducible rfl
              try simp (config := { maxSteps := 2000000 }) only [Act.put, List.setIfInBounds_toArray, List.set_cons_zero, List.set_cons_succ, List.getElem_toArray, List.getElem_cons_succ, List.getElem_cons_zero]
              refine wpAnyH_take (i := 7) (v := ?_) rfl (by kernel_rfl) (by kernel_rfl) (by kernel_rfl) (fun _ _ _ h => h) (Or.inl ⟨by kernel_rfl, ?_⟩) (by assumption) ?_
              rotate_left
              · intro w hSw; obtain ⟨_, hS1, hS2⟩ := hSw; (try dsimp only at hS1 hS2); go_simp; try with_reducible rfl
              try simp (config := { maxSteps := 2000000 }) only [Act.put, List.setIfInBounds_toArray, List.set_cons_zero, List.set_cons_succ, List.getElem_toArray, List.getElem_cons_succ, List.getElem_cons_zero]
              refine wpAnyH_take (i := 8) (v := ?_) rfl (by kernel_rfl) (by kernel_rfl) (by kernel_rfl) (fun _ _ _ h => h) (Or.inl ⟨by kernel_rfl, ?_⟩) (by assumption) ?_
              rotate_left
              · intro w hSw; obtain ⟨_, hS1, hS2⟩ := hSw; (try dsimp only at hS1 hS2); go_simp; try with_reducible rfl
              try simp (config := { maxSteps := 2000000 }) only [Act.put, List.setIfInBounds_toArray, List.set_cons_zero, List.set_cons_succ, List.getElem_toArray, List.getElem_cons_succ, List.getElem_cons_zero]
              refine wpAnyH_take (i := 9) (v := ?_) rfl (by kernel_rfl) (by kernel_rfl) (by kernel_rfl) (fun _ _ _ h => h) (Or.inl ⟨by kernel_rfl, ?_⟩) (by assumption) ?_
              rotate_left
              · intro w hSw; obtain ⟨_, hS1, hS2⟩ := hSw; (try dsimp only at hS1 hS2); go_simp; try with_reducible rfl
              try simp (config := { maxSteps := 2000000 }) only [Act.put, List.setIfInBounds_toArray, List.set_cons_zero, List.set_cons_succ, List.getElem_toArray, List.getElem_cons_succ, List.getElem_cons_zero]
              refine wpAnyH_ready (rs := [5]) (by kernel_rfl) (by simp) ?_
              refine AllReadyH.cons rfl (fun K hK => ?_) AllReadyH.nil
              go_simp
              go_wp2_with ((with_reducible refine (HEv.out _ hHeld.1).mono ?_); rintro e wa ⟨mo, rfl, hmo, hba⟩)
              have HMo := Lib.hid hmo
              refine hK.out _ _ (HSS.out _ (nx hHeld.1 hba)) (fun hHeld => ?_)
              clear hK K hba hmo
              try simp (config := { maxSteps := 2000000 }) only [Act.put, List.setIfInBounds_toArray, List.set_cons_zero, List.set_cons_succ, List.getElem_toArray, List.getElem_cons_succ, List.getElem_cons_zero]
              refine wpAnyH_ready (rs := [10]) (by kernel_rfl) (by simp) ?_
              refine AllReadyH.cons rfl (fun K hK => ?_) AllReadyH.nil
              go_simp
              go_wp2_with ((with_reducible refine (HHa.out _ _ HMo.out).mono ?_); rintro e wb ⟨rfl, hbb⟩)
              refine hK.out _ _ (HSS.out _ (nx hHeld.1 hbb)) (fun hHeld => ?_)
              clear hK K hbb
              try simp (config := { maxSteps := 2000000 }) only [Act.put, List.setIfInBounds_toArray, List.set_cons_zero, List.set_cons_succ, List.getElem_toArray, List.getElem_cons_succ, List.getElem_cons_zero]
              refine wpAnyH_take (i := 11) (v := ?_) rfl (by kernel_rfl) (by kernel_rfl) (by kernel_rfl) (fun _ _ _ h => h) (Or.inl ⟨by kernel_rfl, ?_⟩) (by assumption) ?_
              rotate_left
              · intro w hSw; obtain ⟨_, hS1, hS2⟩ := hSw; (try dsimp only at hS1 hS2); go_simp; try with_reducible rfl
              try simp (config := { maxSteps := 2000000 }) only [Act.put, List.setIfInBounds_toArray, List.set_cons_zero, List.set_cons_succ, List.getElem_toArray, List.getElem_cons_succ, List.getElem_cons_zero]
              refine wpAnyH_take (i := 12) (v := ?_) rfl (by kernel_rfl) (by kernel_rfl) (by kernel_rfl) (fun _ _ _ h => h) (Or.inl ⟨by kernel_rfl, ?_⟩) (by assumption) ?_
              rotate_left
              · intro w hSw; obtain ⟨_, hS1, hS2⟩ := hSw; (try dsimp only at hS1 hS2); go_simp; try with_reducible rfl
              try simp (config := { maxSteps := 2000000 }) only [Act.put, List.setIfInBounds_toArray, List.set_cons_zero, List.set_cons_succ, List.getElem_toArray, List.getElem_cons_succ, List.getElem_cons_zero]
              refine wpAnyH_take (i := 13) (v := ?_) rfl (by kernel_rfl) (by kernel_rfl) (by kernel_rfl) (fun _ _ _ h => h) (Or.inl ⟨by kernel_rfl, ?_⟩) (by assumption) ?_
              rotate_left
              · intro w hSw; obtain ⟨_, hS1, hS2⟩ := hSw; (try dsimp only at hS1 hS2); go_simp; try with_reducible rfl
              try simp (config := { maxSteps := 2000000 }) only [Act.put, List.setIfInBounds_toArray, List.set_cons_zero, List.set_cons_succ, List.getElem_toArray, List.getElem_cons_succ, List.getElem_cons_zero]
              refine wpAnyH_take (i := 14) (v := ?_) rfl (by kernel_rfl) (by kernel_rfl) (by kernel_rfl) (fun _ _ _ h => h) (Or.inl ⟨by kernel_rfl, ?_⟩) (by assumption) ?_
              rotate_left
              · intro w hSw; obtain ⟨_, hS1, hS2⟩ := hSw; (try dsimp only at hS1 hS2); go_simp; try with_reducible rfl
              try simp (config := { maxSteps := 2000000 }) only [Act.put, List.setIfInBounds_toArray, List.set_cons_zero, List.set_cons_succ, List.getElem_toArray, List.getElem_cons_succ, List.getElem_cons_zero]
              refine wpAnyH_take (i := 15) (v := ?_) rfl (by kernel_rfl) (by kernel_rfl) (by kernel_rfl) (fun _ _ _ h => h) (Or.inl ⟨by kernel_rfl, ?_⟩) (by assumption) ?_
              rotate_left
              · intro w hSw; obtain ⟨_, hS1, hS2⟩ := hSw; (try dsimp only at hS1 hS2); go_simp; try with_reducible rfl
              try simp (config := { maxSteps := 2000000 }) only [Act.put, List.setIfInBounds_toArray, List.set_cons_zero, List.set_cons_succ, List.getElem_toArray, List.getElem_cons_succ, List.getElem_cons_zero]
              refine wpAnyH_take (i := 16) (v := ?_) rfl (by kernel_rfl) (by kernel_rfl) (by kernel_rfl) (fun _ _ _ h => h) (Or.inl ⟨by kernel_rfl, ?_⟩) (by assumption) ?_
              rotate_left
              · intro w hSw; obtain ⟨_, hS1, hS2⟩ := hSw; (try dsimp only at hS1 hS2); go_simp; try with_reducible rfl
              try simp (config := { maxSteps := 2000000 }) only [Act.put, List.setIfInBounds_toArray, List.set_cons_zero, List.set_cons_succ, List.getElem_toArray, List.getElem_cons_succ, List.getElem_cons_zero]
              refine wpAnyH_take (i := 17) (v := ?_) rfl (by kernel_rfl) (by kernel_rfl) (by kernel_rfl) (fun _ _ _ h => h) (Or.inl ⟨by kernel_rfl, ?_⟩) (by assumption) ?_
              rotate_left
              · intro w hSw; obtain ⟨_, hS1, hS2⟩ := hSw; (try dsimp only at hS1 hS2); go_simp; try with_reducible rfl
              try simp (config := { maxSteps := 2000000 }) only [Act.put, List.setIfInBounds_toArray, List.set_cons_zero, List.set_cons_succ, List.getElem_toArray, List.getElem_cons_succ, List.getElem_cons_zero]
              refine wpAnyH_take (i := 18) (v := ?_) rfl (by kernel_rfl) (by kernel_rfl) (by kernel_rfl) (fun _ _ _ h => h) (Or.inl ⟨by kernel_rfl, ?_⟩) (by assumption) ?_
              rotate_left
              · intro w hSw; obtain ⟨_, hS1, hS2⟩ := hSw; (try dsimp only at hS1 hS2); go_simp; try with_reducible rfl
              try simp (config := { maxSteps := 2000000 }) only [Act.put, List.setIfInBounds_toArray, List.set_cons_zero, List.set_cons_succ, List.getElem_toArray, List.getElem_cons_succ, List.getElem_cons_zero]
              refine wpAnyH_take (i := 19) (v := ?_) rfl (by kernel_rfl) (by kernel_rfl) (by kernel_rfl) (fun _ _ _ h => h) (Or.inl ⟨by kernel_rfl, ?_⟩) (by assumption) ?_
              rotate_left
              · intro w hSw; obtain ⟨_, hS1, hS2⟩ := hSw; (try dsimp only at hS1 hS2); go_simp; try with_reducible rfl
              try simp (config := { maxSteps := 2000000 }) only [Act.put, List.setIfInBounds_toArray, List.set_cons_zero, List.set_cons_succ, List.getElem_toArray, List.getElem_cons_succ, List.getElem_cons_zero]
              refine wpAnyH_take (i := 20) (v := ?_) rfl (by kernel_rfl) (by kernel_rfl) (by kernel_rfl) (fun _ _ _ h => h) (Or.inl ⟨by kernel_rfl, ?_⟩) (by assumption) ?_
              rotate_left
              · intro w hSw; obtain ⟨_, hS1, hS2⟩ := hSw; (try dsimp only at hS1 hS2); go_simp; try with_reducible rfl
              try simp (config := { maxSteps := 2000000 }) only [Act.put, List.setIfInBounds_toArray, List.set_cons_zero, List.set_cons_succ, List.getElem_toArray, List.getElem_cons_succ, List.getElem_cons_zero]
              refine wpAnyH_take (i := 21) (v := ?_) rfl (by kernel_rfl) (by kernel_rfl) (by kernel_rfl) (fun _ _ _ h => h) (Or.inl ⟨by kernel_rfl, ?_⟩) (by assumption) ?_
              rotate_left
              · intro w hSw; obtain ⟨_, hS1, hS2⟩ := hSw; (try dsimp only at hS1 hS2); go_simp; try with_reducible rfl
              try simp (config := { maxSteps := 2000000 }) only [Act.put, List.setIfInBounds_toArray, List.set_cons_zero, List.set_cons_succ, List.getElem_toArray, List.getElem_cons_succ, List.getElem_cons_zero]
              refine wpAnyH_ready (rs := [22]) (by kernel_rfl) (by simp) ?_
              refine AllReadyH.cons rfl (fun K hK => ?_) AllReadyH.nil
              go_simp
              go_wp2_with ((with_reducible refine (HPr.out _ hHeld.1).mono ?_); rintro e wc ⟨rfl, hbc⟩)
              refine hK.out _ _ (HSS.out _ (nx hHeld.1 hbc)) (fun hHeld => ?_)
              clear hK K hbc
              try simp (config := { maxSteps := 2000000 }) only [Act.put, List.setIfInBounds_toArray, List.set_cons_zero, List.set_cons_succ, List.getElem_toArray, List.getElem_cons_succ, List.getElem_cons_zero]
              refine wpAnyH_take (i := 23) (v := ?_) rfl (by kernel_rfl) (by kernel_rfl) (by kernel_rfl) (fun _ _ _ h => h) (Or.inl ⟨by kernel_rfl, ?_⟩) (by assumption) ?_
              rotate_left
              · intro w hSw; obtain ⟨_, hS1, hS2⟩ := hSw; (try dsimp only at hS1 hS2); go_simp; try with_reducible rfl
              try simp (config := { maxSteps := 2000000 }) only [Act.put, List.setIfInBounds_toArray, List.set_cons_zero, List.set_cons_succ, List.getElem_toArray, List.getElem_cons_succ, List.getElem_cons_zero]
              refine wpAnyH_take (i := 24) (v := ?_) rfl (by kernel_rfl) (by kernel_rfl) (by kernel_rfl) (fun _ _ _ h => h) (Or.inl ⟨by kernel_rfl, ?_⟩) (by assumption) ?_
              rotate_left
              · intro w hSw; obtain ⟨_, hS1, hS2⟩ := hSw; (try dsimp only at hS1 hS2); go_simp; try with_reducible rfl
              try simp (config := { maxSteps := 2000000 }) only [Act.put, List.setIfInBounds_toArray, List.set_cons_zero, List.set_cons_succ, List.getElem_toArray, List.getElem_cons_succ, List.getElem_cons_zero]
              refine wpAnyH_ready (rs := [25]) (by kernel_rfl) (by simp) ?_
              refine AllReadyH.cons rfl (fun K hK => ?_) AllReadyH.nil
              go_simp
              go_wp2_with ((with_reducible refine (HLv.out _).mono ?_); rintro e wd ⟨rfl, hbd⟩)
              refine hK.out _ _ (HSS.out _ (nx hHeld.1 hbd)) (fun hHeld => ?_)
              clear hK K hbd
              try simp (config := { maxSteps := 2000000 }) only [Act.put, List.setIfInBounds_toArray, List.set_cons_zero, List.set_cons_succ, List.getElem_toArray, List.getElem_cons_succ, List.getElem_cons_zero]
              refine wpAnyH_take (i := 26) (v := ?_) rfl (by kernel_rfl) (by kernel_rfl) (by kernel_rfl) (fun _ _ _ h => h) (Or.inl ⟨by kernel_rfl, ?_⟩) (by assumption) ?_
              rotate_left
              · intro w hSw; obtain ⟨_, hS1, hS2⟩ := hSw; (try dsimp only at hS1 hS2); go_simp; try with_reducible rfl
              try simp (config := { maxSteps := 2000000 }) only [Act.put, List.setIfInBounds_toArray, List.set_cons_zero, List.set_cons_succ, List.getElem_toArray, List.getElem_cons_succ, List.getElem_cons_zero]
              refine wpAnyH_take (i := 27) (v := ?_) rfl (by kernel_rfl) (by kernel_rfl) (by kernel_rfl) (fun _ _ _ h => h) (Or.inl ⟨by kernel_rfl, ?_⟩) (by assumption) ?_
              rotate_left
              · intro w hSw; obtain ⟨_, hS1, hS2⟩ := hSw; (try dsimp only at hS1 hS2); go_simp; try with_reducible rfl
              try simp (config := { maxSteps := 2000000 }) only [Act.put, List.setIfInBounds_toArray, List.set_cons_zero, List.set_cons_succ, List.getElem_toArray, List.getElem_cons_succ, List.getElem_cons_zero]
              refine wpAnyH_done (by kernel_rfl) ?_ _
              have HF := Lib.hid (SemI.nx HB0.out (SemI.nx HB7.out hHeld.1))
              clear hHeld
              go_wp2_with fail
              go_ret
              exact ⟨rfl, by first | exact HF.out | (rw [← hbx]; exact HF.out)⟩
    · clear hd HW
      go_wp2_with fail
      refine (HLv.out _).mono ?_
      rintro e w6 ⟨rfl, hb6⟩
      have HF := Lib.hid (SemI.nx HB0.out (SemI.nx HB4.out hb6))
      clear hb6 HLv HB0 HB4
      go_wp2_with fail
      go_ret
      exact ⟨rfl, by first | exact HF.out | (rw [← hbx]; exact HF.out)⟩
end Go.Proofs.Ytihhojgnilbfnaa.PfZ
/- The document's Same of layer 7 at two equal rows of ints. -/
namespace Go.Proofs.Ytihhojgnilbfnaa.PfW2
set_option linter.unusedVariables false
set_option linter.unusedSimpArgs false
open Go.RowKit Go.Lib Go.Proofs Go.Proofs.Ytihhojgnilbfnaa.Plain Go.Proofs.Ytihhojgnilbfnaa.TblB Go.Proofs.Ytihhojgnilbfnaa.TblC Go.Proofs.Ytihhojgnilbfnaa.TblF Go.Proofs.Ytihhojgnilbfnaa.TblV Go.Proofs.Ytihhojgnilbfnaa.TblP Go.Proofs.Ytihhojgnilbfnaa.TblQ Go.Proofs.Ytihhojgnilbfnaa.SetA Go.Proofs.Ytihhojgnilbfnaa.SetB Go.Proofs.Ytihhojgnilbfnaa.SetC Go.Proofs.Ytihhojgnilbfnaa.SetD Go.Proofs.Ytihhojgnilbfnaa.SetF Go.Proofs.Ytihhojgnilbfnaa.SetN Go.Proofs.Ytihhojgnilbfnaa.SetJ Go.Proofs.Ytihhojgnilbfnaa.SetR Go.Proofs.Ytihhojgnilbfnaa.PfZ
set_option linter.unusedVariables false
set_option linter.unusedSimpArgs false
set_option maxHeartbeats 1000000 in
set_option maxRecDepth 100000 in
theorem sameZ (A B : Option Addr) (ca cb : Nat) (L : List Int) (w : World) (hL : L.length ≤ 10000) (hA : ZG w A L) (hB : ZG w B L) : Calls Try.prog 12 #[.slice A L.length ca, .slice B L.length cb] w fun e w' => e = .returned (.bool true) ∧ Below w.heap.size w w' := by
  have HA := Lib.hid hA
  have HB := Lib.hid hB
  clear hA hB
  go_enter Try.func12, Try.ntmps12
  go_wp2_with fail
  go_loopw [13] (fun i wr => ∃ j : Nat, j ≤ L.length ∧ i = .int .i64 j ∧ Below w.heap.size w wr) (fun i _ => L.length - (intOf i).toNat)
  case atStart => exact ⟨0, by omega, rfl, Below.refl _ _⟩
  case round =>
    obtain ⟨j, hj, rfl, hb⟩ := hrel
    by_cases hlt : j < L.length
    · have d1 : decide ((j : Int) < L.length) = true := by simp; omega
      have p0 : (0 : Int) ≤ j := by omega
      have p1 : (j : Int) < L.length := by omega
      obtain ⟨g, rfl, hg, hcell⟩ := (HA.out.below hb) (by omega)
      obtain ⟨g2, rfl, hg2, hcell2⟩ := (HB.out.below hb) (by omega)
      have a1 := hcell j hlt
      have a2 := hcell2 j hlt
      have HBk := Lib.hid hb
      clear hcell hcell2 hb
      generalize L[j] = x at *
      have e1 : ((x : Int) != (x : Int)) = false := by simp
      go_wp2_with fail
      go_quiet (fail)
      go_wp2_with fail
      go_roundw
      case rel => exact ⟨j + 1, by omega, by go_num, below_drewN HBk.out _⟩
      case measure => simp [intOf]; omega
    · have d1 : decide ((j : Int) < L.length) = false := by simp; omega
      have HBk := Lib.hid hb
      clear hb
      go_wp2_with fail
      go_ret
      exact ⟨rfl, HBk.out⟩
end Go.Proofs.Ytihhojgnilbfnaa.PfW2
