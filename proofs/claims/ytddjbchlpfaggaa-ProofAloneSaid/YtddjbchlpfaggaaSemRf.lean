/- The document's Eval by contract. -/
import Derived.Test.YtddjbchlpfaggaaSemRg
import Derived.Test.YtddjbchlpfaggaaPfS
import Derived.Lib.MinMax
namespace Go.Proofs.Ytddjbchlpfaggaa.SemRf
open Go.RowKit Go.Lib Go.Proofs Go.Proofs.Ytddjbchlpfaggaa.TblB Go.Proofs.Ytddjbchlpfaggaa.TblC Go.Proofs.Ytddjbchlpfaggaa.TblV Go.Proofs.Ytddjbchlpfaggaa.TblP Go.Proofs.Ytddjbchlpfaggaa.TblQ Go.Proofs.Ytddjbchlpfaggaa.SemA Go.Proofs.Ytddjbchlpfaggaa.SemB Go.Proofs.Ytddjbchlpfaggaa.SemH Go.Proofs.Ytddjbchlpfaggaa.SemJ Go.Proofs.Ytddjbchlpfaggaa.SemR Go.Proofs.Ytddjbchlpfaggaa.SemRa Go.Proofs.Ytddjbchlpfaggaa.SemRb Go.Proofs.Ytddjbchlpfaggaa.SemRd Go.Proofs.Ytddjbchlpfaggaa.SemRe Go.Proofs.Ytddjbchlpfaggaa.SemRg Go.Proofs.Ytddjbchlpfaggaa.SemGa
set_option linter.unusedVariables false
set_option linter.unusedSimpArgs false
theorem infoBools : (Try.prog.info? 65).map (fun i => (i.zero, i.size, i.bytes)) = some (some (.slice none 0 0), 1, 24) := by kernel_rfl
theorem infoBool : (Try.prog.info? 4).map (fun i => (i.zero, i.size, i.bytes)) = some (some (.bool false), 1, 1) := by kernel_rfl
theorem madeB (n : Nat) : madeCells (Value.bool false).cells n = Array.replicate n (.bool false) := by
  apply Array.ext
  · simp [size_madeCells]
  · intro i h1 h2
    simp only [madeCells, Array.getElem_map, Array.getElem_range, Array.getElem_replicate]
    have : (Value.bool false).cells = #[Value.bool false] := rfl
    simp [this, Nat.mod_one]
theorem own_none (w : World) (B : Nat) (t : TypeId) : w.ownsRow B t 1 (.slice none 0 0) 0 [] := ⟨rfl, .inl ⟨rfl, rfl⟩⟩
theorem bwd (w : World) : Below w.heap.size w w.drew := (Below.refl _ _).drew
theorem below_fr {n mo : Nat} {R : Nat → Nat} {a b c : World} (hb : Below a.heap.size a b) (hf : Fr n R b c) (hR : ∀ r, r < n → mo + 1 ≤ R r) (hm : a.heap.size ≤ mo) : Below a.heap.size a c :=
  ⟨hf.os.trans hb.os, hf.tape.trans hb.tape, hf.output.trans hb.output, Nat.le_trans hb.size hf.size, fun k hk => (hf.block k (Nat.lt_of_lt_of_le hk hb.size) (fun r hr => by have := hR r hr; omega)).trans (hb.block k hk)⟩
theorem meas {P K n : Nat} {L : List Ru} {f g : Rel} {c : Bool} {a b : Nat} (h1 : a = outF n P f) (h2 : b = outF n P g) (h : Rd P K n L f L.length g c) : 2 * b + (match (.bool c : Value) with | .bool true => 1 | _ => 0) < 2 * a + 1 := by
  subst h1
  subst h2
  cases c with
  | false =>
    obtain ⟨rfl, _⟩ := h.no rfl
    simp
  | true =>
    obtain ⟨r, x, h3, h4, h5, h6⟩ := h.yes rfl
    have := outF_lt h.le h3 h4 h5 h6
    show 2 * _ + 1 < _
    omega
/-- The document's model of rules in memory. -/
def MoR (w : World) (mo P K : Nat) (L : List Ru) : Prop := ∃ gi ca R f, MR w mo gi ca P K (P * K) R f ∧ ∀ r x : Nat, f r x = true ↔ Der K (L.filter (rightU P K)) r x
theorem MoR.below {w w' : World} {mo P K : Nat} {L : List Ru} (h : MoR w mo P K L) (hb : Below w.heap.size w w') : MoR w' mo P K L := by
  obtain ⟨gi, ca, R, f, hm, hd⟩ := h
  exact ⟨gi, ca, R, f, hm.below hb, hd⟩
set_option maxHeartbeats 4000000 in
set_option maxRecDepth 100000 in
theorem evalR (d0 d1 : Int) (A : Option Addr) (ca : Nat) (L : List Ru) (w : World) (hL : L.length ≤ 1000) (hA : UG w A L) (P K : Nat) (hP : max 0 (min d0 64) = (P : Int)) (hK : max 0 (min d1 64) = (K : Int)) :
    Calls Try.prog 13 #[.int .i64 d0, .int .i64 d1, .slice A L.length ca] w fun e w' => ∃ mo : Nat, e = .returned (.pointer (some ⟨mo, 0, none⟩)) ∧ MoR w' mo P K L ∧ Below w.heap.size w w' := by
  have lP : P ≤ 64 := by omega
  have lK : K ≤ 64 := by omega
  obtain ⟨n, hn⟩ : ∃ n, P * K = n := ⟨_, rfl⟩
  have hn60 : P * K ≤ 64 * 64 := Nat.mul_le_mul lP lK
  have hmul : IntKind.i64.wrap ((P : Int) * (K : Int)) = (n : Int) := wrapN hn (by omega)
  have ln : n ≤ 4096 := by omega
  obtain ⟨i0, hi, hz0, hz1, hz2⟩ := info_parts infoBools
  obtain ⟨i1, hj, hy0, hy1, hy2⟩ := info_parts infoBool
  have mk := fun (w : World) => run_make (P := Try.prog) w 65 4 i1 _ Try.underlying65 hj hy0 .i64 .i64 P P (by omega) (by omega) (by rw [hy2]; omega) (by omega)
  rw [hy1] at mk
  simp only [Int.toNat_natCast, Nat.mul_one, madeB] at mk
  have HN := Lib.hid hn
  have HUA := Lib.hid (fun w' (hb : Below w.heap.size w w') => hA.below hb)
  have lL : L.length ≤ 1000 := hL
  clear hn hA hL hn60 hj hy0 hy1 hy2
  have hX0 := heap_alloc_new w (.cells #[.int .i64 P, .int .i64 K, .slice none 0 0] 64)
  have hB0 : Below w.heap.size w (w.alloc (.cells #[.int .i64 P, .int .i64 K, .slice none 0 0] 64)) := (Below.refl _ _).alloc (Nat.le_refl _) _
  have HR0 : Hid (Rs (w.alloc (.cells #[.int .i64 P, .int .i64 K, .slice none 0 0] 64)) (w.heap.size + 1) w.heap.size P K (.slice none 0 0) []) := Lib.hid ⟨own_none _ _ _, hX0, by omega, by simp, fun b hb => (by cases hb), List.nodup_nil, fun _ => rfl⟩
  have HB0 := Lib.hid hB0
  clear hX0 hB0
  go_enter Try.func13, Try.ntmps13
  go_upto_region 2 with fail
  generalize w.alloc (.cells #[.int .i64 P, .int .i64 K, .slice none 0 0] 64) = w0 at *
  obtain ⟨mo, hmo⟩ : ∃ mo, w.heap.size = mo := ⟨_, rfl⟩
  simp only [hmo] at HR0 ⊢
  go_wp2_with fail
  go_loopw [8] (fun i wr => ∃ (xs : List Nat) (v : Value), xs.length ≤ n ∧ i = .int .i64 xs.length ∧ Hid (Rs wr (mo + 1) mo P K v xs) ∧ Hid (Below w.heap.size w wr)) (fun i _ => n - (intOf i).toNat)
  case atStart => exact ⟨[], .slice none 0 0, by simp, rfl, HR0, HB0⟩
  case round =>
    obtain ⟨xs, v, hk, rfl, HR, HB⟩ := hrel
    have c0 : wr.cell? ⟨mo, 0, none⟩ = some (.int .i64 P) := Lib.cell_of_heap HR.out.h0 0
    have c1 : wr.cell? ⟨mo, 1, none⟩ = some (.int .i64 K) := Lib.cell_of_heap HR.out.h0 1
    by_cases hlt : xs.length < n
    · have e1 : decide ((xs.length : Int) < n) = true := by simp; omega
      go_upto_region 3 with fail
      go_quiet (fail)
      have HR1 := Lib.hid (HR.out.below (bwr wr nq))
      have HB1 := Lib.hid (below_drewN HB.out nq)
      clear c0 c1 HR HB
      go_upto_region 5 with fail
      generalize wr.drewN nq = X at *
      have hm0 := HR1.out.mb
      have hm1 := HR1.out.bs
      have hX1 : Below X.heap.size X (X.alloc (.cells (Array.replicate P (.bool false)) 4)) := (Below.refl _ _).alloc (Nat.le_refl _) _
      have hX2 := X2_below X P
      have hcell : ∀ w', Below X.heap.size X w' → ∀ o, w'.cell? ⟨mo, o, none⟩ = (#[.int .i64 P, .int .i64 K, v] : Array Value)[o]? := fun w' hb o => Lib.cell_of_heap (HR1.out.below hb).h0 o
      have a0 : X.drew.cell? ⟨mo, 0, none⟩ = some (.int .i64 P) := hcell _ (Below.refl _ _) 0
      have a2 : X.drew.cell? ⟨mo, 2, none⟩ = some v := hcell X (Below.refl _ _) 2
      have b0 : (X.alloc (.cells (Array.replicate P (.bool false)) 4)).drew.cell? ⟨mo, 0, none⟩ = some (.int .i64 P) := hcell _ hX1 0
      have b2 : (X.alloc (.cells (Array.replicate P (.bool false)) 4)).drew.cell? ⟨mo, 2, none⟩ = some v := hcell _ hX1 2
      have d0 : ((X.alloc (.cells (Array.replicate P (.bool false)) 4)).alloc (.cells #[.slice (some ⟨X.heap.size, 0, none⟩) P P] 65)).drew.cell? ⟨mo, 0, none⟩ = some (.int .i64 P) := hcell _ hX2 0
      have d2 : ((X.alloc (.cells (Array.replicate P (.bool false)) 4)).alloc (.cells #[.slice (some ⟨X.heap.size, 0, none⟩) P P] 65)).drew.cell? ⟨mo, 2, none⟩ = some v := hcell _ hX2 2
      have hXd : Below X.heap.size X X.drew := (Below.refl _ _).drew
      have HOw : Hid (((X.alloc (.cells (Array.replicate P (.bool false)) 4)).alloc (.cells #[.slice (some ⟨X.heap.size, 0, none⟩) P P] 65)).drew.ownsRow (mo + 1) 65 1 v xs.length (xs.map (rv P))) := Lib.hid ((HR1.out.below hX2).own)
      have HLit : Hid (∀ ad, some (⟨X.heap.size + 1, 0, none⟩ : Addr) = some ad → ∀ j u, [rv P X.heap.size][j]? = some u → ((X.alloc (.cells (Array.replicate P (.bool false)) 4)).alloc (.cells #[.slice (some ⟨X.heap.size, 0, none⟩) P P] 65)).drew.cell? (ad.add j) = some u) := Lib.hid (fun ad q j u hu => by
        injection q with q
        subst q
        have hb : ((X.alloc (.cells (Array.replicate P (.bool false)) 4)).alloc (.cells #[.slice (some ⟨X.heap.size, 0, none⟩) P P] 65)).heap[X.heap.size + 1]? = some (.cells #[.slice (some ⟨X.heap.size, 0, none⟩) P P] 65 (0, 0)) := by
          have := heap_alloc_new (X.alloc (.cells (Array.replicate P (.bool false)) 4)) (.cells #[.slice (some ⟨X.heap.size, 0, none⟩) P P] 65)
          rwa [show (X.alloc (.cells (Array.replicate P (.bool false)) 4)).heap.size = X.heap.size + 1 by simp] at this
        have h2 := Lib.cell_of_heap hb j
        rw [SemC.add_off, Nat.zero_add]
        refine Eq.trans h2 ?_
        rw [← hu]
        show ([rv P X.heap.size].toArray)[j]? = _
        rw [List.getElem?_toArray])
      have HOne : Hid (∀ u ∈ [rv P X.heap.size], u.oneCell' = true) := Lib.hid (fun u hu => by rw [List.mem_singleton] at hu; subst hu; rfl)
      have HSz : Hid (mo + 1 ≤ ((X.alloc (.cells (Array.replicate P (.bool false)) 4)).alloc (.cells #[.slice (some ⟨X.heap.size, 0, none⟩) P P] 65)).drew.heap.size) := Lib.hid (by
        have := X2_size X P
        show mo + 1 ≤ (X2 X P).heap.size
        omega)
      have HKp : Hid (∀ w1 v1, ((X.alloc (.cells (Array.replicate P (.bool false)) 4)).alloc (.cells #[.slice (some ⟨X.heap.size, 0, none⟩) P P] 65)).drew.grownBy w1 v.ownBlock → w1.cell? ⟨mo, 0, none⟩ = some (.int .i64 P) ∧ w1.frozen? ⟨mo, 2, none⟩ = false ∧ (w1.setCell ⟨mo, 2, none⟩ v1).cell? ⟨mo, 0, none⟩ = some (.int .i64 P) ∧ w1.cell? ⟨mo, 2, none⟩ = some v) := Lib.hid (fun w1 v1 hg => (HR1.out.below hXd).kept hg v1)
      have HPu : Hid (∀ w1 v1, w1.ownsRow (mo + 1) 65 1 v1 (xs.length + 1) (xs.map (rv P) ++ [rv P X.heap.size]) → ((X.alloc (.cells (Array.replicate P (.bool false)) 4)).alloc (.cells #[.slice (some ⟨X.heap.size, 0, none⟩) P P] 65)).drew.grownBy w1 v.ownBlock → Rs (w1.setCell ⟨mo, 2, none⟩ v1) (mo + 1) mo P K v1 (xs ++ [X.heap.size])) := Lib.hid (fun w1 v1 ho hg => (HR1.out.below hXd).push ho hg)
      have HPb : Hid (∀ w1 v1, ((X.alloc (.cells (Array.replicate P (.bool false)) 4)).alloc (.cells #[.slice (some ⟨X.heap.size, 0, none⟩) P P] 65)).drew.grownBy w1 v.ownBlock → Below w.heap.size w (w1.setCell ⟨mo, 2, none⟩ v1)) := Lib.hid (fun w1 v1 hg => (HR1.out.below hXd).push_below HB1.out.drew (by omega) hg)
      clear hcell hX1 hX2 hXd e1 hm0 hm1
      refine wp_region_held_drew (S := fun w' => w'.cell? ⟨mo, 0, none⟩ = some (.int .i64 P)) (by kernel_rfl) a0 (fun hHeld => ?_)
      refine wpAnyH_take (i := 0) (v := ?_) rfl (by kernel_rfl) (by kernel_rfl) (by kernel_rfl) (fun _ _ _ h => h) (Or.inl ⟨by kernel_rfl, ?_⟩) (by assumption) ?_
      rotate_left
      · intro w hSw; (try dsimp only at hSw); go_simp; try with_reducible rfl
      try simp only [Act.put, List.setIfInBounds_toArray, List.set_cons_zero, List.set_cons_succ]
      refine wpAnyH_take (i := 1) (v := ?_) rfl (by kernel_rfl) (by kernel_rfl) (by kernel_rfl) (fun _ _ _ h => h) (Or.inl ⟨by kernel_rfl, ?_⟩) (by assumption) ?_
      rotate_left
      · intro w hSw; (try dsimp only at hSw); go_simp; try with_reducible rfl
      try simp only [Act.put, List.setIfInBounds_toArray, List.set_cons_zero, List.set_cons_succ]
      refine wpAnyH_take (i := 5) (v := ?_) rfl (by kernel_rfl) (by kernel_rfl) (by kernel_rfl) (fun _ _ _ h => h) (Or.inl ⟨by kernel_rfl, ?_⟩) (by assumption) ?_
      rotate_left
      · intro w hSw; (try dsimp only at hSw); go_simp; try with_reducible rfl
      try simp only [Act.put, List.setIfInBounds_toArray, List.set_cons_zero, List.set_cons_succ]
      refine wpAnyH_take (i := 2) (v := ?_) rfl (by kernel_rfl) (by kernel_rfl) (by kernel_rfl) (fun _ _ _ h => h) (Or.inl ⟨by kernel_rfl, ?_⟩) (by assumption) ?_
      rotate_left
      · intro w hSw; (try dsimp only at hSw); go_simp; try with_reducible rfl
      try simp only [Act.put, List.setIfInBounds_toArray, List.set_cons_zero, List.set_cons_succ]
      refine wpAnyH_take (i := 6) (v := ?_) rfl (by kernel_rfl) (by kernel_rfl) (by kernel_rfl) (fun _ _ _ h => h) (Or.inl ⟨by kernel_rfl, ?_⟩) (by assumption) ?_
      rotate_left
      · intro w hSw; (try dsimp only at hSw); go_simp; try with_reducible rfl
      try simp only [Act.put, List.setIfInBounds_toArray, List.set_cons_zero, List.set_cons_succ]
      refine wpAnyH_take (i := 3) (v := ?_) rfl (by kernel_rfl) (by kernel_rfl) (by kernel_rfl) (fun _ _ _ h => h) (Or.inl ⟨by kernel_rfl, ?_⟩) (by assumption) ?_
      rotate_left
      · intro w hSw; (try dsimp only at hSw); go_simp; try with_reducible rfl
      try simp only [Act.put, List.setIfInBounds_toArray, List.set_cons_zero, List.set_cons_succ]
      refine wpAnyH_take (i := 7) (v := ?_) rfl (by kernel_rfl) (by kernel_rfl) (by kernel_rfl) (fun _ _ _ h => h) (Or.inl ⟨by kernel_rfl, ?_⟩) (by assumption) ?_
      rotate_left
      · intro w hSw; (try dsimp only at hSw); go_simp; try with_reducible rfl
      try simp only [Act.put, List.setIfInBounds_toArray, List.set_cons_zero, List.set_cons_succ]
      refine wpAnyH_take (i := 8) (v := ?_) rfl (by kernel_rfl) (by kernel_rfl) (by kernel_rfl) (fun _ _ _ h => h) (Or.inl ⟨by kernel_rfl, ?_⟩) (by assumption) ?_
      rotate_left
      · intro w hSw; (try dsimp only at hSw); go_simp; try with_reducible rfl
      try simp only [Act.put, List.setIfInBounds_toArray, List.set_cons_zero, List.set_cons_succ]
      refine wpAnyH_ready (rs := [4, 9]) (by kernel_rfl) (by simp) ?_
      refine AllReadyH.cons rfl (fun K hK => ?_) (AllReadyH.cons rfl (fun K hK => ?_) AllReadyH.nil)
      · go_simp
        refine hK.out _ _ a0 (fun hHeld => ?_)
        clear hK K
        try simp only [Act.put, List.setIfInBounds_toArray, List.set_cons_zero, List.set_cons_succ]
        refine wpAnyH_ready (rs := [9]) (by kernel_rfl) (by simp) ?_
        refine AllReadyH.cons rfl (fun K hK => ?_) AllReadyH.nil
        go_simp
        refine hK.out _ _ b0 (fun hHeld => ?_)
        clear hK K
        try simp only [Act.put, List.setIfInBounds_toArray, List.set_cons_zero, List.set_cons_succ]
        refine wpAnyH_ready (rs := [10]) (by kernel_rfl) (by simp) ?_
        refine AllReadyH.cons rfl (fun K hK => ?_) AllReadyH.nil
        go_simp
        refine hK.out _ _ d0 (fun hHeld => ?_)
        clear hK K
        try simp only [Act.put, List.setIfInBounds_toArray, List.set_cons_zero, List.set_cons_succ]
        refine wpAnyH_ready (rs := [11]) (by kernel_rfl) (by simp) ?_
        refine AllReadyH.cons rfl (fun K hK => ?_) AllReadyH.nil
        refine step_append_from _ rfl (.tmp 37) (.tmp 43) 62 rfl (mo + 1) 65 i0 (.slice none 0 0) 1 24 Try.underlying62 hi hz0 hz1 hz2 rfl (by decide) v xs.length (xs.map (rv P)) (by simp [Act.eval]) HOw.out (some ⟨X.heap.size + 1, 0, none⟩) 1 1 [rv P X.heap.size] (by simp [Act.eval]) rfl (fun q => by cases q) HLit.out HOne.out (by unfold maxLen; omega) (by omega) HSz.out ?_
        intro v1 w1 hown1 hg1
        obtain ⟨A5, c5, rfl⟩ := own_n hown1
        obtain ⟨k1, k2, k3, k4⟩ := HKp.out w1 (.slice A5 (xs.length + 1) c5) hg1
        refine hK.out _ _ k1 (fun hHeld => ?_)
        clear hK K
        try simp only [Act.put, List.setIfInBounds_toArray, List.set_cons_zero, List.set_cons_succ]
        refine wpAnyH_ready (rs := [12]) (by kernel_rfl) (by simp) ?_
        refine AllReadyH.cons rfl (fun K hK => ?_) AllReadyH.nil
        go_simp
        refine hK.out _ _ k1 (fun hHeld => ?_)
        clear hK K
        try simp only [Act.put, List.setIfInBounds_toArray, List.set_cons_zero, List.set_cons_succ]
        refine wpAnyH_ready (rs := [13]) (by kernel_rfl) (by simp) ?_
        refine AllReadyH.cons rfl (fun K hK => ?_) AllReadyH.nil
        go_simp
        refine hK.out _ _ k1 (fun hHeld => ?_)
        clear hK K
        try simp only [Act.put, List.setIfInBounds_toArray, List.set_cons_zero, List.set_cons_succ]
        refine wpAnyH_ready (rs := [14]) (by kernel_rfl) (by simp) ?_
        refine AllReadyH.cons rfl (fun K hK => ?_) AllReadyH.nil
        go_simp
        refine hK.out _ _ k3 (fun hHeld => ?_)
        clear hK K
        try simp only [Act.put, List.setIfInBounds_toArray, List.set_cons_zero, List.set_cons_succ]
        refine wpAnyH_done (by kernel_rfl) ?_ _
        have HR2 := Lib.hid (HPu.out w1 _ hown1 hg1)
        have HB2 := Lib.hid (HPb.out w1 (.slice A5 (xs.length + 1) c5) hg1)
        clear hown1 hg1 k1 k2 k3 k4 hHeld HOw HLit HKp HPu HPb HR1 HB1 a0 a2 b0 b2 d0 d2
        go_wp2_with fail
        go_roundw
        · exact ⟨xs ++ [X.heap.size], _, by simp; omega, by simp, HR2, HB2⟩
        · simp [intOf]; omega
      · go_simp
        refine hK.out _ _ b0 (fun hHeld => ?_)
        clear hK K
        try simp only [Act.put, List.setIfInBounds_toArray, List.set_cons_zero, List.set_cons_succ]
        refine wpAnyH_ready (rs := [4, 10]) (by kernel_rfl) (by simp) ?_
        refine AllReadyH.cons rfl (fun K hK => ?_) (AllReadyH.cons rfl (fun K hK => ?_) AllReadyH.nil)
        · go_simp
          refine hK.out _ _ b0 (fun hHeld => ?_)
          clear hK K
          try simp only [Act.put, List.setIfInBounds_toArray, List.set_cons_zero, List.set_cons_succ]
          refine wpAnyH_ready (rs := [10]) (by kernel_rfl) (by simp) ?_
          refine AllReadyH.cons rfl (fun K hK => ?_) AllReadyH.nil
          go_simp
          refine hK.out _ _ d0 (fun hHeld => ?_)
          clear hK K
          try simp only [Act.put, List.setIfInBounds_toArray, List.set_cons_zero, List.set_cons_succ]
          refine wpAnyH_ready (rs := [11]) (by kernel_rfl) (by simp) ?_
          refine AllReadyH.cons rfl (fun K hK => ?_) AllReadyH.nil
          refine step_append_from _ rfl (.tmp 37) (.tmp 43) 62 rfl (mo + 1) 65 i0 (.slice none 0 0) 1 24 Try.underlying62 hi hz0 hz1 hz2 rfl (by decide) v xs.length (xs.map (rv P)) (by simp [Act.eval]) HOw.out (some ⟨X.heap.size + 1, 0, none⟩) 1 1 [rv P X.heap.size] (by simp [Act.eval]) rfl (fun q => by cases q) HLit.out HOne.out (by unfold maxLen; omega) (by omega) HSz.out ?_
          intro v1 w1 hown1 hg1
          obtain ⟨A5, c5, rfl⟩ := own_n hown1
          obtain ⟨k1, k2, k3, k4⟩ := HKp.out w1 (.slice A5 (xs.length + 1) c5) hg1
          refine hK.out _ _ k1 (fun hHeld => ?_)
          clear hK K
          try simp only [Act.put, List.setIfInBounds_toArray, List.set_cons_zero, List.set_cons_succ]
          refine wpAnyH_ready (rs := [12]) (by kernel_rfl) (by simp) ?_
          refine AllReadyH.cons rfl (fun K hK => ?_) AllReadyH.nil
          go_simp
          refine hK.out _ _ k1 (fun hHeld => ?_)
          clear hK K
          try simp only [Act.put, List.setIfInBounds_toArray, List.set_cons_zero, List.set_cons_succ]
          refine wpAnyH_ready (rs := [13]) (by kernel_rfl) (by simp) ?_
          refine AllReadyH.cons rfl (fun K hK => ?_) AllReadyH.nil
          go_simp
          refine hK.out _ _ k1 (fun hHeld => ?_)
          clear hK K
          try simp only [Act.put, List.setIfInBounds_toArray, List.set_cons_zero, List.set_cons_succ]
          refine wpAnyH_ready (rs := [14]) (by kernel_rfl) (by simp) ?_
          refine AllReadyH.cons rfl (fun K hK => ?_) AllReadyH.nil
          go_simp
          refine hK.out _ _ k3 (fun hHeld => ?_)
          clear hK K
          try simp only [Act.put, List.setIfInBounds_toArray, List.set_cons_zero, List.set_cons_succ]
          refine wpAnyH_done (by kernel_rfl) ?_ _
          have HR2 := Lib.hid (HPu.out w1 _ hown1 hg1)
          have HB2 := Lib.hid (HPb.out w1 (.slice A5 (xs.length + 1) c5) hg1)
          clear hown1 hg1 k1 k2 k3 k4 hHeld HOw HLit HKp HPu HPb HR1 HB1 a0 a2 b0 b2 d0 d2
          go_wp2_with fail
          go_roundw
          · exact ⟨xs ++ [X.heap.size], _, by simp; omega, by simp, HR2, HB2⟩
          · simp [intOf]; omega
        · go_simp
          refine hK.out _ _ d0 (fun hHeld => ?_)
          clear hK K
          try simp only [Act.put, List.setIfInBounds_toArray, List.set_cons_zero, List.set_cons_succ]
          refine wpAnyH_ready (rs := [4]) (by kernel_rfl) (by simp) ?_
          refine AllReadyH.cons rfl (fun K hK => ?_) AllReadyH.nil
          go_simp
          refine hK.out _ _ d0 (fun hHeld => ?_)
          clear hK K
          try simp only [Act.put, List.setIfInBounds_toArray, List.set_cons_zero, List.set_cons_succ]
          refine wpAnyH_ready (rs := [11]) (by kernel_rfl) (by simp) ?_
          refine AllReadyH.cons rfl (fun K hK => ?_) AllReadyH.nil
          refine step_append_from _ rfl (.tmp 37) (.tmp 43) 62 rfl (mo + 1) 65 i0 (.slice none 0 0) 1 24 Try.underlying62 hi hz0 hz1 hz2 rfl (by decide) v xs.length (xs.map (rv P)) (by simp [Act.eval]) HOw.out (some ⟨X.heap.size + 1, 0, none⟩) 1 1 [rv P X.heap.size] (by simp [Act.eval]) rfl (fun q => by cases q) HLit.out HOne.out (by unfold maxLen; omega) (by omega) HSz.out ?_
          intro v1 w1 hown1 hg1
          obtain ⟨A5, c5, rfl⟩ := own_n hown1
          obtain ⟨k1, k2, k3, k4⟩ := HKp.out w1 (.slice A5 (xs.length + 1) c5) hg1
          refine hK.out _ _ k1 (fun hHeld => ?_)
          clear hK K
          try simp only [Act.put, List.setIfInBounds_toArray, List.set_cons_zero, List.set_cons_succ]
          refine wpAnyH_ready (rs := [12]) (by kernel_rfl) (by simp) ?_
          refine AllReadyH.cons rfl (fun K hK => ?_) AllReadyH.nil
          go_simp
          refine hK.out _ _ k1 (fun hHeld => ?_)
          clear hK K
          try simp only [Act.put, List.setIfInBounds_toArray, List.set_cons_zero, List.set_cons_succ]
          refine wpAnyH_ready (rs := [13]) (by kernel_rfl) (by simp) ?_
          refine AllReadyH.cons rfl (fun K hK => ?_) AllReadyH.nil
          go_simp
          refine hK.out _ _ k1 (fun hHeld => ?_)
          clear hK K
          try simp only [Act.put, List.setIfInBounds_toArray, List.set_cons_zero, List.set_cons_succ]
          refine wpAnyH_ready (rs := [14]) (by kernel_rfl) (by simp) ?_
          refine AllReadyH.cons rfl (fun K hK => ?_) AllReadyH.nil
          go_simp
          refine hK.out _ _ k3 (fun hHeld => ?_)
          clear hK K
          try simp only [Act.put, List.setIfInBounds_toArray, List.set_cons_zero, List.set_cons_succ]
          refine wpAnyH_done (by kernel_rfl) ?_ _
          have HR2 := Lib.hid (HPu.out w1 _ hown1 hg1)
          have HB2 := Lib.hid (HPb.out w1 (.slice A5 (xs.length + 1) c5) hg1)
          clear hown1 hg1 k1 k2 k3 k4 hHeld HOw HLit HKp HPu HPb HR1 HB1 a0 a2 b0 b2 d0 d2
          go_wp2_with fail
          go_roundw
          · exact ⟨xs ++ [X.heap.size], _, by simp; omega, by simp, HR2, HB2⟩
          · simp [intOf]; omega
    · have e1 : decide ((xs.length : Int) < n) = false := by simp; omega
      have hxn : xs.length = n := by omega
      go_upto_region 3 with fail
      go_quiet (fail)
      obtain ⟨gi, cg, rfl, hm, hgB, hRB⟩ := (HR.out.below (bwr wr nq)).model hxn
      have HB1 := Lib.hid (below_drewN HB.out nq)
      have HM := Lib.hid hm
      have HRB : Hid (∀ r, r < n → mo + 1 ≤ xs.getD r 0) := Lib.hid hRB
      clear c0 c1 HR HB hm hgB hRB hxn hlt e1
      generalize wr.drewN nq = X at *
      obtain ⟨R, HM, HRB⟩ : ∃ R : Nat → Nat, Hid (MR X mo gi cg P K n R fun _ _ => false) ∧ Hid (∀ r, r < n → mo + 1 ≤ R r) := ⟨_, HM, HRB⟩
      have HLo : Hid (w.heap.size ≤ mo) := Lib.hid (by omega)
      go_wp2_with fail
      go_loopw [9] (fun m wr => ∃ (b : Bool) (f : Rel), m = .bool b ∧ Hid (MR wr mo gi cg P K n R f) ∧ Hid (Below w.heap.size w wr) ∧ Hid (Snd K (L.filter (rightU P K)) f) ∧ Hid (b = false → Clo P K (L.filter (rightU P K)) f)) (fun m wr => 2 * outW n P R wr + (match m with | .bool true => 1 | _ => 0))
      case atStart => exact ⟨true, _, rfl, HM, HB1, Lib.hid (Snd.start _ _), Lib.hid (fun h => by cases h)⟩
      case round =>
        clear HM HB1
        obtain ⟨b, f, rfl, HM, HB, HS, HC⟩ := hrel
        cases b with
        | false =>
          go_wp2_with fail
          go_ret
          have hn := HN.out
          subst hn
          exact ⟨mo, rfl, ⟨gi, cg, R, f, HM.out, is_der (fun u hu => (List.mem_filter.1 hu).2) HS.out (HC.out (by first | rfl | trivial))⟩, by first | exact HB.out | (rw [← hmo]; exact HB.out)⟩
        | true =>
          have HO : Hid (outW n P R wr = outF n P f) := Lib.hid (outW_eq HM.out)
          generalize hmw : outW n P R wr = ow at *
          clear hmw HC
          go_wp2_with fail
          go_loopw [9, 50] (fun m i wy => ∃ (j : Nat) (c : Bool) (g : Rel), j ≤ L.length ∧ m = .bool c ∧ i = .int .i64 j ∧ Hid (MR wy mo gi cg P K n R g) ∧ Hid (Below w.heap.size w wy) ∧ Hid (Rd P K n L f j g c)) (fun _ i _ => L.length - (intOf i).toNat)
          case atStart => exact ⟨0, false, f, by omega, rfl, rfl, HM, HB, Lib.hid (Rd.start HS.out)⟩
          case round =>
            clear HM HB HS
            obtain ⟨j, c, g, hj, rfl, rfl, HM, HB, HR⟩ := hrel
            by_cases hlt : j < L.length
            · have e1 : decide ((j : Int) < L.length) = true := by simp; omega
              have p0 : (0 : Int) ≤ j := by omega
              have p1 : (j : Int) < L.length := by omega
              obtain ⟨ga, oa, hAe, hg, hcell⟩ := (HUA.out _ HB.out) (by omega)
              subst hAe
              have q1 := hcell j hlt
              have HNo : Hid (rightU P K L[j] = false → Rd P K n L f (j + 1) g c) := Lib.hid (fun h => HR.out.skip hlt h)
              have HYe : Hid (rightU P K L[j] = true → ∀ g' c', Mid P K g L[j] P g' c' → Rd P K n L f (j + 1) g' (c' || c)) := Lib.hid (fun h g' c' hm => HR.out.next HN.out.symm hlt h hm)
              clear hcell hg HR
              generalize L[j] = u at *
              have HRi := Lib.hid (fun w' => SemR.rightR P K u w' (by omega) (by omega))
              have HOn := Lib.hid (fun w' (hm : MR w' mo gi cg P K n R g) hr => once u w' hm (by omega) (by omega) HN.out.symm hr)
              generalize rightU P K u = rr at *
              obtain ⟨u0, u1, u2, u3, u4, u5⟩ := u
              unfold Ru.val at HRi HOn
              dsimp only [Ru.cells] at HRi HOn
              have a0 : wr.cell? ⟨ga, oa + j * 6, none⟩ = some (.int .i64 u0) := q1 0 (by omega)
              have a1 : wr.cell? ⟨ga, oa + j * 6 + 1, none⟩ = some (.int .i64 u1) := q1 1 (by omega)
              have a2 : wr.cell? ⟨ga, oa + j * 6 + 2, none⟩ = some (.int .i64 u2) := q1 2 (by omega)
              have a3 : wr.cell? ⟨ga, oa + j * 6 + 3, none⟩ = some (.int .i64 u3) := q1 3 (by omega)
              have a4 : wr.cell? ⟨ga, oa + j * 6 + 4, none⟩ = some (.int .i64 u4) := q1 4 (by omega)
              have a5 : wr.cell? ⟨ga, oa + j * 6 + 5, none⟩ = some (.int .i64 u5) := q1 5 (by omega)
              have hbX : Below wr.heap.size wr (wr.alloc (.cells #[.int .i64 u0, .int .i64 u1, .int .i64 u2, .int .i64 u3, .int .i64 u4, .int .i64 u5] 44)) := (Below.refl _ _).alloc (Nat.le_refl _) _
              have HX := Lib.hid (heap_alloc_new wr (.cells #[.int .i64 u0, .int .i64 u1, .int .i64 u2, .int .i64 u3, .int .i64 u4, .int .i64 u5] 44))
              have HM3 := Lib.hid (HM.out.below hbX)
              have HB3 := Lib.hid (SemI.nx HB.out hbX)
              have HRl : Hid (∀ r, r < n → wr.heap.size ≠ R r) := Lib.hid (fun r hr q => by have := HM.out.lt hr; omega)
              clear q1 hbX HM HB
              go_upto_region 12 with fail
              clear a0 a1 a2 a3 a4 a5
              obtain ⟨bx, hbx⟩ : ∃ bx, wr.heap.size = bx := ⟨_, rfl⟩
              rw [hbx] at HX HRl
              simp only [hbx] at ⊢
              generalize wr.alloc (.cells #[.int .i64 u0, .int .i64 u1, .int .i64 u2, .int .i64 u3, .int .i64 u4, .int .i64 u5] 44) = w3 at *
              have HCx := Lib.hid (fun w' (hb : Fr n R w3 w') (o : Nat) => Lib.cell_of_heap ((hb.block bx (lt_of HX.out) HRl.out).trans HX.out) o)
              clear HX HRl hbx
              have hS0 := (⟨fun o => Lib.cell_of_heap HM3.out.h0 o, HCx.out w3 (Fr.refl _ _ _)⟩ : (fun w' => (∀ o, w'.cell? ⟨mo, o, none⟩ = (#[.int .i64 P, .int .i64 K, .slice (if n = 0 then none else some ⟨gi, 0, none⟩) n cg] : Array Value)[o]?) ∧ ∀ o, w'.cell? ⟨bx, o, none⟩ = (#[.int .i64 u0, .int .i64 u1, .int .i64 u2, .int .i64 u3, .int .i64 u4, .int .i64 u5] : Array Value)[o]?) w3)
              refine wp_region_held_drew (S := fun w' => (∀ o, w'.cell? ⟨mo, o, none⟩ = (#[.int .i64 P, .int .i64 K, .slice (if n = 0 then none else some ⟨gi, 0, none⟩) n cg] : Array Value)[o]?) ∧ ∀ o, w'.cell? ⟨bx, o, none⟩ = (#[.int .i64 u0, .int .i64 u1, .int .i64 u2, .int .i64 u3, .int .i64 u4, .int .i64 u5] : Array Value)[o]?) (by kernel_rfl) hS0 (fun hHeld => ?_)
              refine wpAnyH_take (i := 0) (v := ?_) rfl (by kernel_rfl) (by kernel_rfl) (by kernel_rfl) (fun _ _ _ h => h) (Or.inl ⟨by kernel_rfl, ?_⟩) (by assumption) ?_
              rotate_left
              · intro w hSw; (try dsimp only at hSw); go_simp; try with_reducible rfl
              try simp only [Act.put, List.setIfInBounds_toArray, List.set_cons_zero, List.set_cons_succ]
              refine wpAnyH_take (i := 1) (v := ?_) rfl (by kernel_rfl) (by kernel_rfl) (by kernel_rfl) (fun _ _ _ h => h) (Or.inl ⟨by kernel_rfl, ?_⟩) (by assumption) ?_
              rotate_left
              · intro w hSw; (try dsimp only at hSw); go_simp; try with_reducible rfl
              try simp only [Act.put, List.setIfInBounds_toArray, List.set_cons_zero, List.set_cons_succ]
              refine wpAnyH_take (i := 4) (v := ?_) rfl (by kernel_rfl) (by kernel_rfl) (by kernel_rfl) (fun _ _ _ h => h) (Or.inl ⟨by kernel_rfl, ?_⟩) (by assumption) ?_
              rotate_left
              · intro w hSw; (try dsimp only at hSw); go_simp; try with_reducible rfl
              try simp only [Act.put, List.setIfInBounds_toArray, List.set_cons_zero, List.set_cons_succ]
              refine wpAnyH_take (i := 5) (v := ?_) rfl (by kernel_rfl) (by kernel_rfl) (by kernel_rfl) (fun _ _ _ h => h) (Or.inl ⟨by kernel_rfl, ?_⟩) (by assumption) ?_
              rotate_left
              · intro w hSw; (try dsimp only at hSw); go_simp; try with_reducible rfl
              try simp only [Act.put, List.setIfInBounds_toArray, List.set_cons_zero, List.set_cons_succ]
              refine wpAnyH_take (i := 2) (v := ?_) rfl (by kernel_rfl) (by kernel_rfl) (by kernel_rfl) (fun _ _ _ h => h) (Or.inl ⟨by kernel_rfl, ?_⟩) (by assumption) ?_
              rotate_left
              · intro w hSw; (try dsimp only at hSw); go_simp; try with_reducible rfl
              try simp only [Act.put, List.setIfInBounds_toArray, List.set_cons_zero, List.set_cons_succ]
              refine wpAnyH_take (i := 6) (v := ?_) rfl (by kernel_rfl) (by kernel_rfl) (by kernel_rfl) (fun _ _ _ h => h) (Or.inl ⟨by kernel_rfl, ?_⟩) (by assumption) ?_
              rotate_left
              · intro w hSw; (try dsimp only at hSw); go_simp; try with_reducible rfl
              try simp only [Act.put, List.setIfInBounds_toArray, List.set_cons_zero, List.set_cons_succ]
              refine wpAnyH_take (i := 3) (v := ?_) rfl (by kernel_rfl) (by kernel_rfl) (by kernel_rfl) (fun _ _ _ h => h) (Or.inl ⟨by kernel_rfl, ?_⟩) (by assumption) ?_
              rotate_left
              · intro w hSw; (try dsimp only at hSw); go_simp; try with_reducible rfl
              try simp only [Act.put, List.setIfInBounds_toArray, List.set_cons_zero, List.set_cons_succ]
              refine wpAnyH_take (i := 7) (v := ?_) rfl (by kernel_rfl) (by kernel_rfl) (by kernel_rfl) (fun _ _ _ h => h) (Or.inl ⟨by kernel_rfl, ?_⟩) (by assumption) ?_
              rotate_left
              · intro w hSw; (try dsimp only at hSw); go_simp; try with_reducible rfl
              try simp only [Act.put, List.setIfInBounds_toArray, List.set_cons_zero, List.set_cons_succ]
              refine wpAnyH_take (i := 8) (v := ?_) rfl (by kernel_rfl) (by kernel_rfl) (by kernel_rfl) (fun _ _ _ h => h) (Or.inl ⟨by kernel_rfl, ?_⟩) (by assumption) ?_
              rotate_left
              · intro w hSw; (try dsimp only at hSw); go_simp; try with_reducible rfl
              try simp only [Act.put, List.setIfInBounds_toArray, List.set_cons_zero, List.set_cons_succ]
              cases rr with
              | false =>
                refine wpAnyH_ready (rs := [9]) (by kernel_rfl) (by simp) ?_
                refine AllReadyH.cons rfl (fun K hK => ?_) AllReadyH.nil
                go_simp
                go_wp2_with (((with_reducible refine (HRi.out _).mono ?_); rintro e w4 ⟨rfl, hb4⟩; have HM4 := Lib.hid ((HM3.out.below (bwd w3)).below hb4); have HF4 := Lib.hid ((Fr.refl n R w3).below (bwd w3) |>.below hb4); have HB4 := Lib.hid (SemI.nx (SemI.nx HB3.out (bwd w3)) hb4)))
                refine hK.out _ _ ⟨fun o => Lib.cell_of_heap HM4.out.h0 o, HCx.out _ HF4.out⟩ (fun hHeld => ?_)
                clear hK K
                try simp only [Act.put, List.setIfInBounds_toArray, List.set_cons_zero, List.set_cons_succ]
                refine wpAnyH_take (i := 10) (v := ?_) rfl (by kernel_rfl) (by kernel_rfl) (by kernel_rfl) (fun _ _ _ h => h) (Or.inl ⟨by kernel_rfl, ?_⟩) (by assumption) ?_
                rotate_left
                · intro w hSw; (try dsimp only at hSw); go_simp; try with_reducible rfl
                try simp only [Act.put, List.setIfInBounds_toArray, List.set_cons_zero, List.set_cons_succ]
                refine wpAnyH_take (i := 11) (v := undef) rfl (by kernel_rfl) (by kernel_rfl) (by kernel_rfl) (fun _ _ _ h => h) (Or.inr ⟨by kernel_rfl, rfl⟩) (by assumption) ?_
                try simp only [Act.put, List.setIfInBounds_toArray, List.set_cons_zero, List.set_cons_succ]
                refine wpAnyH_take (i := 12) (v := undef) rfl (by kernel_rfl) (by kernel_rfl) (by kernel_rfl) (fun _ _ _ h => h) (Or.inr ⟨by kernel_rfl, rfl⟩) (by assumption) ?_
                try simp only [Act.put, List.setIfInBounds_toArray, List.set_cons_zero, List.set_cons_succ]
                refine wpAnyH_take (i := 13) (v := undef) rfl (by kernel_rfl) (by kernel_rfl) (by kernel_rfl) (fun _ _ _ h => h) (Or.inr ⟨by kernel_rfl, rfl⟩) (by assumption) ?_
                try simp only [Act.put, List.setIfInBounds_toArray, List.set_cons_zero, List.set_cons_succ]
                refine wpAnyH_take (i := 14) (v := ?_) rfl (by kernel_rfl) (by kernel_rfl) (by kernel_rfl) (fun _ _ _ h => h) (Or.inl ⟨by kernel_rfl, ?_⟩) (by assumption) ?_
                rotate_left
                · intro w hSw; (try dsimp only at hSw); go_simp; try with_reducible rfl
                try simp only [Act.put, List.setIfInBounds_toArray, List.set_cons_zero, List.set_cons_succ]
                refine wpAnyH_done (by kernel_rfl) ?_ _
                have HR2 := Lib.hid (HNo.out (by first | rfl | trivial))
                clear HNo HYe HRi HOn HCx hS0 hHeld HM3 HB3
                go_wp2_with fail
                go_roundw
                · exact ⟨j + 1, c, g, by omega, rfl, by simp, HM4, HB4, HR2⟩
                · simp [intOf]; omega
              | true =>
                refine wpAnyH_ready (rs := [9]) (by kernel_rfl) (by simp) ?_
                refine AllReadyH.cons rfl (fun K hK => ?_) AllReadyH.nil
                go_simp
                go_wp2_with (((with_reducible refine (HRi.out _).mono ?_); rintro e w4 ⟨rfl, hb4⟩; have HM4 := Lib.hid ((HM3.out.below (bwd w3)).below hb4); have HF4 := Lib.hid ((Fr.refl n R w3).below (bwd w3) |>.below hb4); have HB4 := Lib.hid (SemI.nx (SemI.nx HB3.out (bwd w3)) hb4)))
                refine hK.out _ _ ⟨fun o => Lib.cell_of_heap HM4.out.h0 o, HCx.out _ HF4.out⟩ (fun hHeld => ?_)
                clear hK K
                try simp only [Act.put, List.setIfInBounds_toArray, List.set_cons_zero, List.set_cons_succ]
                refine wpAnyH_take (i := 10) (v := ?_) rfl (by kernel_rfl) (by kernel_rfl) (by kernel_rfl) (fun _ _ _ h => h) (Or.inl ⟨by kernel_rfl, ?_⟩) (by assumption) ?_
                rotate_left
                · intro w hSw; (try dsimp only at hSw); go_simp; try with_reducible rfl
                try simp only [Act.put, List.setIfInBounds_toArray, List.set_cons_zero, List.set_cons_succ]
                refine wpAnyH_take (i := 11) (v := ?_) rfl (by kernel_rfl) (by kernel_rfl) (by kernel_rfl) (fun _ _ _ h => h) (Or.inl ⟨by kernel_rfl, ?_⟩) (by assumption) ?_
                rotate_left
                · intro w hSw; (try dsimp only at hSw); go_simp; try with_reducible rfl
                try simp only [Act.put, List.setIfInBounds_toArray, List.set_cons_zero, List.set_cons_succ]
                refine wpAnyH_take (i := 12) (v := ?_) rfl (by kernel_rfl) (by kernel_rfl) (by kernel_rfl) (fun _ _ _ h => h) (Or.inl ⟨by kernel_rfl, ?_⟩) (by assumption) ?_
                rotate_left
                · intro w hSw; (try dsimp only at hSw); go_simp; try with_reducible rfl
                try simp only [Act.put, List.setIfInBounds_toArray, List.set_cons_zero, List.set_cons_succ]
                refine wpAnyH_ready (rs := [13]) (by kernel_rfl) (by simp) ?_
                refine AllReadyH.cons rfl (fun K hK => ?_) AllReadyH.nil
                go_simp
                go_wp2_with (((with_reducible refine (HOn.out _ HM4.out (by first | rfl | trivial)).mono ?_); rintro e w5 ⟨g5, c5, rfl, hm5, hf5, hd5⟩; have HM5 := Lib.hid hm5; have HF5 := Lib.hid (HF4.out.trans hf5); have HB5 := Lib.hid (below_fr HB4.out hf5 HRB.out HLo.out); have HR5 := Lib.hid (HYe.out (by first | rfl | trivial) _ _ hd5)))
                refine hK.out _ _ ⟨fun o => Lib.cell_of_heap HM5.out.h0 o, HCx.out _ HF5.out⟩ (fun hHeld => ?_)
                clear hK K
                try simp only [Act.put, List.setIfInBounds_toArray, List.set_cons_zero, List.set_cons_succ]
                refine wpAnyH_take (i := 14) (v := ?_) rfl (by kernel_rfl) (by kernel_rfl) (by kernel_rfl) (fun _ _ _ h => h) (Or.inl ⟨by kernel_rfl, ?_⟩) (by assumption) ?_
                rotate_left
                · intro w hSw; (try dsimp only at hSw); go_simp; try with_reducible rfl
                try simp only [Act.put, List.setIfInBounds_toArray, List.set_cons_zero, List.set_cons_succ]
                refine wpAnyH_done (by kernel_rfl) ?_ _
                clear HNo HYe HRi HOn HCx hS0 hHeld HM3 HB3 HM4 HB4 HF4 hm5 hf5 hd5 HF5
                cases c5 with
                | false =>
                  go_wp2_with fail
                  go_roundw
                  · exact ⟨j + 1, c, g5, by omega, rfl, by simp, HM5, HB5, HR5⟩
                  · simp [intOf]; omega
                | true =>
                  go_wp2_with fail
                  go_roundw
                  · exact ⟨j + 1, true, g5, by omega, rfl, by simp, HM5, HB5, HR5⟩
                  · simp [intOf]; omega
            · have e1 : decide ((j : Int) < L.length) = false := by simp; omega
              obtain rfl : j = L.length := by omega
              have HO2 : Hid (outW n P R wr = outF n P g) := Lib.hid (outW_eq HM.out)
              go_wp2_with fail
              go_roundw
              · exact ⟨c, g, rfl, HM, HB, Lib.hid HR.out.snd, Lib.hid (fun q => by subst q; exact HR.out.close)⟩
              · exact meas HO.out HO2.out HR.out
end Go.Proofs.Ytddjbchlpfaggaa.SemRf
