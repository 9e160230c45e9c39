/- The closures of Holds, by contract: is who looks at one in a link, in a both. -/
import Derived.Test.YtccmlmahjgndbaaDoorM10
namespace Go.Proofs.YtccmlmahjgndbaaDoor.SemHo
set_option linter.unusedVariables false
set_option linter.unusedSimpArgs false
open Go.RowKit Go.Lib Go.Proofs Go.Proofs.YtccmlmahjgndbaaDoor.SetA Go.Proofs.YtccmlmahjgndbaaDoor.SetB Go.Proofs.YtccmlmahjgndbaaDoor.SetC Go.Proofs.YtccmlmahjgndbaaDoor.SetD Go.Proofs.YtccmlmahjgndbaaDoor.SetJ Go.Proofs.YtccmlmahjgndbaaDoor.SetN Go.Proofs.YtccmlmahjgndbaaDoor.SetQ Go.Proofs.YtccmlmahjgndbaaDoor.SetR Go.Proofs.YtccmlmahjgndbaaDoor.TblB Go.Proofs.YtccmlmahjgndbaaDoor.TblC Go.Proofs.YtccmlmahjgndbaaDoor.TblV Go.Proofs.YtccmlmahjgndbaaDoor.TblP Go.Proofs.YtccmlmahjgndbaaDoor.SemA Go.Proofs.YtccmlmahjgndbaaDoor.SemB Go.Proofs.YtccmlmahjgndbaaDoor.SemH Go.Proofs.YtccmlmahjgndbaaDoor.SemI Go.Proofs.YtccmlmahjgndbaaDoor.SemJ Go.Proofs.YtccmlmahjgndbaaDoor.SemK Go.Proofs.YtccmlmahjgndbaaDoor.SemGa
set_option linter.unusedVariables false
set_option linter.unusedSimpArgs false
theorem insideM {w : World} {mo B R n P K st : Nat} {M : List Nat} {all : List Pr} (h : MoAt w mo B R n P K M all st) (r q : Int) : Calls Tryd.prog 30 #[.pointer (some ⟨B, 0, none⟩), .int .i64 r, .int .i64 q] w fun e w' => e = .returned (.bool (insideL all r q)) ∧ Below w.heap.size w w' := by
  have h2 := inside_ B R n P M r q w h.fam
  rw [h.inv.inside (rowI_small h.fam)] at h2
  exact h2
/-- What the closures see: a box with the model's pointer, a box with the rule. -/
structure Env (w : World) (b1 b2 mo B R n P K st : Nat) (M : List Nat) (all : List Pr) (u : Ru) : Prop where
  m : MoAt w mo B R n P K M all st
  h1 : ∃ t, w.heap[b1]? = some (.cells #[.pointer (some ⟨mo, 0, none⟩)] t (0, 0))
  h2 : RuAt w b2 u
theorem Env.below {w w' : World} {b1 b2 mo B R n P K st : Nat} {M : List Nat} {all : List Pr} {u : Ru} (h : Env w b1 b2 mo B R n P K st M all u) (hb : Below w.heap.size w w') : Env w' b1 b2 mo B R n P K st M all u := by
  obtain ⟨t, h1⟩ := h.h1
  exact ⟨h.m.below hb, ⟨t, (hb.block _ (lt_of h1)).trans h1⟩, h.h2.below hb⟩
theorem Env.cells {w : World} {b1 b2 mo B R n P K st : Nat} {M : List Nat} {all : List Pr} {u : Ru} (h : Env w b1 b2 mo B R n P K st M all u) : w.cell? ⟨b1, 0, none⟩ = some (.pointer (some ⟨mo, 0, none⟩)) ∧ (∀ o, w.cell? ⟨b2, o, none⟩ = (#[.int .i64 u.kind, .int .i64 u.head, .int .i64 u.who, .int .i64 u.a, .int .i64 u.b, .int .i64 u.via] : Array Value)[o]?) ∧ (∀ o, w.cell? ⟨mo, o, none⟩ = (#[.pointer (some ⟨B, 0, none⟩), .int .i64 K, .int .i64 st] : Array Value)[o]?) := by
  obtain ⟨t, h1⟩ := h.h1
  exact ⟨Lib.cell_of_heap h1 0, fun o => h.h2.cell o, MoAt.cells h.m⟩
set_option maxHeartbeats 1000000 in
set_option maxRecDepth 100000 in
theorem fn1 {w : World} {b1 b2 mo B R n P K st : Nat} {M : List Nat} {all : List Pr} {u : Ru} (h : Env w b1 b2 mo B R n P K st M all u) (x v : Nat) (hx : x ≤ 1000) (hv : v ≤ 1000) (hK : K ≤ 1000) (hu : u.via = v) :
    Calls Tryd.prog 32 #[.int .i64 x, .pointer (some ⟨b1, 0, none⟩), .pointer (some ⟨b2, 0, none⟩)] w fun e w' => e = .returned (.bool (insideL all ((x * K + v : Nat) : Int) u.head)) ∧ Below w.heap.size w w' := by
  have HOf := Lib.hid (fun (w' : World) (hm : ∀ o, w'.cell? ⟨mo, o, none⟩ = (#[.pointer (some ⟨B, 0, none⟩), .int .i64 K, .int .i64 st] : Array Value)[o]?) => SemE.of hm x v hx hv hK)
  have HIn := Lib.hid (fun w' (hb : Below w.heap.size w w') => insideM (h.below hb).m ((x * K + v : Nat) : Int) u.head)
  have HK := Lib.hid (fun w' (hb : Below w.heap.size w w') => And.intro hb (h.below hb).cells)
  have HS := Lib.hid (HK.out _ ((Below.refl w.heap.size w).drew))
  obtain ⟨c1, c2, c3⟩ := h.cells
  obtain ⟨k, hh, wh, a, b, v'⟩ := u
  simp only at hu c2 HK HIn HS ⊢
  subst hu
  clear h
  generalize insideL all ((x * K + v : Nat) : Int) hh = ans at *
  generalize x * K + v = z at *
  go_enter Tryd.func32, Tryd.ntmps32
  go_wp2_with fail
  go_region_held3 (fun w' => Below w.heap.size w w' ∧ w'.cell? ⟨b1, 0, none⟩ = some (.pointer (some ⟨mo, 0, none⟩)) ∧ (∀ o, w'.cell? ⟨b2, o, none⟩ = (#[.int .i64 k, .int .i64 hh, .int .i64 wh, .int .i64 a, .int .i64 b, .int .i64 (v : Int)] : Array Value)[o]?) ∧ (∀ o, w'.cell? ⟨mo, o, none⟩ = (#[.pointer (some ⟨B, 0, none⟩), .int .i64 K, .int .i64 st] : Array Value)[o]?))
    (first | with_reducible assumption | exact HS.out | exact HK.out _ (SemI.nx (by apply And.left; with_reducible assumption) (by with_reducible assumption)))
    (first | ((with_reducible refine (HOf.out _ (by apply And.right; apply And.right; apply And.right; with_reducible assumption)).mono ?_); rintro e w2 ⟨rfl, rfl⟩)
           | (go_at_call 33; refine (HOf.out _ (fun o => by first | with_reducible assumption | (apply And.right; with_reducible assumption))).mono ?_; rintro e w2 ⟨rfl, rfl⟩)
           | ((with_reducible refine (HIn.out _ (by apply And.left; with_reducible assumption)).mono ?_); rintro e w3 ⟨rfl, hb3⟩))
  rename_i hHeld
  have HF := Lib.hid hHeld.1
  clear hHeld
  go_wp2_with fail
  go_ret
  exact ⟨rfl, HF.out⟩
set_option maxHeartbeats 1000000 in
set_option maxRecDepth 100000 in
theorem fn2 {w : World} {b1 b2 mo B R n P K st : Nat} {M : List Nat} {all : List Pr} {u : Ru} (h : Env w b1 b2 mo B R n P K st M all u) (x : Nat) :
    Calls Tryd.prog 34 #[.int .i64 x, .pointer (some ⟨b1, 0, none⟩), .pointer (some ⟨b2, 0, none⟩)] w fun e w' => e = .returned (.bool (!hasL all u.b x || hasL all u.head x)) ∧ Below w.heap.size w w' := by
  have HH1 : Hid (∀ n, Calls Tryd.prog 26 #[.pointer (some ⟨B, 0, none⟩), .int .i64 u.b, .int .i64 x] (w.drewN n) fun e w' => e = .returned (.bool (hasL all u.b x)) ∧ ∃ m, w' = (w.drewN n).drewN m) := Lib.hid (fun n => has0 (h.m.below (below_drewN (Below.refl _ w) n)) u.b x)
  have HH2 : Hid (∀ n, Calls Tryd.prog 26 #[.pointer (some ⟨B, 0, none⟩), .int .i64 u.head, .int .i64 x] (w.drewN n) fun e w' => e = .returned (.bool (hasL all u.head x)) ∧ ∃ m, w' = (w.drewN n).drewN m) := Lib.hid (fun n => has0 (h.m.below (below_drewN (Below.refl _ w) n)) u.head x)
  obtain ⟨c1, c2, c3⟩ := h.cells
  obtain ⟨k, hh, wh, a, b, v'⟩ := u
  simp only at c2 HH1 HH2 ⊢
  clear h
  generalize hasL all b x = g1 at *
  generalize hasL all hh x = g2 at *
  have HB := Lib.hid (fun q => bw w q)
  cases g1
  · go_enter Tryd.func34, Tryd.ntmps34
    go_upto_region 1 with fail
    go_quiet ((go_at_call 26; with_reducible exact Calls.quiet_of (HH1.out _)))
    clear HH1 HH2
    go_wp2_with fail
    go_ret
    exact ⟨rfl, HB.out _⟩
  · cases g2
    · go_enter Tryd.func34, Tryd.ntmps34
      go_upto_region 1 with fail
      go_quiet ((go_at_call 26; first | with_reducible exact Calls.quiet_of (HH1.out _) | with_reducible exact Calls.quiet_of (HH2.out _)))
      clear HH1 HH2
      go_wp2_with fail
      go_ret
      exact ⟨rfl, HB.out _⟩
    · go_enter Tryd.func34, Tryd.ntmps34
      go_upto_region 1 with fail
      go_quiet ((go_at_call 26; first | with_reducible exact Calls.quiet_of (HH1.out _) | with_reducible exact Calls.quiet_of (HH2.out _)))
      clear HH1 HH2
      go_wp2_with fail
      go_ret
      exact ⟨rfl, HB.out _⟩
def Fn1 (w : World) (b1 b2 : Nat) (D : List Nat) (p : Nat → Bool) : Prop := ∀ w', Below w.heap.size w w' → ∀ x ∈ D, Calls Tryd.prog 32 #[.int .i64 ((x : Nat) : Int), .pointer (some ⟨b1, 0, none⟩), .pointer (some ⟨b2, 0, none⟩)] w' fun e wx => e = .returned (.bool (p x)) ∧ Below w'.heap.size w' wx
set_option maxRecDepth 100000 in
theorem notF1 {w : World} {b1 b2 b5 : Nat} {D : List Nat} {p : Nat → Bool} (h : Fn1 w b1 b2 D p) (hc : w.cell? ⟨b5, 0, none⟩ = some (.func (.func 32) #[] #[.pointer (some ⟨b1, 0, none⟩), .pointer (some ⟨b2, 0, none⟩)])) (x : Nat) (hx : x ∈ D) :
    Calls Tryd.prog 53 #[.int .i64 x, .pointer (some ⟨b5, 0, none⟩)] w fun e w' => e = .returned (.bool (!p x)) ∧ Below w.heap.size w w' := by
  have HF := Lib.hid (fun w' hb => h w' hb x hx)
  generalize p x = r at *
  clear h hx
  go_enter Tryd.func53, Tryd.ntmps53
  go_wp2_with fail
  refine (HF.out _ (Below.refl _ _)).mono ?_
  rintro e w1 ⟨rfl, hb1⟩
  have HB1 := Lib.hid hb1
  clear hb1 hc HF
  go_wp2_with fail
  go_ret
  exact ⟨rfl, HB1.out⟩
set_option maxHeartbeats 1000000 in
set_option maxRecDepth 100000 in
theorem idx1 {w : World} {b1 b2 b5 : Nat} {D : List Nat} {p : Nat → Bool} {A : Option Addr} {ca : Nat} (h : Fn1 w b1 b2 D p) (hc : w.cell? ⟨b5, 0, none⟩ = some (.func (.func 32) #[] #[.pointer (some ⟨b1, 0, none⟩), .pointer (some ⟨b2, 0, none⟩)])) (hD : D.length ≤ 10000) (hA : NG w A D) :
    Calls Tryd.prog 61 #[.slice A D.length ca, .func (.func 53) #[] #[.pointer (some ⟨b5, 0, none⟩)]] w fun e w' => (∃ i : Int, e = .returned (.int .i64 i) ∧ decide (0 ≤ i) = !(D.all p)) ∧ Below w.heap.size w w' := by
  have l5 := World.block_lt_of_cell? _ _ hc
  simp only at l5
  have HF := Lib.hid (fun w' (hb : Below w.heap.size w w') => notF1 (w := w') (D := D) (p := p) (b5 := b5) (fun wx hx => h wx (SemI.nx hb hx)) ((hb.cell (p := ⟨b5, 0, none⟩) l5).trans hc))
  have HN := Lib.hid (fun w' (hb : Below w.heap.size w w') => hA.below hb)
  clear h hc l5 hA
  go_enter Tryd.func61, Tryd.ntmps61
  go_wp2_with fail
  go_loopw [8] (fun i wr => ∃ k : Nat, k ≤ D.length ∧ i = .int .i64 k ∧ Below w.heap.size w wr ∧ Hid ((D.take k).all p = true)) (fun i _ => D.length - (intOf i).toNat)
  case atStart => exact ⟨0, by omega, rfl, Below.refl _ _, Lib.hid rfl⟩
  case round =>
    obtain ⟨k, hk, rfl, hb, hall⟩ := hrel
    have HB := Lib.hid hb
    by_cases hlt : k < D.length
    · have e1 : decide ((k : Int) < D.length) = true := by simp; omega
      obtain ⟨g, o, rfl, hg, hcell⟩ := (HN.out _ hb) (by omega)
      have a1 := hcell k hlt
      have HFk := Lib.hid (HF.out _ hb D[k] (List.getElem_mem hlt))
      have HNX : Hid (p D[k] = true → (D.take (k + 1)).all p = true) := Lib.hid (fun h => by rw [List.take_succ_eq_append_getElem hlt, List.all_append, hall.out]; simp [h])
      have HST : Hid (p D[k] = false → decide (0 ≤ (k : Int)) = !(D.all p)) := Lib.hid (fun h => by
        have e : D.all p = false := by
          rw [List.all_eq_false]
          exact ⟨D[k], List.getElem_mem hlt, by simp [h]⟩
        rw [e]; simp)
      have q0 : (0 : Int) ≤ k := by omega
      have q1 : (k : Int) < D.length := by omega
      clear hcell hb hall
      generalize D[k] = x at *
      cases hpx : p x
      · rw [hpx] at HFk
        have HE := Lib.hid (HST.out hpx)
        clear hpx HST HNX
        go_wp2_with fail
        refine HFk.out.mono ?_
        rintro e w1 ⟨rfl, hb1⟩
        have HB1 := Lib.hid (SemI.nx HB.out hb1)
        clear hb1 a1
        go_wp2_with fail
        go_ret
        exact ⟨⟨_, rfl, HE.out⟩, HB1.out⟩
      · rw [hpx] at HFk
        have HE := Lib.hid (HNX.out hpx)
        clear hpx HST HNX
        go_wp2_with fail
        refine HFk.out.mono ?_
        rintro e w1 ⟨rfl, hb1⟩
        have HB1 := Lib.hid (SemI.nx HB.out hb1)
        clear hb1 a1
        go_wp2_with fail
        go_roundw
        case rel => exact ⟨k + 1, by omega, by go_num, HB1.out, HE⟩
        case measure => simp [intOf]; omega
    · have e1 : decide ((k : Int) < D.length) = false := by simp; omega
      have HE : Hid (D.all p = true) := Lib.hid (by
        have := hall.out
        rw [List.take_of_length_le (by omega)] at this
        exact this)
      clear hall hb
      go_wp2_with fail
      go_ret
      exact ⟨⟨_, rfl, by rw [HE.out]; rfl⟩, HB.out⟩
set_option maxRecDepth 100000 in
theorem cont1 {w : World} {b1 b2 b5 : Nat} {D : List Nat} {p : Nat → Bool} {A : Option Addr} {ca : Nat} (h : Fn1 w b1 b2 D p) (hc : w.cell? ⟨b5, 0, none⟩ = some (.func (.func 32) #[] #[.pointer (some ⟨b1, 0, none⟩), .pointer (some ⟨b2, 0, none⟩)])) (hD : D.length ≤ 10000) (hA : NG w A D) :
    Calls Tryd.prog 52 #[.slice A D.length ca, .func (.func 53) #[] #[.pointer (some ⟨b5, 0, none⟩)]] w fun e w' => e = .returned (.bool (!(D.all p))) ∧ Below w.heap.size w w' := by
  have HI := Lib.hid (idx1 (ca := ca) h hc hD hA)
  clear h hc hA hD
  generalize D.all p = r at *
  go_enter Tryd.func52, Tryd.ntmps52
  go_wp2_with fail
  refine HI.out.mono ?_
  rintro e w1 ⟨⟨i, rfl, he⟩, hb1⟩
  have HB1 := Lib.hid hb1
  have HE := Lib.hid he
  clear hb1 HI he
  go_wp2_with fail
  go_ret
  exact ⟨SetB.ret_bool HE.out, HB1.out⟩
def Fn2 (w : World) (b1 b2 : Nat) (D : List Nat) (p : Nat → Bool) : Prop := ∀ w', Below w.heap.size w w' → ∀ x ∈ D, Calls Tryd.prog 34 #[.int .i64 ((x : Nat) : Int), .pointer (some ⟨b1, 0, none⟩), .pointer (some ⟨b2, 0, none⟩)] w' fun e wx => e = .returned (.bool (p x)) ∧ Below w'.heap.size w' wx
set_option maxRecDepth 100000 in
theorem notF2 {w : World} {b1 b2 b5 : Nat} {D : List Nat} {p : Nat → Bool} (h : Fn2 w b1 b2 D p) (hc : w.cell? ⟨b5, 0, none⟩ = some (.func (.func 34) #[] #[.pointer (some ⟨b1, 0, none⟩), .pointer (some ⟨b2, 0, none⟩)])) (x : Nat) (hx : x ∈ D) :
    Calls Tryd.prog 53 #[.int .i64 x, .pointer (some ⟨b5, 0, none⟩)] w fun e w' => e = .returned (.bool (!p x)) ∧ Below w.heap.size w w' := by
  have HF := Lib.hid (fun w' hb => h w' hb x hx)
  generalize p x = r at *
  clear h hx
  go_enter Tryd.func53, Tryd.ntmps53
  go_wp2_with fail
  refine (HF.out _ (Below.refl _ _)).mono ?_
  rintro e w1 ⟨rfl, hb1⟩
  have HB1 := Lib.hid hb1
  clear hb1 hc HF
  go_wp2_with fail
  go_ret
  exact ⟨rfl, HB1.out⟩
set_option maxHeartbeats 1000000 in
set_option maxRecDepth 100000 in
theorem idx2 {w : World} {b1 b2 b5 : Nat} {D : List Nat} {p : Nat → Bool} {A : Option Addr} {ca : Nat} (h : Fn2 w b1 b2 D p) (hc : w.cell? ⟨b5, 0, none⟩ = some (.func (.func 34) #[] #[.pointer (some ⟨b1, 0, none⟩), .pointer (some ⟨b2, 0, none⟩)])) (hD : D.length ≤ 10000) (hA : NG w A D) :
    Calls Tryd.prog 61 #[.slice A D.length ca, .func (.func 53) #[] #[.pointer (some ⟨b5, 0, none⟩)]] w fun e w' => (∃ i : Int, e = .returned (.int .i64 i) ∧ decide (0 ≤ i) = !(D.all p)) ∧ Below w.heap.size w w' := by
  have l5 := World.block_lt_of_cell? _ _ hc
  simp only at l5
  have HF := Lib.hid (fun w' (hb : Below w.heap.size w w') => notF2 (w := w') (D := D) (p := p) (b5 := b5) (fun wx hx => h wx (SemI.nx hb hx)) ((hb.cell (p := ⟨b5, 0, none⟩) l5).trans hc))
  have HN := Lib.hid (fun w' (hb : Below w.heap.size w w') => hA.below hb)
  clear h hc l5 hA
  go_enter Tryd.func61, Tryd.ntmps61
  go_wp2_with fail
  go_loopw [8] (fun i wr => ∃ k : Nat, k ≤ D.length ∧ i = .int .i64 k ∧ Below w.heap.size w wr ∧ Hid ((D.take k).all p = true)) (fun i _ => D.length - (intOf i).toNat)
  case atStart => exact ⟨0, by omega, rfl, Below.refl _ _, Lib.hid rfl⟩
  case round =>
    obtain ⟨k, hk, rfl, hb, hall⟩ := hrel
    have HB := Lib.hid hb
    by_cases hlt : k < D.length
    · have e1 : decide ((k : Int) < D.length) = true := by simp; omega
      obtain ⟨g, o, rfl, hg, hcell⟩ := (HN.out _ hb) (by omega)
      have a1 := hcell k hlt
      have HFk := Lib.hid (HF.out _ hb D[k] (List.getElem_mem hlt))
      have HNX : Hid (p D[k] = true → (D.take (k + 1)).all p = true) := Lib.hid (fun h => by rw [List.take_succ_eq_append_getElem hlt, List.all_append, hall.out]; simp [h])
      have HST : Hid (p D[k] = false → decide (0 ≤ (k : Int)) = !(D.all p)) := Lib.hid (fun h => by
        have e : D.all p = false := by
          rw [List.all_eq_false]
          exact ⟨D[k], List.getElem_mem hlt, by simp [h]⟩
        rw [e]; simp)
      have q0 : (0 : Int) ≤ k := by omega
      have q1 : (k : Int) < D.length := by omega
      clear hcell hb hall
      generalize D[k] = x at *
      cases hpx : p x
      · rw [hpx] at HFk
        have HE := Lib.hid (HST.out hpx)
        clear hpx HST HNX
        go_wp2_with fail
        refine HFk.out.mono ?_
        rintro e w1 ⟨rfl, hb1⟩
        have HB1 := Lib.hid (SemI.nx HB.out hb1)
        clear hb1 a1
        go_wp2_with fail
        go_ret
        exact ⟨⟨_, rfl, HE.out⟩, HB1.out⟩
      · rw [hpx] at HFk
        have HE := Lib.hid (HNX.out hpx)
        clear hpx HST HNX
        go_wp2_with fail
        refine HFk.out.mono ?_
        rintro e w1 ⟨rfl, hb1⟩
        have HB1 := Lib.hid (SemI.nx HB.out hb1)
        clear hb1 a1
        go_wp2_with fail
        go_roundw
        case rel => exact ⟨k + 1, by omega, by go_num, HB1.out, HE⟩
        case measure => simp [intOf]; omega
    · have e1 : decide ((k : Int) < D.length) = false := by simp; omega
      have HE : Hid (D.all p = true) := Lib.hid (by
        have := hall.out
        rw [List.take_of_length_le (by omega)] at this
        exact this)
      clear hall hb
      go_wp2_with fail
      go_ret
      exact ⟨⟨_, rfl, by rw [HE.out]; rfl⟩, HB.out⟩
set_option maxRecDepth 100000 in
theorem cont2 {w : World} {b1 b2 b5 : Nat} {D : List Nat} {p : Nat → Bool} {A : Option Addr} {ca : Nat} (h : Fn2 w b1 b2 D p) (hc : w.cell? ⟨b5, 0, none⟩ = some (.func (.func 34) #[] #[.pointer (some ⟨b1, 0, none⟩), .pointer (some ⟨b2, 0, none⟩)])) (hD : D.length ≤ 10000) (hA : NG w A D) :
    Calls Tryd.prog 52 #[.slice A D.length ca, .func (.func 53) #[] #[.pointer (some ⟨b5, 0, none⟩)]] w fun e w' => e = .returned (.bool (!(D.all p))) ∧ Below w.heap.size w w' := by
  have HI := Lib.hid (idx2 (ca := ca) h hc hD hA)
  clear h hc hA hD
  generalize D.all p = r at *
  go_enter Tryd.func52, Tryd.ntmps52
  go_wp2_with fail
  refine HI.out.mono ?_
  rintro e w1 ⟨⟨i, rfl, he⟩, hb1⟩
  have HB1 := Lib.hid hb1
  have HE := Lib.hid he
  clear hb1 HI he
  go_wp2_with fail
  go_ret
  exact ⟨SetB.ret_bool HE.out, HB1.out⟩
end Go.Proofs.YtccmlmahjgndbaaDoor.SemHo
