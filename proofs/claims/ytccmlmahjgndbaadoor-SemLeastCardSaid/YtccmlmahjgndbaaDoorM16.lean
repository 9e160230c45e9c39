/- The closures of Holds, by contract: is who looks at one in a link, in a both. -/
import Derived.Test.YtccmlmahjgndbaaDoorM10
import Derived.Test.YtccmlmahjgndbaaDoorM11
import Derived.Test.YtccmlmahjgndbaaDoorM01
namespace Go.Proofs.YtccmlmahjgndbaaDoor.SemHo
set_option linter.unusedVariables false
set_option linter.unusedSimpArgs false
open Go.RowKit Go.Lib Go.Proofs Go.Proofs.YtccmlmahjgndbaaDoor.SetA Go.Proofs.YtccmlmahjgndbaaDoor.SetB Go.Proofs.YtccmlmahjgndbaaDoor.SetC Go.Proofs.YtccmlmahjgndbaaDoor.SetD Go.Proofs.YtccmlmahjgndbaaDoor.SetJ Go.Proofs.YtccmlmahjgndbaaDoor.SetN Go.Proofs.YtccmlmahjgndbaaDoor.SetQ Go.Proofs.YtccmlmahjgndbaaDoor.SetR Go.Proofs.YtccmlmahjgndbaaDoor.TblB Go.Proofs.YtccmlmahjgndbaaDoor.TblC Go.Proofs.YtccmlmahjgndbaaDoor.TblV Go.Proofs.YtccmlmahjgndbaaDoor.TblP Go.Proofs.YtccmlmahjgndbaaDoor.SemA Go.Proofs.YtccmlmahjgndbaaDoor.SemB Go.Proofs.YtccmlmahjgndbaaDoor.SemH Go.Proofs.YtccmlmahjgndbaaDoor.SemI Go.Proofs.YtccmlmahjgndbaaDoor.SemJ Go.Proofs.YtccmlmahjgndbaaDoor.SemK Go.Proofs.YtccmlmahjgndbaaDoor.SemGa
set_option linter.unusedVariables false
set_option linter.unusedSimpArgs false
theorem insideM {w : World} {mo B R n P K st : Nat} {M : List Nat} {all : List Pr} (h : MoAt w mo B R n P K M all st) (r q : Int) : Calls Tryd.prog 30 #[.pointer (some ⟨B, 0, none⟩), .int .i64 r, .int .i64 q] w fun e w' => e = .returned (.bool (insideL all r q)) ∧ Below w.heap.size w w' := by
  have h2 := inside_ B R n P M r q w h.fam
  rw [h.inv.inside (rowI_small h.fam)] at h2
  exact h2
/-- What the closures see: a box with the model's pointer, a box with the rule. -/
structure Env (w : World) (b1 b2 mo B R n P K st : Nat) (M : List Nat) (all : List Pr) (u : Ru) : Prop where
  m : MoAt w mo B R n P K M all st
  h1 : ∃ t, w.heap[b1]? = some (.cells #[.pointer (some ⟨mo, 0, none⟩)] t (0, 0))
  h2 : RuAt w b2 u
theorem Env.below {w w' : World} {b1 b2 mo B R n P K st : Nat} {M : List Nat} {all : List Pr} {u : Ru} (h : Env w b1 b2 mo B R n P K st M all u) (hb : Below w.heap.size w w') : Env w' b1 b2 mo B R n P K st M all u := by
  obtain ⟨t, h1⟩ := h.h1
  exact ⟨h.m.below hb, ⟨t, (hb.block _ (lt_of h1)).trans h1⟩, h.h2.below hb⟩
theorem Env.cells {w : World} {b1 b2 mo B R n P K st : Nat} {M : List Nat} {all : List Pr} {u : Ru} (h : Env w b1 b2 mo B R n P K st M all u) : w.cell? ⟨b1, 0, none⟩ = some (.pointer (some ⟨mo, 0, none⟩)) ∧ (∀ o, w.cell? ⟨b2, o, none⟩ = (#[.int .i64 u.kind, .int .i64 u.head, .int .i64 u.who, .int .i64 u.a, .int .i64 u.b, .int .i64 u.via] : Array Value)[o]?) ∧ (∀ o, w.cell? ⟨mo, o, none⟩ = (#[.pointer (some ⟨B, 0, none⟩), .int .i64 K, .int .i64 st] : Array Value)[o]?) := by
  obtain ⟨t, h1⟩ := h.h1
  exact ⟨Lib.cell_of_heap h1 0, fun o => h.h2.cell o, MoAt.cells h.m⟩
set_option maxHeartbeats 1000000 in
set_option maxRecDepth 100000 in
theorem fn1 {w : World} {b1 b2 mo B R n P K st : Nat} {M : List Nat} {all : List Pr} {u : Ru} (h : Env w b1 b2 mo B R n P K st M all u) (x v : Nat) (hx : x ≤ 1000) (hv : v ≤ 1000) (hK : K ≤ 1000) (hu : u.via = v) :
    Calls Tryd.prog 32 #[.int .i64 x, .pointer (some ⟨b1, 0, none⟩), .pointer (some ⟨b2, 0, none⟩)] w fun e w' => e = .returned (.bool (insideL all ((x * K + v : Nat) : Int) u.head)) ∧ Below w.heap.size w w' := by
  have HOf := Lib.hid (fun (w' : World) (hm : ∀ o, w'.cell? ⟨mo, o, none⟩ = (#[.pointer (some ⟨B, 0, none⟩), .int .i64 K, .int .i64 st] : Array Value)[o]?) => SemE.of hm x v hx hv hK)
  have HIn := Lib.hid (fun w' (hb : Below w.heap.size w w') => insideM (h.below hb).m ((x * K + v : Nat) : Int) u.head)
  have HK := Lib.hid (fun w' (hb : Below w.heap.size w w') => And.intro hb (h.below hb).cells)
  have HS := Lib.hid (HK.out _ ((Below.refl w.heap.size w).drew))
  obtain ⟨c1, c2, c3⟩ := h.cells
  obtain ⟨k, hh, wh, a, b, v'⟩ := u
  simp only at hu c2 HK HIn HS ⊢
  subst hu
  clear h
  generalize insideL all ((x * K + v : Nat) : Int) hh = ans at *
  generalize x * K + v = z at *
  go_enter Tryd.func32, Tryd.ntmps32
  go_wp2_with fail
  go_region_held3 (fun w' => Below w.heap.size w w' ∧ w'.cell? ⟨b1, 0, none⟩ = some (.pointer (some ⟨mo, 0, none⟩)) ∧ (∀ o, w'.cell? ⟨b2, o, none⟩ = (#[.int .i64 k, .int .i64 hh, .int .i64 wh, .int .i64 a, .int .i64 b, .int .i64 (v : Int)] : Array Value)[o]?) ∧ (∀ o, w'.cell? ⟨mo, o, none⟩ = (#[.pointer (some ⟨B, 0, none⟩), .int .i64 K, .int .i64 st] : Array Value)[o]?))
    (first | with_reducible assumption | exact HS.out | exact HK.out _ (SemI.nx (by apply And.left; with_reducible assumption) (by with_reducible assumption)))
    (first | ((with_reducible refine (HOf.out _ (by apply And.right; apply And.right; apply And.right; with_reducible assumption)).mono ?_); rintro e w2 ⟨rfl, rfl⟩)
           | (go_at_call 33; refine (HOf.out _ (fun o => by first | with_reducible assumption | (apply And.right; with_reducible assumption))).mono ?_; rintro e w2 ⟨rfl, rfl⟩)
           | ((with_reducible refine (HIn.out _ (by apply And.left; with_reducible assumption)).mono ?_); rintro e w3 ⟨rfl, hb3⟩))
  rename_i hHeld
  have HF := Lib.hid hHeld.1
  clear hHeld
  go_wp2_with fail
  go_ret
  exact ⟨rfl, HF.out⟩
set_option maxHeartbeats 1000000 in
set_option maxRecDepth 100000 in
theorem fn2 {w : World} {b1 b2 mo B R n P K st : Nat} {M : List Nat} {all : List Pr} {u : Ru} (h : Env w b1 b2 mo B R n P K st M all u) (x : Nat) :
    Calls Tryd.prog 34 #[.int .i64 x, .pointer (some ⟨b1, 0, none⟩), .pointer (some ⟨b2, 0, none⟩)] w fun e w' => e = .returned (.bool (!hasL all u.b x || hasL all u.head x)) ∧ Below w.heap.size w w' := by
  have HH1 : Hid (∀ n, Calls Tryd.prog 26 #[.pointer (some ⟨B, 0, none⟩), .int .i64 u.b, .int .i64 x] (w.drewN n) fun e w' => e = .returned (.bool (hasL all u.b x)) ∧ ∃ m, w' = (w.drewN n).drewN m) := Lib.hid (fun n => has0 (h.m.below (below_drewN (Below.refl _ w) n)) u.b x)
  have HH2 : Hid (∀ n, Calls Tryd.prog 26 #[.pointer (some ⟨B, 0, none⟩), .int .i64 u.head, .int .i64 x] (w.drewN n) fun e w' => e = .returned (.bool (hasL all u.head x)) ∧ ∃ m, w' = (w.drewN n).drewN m) := Lib.hid (fun n => has0 (h.m.below (below_drewN (Below.refl _ w) n)) u.head x)
  obtain ⟨c1, c2, c3⟩ := h.cells
  obtain ⟨k, hh, wh, a, b, v'⟩ := u
  simp only at c2 HH1 HH2 ⊢
  clear h
  generalize hasL all b x = g1 at *
  generalize hasL all hh x = g2 at *
  have HB := Lib.hid (fun q => bw w q)
  cases g1
  · go_enter Tryd.func34, Tryd.ntmps34
    go_upto_region 1 with fail
    go_quiet ((go_at_call 26; with_reducible exact Calls.quiet_of (HH1.out _)))
    clear HH1 HH2
    go_wp2_with fail
    go_ret
    exact ⟨rfl, HB.out _⟩
  · cases g2
    · go_enter Tryd.func34, Tryd.ntmps34
      go_upto_region 1 with fail
      go_quiet ((go_at_call 26; first | with_reducible exact Calls.quiet_of (HH1.out _) | with_reducible exact Calls.quiet_of (HH2.out _)))
      clear HH1 HH2
      go_wp2_with fail
      go_ret
      exact ⟨rfl, HB.out _⟩
    · go_enter Tryd.func34, Tryd.ntmps34
      go_upto_region 1 with fail
      go_quiet ((go_at_call 26; first | with_reducible exact Calls.quiet_of (HH1.out _) | with_reducible exact Calls.quiet_of (HH2.out _)))
      clear HH1 HH2
      go_wp2_with fail
      go_ret
      exact ⟨rfl, HB.out _⟩
def Fn1 (w : World) (b1 b2 : Nat) (D : List Nat) (p : Nat → Bool) : Prop := ∀ w', Below w.heap.size w w' → ∀ x ∈ D, Calls Tryd.prog 32 #[.int .i64 ((x : Nat) : Int), .pointer (some ⟨b1, 0, none⟩), .pointer (some ⟨b2, 0, none⟩)] w' fun e wx => e = .returned (.bool (p x)) ∧ Below w'.heap.size w' wx
set_option maxRecDepth 100000 in
theorem notF1 {w : World} {b1 b2 b5 : Nat} {D : List Nat} {p : Nat → Bool} (h : Fn1 w b1 b2 D p) (hc : w.cell? ⟨b5, 0, none⟩ = some (.func (.func 32) #[] #[.pointer (some ⟨b1, 0, none⟩), .pointer (some ⟨b2, 0, none⟩)])) (x : Nat) (hx : x ∈ D) :
    Calls Tryd.prog 53 #[.int .i64 x, .pointer (some ⟨b5, 0, none⟩)] w fun e w' => e = .returned (.bool (!p x)) ∧ Below w.heap.size w w' := by
  have HF := Lib.hid (fun w' hb => h w' hb x hx)
  generalize p x = r at *
  clear h hx
  go_enter Tryd.func53, Tryd.ntmps53
  go_wp2_with fail
  refine (HF.out _ (Below.refl _ _)).mono ?_
  rintro e w1 ⟨rfl, hb1⟩
  have HB1 := Lib.hid hb1
  clear hb1 hc HF
  go_wp2_with fail
  go_ret
  exact ⟨rfl, HB1.out⟩
set_option maxHeartbeats 1000000 in
set_option maxRecDepth 100000 in
theorem idx1 {w : World} {b1 b2 b5 : Nat} {D : List Nat} {p : Nat → Bool} {A : Option Addr} {ca : Nat} (h : Fn1 w b1 b2 D p) (hc : w.cell? ⟨b5, 0, none⟩ = some (.func (.func 32) #[] #[.pointer (some ⟨b1, 0, none⟩), .pointer (some ⟨b2, 0, none⟩)])) (hD : D.length ≤ 10000) (hA : NG w A D) :
    Calls Tryd.prog 61 #[.slice A D.length ca, .func (.func 53) #[] #[.pointer (some ⟨b5, 0, none⟩)]] w fun e w' => (∃ i : Int, e = .returned (.int .i64 i) ∧ decide (0 ≤ i) = !(D.all p)) ∧ Below w.heap.size w w' := by
  have l5 := World.block_lt_of_cell? _ _ hc
  simp only at l5
  have HF := Lib.hid (fun w' (hb : Below w.heap.size w w') => notF1 (w := w') (D := D) (p := p) (b5 := b5) (fun wx hx => h wx (SemI.nx hb hx)) ((hb.cell (p := ⟨b5, 0, none⟩) l5).trans hc))
  have HN := Lib.hid (fun w' (hb : Below w.heap.size w w') => hA.below hb)
  clear h hc l5 hA
  go_enter Tryd.func61, Tryd.ntmps61
  go_wp2_with fail
  go_loopw [8] (fun i wr => ∃ k : Nat, k ≤ D.length ∧ i = .int .i64 k ∧ Below w.heap.size w wr ∧ Hid ((D.take k).all p = true)) (fun i _ => D.length - (intOf i).toNat)
  case atStart => exact ⟨0, by omega, rfl, Below.refl _ _, Lib.hid rfl⟩
  case round =>
    obtain ⟨k, hk, rfl, hb, hall⟩ := hrel
    have HB := Lib.hid hb
    by_cases hlt : k < D.length
    · have e1 : decide ((k : Int) < D.length) = true := by simp; omega
      obtain ⟨g, o, rfl, hg, hcell⟩ := (HN.out _ hb) (by omega)
      have a1 := hcell k hlt
      have HFk := Lib.hid (HF.out _ hb D[k] (List.getElem_mem hlt))
      have HNX : Hid (p D[k] = true → (D.take (k + 1)).all p = true) := Lib.hid (fun h => by rw [List.take_succ_eq_append_getElem hlt, List.all_append, hall.out]; simp [h])
      have HST : Hid (p D[k] = false → decide (0 ≤ (k : Int)) = !(D.all p)) := Lib.hid (fun h => by
        have e : D.all p = false := by
          rw [List.all_eq_false]
          exact ⟨D[k], List.getElem_mem hlt, by simp [h]⟩
        rw [e]; simp)
      have q0 : (0 : Int) ≤ k := by omega
      have q1 : (k : Int) < D.length := by omega
      clear hcell hb hall
      generalize D[k] = x at *
      cases hpx : p x
      · rw [hpx] at HFk
        have HE := Lib.hid (HST.out hpx)
        clear hpx HST HNX
        go_wp2_with fail
        refine HFk.out.mono ?_
        rintro e w1 ⟨rfl, hb1⟩
        have HB1 := Lib.hid (SemI.nx HB.out hb1)
        clear hb1 a1
        go_wp2_with fail
        go_ret
        exact ⟨⟨_, rfl, HE.out⟩, HB1.out⟩
      · rw [hpx] at HFk
        have HE := Lib.hid (HNX.out hpx)
        clear hpx HST HNX
        go_wp2_with fail
        refine HFk.out.mono ?_
        rintro e w1 ⟨rfl, hb1⟩
        have HB1 := Lib.hid (SemI.nx HB.out hb1)
        clear hb1 a1
        go_wp2_with fail
        go_roundw
        case rel => exact ⟨k + 1, by omega, by go_num, HB1.out, HE⟩
        case measure => simp [intOf]; omega
    · have e1 : decide ((k : Int) < D.length) = false := by simp; omega
      have HE : Hid (D.all p = true) := Lib.hid (by
        have := hall.out
        rw [List.take_of_length_le (by omega)] at this
        exact this)
      clear hall hb
      go_wp2_with fail
      go_ret
      exact ⟨⟨_, rfl, by rw [HE.out]; rfl⟩, HB.out⟩
set_option maxRecDepth 100000 in
theorem cont1 {w : World} {b1 b2 b5 : Nat} {D : List Nat} {p : Nat → Bool} {A : Option Addr} {ca : Nat} (h : Fn1 w b1 b2 D p) (hc : w.cell? ⟨b5, 0, none⟩ = some (.func (.func 32) #[] #[.pointer (some ⟨b1, 0, none⟩), .pointer (some ⟨b2, 0, none⟩)])) (hD : D.length ≤ 10000) (hA : NG w A D) :
    Calls Tryd.prog 52 #[.slice A D.length ca, .func (.func 53) #[] #[.pointer (some ⟨b5, 0, none⟩)]] w fun e w' => e = .returned (.bool (!(D.all p))) ∧ Below w.heap.size w w' := by
  have HI := Lib.hid (idx1 (ca := ca) h hc hD hA)
  clear h hc hA hD
  generalize D.all p = r at *
  go_enter Tryd.func52, Tryd.ntmps52
  go_wp2_with fail
  refine HI.out.mono ?_
  rintro e w1 ⟨⟨i, rfl, he⟩, hb1⟩
  have HB1 := Lib.hid hb1
  have HE := Lib.hid he
  clear hb1 HI he
  go_wp2_with fail
  go_ret
  exact ⟨SetB.ret_bool HE.out, HB1.out⟩
def Fn2 (w : World) (b1 b2 : Nat) (D : List Nat) (p : Nat → Bool) : Prop := ∀ w', Below w.heap.size w w' → ∀ x ∈ D, Calls Tryd.prog 34 #[.int .i64 ((x : Nat) : Int), .pointer (some ⟨b1, 0, none⟩), .pointer (some ⟨b2, 0, none⟩)] w' fun e wx => e = .returned (.bool (p x)) ∧ Below w'.heap.size w' wx
set_option maxRecDepth 100000 in
theorem notF2 {w : World} {b1 b2 b5 : Nat} {D : List Nat} {p : Nat → Bool} (h : Fn2 w b1 b2 D p) (hc : w.cell? ⟨b5, 0, none⟩ = some (.func (.func 34) #[] #[.pointer (some ⟨b1, 0, none⟩), .pointer (some ⟨b2, 0, none⟩)])) (x : Nat) (hx : x ∈ D) :
    Calls Tryd.prog 53 #[.int .i64 x, .pointer (some ⟨b5, 0, none⟩)] w fun e w' => e = .returned (.bool (!p x)) ∧ Below w.heap.size w w' := by
  have HF := Lib.hid (fun w' hb => h w' hb x hx)
  generalize p x = r at *
  clear h hx
  go_enter Tryd.func53, Tryd.ntmps53
  go_wp2_with fail
  refine (HF.out _ (Below.refl _ _)).mono ?_
  rintro e w1 ⟨rfl, hb1⟩
  have HB1 := Lib.hid hb1
  clear hb1 hc HF
  go_wp2_with fail
  go_ret
  exact ⟨rfl, HB1.out⟩
set_option maxHeartbeats 1000000 in
set_option maxRecDepth 100000 in
theorem idx2 {w : World} {b1 b2 b5 : Nat} {D : List Nat} {p : Nat → Bool} {A : Option Addr} {ca : Nat} (h : Fn2 w b1 b2 D p) (hc : w.cell? ⟨b5, 0, none⟩ = some (.func (.func 34) #[] #[.pointer (some ⟨b1, 0, none⟩), .pointer (some ⟨b2, 0, none⟩)])) (hD : D.length ≤ 10000) (hA : NG w A D) :
    Calls Tryd.prog 61 #[.slice A D.length ca, .func (.func 53) #[] #[.pointer (some ⟨b5, 0, none⟩)]] w fun e w' => (∃ i : Int, e = .returned (.int .i64 i) ∧ decide (0 ≤ i) = !(D.all p)) ∧ Below w.heap.size w w' := by
  have l5 := World.block_lt_of_cell? _ _ hc
  simp only at l5
  have HF := Lib.hid (fun w' (hb : Below w.heap.size w w') => notF2 (w := w') (D := D) (p := p) (b5 := b5) (fun wx hx => h wx (SemI.nx hb hx)) ((hb.cell (p := ⟨b5, 0, none⟩) l5).trans hc))
  have HN := Lib.hid (fun w' (hb : Below w.heap.size w w') => hA.below hb)
  clear h hc l5 hA
  go_enter Tryd.func61, Tryd.ntmps61
  go_wp2_with fail
  go_loopw [8] (fun i wr => ∃ k : Nat, k ≤ D.length ∧ i = .int .i64 k ∧ Below w.heap.size w wr ∧ Hid ((D.take k).all p = true)) (fun i _ => D.length - (intOf i).toNat)
  case atStart => exact ⟨0, by omega, rfl, Below.refl _ _, Lib.hid rfl⟩
  case round =>
    obtain ⟨k, hk, rfl, hb, hall⟩ := hrel
    have HB := Lib.hid hb
    by_cases hlt : k < D.length
    · have e1 : decide ((k : Int) < D.length) = true := by simp; omega
      obtain ⟨g, o, rfl, hg, hcell⟩ := (HN.out _ hb) (by omega)
      have a1 := hcell k hlt
      have HFk := Lib.hid (HF.out _ hb D[k] (List.getElem_mem hlt))
      have HNX : Hid (p D[k] = true → (D.take (k + 1)).all p = true) := Lib.hid (fun h => by rw [List.take_succ_eq_append_getElem hlt, List.all_append, hall.out]; simp [h])
      have HST : Hid (p D[k] = false → decide (0 ≤ (k : Int)) = !(D.all p)) := Lib.hid (fun h => by
        have e : D.all p = false := by
          rw [List.all_eq_false]
          exact ⟨D[k], List.getElem_mem hlt, by simp [h]⟩
        rw [e]; simp)
      have q0 : (0 : Int) ≤ k := by omega
      have q1 : (k : Int) < D.length := by omega
      clear hcell hb hall
      generalize D[k] = x at *
      cases hpx : p x
      · rw [hpx] at HFk
        have HE := Lib.hid (HST.out hpx)
        clear hpx HST HNX
        go_wp2_with fail
        refine HFk.out.mono ?_
        rintro e w1 ⟨rfl, hb1⟩
        have HB1 := Lib.hid (SemI.nx HB.out hb1)
        clear hb1 a1
        go_wp2_with fail
        go_ret
        exact ⟨⟨_, rfl, HE.out⟩, HB1.out⟩
      · rw [hpx] at HFk
        have HE := Lib.hid (HNX.out hpx)
        clear hpx HST HNX
        go_wp2_with fail
        refine HFk.out.mono ?_
        rintro e w1 ⟨rfl, hb1⟩
        have HB1 := Lib.hid (SemI.nx HB.out hb1)
        clear hb1 a1
        go_wp2_with fail
        go_roundw
        case rel => exact ⟨k + 1, by omega, by go_num, HB1.out, HE⟩
        case measure => simp [intOf]; omega
    · have e1 : decide ((k : Int) < D.length) = false := by simp; omega
      have HE : Hid (D.all p = true) := Lib.hid (by
        have := hall.out
        rw [List.take_of_length_le (by omega)] at this
        exact this)
      clear hall hb
      go_wp2_with fail
      go_ret
      exact ⟨⟨_, rfl, by rw [HE.out]; rfl⟩, HB.out⟩
set_option maxRecDepth 100000 in
theorem cont2 {w : World} {b1 b2 b5 : Nat} {D : List Nat} {p : Nat → Bool} {A : Option Addr} {ca : Nat} (h : Fn2 w b1 b2 D p) (hc : w.cell? ⟨b5, 0, none⟩ = some (.func (.func 34) #[] #[.pointer (some ⟨b1, 0, none⟩), .pointer (some ⟨b2, 0, none⟩)])) (hD : D.length ≤ 10000) (hA : NG w A D) :
    Calls Tryd.prog 52 #[.slice A D.length ca, .func (.func 53) #[] #[.pointer (some ⟨b5, 0, none⟩)]] w fun e w' => e = .returned (.bool (!(D.all p))) ∧ Below w.heap.size w w' := by
  have HI := Lib.hid (idx2 (ca := ca) h hc hD hA)
  clear h hc hA hD
  generalize D.all p = r at *
  go_enter Tryd.func52, Tryd.ntmps52
  go_wp2_with fail
  refine HI.out.mono ?_
  rintro e w1 ⟨⟨i, rfl, he⟩, hb1⟩
  have HB1 := Lib.hid hb1
  have HE := Lib.hid he
  clear hb1 HI he
  go_wp2_with fail
  go_ret
  exact ⟨SetB.ret_bool HE.out, HB1.out⟩
end Go.Proofs.YtccmlmahjgndbaaDoor.SemHo
/- Holds of a model, by contract; the nil model. -/
namespace Go.Proofs.YtccmlmahjgndbaaDoor.SemHp
set_option linter.unusedVariables false
set_option linter.unusedSimpArgs false
open Go.RowKit Go.Lib Go.Proofs Go.Proofs.YtccmlmahjgndbaaDoor.SetA Go.Proofs.YtccmlmahjgndbaaDoor.SetB Go.Proofs.YtccmlmahjgndbaaDoor.SetC Go.Proofs.YtccmlmahjgndbaaDoor.SetD Go.Proofs.YtccmlmahjgndbaaDoor.SetJ Go.Proofs.YtccmlmahjgndbaaDoor.SetN Go.Proofs.YtccmlmahjgndbaaDoor.SetQ Go.Proofs.YtccmlmahjgndbaaDoor.SetR Go.Proofs.YtccmlmahjgndbaaDoor.TblB Go.Proofs.YtccmlmahjgndbaaDoor.TblC Go.Proofs.YtccmlmahjgndbaaDoor.TblV Go.Proofs.YtccmlmahjgndbaaDoor.TblP Go.Proofs.YtccmlmahjgndbaaDoor.TblQ Go.Proofs.YtccmlmahjgndbaaDoor.SemA Go.Proofs.YtccmlmahjgndbaaDoor.SemB Go.Proofs.YtccmlmahjgndbaaDoor.SemH Go.Proofs.YtccmlmahjgndbaaDoor.SemI Go.Proofs.YtccmlmahjgndbaaDoor.SemJ Go.Proofs.YtccmlmahjgndbaaDoor.SemK Go.Proofs.YtccmlmahjgndbaaDoor.SemGa Go.Proofs.YtccmlmahjgndbaaDoor.SemHo
set_option linter.unusedVariables false
set_option linter.unusedSimpArgs false
set_option maxHeartbeats 1000000 in
set_option maxRecDepth 100000 in
theorem all1 {w : World} {b1 b2 mo B R n P K st : Nat} {M : List Nat} {all : List Pr} {p : Nat → Bool} (hm : MoAt w mo B R n P K M all st) (hT : Tab w) (hP : P ≤ 10000) (r : Int) (h : Fn1 w b1 b2 (listL P all r) p) :
    Calls Tryd.prog 31 #[.pointer (some ⟨mo, 0, none⟩), .int .i64 r, .func (.func 32) #[] #[.pointer (some ⟨b1, 0, none⟩), .pointer (some ⟨b2, 0, none⟩)]] w fun e w' => e = .returned (.bool ((listL P all r).all p)) ∧ Below w.heap.size w w' := by
  have hD : (listL P all r).length ≤ 10000 := by
    unfold listL
    exact Nat.le_trans (List.length_filter_le _ _) (by rw [List.length_range]; exact hP)
  have hb := (Below.refl w.heap.size w).alloc (Nat.le_refl _) (.cells #[.func (.func 32) #[] #[.pointer (some ⟨b1, 0, none⟩), .pointer (some ⟨b2, 0, none⟩)]] 63)
  have hx := heap_alloc_new w (.cells #[.func (.func 32) #[] #[.pointer (some ⟨b1, 0, none⟩), .pointer (some ⟨b2, 0, none⟩)]] 63)
  have HL := Lib.hid (lst0 (hm.below hb) (hT.below hb) r)
  have cm := MoAt.cells (hm.below hb)
  have HB := Lib.hid hb
  have HC := Lib.hid (fun w' (hb2 : Below (w.alloc (.cells #[.func (.func 32) #[] #[.pointer (some ⟨b1, 0, none⟩), .pointer (some ⟨b2, 0, none⟩)]] 63)).heap.size (w.alloc (.cells #[.func (.func 32) #[] #[.pointer (some ⟨b1, 0, none⟩), .pointer (some ⟨b2, 0, none⟩)]] 63)) w') (A : Option Addr) (ca : Nat) (hN : NG w' A (listL P all r)) => cont1 (ca := ca) (b5 := w.heap.size) (fun wx hx2 => h wx (SemI.nx (SemI.nx hb hb2) hx2)) (Lib.cell_of_heap ((hb2.block _ (lt_of hx)).trans hx) 0) hD hN)
  unfold ListPost at HL
  clear hb hx hm hT h hP
  generalize listL P all r = D at *
  obtain ⟨ans, hans⟩ : ∃ ans, D.all p = ans := ⟨_, rfl⟩
  rw [hans]
  rw [hans] at HC
  clear hans
  go_enter Tryd.func31, Tryd.ntmps31
  go_upto_region 1 with fail
  generalize w.alloc (.cells #[.func (.func 32) #[] #[.pointer (some ⟨b1, 0, none⟩), .pointer (some ⟨b2, 0, none⟩)]] 63) = w0 at *
  go_wp2_with fail
  refine HL.out.mono ?_
  rintro e w1 ⟨v, rfl, hown, hb1⟩
  obtain ⟨A, ca, rfl, hN⟩ := ng_own hown
  have HC1 := Lib.hid (HC.out w1 hb1 A ca hN)
  have HB1 := Lib.hid (SemI.nx HB.out hb1)
  clear hown hb1 hN cm HL HC
  go_wp2_with fail
  refine HC1.out.mono ?_
  rintro e w2 ⟨rfl, hb2⟩
  have HB2 := Lib.hid (SemI.nx HB1.out hb2)
  clear hb2 HC1
  go_wp2_with fail
  go_ret
  exact ⟨SetB.ret_bool (by first | rfl | exact Bool.not_not ans), HB2.out⟩
set_option maxHeartbeats 1000000 in
set_option maxRecDepth 100000 in
theorem all2 {w : World} {b1 b2 mo B R n P K st : Nat} {M : List Nat} {all : List Pr} {p : Nat → Bool} (hm : MoAt w mo B R n P K M all st) (hT : Tab w) (hP : P ≤ 10000) (r : Int) (h : Fn2 w b1 b2 (listL P all r) p) :
    Calls Tryd.prog 31 #[.pointer (some ⟨mo, 0, none⟩), .int .i64 r, .func (.func 34) #[] #[.pointer (some ⟨b1, 0, none⟩), .pointer (some ⟨b2, 0, none⟩)]] w fun e w' => e = .returned (.bool ((listL P all r).all p)) ∧ Below w.heap.size w w' := by
  have hD : (listL P all r).length ≤ 10000 := by
    unfold listL
    exact Nat.le_trans (List.length_filter_le _ _) (by rw [List.length_range]; exact hP)
  have hb := (Below.refl w.heap.size w).alloc (Nat.le_refl _) (.cells #[.func (.func 34) #[] #[.pointer (some ⟨b1, 0, none⟩), .pointer (some ⟨b2, 0, none⟩)]] 63)
  have hx := heap_alloc_new w (.cells #[.func (.func 34) #[] #[.pointer (some ⟨b1, 0, none⟩), .pointer (some ⟨b2, 0, none⟩)]] 63)
  have HL := Lib.hid (lst0 (hm.below hb) (hT.below hb) r)
  have cm := MoAt.cells (hm.below hb)
  have HB := Lib.hid hb
  have HC := Lib.hid (fun w' (hb2 : Below (w.alloc (.cells #[.func (.func 34) #[] #[.pointer (some ⟨b1, 0, none⟩), .pointer (some ⟨b2, 0, none⟩)]] 63)).heap.size (w.alloc (.cells #[.func (.func 34) #[] #[.pointer (some ⟨b1, 0, none⟩), .pointer (some ⟨b2, 0, none⟩)]] 63)) w') (A : Option Addr) (ca : Nat) (hN : NG w' A (listL P all r)) => cont2 (ca := ca) (b5 := w.heap.size) (fun wx hx2 => h wx (SemI.nx (SemI.nx hb hb2) hx2)) (Lib.cell_of_heap ((hb2.block _ (lt_of hx)).trans hx) 0) hD hN)
  unfold ListPost at HL
  clear hb hx hm hT h hP
  generalize listL P all r = D at *
  obtain ⟨ans, hans⟩ : ∃ ans, D.all p = ans := ⟨_, rfl⟩
  rw [hans]
  rw [hans] at HC
  clear hans
  go_enter Tryd.func31, Tryd.ntmps31
  go_upto_region 1 with fail
  generalize w.alloc (.cells #[.func (.func 34) #[] #[.pointer (some ⟨b1, 0, none⟩), .pointer (some ⟨b2, 0, none⟩)]] 63) = w0 at *
  go_wp2_with fail
  refine HL.out.mono ?_
  rintro e w1 ⟨v, rfl, hown, hb1⟩
  obtain ⟨A, ca, rfl, hN⟩ := ng_own hown
  have HC1 := Lib.hid (HC.out w1 hb1 A ca hN)
  have HB1 := Lib.hid (SemI.nx HB.out hb1)
  clear hown hb1 hN cm HL HC
  go_wp2_with fail
  refine HC1.out.mono ?_
  rintro e w2 ⟨rfl, hb2⟩
  have HB2 := Lib.hid (SemI.nx HB1.out hb2)
  clear hb2 HC1
  go_wp2_with fail
  go_ret
  exact ⟨SetB.ret_bool (by first | rfl | exact Bool.not_not ans), HB2.out⟩
def holdK (P K : Nat) (all : List Pr) (u : Ru) : Bool :=
  if u.kind = 1 then hasL all u.head u.who else if u.kind = 2 then insideL all u.a u.head else if u.kind = 3 then (listL P all u.a).all fun x => insideL all ((x * K + u.via.toNat : Nat) : Int) u.head
  else (listL P all u.a).all fun x => !hasL all u.b x || hasL all u.head x
set_option maxRecDepth 100000 in
theorem in0 (r x : Int) (w : World) : Calls Tryd.prog 9 #[.pointer none, .int .i64 r, .int .i64 x] w fun e w' => e = .returned (.bool false) ∧ w = w' := by
  go_enter Tryd.func9, Tryd.ntmps9
  go_wp2_with fail
  go_ret
  exact ⟨rfl, rfl⟩
set_option maxRecDepth 100000 in
theorem members0 (r : Int) (w : World) : Calls Tryd.prog 12 #[.pointer none, .int .i64 r] w fun e w' => e = .returned (.slice none 0 0) ∧ w = w' := by
  go_enter Tryd.func12, Tryd.ntmps12
  go_wp2_with fail
  go_ret
  exact ⟨rfl, rfl⟩
set_option maxRecDepth 100000 in
theorem steps0 (w : World) : Calls Tryd.prog 18 #[.pointer none] w fun e w' => e = .returned (.int .i64 0) ∧ w = w' := by
  go_enter Tryd.func18, Tryd.ntmps18
  go_wp2_with fail
  go_ret
  exact ⟨rfl, rfl⟩
set_option maxHeartbeats 2000000 in
set_option maxRecDepth 100000 in
theorem holds {w : World} {mo B R n P K st : Nat} {M : List Nat} {all : List Pr} (hm : MoAt w mo B R n P K M all st) (hT : Tab w) (hP : P ≤ 1000) (hK : K ≤ 1000) (u : Ru) :
    Calls Tryd.prog 14 #[.pointer (some ⟨mo, 0, none⟩), u.val] w fun e w' => e = .returned (.bool (rightU P K u && holdK P K all u)) ∧ Below w.heap.size w w' := by
  obtain ⟨k, h, x, a, b, v⟩ := u
  have HX : Hid (Below w.heap.size w ((w.alloc (.cells #[.pointer (some ⟨mo, 0, none⟩)] 28)).alloc (.cells #[.int .i64 k, .int .i64 h, .int .i64 x, .int .i64 a, .int .i64 b, .int .i64 v] 25))) := Lib.hid (((Below.refl _ _).alloc (Nat.le_refl _) _).alloc (by simp) _)
  have hE : Env ((w.alloc (.cells #[.pointer (some ⟨mo, 0, none⟩)] 28)).alloc (.cells #[.int .i64 k, .int .i64 h, .int .i64 x, .int .i64 a, .int .i64 b, .int .i64 v] 25)) w.heap.size (w.heap.size + 1) mo B R n P K st M all ⟨k, h, x, a, b, v⟩ := ⟨hm.below HX.out, ⟨_, heap_alloc2_old w _ _⟩, heap_alloc2_new w _ _⟩
  have hT0 := hT.below HX.out
  have HR := Lib.hid (SemR.right_iff P K ⟨k, h, x, a, b, v⟩)
  have HRi := Lib.hid (fun w' => right_ P K ⟨k, h, x, a, b, v⟩ w' hP hK)
  unfold Ru.val at HRi
  simp only [Ru.cells] at HRi
  obtain ⟨hk, hhk⟩ : ∃ hk, holdK P K all ⟨k, h, x, a, b, v⟩ = hk := ⟨_, rfl⟩
  have HHK := Lib.hid hhk
  rw [hhk]
  clear hhk
  generalize rightU P K ⟨k, h, x, a, b, v⟩ = ans at *
  show Calls _ _ #[_, .agg #[.int .i64 k, .int .i64 h, .int .i64 x, .int .i64 a, .int .i64 b, .int .i64 v]] _ _
  go_enter Tryd.func14, Tryd.ntmps14
  go_upto_region 1 with fail
  generalize (w.alloc (.cells #[.pointer (some ⟨mo, 0, none⟩)] 28)).alloc (.cells #[.int .i64 k, .int .i64 h, .int .i64 x, .int .i64 a, .int .i64 b, .int .i64 v] 25) = w0 at *
  obtain ⟨b1, hb1⟩ : ∃ b1, w.heap.size = b1 := ⟨_, rfl⟩
  rw [hb1] at hE
  simp only [hb1] at ⊢
  obtain ⟨b2, hb2⟩ : ∃ b2, b1 + 1 = b2 := ⟨_, rfl⟩
  rw [hb2] at hE
  simp only [hb2] at ⊢
  have HB0 : Hid (Below w.heap.size w w0) := HX
  clear HX hb1 hb2 hm hT
  have HE := Lib.hid (fun w' (hb : Below w0.heap.size w0 w') => hE.below hb)
  have HT := Lib.hid (fun w' (hb : Below w0.heap.size w0 w') => hT0.below hb)
  have HK : Hid (∀ w', Below w0.heap.size w0 w' → Below w0.heap.size w0 w' ∧ w'.cell? ⟨b1, 0, none⟩ = some (.pointer (some ⟨mo, 0, none⟩)) ∧ (∀ o, w'.cell? ⟨b2, o, none⟩ = (#[.int .i64 k, .int .i64 h, .int .i64 x, .int .i64 a, .int .i64 b, .int .i64 v] : Array Value)[o]?) ∧ (∀ o, w'.cell? ⟨mo, o, none⟩ = (#[.pointer (some ⟨B, 0, none⟩), .int .i64 K, .int .i64 st] : Array Value)[o]?)) := Lib.hid (fun w' hb => ⟨hb, (hE.below hb).cells⟩)
  have HCo := Lib.hid (fun w' (hb : Below w0.heap.size w0 w') => cols B R n P M w' (hE.below hb).m.fam)
  obtain ⟨c1, c2, c3⟩ := hE.cells
  have HS := Lib.hid (HK.out _ ((Below.refl w0.heap.size w0).drew))
  clear hE hT0
  cases ans with
  | false =>
    clear HR HHK
    go_region_held3 (fun w' => Below w0.heap.size w0 w' ∧ w'.cell? ⟨b1, 0, none⟩ = some (.pointer (some ⟨mo, 0, none⟩)) ∧ (∀ o, w'.cell? ⟨b2, o, none⟩ = (#[.int .i64 k, .int .i64 h, .int .i64 x, .int .i64 a, .int .i64 b, .int .i64 v] : Array Value)[o]?) ∧ (∀ o, w'.cell? ⟨mo, o, none⟩ = (#[.pointer (some ⟨B, 0, none⟩), .int .i64 K, .int .i64 st] : Array Value)[o]?))
      (first | with_reducible assumption | exact HS.out | exact HK.out _ (SemI.nx (by apply And.left; with_reducible assumption) (by with_reducible assumption)))
      (first | ((with_reducible refine (HCo.out _ (by apply And.left; with_reducible assumption)).mono ?_); rintro e w2 ⟨rfl, rfl⟩)
             | ((with_reducible refine (HRi.out _).mono ?_); rintro e w3 ⟨rfl, hbr⟩))
    rename_i hHeld
    have HF := Lib.hid (SemI.nx HB0.out hHeld.1)
    clear hHeld c1 c2 c3
    go_wp2_with fail
    go_ret
    exact ⟨rfl, HF.out⟩
  | true =>
    go_region_held3 (fun w' => Below w0.heap.size w0 w' ∧ w'.cell? ⟨b1, 0, none⟩ = some (.pointer (some ⟨mo, 0, none⟩)) ∧ (∀ o, w'.cell? ⟨b2, o, none⟩ = (#[.int .i64 k, .int .i64 h, .int .i64 x, .int .i64 a, .int .i64 b, .int .i64 v] : Array Value)[o]?) ∧ (∀ o, w'.cell? ⟨mo, o, none⟩ = (#[.pointer (some ⟨B, 0, none⟩), .int .i64 K, .int .i64 st] : Array Value)[o]?))
      (first | with_reducible assumption | exact HS.out | exact HK.out _ (SemI.nx (by apply And.left; with_reducible assumption) (by with_reducible assumption)))
      (first | ((with_reducible refine (HCo.out _ (by apply And.left; with_reducible assumption)).mono ?_); rintro e w2 ⟨rfl, rfl⟩)
             | ((with_reducible refine (HRi.out _).mono ?_); rintro e w3 ⟨rfl, hbr⟩))
    rename_i hHeld
    have HB1 := Lib.hid hHeld.1
    obtain ⟨_, d1, d2, d3⟩ := hHeld
    have hRR := HR.out.1 (by trivial)
    unfold SemR.RR at hRR
    dsimp only at hRR
    have HVv : Hid (k = 3 → ∃ vn : Nat, v = vn ∧ vn ≤ 1000) := Lib.hid (fun e => ⟨v.toNat, by omega, by omega⟩)
    have hkk : k = 1 ∨ k = 2 ∨ k = 3 ∨ k = 4 := by omega
    clear c1 c2 c3 HS hbr HCo HRi HR hRR HK
    have HFI := Lib.hid (fun w' (hb : Below w3.heap.size w3 w') => SemI.nx HB0.out (SemI.nx HB1.out hb))
    rcases hkk with rfl | rfl | rfl | rfl
    · have HH1 : Hid (∀ n, Calls Tryd.prog 26 #[.pointer (some ⟨B, 0, none⟩), .int .i64 h, .int .i64 x] (w3.drewN n) fun e w' => e = .returned (.bool (hasL all h x)) ∧ ∃ m, w' = (w3.drewN n).drewN m) := Lib.hid (fun n => has0 ((HE.out w3 HB1.out).m.below (below_drewN (Below.refl _ w3) n)) h x)
      have hv : hasL all h x = hk := by rw [← HHK.out]; unfold holdK; rw [if_pos rfl]
      rw [hv] at HH1
      clear hv HHK HE HT
      go_upto_region 5 with fail
      go_quiet ((go_at_call 26; with_reducible exact Calls.quiet_of (HH1.out _)))
      clear HH1
      go_wp2_with fail
      go_ret
      exact ⟨SetB.ret_bool (Bool.true_and hk).symm, HFI.out _ (bw w3 _)⟩
    · have HIn := Lib.hid (fun w' (hb : Below w3.heap.size w3 w') => insideM (HE.out w' (SemI.nx HB1.out hb)).m a h)
      have hv : insideL all a h = hk := by rw [← HHK.out]; unfold holdK; rw [if_neg (show ¬ (2 : Int) = 1 by omega), if_pos rfl]
      rw [hv] at HIn
      have HK3 := Lib.hid (fun w' (hb : Below w3.heap.size w3 w') => And.intro hb (HE.out w' (SemI.nx HB1.out hb)).cells)
      have HS3 := Lib.hid (HK3.out _ ((Below.refl w3.heap.size w3).drew))
      clear hv HHK HE HT
      go_upto_region 7 with fail
      go_region_held3 (fun w' => Below w3.heap.size w3 w' ∧ w'.cell? ⟨b1, 0, none⟩ = some (.pointer (some ⟨mo, 0, none⟩)) ∧ (∀ o, w'.cell? ⟨b2, o, none⟩ = (#[.int .i64 2, .int .i64 h, .int .i64 x, .int .i64 a, .int .i64 b, .int .i64 v] : Array Value)[o]?) ∧ (∀ o, w'.cell? ⟨mo, o, none⟩ = (#[.pointer (some ⟨B, 0, none⟩), .int .i64 K, .int .i64 st] : Array Value)[o]?))
        (first | with_reducible assumption | exact HS3.out | exact HK3.out _ (SemI.nx (by apply And.left; with_reducible assumption) (by with_reducible assumption)))
        (first | ((with_reducible refine (HIn.out _ (by apply And.left; with_reducible assumption)).mono ?_); rintro e w4 ⟨rfl, hbr⟩))
      rename_i hHeld
      have HF := Lib.hid (HFI.out _ hHeld.1)
      clear hHeld d1 d2 d3
      go_wp2_with fail
      go_ret
      exact ⟨SetB.ret_bool (Bool.true_and hk).symm, HF.out⟩
    · obtain ⟨vn, rfl, hvn⟩ := HVv.out rfl
      have HAl := Lib.hid (all1 (HE.out w3 HB1.out).m (HT.out w3 HB1.out) (by omega) a (p := fun y => insideL all ((y * K + vn : Nat) : Int) h) (fun w' hb y hy => fn1 (HE.out w' (SemI.nx HB1.out hb)) y vn (by
        have := List.mem_range.1 (List.mem_filter.1 (show y ∈ listL P all a from hy)).1
        omega) hvn hK rfl))
      have hv : ((listL P all a).all fun y => insideL all ((y * K + vn : Nat) : Int) h) = hk := by rw [← HHK.out]; unfold holdK; rw [if_neg (show ¬ (3 : Int) = 1 by omega), if_neg (show ¬ (3 : Int) = 2 by omega), if_pos rfl]; rfl
      rw [hv] at HAl
      clear hv HHK HE HT
      go_wp2_with fail
      refine HAl.out.mono ?_
      rintro e w4 ⟨rfl, hb4⟩
      have HF := Lib.hid (HFI.out _ hb4)
      clear hb4 d1 d2 d3 HAl
      go_wp2_with fail
      go_ret
      exact ⟨SetB.ret_bool (Bool.true_and hk).symm, HF.out⟩
    · have HAl := Lib.hid (all2 (HE.out w3 HB1.out).m (HT.out w3 HB1.out) (by omega) a (p := fun y => !hasL all b y || hasL all h y) (fun w' hb y hy => fn2 (HE.out w' (SemI.nx HB1.out hb)) y))
      have hv : ((listL P all a).all fun y => !hasL all b y || hasL all h y) = hk := by rw [← HHK.out]; unfold holdK; rw [if_neg (show ¬ (4 : Int) = 1 by omega), if_neg (show ¬ (4 : Int) = 2 by omega), if_neg (show ¬ (4 : Int) = 3 by omega)]
      rw [hv] at HAl
      clear hv HHK HE HT
      go_wp2_with fail
      refine HAl.out.mono ?_
      rintro e w4 ⟨rfl, hb4⟩
      have HF := Lib.hid (HFI.out _ hb4)
      clear hb4 d1 d2 d3 HAl
      go_wp2_with fail
      go_ret
      exact ⟨SetB.ret_bool (Bool.true_and hk).symm, HF.out⟩
end Go.Proofs.YtccmlmahjgndbaaDoor.SemHp
/- What holds of a model, and what follows by one rule: by contract. -/
namespace Go.Proofs.YtccmlmahjgndbaaDoor.SemMo
set_option linter.unusedVariables false
set_option linter.unusedSimpArgs false
open Go.RowKit Go.Lib Go.Proofs Go.Proofs.YtccmlmahjgndbaaDoor.SetA Go.Proofs.YtccmlmahjgndbaaDoor.SetB Go.Proofs.YtccmlmahjgndbaaDoor.SetC Go.Proofs.YtccmlmahjgndbaaDoor.SetD Go.Proofs.YtccmlmahjgndbaaDoor.SetJ Go.Proofs.YtccmlmahjgndbaaDoor.SetN Go.Proofs.YtccmlmahjgndbaaDoor.SetQ Go.Proofs.YtccmlmahjgndbaaDoor.SetR Go.Proofs.YtccmlmahjgndbaaDoor.TblB Go.Proofs.YtccmlmahjgndbaaDoor.TblC Go.Proofs.YtccmlmahjgndbaaDoor.TblV Go.Proofs.YtccmlmahjgndbaaDoor.TblP Go.Proofs.YtccmlmahjgndbaaDoor.TblQ Go.Proofs.YtccmlmahjgndbaaDoor.SemA Go.Proofs.YtccmlmahjgndbaaDoor.SemB Go.Proofs.YtccmlmahjgndbaaDoor.SemH Go.Proofs.YtccmlmahjgndbaaDoor.SemI Go.Proofs.YtccmlmahjgndbaaDoor.SemJ Go.Proofs.YtccmlmahjgndbaaDoor.SemK Go.Proofs.YtccmlmahjgndbaaDoor.SemGa Go.Proofs.YtccmlmahjgndbaaDoor.SemHo Go.Proofs.YtccmlmahjgndbaaDoor.SemHp
set_option linter.unusedVariables false
set_option linter.unusedSimpArgs false
theorem inside_of {all : List Pr} {r q : Int} (h : ∀ x, (r, x) ∈ all → (q, x) ∈ all) : insideL all r q = true := by
  unfold insideL
  rw [List.all_eq_true]
  rintro ⟨c, x⟩ hx
  by_cases e : c = r
  · subst e
    have := hasL_iff.2 (h x hx)
    simp [this]
  · simp [e]
theorem holdK_true {P K : Nat} {F : List Ru} {all : List Pr} (hd : ∀ r x, (r, x) ∈ all ↔ Der K F r x) {u : Ru} (hu : u ∈ F) (hr : rightU P K u = true) : holdK P K all u = true := by
  have hRR := (SemR.right_iff P K u).1 hr
  unfold SemR.RR at hRR
  unfold holdK
  by_cases k1 : u.kind = 1
  · rw [if_pos k1, hasL_iff, hd]
    exact .mem u hu k1
  rw [if_neg k1]
  by_cases k2 : u.kind = 2
  · rw [if_pos k2]
    exact inside_of fun x hx => (hd _ _).2 (.incl u x hu k2 ((hd _ _).1 hx))
  rw [if_neg k2]
  by_cases k3 : u.kind = 3
  · rw [if_pos k3, List.all_eq_true]
    intro y hy
    have hy2 := hasL_iff.1 (List.mem_filter.1 hy).2
    refine inside_of fun x hx => (hd _ _).2 (.link u y x hu k3 ((hd _ _).1 hy2) ?_)
    have e : ((y * K + u.via.toNat : Nat) : Int) = (y : Int) * K + u.via := by
      rw [Int.natCast_add, Int.natCast_mul, Int.toNat_of_nonneg (by omega)]
    rw [e] at hx
    exact (hd _ _).1 hx
  rw [if_neg k3]
  have k4 : u.kind = 4 := by omega
  rw [List.all_eq_true]
  intro y hy
  have hy2 := (hd _ _).1 (hasL_iff.1 (List.mem_filter.1 hy).2)
  cases hb : hasL all u.b (y : Int)
  · rfl
  · have := hasL_iff.2 ((hd _ _).2 (.both u y hu k4 hy2 ((hd _ _).1 (hasL_iff.1 hb))))
    rw [this]; rfl
theorem holdsT {w : World} {mo P K : Nat} {T : List Ru} (h : Mo w mo P K T) (hT : Tab w) (hP : P ≤ 1000) (hK : K ≤ 1000) {u : Ru} (hu : u ∈ T) (hr : rightU P K u = true) :
    Calls Tryd.prog 14 #[.pointer (some ⟨mo, 0, none⟩), u.val] w fun e w' => e = .returned (.bool true) ∧ Below w.heap.size w w' := by
  obtain ⟨B, R, M, all, st, hm, hd⟩ := h
  have h2 := holds hm hT hP hK u
  rw [hr, holdK_true hd (List.mem_filter.2 ⟨hu, hr⟩) hr] at h2
  exact h2
/-- By this rule it follows. -/
def Wit (P K : Nat) (T : List Ru) (r x : Int) (u : Ru) : Prop := rightU P K u = true ∧ u.head = r ∧ ((u.kind = 1 ∧ u.who = x) ∨ (u.kind = 2 ∧ derB P K T u.a x = true) ∨ (u.kind = 3 ∧ ∃ y ∈ memD P K T u.a, derB P K T ((y : Nat) * (K : Int) + u.via) x = true) ∨ (u.kind = 4 ∧ derB P K T u.a x = true ∧ derB P K T u.b x = true))
theorem wit_of {w : World} {mo P K : Nat} {T : List Ru} (h : Mo w mo P K T) {r x : Int} (hx : derB P K T r x = true) : ∃ i, ∃ hi : i < T.length, Wit P K T r x T[i] := by
  obtain ⟨B, R, M, all, st, hm, hd⟩ := h
  have key : ∃ u ∈ T, Wit P K T r x u := by
    rw [derB_iff] at hx
    cases hx with
    | mem u hu hk =>
      obtain ⟨h1, h2⟩ := List.mem_filter.1 hu
      exact ⟨u, h1, h2, rfl, .inl ⟨hk, rfl⟩⟩
    | incl u x hu hk d =>
      obtain ⟨h1, h2⟩ := List.mem_filter.1 hu
      exact ⟨u, h1, h2, rfl, .inr (.inl ⟨hk, derB_iff.2 d⟩)⟩
    | link u y x hu hk d1 d2 =>
      obtain ⟨h1, h2⟩ := List.mem_filter.1 hu
      have hr := hm.inv.rng _ ((hd _ _).2 d1)
      obtain ⟨_, _, a3, a4⟩ := mayB_iff.1 hr
      simp only at a3 a4
      have e : ((y.toNat : Nat) : Int) = y := Int.toNat_of_nonneg a3
      exact ⟨u, h1, h2, rfl, .inr (.inr (.inl ⟨hk, y.toNat, mem_memD.2 ⟨by omega, by rw [e]; exact d1⟩, by rw [e]; exact derB_iff.2 d2⟩))⟩
    | both u x hu hk d1 d2 =>
      obtain ⟨h1, h2⟩ := List.mem_filter.1 hu
      exact ⟨u, h1, h2, rfl, .inr (.inr (.inr ⟨hk, derB_iff.2 d1, derB_iff.2 d2⟩))⟩
  obtain ⟨u, hu, hw⟩ := key
  obtain ⟨i, hi, rfl⟩ := List.mem_iff_getElem.1 hu
  exact ⟨i, hi, hw⟩
end Go.Proofs.YtccmlmahjgndbaaDoor.SemMo
/- follows: every member follows by one rule; by contract. -/
namespace Go.Proofs.YtccmlmahjgndbaaDoor.SemFo
set_option linter.unusedVariables false
set_option linter.unusedSimpArgs false
open Go.RowKit Go.Lib Go.Proofs Go.Proofs.YtccmlmahjgndbaaDoor.SetA Go.Proofs.YtccmlmahjgndbaaDoor.SetB Go.Proofs.YtccmlmahjgndbaaDoor.SetC Go.Proofs.YtccmlmahjgndbaaDoor.SetD Go.Proofs.YtccmlmahjgndbaaDoor.SetJ Go.Proofs.YtccmlmahjgndbaaDoor.SetN Go.Proofs.YtccmlmahjgndbaaDoor.SetQ Go.Proofs.YtccmlmahjgndbaaDoor.SetR Go.Proofs.YtccmlmahjgndbaaDoor.TblB Go.Proofs.YtccmlmahjgndbaaDoor.TblC Go.Proofs.YtccmlmahjgndbaaDoor.TblV Go.Proofs.YtccmlmahjgndbaaDoor.TblP Go.Proofs.YtccmlmahjgndbaaDoor.TblQ Go.Proofs.YtccmlmahjgndbaaDoor.SemA Go.Proofs.YtccmlmahjgndbaaDoor.SemB Go.Proofs.YtccmlmahjgndbaaDoor.SemH Go.Proofs.YtccmlmahjgndbaaDoor.SemI Go.Proofs.YtccmlmahjgndbaaDoor.SemJ Go.Proofs.YtccmlmahjgndbaaDoor.SemK Go.Proofs.YtccmlmahjgndbaaDoor.SemGa Go.Proofs.YtccmlmahjgndbaaDoor.SemHo Go.Proofs.YtccmlmahjgndbaaDoor.SemHp Go.Proofs.YtccmlmahjgndbaaDoor.SemMo
set_option linter.unusedVariables false
set_option linter.unusedSimpArgs false
set_option maxHeartbeats 4000000 in
set_option maxRecDepth 100000 in
theorem follows {w : World} {mo P K : Nat} {L : List Ru} {A : Option Addr} {ca : Nat} (h : Mo w mo P K L) (hT : Tab w) (hP : P ≤ 1000) (hK : K ≤ 1000) (hL : L.length ≤ 10000) (hA : UG w A L) (r x : Nat) (hx : derB P K L r x = true) :
    Calls Tryd.prog 17 #[.pointer (some ⟨mo, 0, none⟩), .int .i64 P, .int .i64 K, .slice A L.length ca, .int .i64 r, .int .i64 x] w fun e w' => e = .returned (.bool true) ∧ Below w.heap.size w w' := by
  obtain ⟨i0, hi0, hw0⟩ := wit_of h hx
  have HW := Lib.hid hw0
  have HM := Lib.hid (fun w' (hb : Below w.heap.size w w') => h.below hb)
  have HT := Lib.hid (fun w' (hb : Below w.heap.size w w') => hT.below hb)
  have HU := Lib.hid (fun w' (hb : Below w.heap.size w w') => hA.below hb)
  clear h hT hA hx hw0
  go_enter Tryd.func17, Tryd.ntmps17
  go_wp2_with fail
  go_loopw [19] (fun i wr => ∃ j : Nat, j ≤ i0 ∧ i = .int .i64 j ∧ Below w.heap.size w wr) (fun i _ => L.length - (intOf i).toNat)
  case atStart => exact ⟨0, by omega, rfl, Below.refl _ _⟩
  case round =>
    obtain ⟨j, hj, rfl, hb⟩ := hrel
    have hlt : j < L.length := by omega
    have e1 : decide ((j : Int) < L.length) = true := by simp; omega
    have p0 : (0 : Int) ≤ j := by omega
    have p1 : (j : Int) < L.length := by omega
    obtain ⟨g, o, rfl, hg, hcell⟩ := (HU.out _ hb) (by omega)
    have q1 := hcell j hlt
    have HNX : Hid (¬ Wit P K L r x L[j] → j + 1 ≤ i0) := Lib.hid (fun hn => by
      by_cases e : j = i0
      · subst e; exact absurd HW.out hn
      · omega)
    have HBk := Lib.hid hb
    clear hcell hb
    generalize L[j] = u at *
    have HRi := Lib.hid (fun w' => SemR.rightR P K u w' hP hK)
    have HRR := Lib.hid (SemR.right_iff P K u)
    unfold Wit at HNX
    generalize rightU P K u = rr at *
    obtain ⟨u0, u1, u2, u3, u4, u5⟩ := u
    unfold Ru.val at HRi
    unfold SemR.RR at HRR
    dsimp only [Ru.cells] at HRi HRR HNX
    have a0 : wr.cell? ⟨g, o + j * 6, none⟩ = some (.int .i64 u0) := q1 0 (by omega)
    have a1 : wr.cell? ⟨g, o + j * 6 + 1, none⟩ = some (.int .i64 u1) := q1 1 (by omega)
    have a2 : wr.cell? ⟨g, o + j * 6 + 2, none⟩ = some (.int .i64 u2) := q1 2 (by omega)
    have a3 : wr.cell? ⟨g, o + j * 6 + 3, none⟩ = some (.int .i64 u3) := q1 3 (by omega)
    have a4 : wr.cell? ⟨g, o + j * 6 + 4, none⟩ = some (.int .i64 u4) := q1 4 (by omega)
    have a5 : wr.cell? ⟨g, o + j * 6 + 5, none⟩ = some (.int .i64 u5) := q1 5 (by omega)
    have hbX : Below wr.heap.size wr (wr.alloc (.cells #[.int .i64 u0, .int .i64 u1, .int .i64 u2, .int .i64 u3, .int .i64 u4, .int .i64 u5] 25)) := (Below.refl _ _).alloc (Nat.le_refl _) _
    have hX := heap_alloc_new wr (.cells #[.int .i64 u0, .int .i64 u1, .int .i64 u2, .int .i64 u3, .int .i64 u4, .int .i64 u5] 25)
    have HBX := Lib.hid (SemI.nx HBk.out hbX)
    have HX := Lib.hid hX
    clear q1 hbX hX HBk
    go_upto_region 4 with fail
    clear a0 a1 a2 a3 a4 a5
    obtain ⟨bx, hbx⟩ : ∃ bx, wr.heap.size = bx := ⟨_, rfl⟩
    rw [hbx] at HX
    simp only [hbx] at ⊢
    generalize wr.alloc (.cells #[.int .i64 u0, .int .i64 u1, .int .i64 u2, .int .i64 u3, .int .i64 u4, .int .i64 u5] 25) = w0 at *
    have HC := Lib.hid (fun w' (hb : Below w0.heap.size w0 w') (o : Nat) => Lib.cell_of_heap ((hb.block _ (lt_of HX.out)).trans HX.out) o)
    have c0 := HC.out w0 (Below.refl _ _)
    have HBW := Lib.hid (fun w' (hb : Below w0.heap.size w0 w') => SemI.nx HBX.out hb)
    clear HX HBX hbx
    cases rr with
    | false =>
      have hn := HNX.out (fun hh => by cases hh.1)
      clear HNX HRR HC
      go_wp2_with fail
      refine (HRi.out _).mono ?_
      rintro e w1 ⟨rfl, hb1⟩
      have HB1 := Lib.hid (HBW.out _ hb1)
      clear hb1 c0 HRi
      go_wp2_with fail
      go_roundw
      case rel => exact ⟨j + 1, hn, by go_num, HB1.out⟩
      case measure => simp [intOf]; omega
    | true =>
      obtain ⟨hr1, hr2⟩ := HRR.out.1 (by trivial)
      go_wp2_with fail
      refine (HRi.out _).mono ?_
      rintro e w1 ⟨rfl, hb1⟩
      have HB1 := Lib.hid (HBW.out _ hb1)
      have c1 := HC.out w1 hb1
      clear hb1 c0 HRi HRR HBW HC
      by_cases hh : u1 = r
      case neg =>
        have e2 : (u1 != (r : Int)) = true := by simp; omega
        have hn := HNX.out (fun hq => hh hq.2.1)
        clear HNX hr2
        go_wp2_with fail
        go_roundw
        case rel => exact ⟨j + 1, hn, by go_num, HB1.out⟩
        case measure => simp [intOf]; omega
      have e2 : (u1 != (r : Int)) = false := by simp; omega
      have hkk : u0 = 1 ∨ u0 = 2 ∨ u0 = 3 ∨ u0 = 4 := by omega
      have HV : Hid (u0 = 3 → ∃ vn : Nat, u5 = vn ∧ vn ≤ 1000) := Lib.hid (fun e => ⟨u5.toNat, by omega, by omega⟩)
      have HNY : Hid (¬ ((u0 = 1 ∧ u2 = x) ∨ (u0 = 2 ∧ derB P K L u3 x = true) ∨ (u0 = 3 ∧ ∃ y ∈ memD P K L u3, derB P K L ((y : Nat) * (K : Int) + u5) x = true) ∨ (u0 = 4 ∧ derB P K L u3 x = true ∧ derB P K L u4 x = true)) → j + 1 ≤ i0) := Lib.hid (fun hn => HNX.out (fun hq => hn hq.2.2))
      have HIN : Hid (∀ q z, Calls Tryd.prog 9 #[.pointer (some ⟨mo, 0, none⟩), .int .i64 z, .int .i64 x] (w1.drewN q) fun e wx => e = .returned (.bool (derB P K L z x)) ∧ ∃ m, wx = (w1.drewN q).drewN m) := Lib.hid (fun q z => inM (HM.out _ (SemI.nx HB1.out (bw w1 q))) z x)
      clear HNX hr2 hh
      rcases hkk with rfl | rfl | rfl | rfl
      · by_cases hw : u2 = x
        · have e3 : (u2 == (x : Int)) = true := by simp; omega
          clear HNY HV HIN
          go_wp2_with fail
          go_ret
          exact ⟨rfl, HB1.out⟩
        · have e3 : (u2 == (x : Int)) = false := by simp; omega
          have hn := HNY.out (by omega)
          clear HNY HV HIN
          go_wp2_with fail
          go_roundw
          case rel => exact ⟨j + 1, hn, by go_num, HB1.out⟩
          case measure => simp [intOf]; omega
      · have HI1 := Lib.hid (HIN.out 0 u3)
        cases hd : derB P K L u3 x with
        | true =>
          rw [hd] at HI1
          clear HNY HV HIN hd
          go_wp2_with fail
          refine HI1.out.mono ?_
          rintro e w2 ⟨rfl, q, rfl⟩
          clear HI1 c1
          go_wp2_with fail
          go_ret
          exact ⟨rfl, SemI.nx HB1.out (bw w1 q)⟩
        | false =>
          rw [hd] at HI1
          have hn := HNY.out (by rw [hd]; simp)
          clear HNY HV HIN hd
          go_wp2_with fail
          refine HI1.out.mono ?_
          rintro e w2 ⟨rfl, q, rfl⟩
          clear HI1 c1
          go_wp2_with fail
          go_roundw
          case rel => exact ⟨j + 1, hn, by go_num, SemI.nx HB1.out (bw w1 _)⟩
          case measure => simp [intOf]; omega
      · obtain ⟨vn, rfl, hvn⟩ := HV.out rfl
        have HLs := Lib.hid (membersM (HM.out w1 HB1.out) (HT.out w1 HB1.out) u3)
        unfold ListPost at HLs
        have hlen := memD_len P K L u3
        have HNY2 : Hid ((∀ y ∈ memD P K L u3, derB P K L ((y * K + vn : Nat) : Int) x = false) → j + 1 ≤ i0) := Lib.hid (fun hn => HNY.out (by
          rintro (⟨h, _⟩ | ⟨h, _⟩ | ⟨_, y, hy, hq⟩ | ⟨h, _⟩)
          · omega
          · omega
          · have := hn y hy
            rw [Int.natCast_add, Int.natCast_mul] at this
            rw [this] at hq
            cases hq
          · omega))
        have HYP : Hid (∀ y ∈ memD P K L u3, y ≤ 1000) := Lib.hid (fun y hy => Nat.le_trans (Nat.le_of_lt (mem_memD.1 hy).1) hP)
        generalize memD P K L u3 = D at *
        clear HNY HV HIN
        have lbx := World.block_lt_of_cell? _ _ (c1 0)
        simp only at lbx
        go_wp2_with fail
        refine HLs.out.mono ?_
        rintro e w2 ⟨v, rfl, hown, hb2⟩
        obtain ⟨A3, c3, rfl, hn3⟩ := ng_own hown
        have HN3 := Lib.hid (fun w' (hb : Below w2.heap.size w2 w') => NG.below hn3 hb)
        have HB2 := Lib.hid (SemI.nx HB1.out hb2)
        have HC2 := Lib.hid (fun w' (hb : Below w2.heap.size w2 w') (o : Nat) => ((SemI.nx hb2 hb).cell (p := ⟨bx, o, none⟩) lbx).trans (c1 o))
        have HI3 := Lib.hid (fun w' (hb : Below w2.heap.size w2 w') z => inM (HM.out _ (SemI.nx HB2.out hb)) z (x : Int))
        clear hown hb2 hn3 lbx c1 HLs
        go_wp2_with fail
        go_loopw [68] (fun i wk => ∃ k : Nat, k ≤ D.length ∧ i = .int .i64 k ∧ Below w2.heap.size w2 wk ∧ Hid (∀ y ∈ D.take k, derB P K L ((y * K + vn : Nat) : Int) x = false)) (fun i _ => D.length - (intOf i).toNat)
        case atStart => exact ⟨0, by omega, rfl, Below.refl _ _, Lib.hid (fun y hy => by simp at hy)⟩
        case round =>
          obtain ⟨k, hk, rfl, hb, hall⟩ := hrel
          by_cases hlk : k < D.length
          · have f1 : decide ((k : Int) < (D.length : Int)) = true := by simp; omega
            have p2 : (0 : Int) ≤ k := by omega
            have p3 : (k : Int) < D.length := by omega
            obtain ⟨g3, o3, rfl, hg3, hcell⟩ := (HN3.out _ hb) (by omega)
            have a1 := hcell k hlk
            have cw := HC2.out _ hb
            have hy1 := HYP.out D[k] (List.getElem_mem hlk)
            have HTK : Hid (derB P K L ((D[k] * K + vn : Nat) : Int) x = false → ∀ y ∈ D.take (k + 1), derB P K L ((y * K + vn : Nat) : Int) x = false) := Lib.hid (fun h y hy => by
              rw [List.take_succ_eq_append_getElem hlk, List.mem_append] at hy
              rcases hy with hy | hy
              · exact hall.out y hy
              · rw [List.mem_singleton] at hy; rw [hy]; exact h)
            have HBj := Lib.hid hb
            clear hcell hb hall
            generalize D[k] = y at *
            have hyK : y * K ≤ 1000 * 1000 := Nat.mul_le_mul hy1 hK
            have m1 : IntKind.i64.wrap ((y : Int) * (K : Int)) = ((y * K : Nat) : Int) := by
              rw [← Int.natCast_mul, IntKind.wrap_i64]; omega
            have m2 : IntKind.i64.wrap (((y * K : Nat) : Int) + (vn : Int)) = ((y * K + vn : Nat) : Int) := by
              rw [← Int.natCast_add, IntKind.wrap_i64]; omega
            have HI4 := Lib.hid (HI3.out _ HBj.out ((y * K + vn : Nat) : Int))
            generalize y * K = z at *
            generalize z + vn = zz at *
            cases hd : derB P K L (zz : Int) x with
            | true =>
              rw [hd] at HI4
              clear HTK hd
              go_wp2_with fail
              refine HI4.out.mono ?_
              rintro e w3 ⟨rfl, q, rfl⟩
              have HF := Lib.hid (SemI.nx HB2.out (below_drewN HBj.out q))
              clear a1 cw HI4
              go_wp2_with fail
              go_ret
              exact ⟨rfl, HF.out⟩
            | false =>
              rw [hd] at HI4
              have HTL := Lib.hid (HTK.out hd)
              clear HTK hd
              go_wp2_with fail
              refine HI4.out.mono ?_
              rintro e w3 ⟨rfl, q, rfl⟩
              clear a1 cw HI4
              go_wp2_with fail
              go_roundw
              case rel => exact ⟨k + 1, by omega, by go_num, below_drewN HBj.out _, HTL⟩
              case measure => simp [intOf]; omega
          · have f1 : decide ((k : Int) < (D.length : Int)) = false := by simp; omega
            have hn := HNY2.out (by have := hall.out; rw [List.take_of_length_le (by omega)] at this; exact this)
            have HF := Lib.hid (SemI.nx HB2.out hb)
            clear hall hb
            go_wp2_with fail
            go_roundw
            case rel => exact ⟨j + 1, hn, by go_num, HF.out⟩
            case measure => simp [intOf]; omega
      · have HI1 := Lib.hid (HIN.out 0 u3)
        have HI2 := Lib.hid (fun q => HIN.out q u4)
        cases hd : derB P K L u3 x with
        | false =>
          rw [hd] at HI1
          have hn := HNY.out (by rw [hd]; simp)
          clear HNY HV HIN hd HI2
          go_wp2_with fail
          refine HI1.out.mono ?_
          rintro e w2 ⟨rfl, q, rfl⟩
          clear HI1 c1
          go_wp2_with fail
          go_roundw
          case rel => exact ⟨j + 1, hn, by go_num, SemI.nx HB1.out (bw w1 _)⟩
          case measure => simp [intOf]; omega
        | true =>
          rw [hd] at HI1
          cases hd2 : derB P K L u4 x with
          | true =>
            rw [hd2] at HI2
            clear HNY HV HIN hd hd2
            go_wp2_with fail
            refine HI1.out.mono ?_
            rintro e w2 ⟨rfl, q, rfl⟩
            clear HI1
            go_wp2_with fail
            refine (HI2.out q).mono ?_
            rintro e w2 ⟨rfl, q2, rfl⟩
            clear HI2 c1
            go_wp2_with fail
            go_ret
            exact ⟨rfl, SemI.nx HB1.out (bw w1 _)⟩
          | false =>
            rw [hd2] at HI2
            have hn := HNY.out (by rw [hd2]; simp)
            clear HNY HV HIN hd hd2
            go_wp2_with fail
            refine HI1.out.mono ?_
            rintro e w2 ⟨rfl, q, rfl⟩
            clear HI1
            go_wp2_with fail
            refine (HI2.out q).mono ?_
            rintro e w2 ⟨rfl, q2, rfl⟩
            clear HI2 c1
            go_wp2_with fail
            go_roundw
            case rel => exact ⟨j + 1, hn, by go_num, by first | exact SemI.nx HB1.out (bw w1 _) | exact SemI.nx HB1.out (SemI.nx (bw w1 _) (bw _ _))⟩
            case measure => simp [intOf]; omega
end Go.Proofs.YtccmlmahjgndbaaDoor.SemFo
/- The walk of the law that all rules hold and nothing else is in. -/
namespace Go.Proofs.YtccmlmahjgndbaaDoor.SemMw
set_option linter.unusedVariables false
set_option linter.unusedSimpArgs false
open Go.RowKit Go.Lib Go.Proofs Go.Proofs.YtccmlmahjgndbaaDoor.SetA Go.Proofs.YtccmlmahjgndbaaDoor.SetB Go.Proofs.YtccmlmahjgndbaaDoor.SetC Go.Proofs.YtccmlmahjgndbaaDoor.SetD Go.Proofs.YtccmlmahjgndbaaDoor.SetJ Go.Proofs.YtccmlmahjgndbaaDoor.SetN Go.Proofs.YtccmlmahjgndbaaDoor.SetQ Go.Proofs.YtccmlmahjgndbaaDoor.SetR Go.Proofs.YtccmlmahjgndbaaDoor.TblB Go.Proofs.YtccmlmahjgndbaaDoor.TblC Go.Proofs.YtccmlmahjgndbaaDoor.TblV Go.Proofs.YtccmlmahjgndbaaDoor.TblP Go.Proofs.YtccmlmahjgndbaaDoor.TblQ Go.Proofs.YtccmlmahjgndbaaDoor.SemA Go.Proofs.YtccmlmahjgndbaaDoor.SemB Go.Proofs.YtccmlmahjgndbaaDoor.SemH Go.Proofs.YtccmlmahjgndbaaDoor.SemI Go.Proofs.YtccmlmahjgndbaaDoor.SemJ Go.Proofs.YtccmlmahjgndbaaDoor.SemK Go.Proofs.YtccmlmahjgndbaaDoor.SemSw Go.Proofs.YtccmlmahjgndbaaDoor.SemGa Go.Proofs.YtccmlmahjgndbaaDoor.SemHo Go.Proofs.YtccmlmahjgndbaaDoor.SemHp Go.Proofs.YtccmlmahjgndbaaDoor.SemMo Go.Proofs.YtccmlmahjgndbaaDoor.SemFo
set_option linter.unusedVariables false
set_option linter.unusedSimpArgs false
set_option maxRecDepth 100000 in
theorem hold0 (k h x a b v : Int) (w : World) : Calls Tryd.prog 14 #[.pointer none, .agg #[.int .i64 k, .int .i64 h, .int .i64 x, .int .i64 a, .int .i64 b, .int .i64 v]] w fun e w' => e = .returned (.bool false) ∧ Below w.heap.size w w' := by
  have hX : Below w.heap.size w ((w.alloc (.cells #[.pointer none] 28)).alloc (.cells #[.int .i64 k, .int .i64 h, .int .i64 x, .int .i64 a, .int .i64 b, .int .i64 v] 25)) := ((Below.refl _ _).alloc (Nat.le_refl _) _).alloc (by simp) _
  have HX := Lib.hid hX
  have hc := Lib.cell_of_heap (heap_alloc2_old w (.cells #[.pointer none] 28) (.cells #[.int .i64 k, .int .i64 h, .int .i64 x, .int .i64 a, .int .i64 b, .int .i64 v] 25)) 0
  have c1 : ((w.alloc (.cells #[.pointer none] 28)).alloc (.cells #[.int .i64 k, .int .i64 h, .int .i64 x, .int .i64 a, .int .i64 b, .int .i64 v] 25)).cell? ⟨w.heap.size, 0, none⟩ = some (.pointer none) := hc
  clear hc hX
  go_enter Tryd.func14, Tryd.ntmps14
  go_upto_region 1 with fail
  generalize (w.alloc (.cells #[.pointer none] 28)).alloc (.cells #[.int .i64 k, .int .i64 h, .int .i64 x, .int .i64 a, .int .i64 b, .int .i64 v] 25) = w0 at *
  go_quiet (fail)
  have HF := Lib.hid (SemI.nx HX.out (bw w0 nq))
  clear c1
  go_wp2_with fail
  go_ret
  exact ⟨rfl, HF.out⟩
set_option maxHeartbeats 2000000 in
set_option maxRecDepth 100000 in
theorem law (d0 d1 : Int) (A : Option Addr) (ca : Nat) (L : List Ru) (w : World) (hT : Tab w) (hL : L.length ≤ maxLen) (hA : UG w A L) :
    Calls Tryd.prog 4 #[.agg #[.int .i64 d0, .int .i64 d1], .slice A L.length ca] w fun e w' => e = .returned (.bool true) ∧ Below w.heap.size w w' := by
  obtain ⟨hb0, hc0⟩ := dims_box w d0 d1
  have HSm := Lib.hid (fun w' => small d0 d1 A ca L.length (by unfold maxLen at hL; exact hL) w')
  have HLv := Lib.hid (fun w' hb => lives w' (hT.below hb))
  have HB0 := Lib.hid hb0
  have HC0 := Lib.hid (fun w' (hb : Below (w.alloc (.cells #[.int .i64 d0, .int .i64 d1] 22)).heap.size (w.alloc (.cells #[.int .i64 d0, .int .i64 d1] 22)) w') (o : Nat) => (hb.cell (p := ⟨w.heap.size, o, none⟩) (by show w.heap.size < _; simp)).trans (hc0 o))
  have HUA := Lib.hid (hA.below hb0)
  have HTB := Lib.hid (hT.below hb0)
  clear hT hb0 hc0 hA
  cases hs : smallB d0 d1 L.length
  · rw [hs] at HSm
    clear hs HUA HTB
    go_enter Tryd.func4, Tryd.ntmps4
    go_upto_region 1 with fail
    generalize w.alloc (.cells #[.int .i64 d0, .int .i64 d1] 22) = w0 at *
    have c0 := HC0.out w0 (Below.refl _ _)
    go_wp2_with fail
    refine (HSm.out _).mono ?_
    rintro e w1 ⟨rfl, rfl⟩
    clear c0 HC0 HSm
    go_wp2_with fail
    refine (HLv.out _ HB0.out).mono ?_
    rintro e w2 ⟨rfl, hb⟩
    have HF := Lib.hid (SemI.nx HB0.out hb)
    clear hb HLv HB0
    go_wp2_with fail
    go_ret
    exact ⟨rfl, HF.out⟩
  · rw [hs] at HSm
    unfold smallB at hs
    simp only [Bool.and_eq_true, decide_eq_true_eq] at hs
    obtain ⟨s1, s2, s3⟩ := hs
    obtain ⟨P, hP⟩ : ∃ P : Nat, max d0 0 = (P : Int) := ⟨(max d0 0).toNat, by omega⟩
    obtain ⟨K, hK⟩ : ∃ K : Nat, max d1 0 = (K : Int) := ⟨(max d1 0).toNat, by omega⟩
    have wP : (SetA.within d0 64).toNat = P := by unfold SetA.within; omega
    have wK : (SetA.within d1 64).toNat = K := by unfold SetA.within; omega
    have lP : P ≤ 10 := by omega
    have lK : K ≤ 6 := by omega
    have HEv := Lib.hid (fun w' hb hu => evalM d0 d1 A ca L w' (HTB.out.below hb) (by omega) hu)
    unfold MPost at HEv
    rw [wP, wK] at HEv
    obtain ⟨n, hn⟩ : ∃ n, P * K = n := ⟨_, rfl⟩
    have hn60 : P * K ≤ 10 * 6 := Nat.mul_le_mul lP lK
    have hmul : IntKind.i64.wrap ((P : Int) * (K : Int)) = (n : Int) := wrapN hn (by omega)
    have hn2 : n ≤ 60 := by omega
    clear hn hn60 wP wK s1 s2
    go_enter Tryd.func4, Tryd.ntmps4
    go_upto_region 1 with fail
    obtain ⟨bx, hbx⟩ : ∃ bx, w.heap.size = bx := ⟨_, rfl⟩
    simp only [hbx] at HC0 ⊢
    generalize w.alloc (.cells #[.int .i64 d0, .int .i64 d1] 22) = w0 at *
    have c0 := HC0.out w0 (Below.refl _ _)
    go_wp2_with fail
    refine (HSm.out _).mono ?_
    rintro e w1 ⟨rfl, rfl⟩
    clear HSm
    go_upto_region 3 with fail
    go_quiet (fail)
    have HB1 := Lib.hid (bw w0 nq)
    generalize w0.drewN nq = w1 at *
    have c1 := HC0.out w1 HB1.out
    clear c0 hP hK
    have HE1 := Lib.hid (HEv.out w1 HB1.out (HUA.out.below HB1.out))
    go_wp2_with fail
    refine HE1.out.mono ?_
    rintro e w2 ⟨mo, rfl, hm, hb⟩
    have HB2 := Lib.hid (SemI.nx HB1.out hb)
    have HM := Lib.hid (fun w' (hb : Below w2.heap.size w2 w') => Mo.below hm hb)
    have HT := Lib.hid (fun w' (hb : Below w2.heap.size w2 w') => HTB.out.below (SemI.nx HB2.out hb))
    have HU := Lib.hid (fun w' (hb : Below w2.heap.size w2 w') => HUA.out.below (SemI.nx HB2.out hb))
    have HLV := Lib.hid (fun w' (hb : Below w2.heap.size w2 w') => HLv.out w' (SemI.nx HB0.out (SemI.nx HB2.out hb)))
    have HFI := Lib.hid (fun w' (hb : Below w2.heap.size w2 w') => SemI.nx HB0.out (SemI.nx HB2.out hb))
    clear hm hb HE1 HEv c1 HC0 HTB HUA HLv HB0 HB1 HB2
    go_wp2_with fail
    go_loopw [36] (fun i wr => ∃ j : Nat, j ≤ L.length ∧ i = .int .i64 j ∧ Below w2.heap.size w2 wr) (fun i _ => L.length - (intOf i).toNat)
    case atStart => exact ⟨0, by omega, rfl, Below.refl _ _⟩
    case round =>
      obtain ⟨j, hj, rfl, hb⟩ := hrel
      by_cases hlt : j < L.length
      · have e1 : decide ((j : Int) < L.length) = true := by simp; omega
        have p0 : (0 : Int) ≤ j := by omega
        have p1 : (j : Int) < L.length := by omega
        obtain ⟨g, o, rfl, hg, hcell⟩ := (HU.out _ hb) (by omega)
        have q1 := hcell j hlt
        have HBk := Lib.hid hb
        have HME : Hid (L[j] ∈ L) := Lib.hid (List.getElem_mem hlt)
        clear hcell hb
        generalize L[j] = u at *
        have HRi := Lib.hid (fun w' => SemR.rightR P K u w' (by omega) (by omega))
        have HHo : Hid (∀ w', Below w2.heap.size w2 w' → rightU P K u = true → Calls Tryd.prog 14 #[.pointer (some ⟨mo, 0, none⟩), u.val] w' fun e wx => e = .returned (.bool true) ∧ Below w'.heap.size w' wx) := Lib.hid (fun w' hb hr => holdsT (HM.out w' hb) (HT.out w' hb) (by omega) (by omega) HME.out hr)
        generalize rightU P K u = rr at *
        clear HME
        obtain ⟨u0, u1, u2, u3, u4, u5⟩ := u
        unfold Ru.val at HRi HHo
        dsimp only [Ru.cells] at HRi HHo
        have a0 : wr.cell? ⟨g, o + j * 6, none⟩ = some (.int .i64 u0) := q1 0 (by omega)
        have a1 : wr.cell? ⟨g, o + j * 6 + 1, none⟩ = some (.int .i64 u1) := q1 1 (by omega)
        have a2 : wr.cell? ⟨g, o + j * 6 + 2, none⟩ = some (.int .i64 u2) := q1 2 (by omega)
        have a3 : wr.cell? ⟨g, o + j * 6 + 3, none⟩ = some (.int .i64 u3) := q1 3 (by omega)
        have a4 : wr.cell? ⟨g, o + j * 6 + 4, none⟩ = some (.int .i64 u4) := q1 4 (by omega)
        have a5 : wr.cell? ⟨g, o + j * 6 + 5, none⟩ = some (.int .i64 u5) := q1 5 (by omega)
        have hbX : Below wr.heap.size wr (wr.alloc (.cells #[.int .i64 u0, .int .i64 u1, .int .i64 u2, .int .i64 u3, .int .i64 u4, .int .i64 u5] 25)) := (Below.refl _ _).alloc (Nat.le_refl _) _
        have hX := heap_alloc_new wr (.cells #[.int .i64 u0, .int .i64 u1, .int .i64 u2, .int .i64 u3, .int .i64 u4, .int .i64 u5] 25)
        have HBX := Lib.hid (SemI.nx HBk.out hbX)
        have HX := Lib.hid hX
        clear q1 hbX hX HBk
        go_upto_region 8 with fail
        clear a0 a1 a2 a3 a4 a5
        obtain ⟨bx, hbx⟩ : ∃ bx, wr.heap.size = bx := ⟨_, rfl⟩
        rw [hbx] at HX
        simp only [hbx] at ⊢
        generalize wr.alloc (.cells #[.int .i64 u0, .int .i64 u1, .int .i64 u2, .int .i64 u3, .int .i64 u4, .int .i64 u5] 25) = w3 at *
        have HC := Lib.hid (fun w' (hb : Below w3.heap.size w3 w') (o : Nat) => Lib.cell_of_heap ((hb.block _ (lt_of HX.out)).trans HX.out) o)
        have c0 := HC.out w3 (Below.refl _ _)
        clear HX hbx
        cases rr with
        | false =>
          clear HHo HC
          go_wp2_with fail
          refine (HRi.out _).mono ?_
          rintro e w4 ⟨rfl, hb4⟩
          have HB4 := Lib.hid (SemI.nx HBX.out hb4)
          clear hb4 c0 HRi
          go_wp2_with fail
          go_roundw
          case rel => exact ⟨j + 1, by omega, by go_num, HB4.out⟩
          case measure => simp [intOf]; omega
        | true =>
          go_wp2_with fail
          refine (HRi.out _).mono ?_
          rintro e w4 ⟨rfl, hb4⟩
          have HB4 := Lib.hid (SemI.nx HBX.out hb4)
          have c4 := HC.out w4 hb4
          have HH4 := Lib.hid (HHo.out w4 HB4.out (by trivial))
          clear hb4 c0 HRi HHo HC
          go_wp2_with fail
          refine HH4.out.mono ?_
          rintro e w5 ⟨rfl, hb5⟩
          have HB5 := Lib.hid (SemI.nx HB4.out hb5)
          clear hb5 c4 HH4
          go_wp2_with fail
          go_roundw
          case rel => exact ⟨j + 1, by omega, by go_num, HB5.out⟩
          case measure => simp [intOf]; omega
      · have e1 : decide ((j : Int) < L.length) = false := by simp; omega
        have HBk := Lib.hid hb
        clear hb
        go_wp2_with fail
        clear hlt hj e1
        go_loopw [54] (fun i wk => ∃ r : Nat, r ≤ n ∧ i = .int .i64 r ∧ Below w2.heap.size w2 wk) (fun i _ => n - (intOf i).toNat)
        case atStart => exact ⟨0, by omega, rfl, HBk.out⟩
        case round =>
          obtain ⟨r, hr, rfl, hb⟩ := hrel
          by_cases hlt : r < n
          · have e2 : decide ((r : Int) < (n : Int)) = true := by simp; omega
            have HBr := Lib.hid hb
            have HL1 := Lib.hid (membersM (HM.out _ hb) (HT.out _ hb) (r : Int))
            have hlen := memD_len P K L (r : Int)
            have HFo : Hid (∀ w', Below w2.heap.size w2 w' → ∀ x ∈ memD P K L (r : Int), Calls Tryd.prog 17 #[.pointer (some ⟨mo, 0, none⟩), .int .i64 P, .int .i64 K, .slice A L.length ca, .int .i64 r, .int .i64 (x : Int)] w' fun e wx => e = .returned (.bool true) ∧ Below w'.heap.size w' wx) := Lib.hid (fun w' hb x hx => follows (HM.out w' hb) (HT.out w' hb) (by omega) (by omega) (by omega) (HU.out w' hb) r x (derB_iff.2 (mem_memD.1 hx).2))
            unfold ListPost at HL1
            generalize memD P K L (r : Int) = D at *
            clear hb
            go_wp2_with fail
            refine HL1.out.mono ?_
            rintro e w4 ⟨x1, rfl, hown4, hb4⟩
            obtain ⟨A4, c4, rfl, hn4⟩ := ng_own hown4
            have HB4 := Lib.hid (SemI.nx HBr.out hb4)
            have HN4 := Lib.hid (fun w' (hb : Below w4.heap.size w4 w') => NG.below hn4 hb)
            clear hown4 hb4 hn4 HL1 HBr
            go_wp2_with fail
            go_loopw [61] (fun i wm => ∃ k : Nat, k ≤ D.length ∧ i = .int .i64 k ∧ Below w4.heap.size w4 wm) (fun i _ => D.length - (intOf i).toNat)
            case atStart => exact ⟨0, by omega, rfl, Below.refl _ _⟩
            case round =>
              obtain ⟨k, hk, rfl, hb⟩ := hrel
              by_cases hlk : k < D.length
              · have f1 : decide ((k : Int) < (D.length : Int)) = true := by simp; omega
                have p0 : (0 : Int) ≤ k := by omega
                have p1 : (k : Int) < D.length := by omega
                obtain ⟨g, o, rfl, hg, hcell⟩ := (HN4.out _ hb) (by omega)
                have a1 := hcell k hlk
                have HI1 := Lib.hid (HFo.out _ (SemI.nx HB4.out hb) D[k] (List.getElem_mem hlk))
                have HBj := Lib.hid hb
                clear hcell hb
                generalize D[k] = x at *
                go_wp2_with fail
                refine HI1.out.mono ?_
                rintro e w8 ⟨rfl, hb8⟩
                have HB8 := Lib.hid (SemI.nx HBj.out hb8)
                clear a1 hb8 HI1
                go_wp2_with fail
                go_roundw
                case rel => exact ⟨k + 1, by omega, by go_num, HB8.out⟩
                case measure => simp [intOf]; omega
              · have f1 : decide ((k : Int) < (D.length : Int)) = false := by simp; omega
                have HBe := Lib.hid (SemI.nx HB4.out hb)
                clear hb
                go_wp2_with fail
                go_roundw
                case rel => exact ⟨r + 1, by omega, by go_num, HBe.out⟩
                case measure => simp [intOf]; omega
          · have e2 : decide ((r : Int) < (n : Int)) = false := by simp; omega
            have HBr := Lib.hid hb
            have HI0 := Lib.hid (fun w' => in0 0 0 w')
            have HM0 := Lib.hid (fun w' => members0 0 w')
            have HS0 := Lib.hid (fun w' => steps0 w')
            have HH0 := Lib.hid (fun w' => hold0 1 0 0 0 0 0 w')
            clear hb HM HT HU HBk
            go_wp2_with fail
            refine (HI0.out _).mono ?_
            rintro e w4 ⟨rfl, rfl⟩
            go_wp2_with fail
            refine (HM0.out _).mono ?_
            rintro e w4 ⟨rfl, rfl⟩
            go_wp2_with fail
            refine (HS0.out _).mono ?_
            rintro e w4 ⟨rfl, rfl⟩
            go_wp2_with fail
            refine (HH0.out _).mono ?_
            rintro e w4 ⟨rfl, hb4⟩
            have HB4 := Lib.hid (SemI.nx HBr.out hb4)
            clear hb4 HBr
            go_wp2_with fail
            refine (HLV.out _ HB4.out).mono ?_
            rintro e w5 ⟨rfl, hb5⟩
            have HF := Lib.hid (HFI.out _ (SemI.nx HB4.out hb5))
            clear hb5
            go_wp2_with fail
            go_ret
            exact ⟨rfl, HF.out⟩
end Go.Proofs.YtccmlmahjgndbaaDoor.SemMw
/- What arguments that are two numbers, or a row of rules, or a rule, read as. -/
namespace Go.Proofs.YtccmlmahjgndbaaDoor.SemO
set_option linter.unusedVariables false
set_option linter.unusedSimpArgs false
open Go.ChangeShapes Go.WideShapes Go.ChangeAt Go.RowKit
open Go.Proofs.YtccmlmahjgndbaaDoor.SetO Go.Proofs.YtccmlmahjgndbaaDoor.TblC Go.Proofs.YtccmlmahjgndbaaDoor.TblV
set_option maxRecDepth 1000000
set_option linter.unusedVariables false
theorem cells3 : Tryd.prog.cellsOf 3 = 1 := by kernel_rfl
theorem cellsU : Tryd.prog.cellsOf 25 = 6 := by kernel_rfl
section
variable {H : Type} {enc : TypeId × Value → H} {w : World} {base : Nat} {spare : Nat → Bool} {held : Bool} {fuel : Nat} {cs : List Value} {x : DataW H × List MemPlace}
theorem rule_cells (h : DataW.trod enc Tryd.prog w base spare held fuel 25 cs = some x) : ∃ u : Ru, cs = u.cells.toList := by
  obtain ⟨xs, n, _, _, hl, hxl, hf⟩ := DataW.trod_struct Tryd.underlying25 h
  rw [cellsU] at hl
  match cs, hl with
  | [c0, c1, c2, c3, c4, c5], _ =>
    have h0 : DataW.trod enc Tryd.prog w base spare held n 3 (([c0, c1, c2, c3, c4, c5].drop 0).take (Tryd.prog.cellsOf 3)) = xs[0]? := hf 0 _ rfl
    have h1 : DataW.trod enc Tryd.prog w base spare held n 3 (([c0, c1, c2, c3, c4, c5].drop 1).take (Tryd.prog.cellsOf 3)) = xs[1]? := hf 1 _ rfl
    have h2 : DataW.trod enc Tryd.prog w base spare held n 3 (([c0, c1, c2, c3, c4, c5].drop 2).take (Tryd.prog.cellsOf 3)) = xs[2]? := hf 2 _ rfl
    have h3 : DataW.trod enc Tryd.prog w base spare held n 3 (([c0, c1, c2, c3, c4, c5].drop 3).take (Tryd.prog.cellsOf 3)) = xs[3]? := hf 3 _ rfl
    have h4 : DataW.trod enc Tryd.prog w base spare held n 3 (([c0, c1, c2, c3, c4, c5].drop 4).take (Tryd.prog.cellsOf 3)) = xs[4]? := hf 4 _ rfl
    have h5 : DataW.trod enc Tryd.prog w base spare held n 3 (([c0, c1, c2, c3, c4, c5].drop 5).take (Tryd.prog.cellsOf 3)) = xs[5]? := hf 5 _ rfl
    obtain ⟨y0, e0⟩ := some_at (i := 0) hxl (by decide)
    obtain ⟨y1, e1⟩ := some_at (i := 1) hxl (by decide)
    obtain ⟨y2, e2⟩ := some_at (i := 2) hxl (by decide)
    obtain ⟨y3, e3⟩ := some_at (i := 3) hxl (by decide)
    obtain ⟨y4, e4⟩ := some_at (i := 4) hxl (by decide)
    obtain ⟨y5, e5⟩ := some_at (i := 5) hxl (by decide)
    rw [e0, SemO.cells3] at h0
    rw [e1, SemO.cells3] at h1
    rw [e2, SemO.cells3] at h2
    rw [e3, SemO.cells3] at h3
    rw [e4, SemO.cells3] at h4
    rw [e5, SemO.cells3] at h5
    obtain ⟨s0, a0, _, _⟩ := DataW.trod_int Tryd.underlying3 h0
    obtain ⟨s1, a1, _, _⟩ := DataW.trod_int Tryd.underlying3 h1
    obtain ⟨s2, a2, _, _⟩ := DataW.trod_int Tryd.underlying3 h2
    obtain ⟨s3, a3, _, _⟩ := DataW.trod_int Tryd.underlying3 h3
    obtain ⟨s4, a4, _, _⟩ := DataW.trod_int Tryd.underlying3 h4
    obtain ⟨s5, a5, _, _⟩ := DataW.trod_int Tryd.underlying3 h5
    simp at a0 a1 a2 a3 a4 a5
    subst a0; subst a1; subst a2; subst a3; subst a4; subst a5
    exact ⟨⟨s0, s1, s2, s3, s4, s5⟩, rfl⟩
end
theorem agg_two {v : Value} {a b : Value} (h : v.cells.toList = [a, b]) : v = .agg #[a, b] := by
  cases v with
  | agg cs =>
    simp only [Value.cells] at h
    congr 1
    apply Array.ext'
    simpa using h
  | _ => simp [Value.cells] at h
set_option maxRecDepth 1000000 in
theorem open_dims {H : Type} {enc : TypeId × Value → H} {W : World} {v : Value} {d : DataW H} {p : List MemPlace}
    (h : DataW.Trod enc Tryd.prog W 0 (fun _ => true) true 22 v d p) : ∃ a b : Int, v = .agg #[.int .i64 a, .int .i64 b] := by
  obtain ⟨fuel, hf⟩ := h
  obtain ⟨r, hr⟩ := pair_cells hf
  exact ⟨r.1, r.2, agg_two hr⟩
set_option maxRecDepth 1000000 in
theorem open_rule {H : Type} {enc : TypeId × Value → H} {W : World} {base : Nat} {v : Value} {d : DataW H} {p : List MemPlace}
    (hval : Value.okWide Tryd.prog W .any base 25 v) (h : DataW.Trod enc Tryd.prog W 0 (fun _ => true) true 25 v d p) : ∃ u : Ru, v = u.val := by
  obtain ⟨cs, rfl, hsz⟩ := okWide_struct Tryd.underlying25 hval
  obtain ⟨fuel, hf⟩ := h
  obtain ⟨u, hu⟩ := rule_cells hf
  refine ⟨u, ?_⟩
  simp only [Value.cells] at hu
  unfold Ru.val
  congr 1
  apply Array.ext'
  rw [hu]
  rfl
set_option maxRecDepth 1000000 in
theorem open_rules {H : Type} {enc : TypeId × Value → H} {W : World} {base : Nat} {v : Value} {d : DataW H} {p : List MemPlace}
    (hval : Value.okWide Tryd.prog W .any base 23 v) (h : DataW.Trod enc Tryd.prog W 0 (fun _ => true) true 23 v d p) :
    ∃ (A : Option Addr) (c : Nat) (L : List Ru), v = .slice A L.length c ∧ L.length ≤ c ∧ c ≤ maxLen ∧ UG W A L := by
  obtain ⟨a0, len, cap, rfl⟩ := okWide_slice Tryd.underlying23 hval
  obtain ⟨fuel, hf⟩ := h
  rcases DataW.trod_slice Tryd.underlying23 hf with ⟨hcs, hx⟩ | ⟨a, len', cap', elems, rest, n, _, hcs, hx, hb, hl, hm, hlen, hel, _⟩
  · simp [Value.cells] at hcs
    obtain ⟨rfl, rfl, rfl⟩ := hcs
    exact ⟨none, 0, [], rfl, by simp, by simp [maxLen], fun h => by simp at h⟩
  · simp [Value.cells] at hcs
    obtain ⟨rfl, rfl, rfl⟩ := hcs
    have key : ∀ i, i < len → ∃ s : Ru, ∀ k, k < 6 → W.cell? (a.add (i * 6) |>.add k) = (s.cells.toList)[k]? := fun i hi => by
      have q := hel i hi
      rw [cellsU] at q
      have hsome : ∃ y, elems[i]? = some y := some_at hlen hi
      obtain ⟨y, hy⟩ := hsome
      rw [hy, Option.bind_eq_some_iff] at q
      obtain ⟨cs, hc, ht⟩ := q
      obtain ⟨s, rfl⟩ := rule_cells ht
      obtain ⟨_, _, hat⟩ := World.cells?_some hc
      exact ⟨s, hat⟩
    obtain ⟨L, hL, hp⟩ := list_of (P := fun i (s : Ru) => ∀ k, k < 6 → W.cell? (a.add (i * 6) |>.add k) = (s.cells.toList)[k]?) len key
    refine ⟨some a, cap, L, by rw [hL], by omega, hm, fun hpos => ?_⟩
    have h1 := hp 0 hpos 0 (by omega)
    obtain ⟨b, off, spot⟩ := a
    have h1' : W.cell? (((⟨b, off, spot⟩ : Addr).add (0 * 6)).add 0) = some (.int .i64 L[0].kind) := h1
    have hspot : spot = none := by simpa [Addr.add] using World.cell?_spot h1'
    subst hspot
    have hlt := World.block_lt_of_cell? _ _ h1'
    rw [add_off, add_off] at hlt
    refine ⟨b, off, rfl, hlt, fun j hj k hk => ?_⟩
    have q0 := hp j hj k hk
    rw [add_off, add_off] at q0
    rw [q0]
    simp
end Go.Proofs.YtccmlmahjgndbaaDoor.SemO
