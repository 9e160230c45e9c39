/- Tables of principals and of roles' names: a table object, Prins, Links, Roles, Role, by contract. -/
import Derived.Test.YtnhjnimgjpgfcaaTab7
import Derived.Test.YtnhjnimgjpgfcaaSyn7
import Derived.Test.YtnhjnimgjpgfcaaSynS
import Derived.Test.YtnhjnimgjpgfcaaTab5
import Derived.Test.YtnhjnimgjpgfcaaRolK
namespace Go.Proofs.Ytnhjnimgjpgfcaa.TblA
open Go.RowKit Go.Sort Go.Lib Go.Proofs Go.Proofs.Ytnhjnimgjpgfcaa.Plain Go.Proofs.Ytnhjnimgjpgfcaa.SynP Go.Proofs.Ytnhjnimgjpgfcaa.TabP Go.Proofs.Ytnhjnimgjpgfcaa.Tab1 Go.Proofs.Ytnhjnimgjpgfcaa.Tab2 Go.Proofs.Ytnhjnimgjpgfcaa.RolK
set_option linter.unusedVariables false
set_option linter.unusedSimpArgs false
/-- The table t of the principals P (by the table a) and of the names L (by the table b). -/
structure TblK (w : World) (t a b : Nat) (A1 : Option Addr) (c1 : Nat) (A2 : Option Addr) (c2 : Nat) (P L : List Str) : Prop where
  t0 : w.cell? ⟨t, 0, none⟩ = some (.pointer (some ⟨a, 0, none⟩))
  t1 : w.cell? ⟨t, 1, none⟩ = some (.pointer (some ⟨b, 0, none⟩))
  a0 : w.cell? ⟨a, 0, none⟩ = some (.slice A1 P.length c1)
  b0 : w.cell? ⟨b, 0, none⟩ = some (.slice A2 L.length c2)
  ra : SRow w A1 P
  rb : SRow w A2 L
  lt : t < w.heap.size ∧ a < w.heap.size ∧ b < w.heap.size
  sp : P.Pairwise (· < ·)
  sl : L.Pairwise (· < ·)
  pl : P.length ≤ 100000
  ll : L.length ≤ 100000
theorem TblK.keep {w w' : World} {t a b : Nat} {A1 : Option Addr} {c1 : Nat} {A2 : Option Addr} {c2 : Nat} {P L : List Str} (h : TblK w t a b A1 c1 A2 c2 P L) (hb : RowKit.Below w.heap.size w w') : TblK w' t a b A1 c1 A2 c2 P L :=
  ⟨(hb.cell (p := ⟨t, 0, none⟩) h.lt.1).trans h.t0, (hb.cell (p := ⟨t, 1, none⟩) h.lt.1).trans h.t1, (hb.cell (p := ⟨a, 0, none⟩) h.lt.2.1).trans h.a0, (hb.cell (p := ⟨b, 0, none⟩) h.lt.2.2).trans h.b0, h.ra.keep hb, h.rb.keep hb, ⟨Nat.lt_of_lt_of_le h.lt.1 hb.size, Nat.lt_of_lt_of_le h.lt.2.1 hb.size, Nat.lt_of_lt_of_le h.lt.2.2 hb.size⟩, h.sp, h.sl, h.pl, h.ll⟩
section
variable {w : World} {t a b : Nat} {A1 : Option Addr} {c1 : Nat} {A2 : Option Addr} {c2 : Nat} {P L : List Str}
set_option maxRecDepth 100000
theorem prins (h : TblK w t a b A1 c1 A2 c2 P L) : Calls Try.prog 16 #[.pointer (some ⟨t, 0, none⟩)] w fun e w' => e = .returned (.pointer (some ⟨a, 0, none⟩)) ∧ w = w' := by
  have h0 := h.t0
  clear h
  go_enter Try.func16, Try.ntmps16
  go_wp2
  go_ret
  exact ⟨rfl, rfl⟩
theorem links (h : TblK w t a b A1 c1 A2 c2 P L) : Calls Try.prog 18 #[.pointer (some ⟨t, 0, none⟩)] w fun e w' => e = .returned (.pointer (some ⟨b, 0, none⟩)) ∧ w = w' := by
  have h0 := h.t1
  clear h
  go_enter Try.func18, Try.ntmps18
  go_wp2
  go_ret
  exact ⟨rfl, rfl⟩
theorem roles (h : TblK w t a b A1 c1 A2 c2 P L) : Calls Try.prog 15 #[.pointer (some ⟨t, 0, none⟩)] w fun e w' => e = .returned (.int .i64 ((P.length * L.length : Nat) : Int)) ∧ w = w' := by
  have H1 := Lib.hid (prins h)
  have H2 := Lib.hid (links h)
  have H3 := Lib.hid (Tab1.len w a A1 P.length c1 h.a0)
  have H4 := Lib.hid (Tab1.len w b A2 L.length c2 h.b0)
  have hm : P.length * L.length ≤ 10000000000 := Nat.mul_le_mul h.pl h.ll
  have hw : wrap64 ((P.length : Int) * (L.length : Int)) = ((P.length * L.length : Nat) : Int) := by
    rw [← Int.natCast_mul]; unfold wrap64; omega
  have HW := Lib.hid hw
  clear h hw
  generalize P.length * L.length = m at *
  generalize P.length = n1 at *
  generalize L.length = n2 at *
  go_enter Try.func15, Try.ntmps15
  go_wp2_with (first | ((with_reducible refine H1.out.mono ?_); rintro e w' ⟨rfl, rfl⟩) | ((with_reducible refine H2.out.mono ?_); rintro e w' ⟨rfl, rfl⟩) | ((with_reducible refine H3.out.mono ?_); rintro e w' ⟨rfl, rfl⟩) | ((with_reducible refine H4.out.mono ?_); rintro e w' ⟨rfl, rfl⟩))
  go_ret
  exact ⟨ret_int HW.out, rfl⟩
theorem findI_bd (T : List Str) (s : Str) : -1 ≤ findI T s ∧ findI T s < T.length := by
  unfold findI
  split
  · rename_i h
    have := List.idxOf_lt_length_of_mem h
    omega
  · omega
def roleI (P L : List Str) (r : Rl) : Int := if findI P r.owner.toList < 0 ∨ findI L r.name.toList < 0 then -1 else findI P r.owner.toList * L.length + findI L r.name.toList
theorem roleI_bd (P L : List Str) (r : Rl) : -1 ≤ roleI P L r ∧ roleI P L r < P.length * L.length ∨ roleI P L r = -1 := by
  unfold roleI
  split
  · exact Or.inr rfl
  · rename_i h
    have h1 := findI_bd P r.owner.toList
    have h2 := findI_bd L r.name.toList
    generalize findI P r.owner.toList = x at *
    generalize findI L r.name.toList = y at *
    have h3 : (x + 1) * (L.length : Int) ≤ P.length * L.length := Int.mul_le_mul_of_nonneg_right (by omega) (by omega)
    have h4 : (x + 1) * (L.length : Int) = x * L.length + L.length := by rw [Int.add_mul, Int.one_mul]
    have h5 : 0 ≤ x * (L.length : Int) := Int.mul_nonneg (by omega) (by omega)
    left; omega
set_option maxHeartbeats 1000000 in
theorem role (h : TblK w t a b A1 c1 A2 c2 P L) (r : Rl) : Calls Try.prog 13 #[.pointer (some ⟨t, 0, none⟩), r.val] w fun e w' => e = .returned (.int .i64 (roleI P L r)) ∧ RowKit.Below w.heap.size w w' := by
  have hp := h.pl
  have hl := h.ll
  have b1 := findI_bd P r.owner.toList
  have b2 := findI_bd L r.name.toList
  have H1 : Hid (∀ w', RowKit.Below w.heap.size w w' → Calls Try.prog 16 #[.pointer (some ⟨t, 0, none⟩)] w' fun e w'' => e = .returned (.pointer (some ⟨a, 0, none⟩)) ∧ w' = w'') := Lib.hid (fun w' hb => prins (h.keep hb))
  have H2 : Hid (∀ w', RowKit.Below w.heap.size w w' → Calls Try.prog 18 #[.pointer (some ⟨t, 0, none⟩)] w' fun e w'' => e = .returned (.pointer (some ⟨b, 0, none⟩)) ∧ w' = w'') := Lib.hid (fun w' hb => links (h.keep hb))
  have H3 : Hid (∀ w', RowKit.Below w.heap.size w w' → Calls Try.prog 39 #[.pointer (some ⟨a, 0, none⟩), .string r.owner] w' fun e w'' => e = .returned (.int .i64 (findI P r.owner.toList)) ∧ RowKit.Below w'.heap.size w' w'') := Lib.hid (fun w' hb => Tab2.find a P A1 c1 r.owner w' (by omega) h.sp (h.keep hb).ra (h.keep hb).lt.2.1 (h.keep hb).a0)
  have H4 : Hid (∀ w', RowKit.Below w.heap.size w w' → Calls Try.prog 39 #[.pointer (some ⟨b, 0, none⟩), .string r.name] w' fun e w'' => e = .returned (.int .i64 (findI L r.name.toList)) ∧ RowKit.Below w'.heap.size w' w'') := Lib.hid (fun w' hb => Tab2.find b L A2 c2 r.name w' (by omega) h.sl (h.keep hb).rb (h.keep hb).lt.2.2 (h.keep hb).b0)
  have H5 : Hid (∀ w', RowKit.Below w.heap.size w w' → Calls Try.prog 17 #[.pointer (some ⟨b, 0, none⟩)] w' fun e w'' => e = .returned (.int .i64 L.length) ∧ w' = w'') := Lib.hid (fun w' hb => Tab1.len w' b A2 L.length c2 (h.keep hb).b0)
  obtain ⟨ro, rn⟩ := r
  have hR : ∃ v, roleI P L ⟨ro, rn⟩ = v := ⟨_, rfl⟩
  obtain ⟨v, hv⟩ := hR
  rw [hv]
  unfold roleI at hv
  unfold Rl.val
  simp only at *
  generalize findI P ro.toList = x at *
  generalize findI L rn.toList = y at *
  generalize P.length = n1 at *
  generalize L.length = n2 at *
  have HV := Lib.hid hv
  clear h hv
  have hX := (Below.refl w.heap.size w).alloc (Nat.le_refl _) (.cells #[.string ro, .string rn] 24)
  generalize hW6 : w.alloc (.cells #[.string ro, .string rn] 24) = w6 at hX
  have hz6 : w6.heap.size = w.heap.size + 1 := by rw [← hW6]; simp
  have u1 : ∀ o, w6.drew.cell? ⟨w.heap.size, o, none⟩ = (#[.string ro, .string rn] : Array Value)[o]? := fun o => by
    show w6.cell? _ = _
    rw [← hW6]; exact Lib.cell_of_heap (heap_alloc_new w _) o
  have hz7 : w.heap.size < w6.heap.size := by omega
  have hst : RowKit.Below w6.heap.size w6 w6.drew ∧ (∀ o, w6.drew.cell? ⟨w.heap.size, o, none⟩ = (#[.string ro, .string rn] : Array Value)[o]?) := ⟨(Below.refl _ _).drew, u1⟩
  have HX := Lib.hid (fun w' (hb : RowKit.Below w6.heap.size w6 w') => hX.trans (hb.mono (by omega)))
  clear u1 hX
  go_enter Try.func13, Try.ntmps13
  go_wp2_with fail
  try rw [hW6]
  go_region_held3 (fun w' => RowKit.Below w6.heap.size w6 w' ∧ (∀ o, w'.cell? ⟨w.heap.size, o, none⟩ = (#[.string ro, .string rn] : Array Value)[o]?))
    (first | with_reducible exact hst | with_reducible assumption | exact keepB (by with_reducible assumption) hz7 (by with_reducible assumption))
    (first | (go_at_call 16; refine (H1.out _ (HX.out _ (by apply And.left; with_reducible assumption))).mono ?_; rintro e w' ⟨rfl, rfl⟩) | (go_at_call 18; refine (H2.out _ (HX.out _ (by apply And.left; with_reducible assumption))).mono ?_; rintro e w' ⟨rfl, rfl⟩) | ((with_reducible refine (H3.out _ (HX.out _ (by apply And.left; with_reducible assumption))).mono ?_); rintro e w' ⟨rfl, hgb⟩) | ((with_reducible refine (H4.out _ (HX.out _ (by apply And.left; with_reducible assumption))).mono ?_); rintro e w' ⟨rfl, hgb⟩))
  rename_i hHeld
  have HH := Lib.hid hHeld
  have hBel := Lib.hid (HX.out _ hHeld.1)
  clear hHeld hst
  by_cases hx : x < 0
  · have hv := HV.out
    rw [if_pos (Or.inl hx)] at hv
    subst hv
    go_wp2_with fail
    go_ret
    exact ⟨rfl, hBel.out⟩
  · by_cases hy : y < 0
    · have hv := HV.out
      rw [if_pos (Or.inr hy)] at hv
      subst hv
      go_wp2_with fail
      go_ret
      exact ⟨rfl, hBel.out⟩
    · have hv := HV.out
      rw [if_neg (by omega)] at hv
      have H5' := Lib.hid (H5.out _ hBel.out)
      obtain ⟨x', rfl⟩ : ∃ q : Nat, x = q := ⟨x.toNat, by omega⟩
      obtain ⟨y', rfl⟩ : ∃ q : Nat, y = q := ⟨y.toNat, by omega⟩
      have hq : x' * n2 ≤ 10000000000 := Nat.mul_le_mul (show x' ≤ 100000 by omega) hl
      have hw : wrap64 (wrap64 ((x' : Int) * (n2 : Int)) + (y' : Int)) = v := by
        rw [← hv, ← Int.natCast_mul]; unfold wrap64; omega
      have HW := Lib.hid hw
      clear hv hw hq
      go_wp2_with (first | ((with_reducible refine (H2.out _ hBel.out).mono ?_); rintro e w' ⟨rfl, rfl⟩) | ((with_reducible refine H5'.out.mono ?_); rintro e w' ⟨rfl, rfl⟩))
      go_ret
      exact ⟨ret_int HW.out, hBel.out⟩
end
end Go.Proofs.Ytnhjnimgjpgfcaa.TblA
