/- The document's family of pairs: List, Add and the comparison of two lists, by contract. -/
import Derived.Test.YtmeiigcjfjapfaaDoorSetQ
import Derived.Test.YtmeiigcjfjapfaaDoorSetJ
import Derived.Maps.AppendAt
import Derived.Lib.AppendZeros
namespace Go.Proofs.YtmeiigcjfjapfaaDoor.SetR
open Go.RowKit Go.Lib Go.Proofs Go.Proofs.YtmeiigcjfjapfaaDoor.SetPop Go.Proofs.YtmeiigcjfjapfaaDoor.SetA Go.Proofs.YtmeiigcjfjapfaaDoor.SetB Go.Proofs.YtmeiigcjfjapfaaDoor.SetF Go.Proofs.YtmeiigcjfjapfaaDoor.SetJ Go.Proofs.YtmeiigcjfjapfaaDoor.SetN Go.Proofs.YtmeiigcjfjapfaaDoor.SetQ
set_option linter.unusedVariables false
set_option linter.unusedSimpArgs false
theorem own_below {w w' : World} {B n : Nat} {e : TypeId} {k : Nat} {v : Value} {xs : List Value} (h : w.ownsRow B e k v n xs) (hb : Below w.heap.size w w') : w'.ownsRow B e k v n xs :=
  h.kept (World.grownBy.mk hb.os hb.tape hb.output hb.size (fun k hk _ => hb.block k hk) : w.grownBy w' none) (by cases hv : v.ownBlock <;> simp)
/-- A slice value that reads as numbers, wherever it lies. -/
def NG (w : World) (A : Option Addr) (L : List Nat) : Prop :=
  0 < L.length → ∃ g o, A = some ⟨g, o, none⟩ ∧ g < w.heap.size ∧ ∀ j, (h : j < L.length) → w.cell? ⟨g, o + j, none⟩ = some (.int .i64 L[j])
theorem NG.below {w w' : World} {A : Option Addr} {L : List Nat} (h : NG w A L) (hb : Below w.heap.size w w') : NG w' A L := fun hp => by
  obtain ⟨g, o, hA, hg, hc⟩ := h hp
  exact ⟨g, o, hA, Nat.lt_of_lt_of_le hg hb.size, fun j hj => (hb.cell (p := ⟨g, o + j, none⟩) hg).trans (hc j hj)⟩
theorem ng_own {w : World} {B : Nat} {v : Value} {L : List Nat} {t : TypeId} (h : w.ownsRow B t 1 v L.length (encK L)) : ∃ A ca, v = .slice A L.length ca ∧ NG w A L := by
  have h0 := h
  rcases h.2 with ⟨rfl, hn⟩ | ⟨g, cap, cur, rfl, hb, hg, _⟩
  · exact ⟨none, 0, by rw [hn], fun hp => by omega⟩
  · refine ⟨_, cap, rfl, fun hp => ⟨g, 0, rfl, (Array.getElem?_eq_some_iff.1 hg).1, fun j hj => ?_⟩⟩
    have k := h0.cells (g := g) rfl j (.int .i64 L[j]) (by unfold encK; simp [List.getElem?_eq_getElem hj])
    have e : ((⟨g, 0, none⟩ : Addr).add j) = ⟨g, j, none⟩ := by unfold Addr.add; split <;> simp_all
    rw [e] at k
    rw [Nat.zero_add]
    exact k
set_option maxHeartbeats 1000000 in
set_option maxRecDepth 100000 in
theorem sameL (A B : Option Addr) (ca cb : Nat) (L : List Nat) (w : World) (hL : L.length ≤ 10000) (hA : NG w A L) (hB : NG w B L) : Calls Tryd.prog 18 #[.slice A L.length ca, .slice B L.length cb] w (BoolPost true w) := by
  unfold BoolPost
  have HA := Lib.hid hA
  have HB := Lib.hid hB
  clear hA hB
  go_enter Tryd.func18, Tryd.ntmps18
  go_wp2_with fail
  go_loopw [13] (fun i wr => ∃ j : Nat, j ≤ L.length ∧ i = .int .i64 j ∧ Below w.heap.size w wr) (fun i _ => L.length - (intOf i).toNat)
  case atStart => exact ⟨0, by omega, rfl, Below.refl _ _⟩
  case round =>
    obtain ⟨j, hj, rfl, hb⟩ := hrel
    by_cases hlt : j < L.length
    · have d1 : decide ((j : Int) < L.length) = true := by simp; omega
      have p0 : (0 : Int) ≤ j := by omega
      have p1 : (j : Int) < L.length := by omega
      obtain ⟨g, o, rfl, hg, hcell⟩ := (HA.out.below hb) (by omega)
      obtain ⟨g2, o2, rfl, hg2, hcell2⟩ := (HB.out.below hb) (by omega)
      have a1 := hcell j hlt
      have a2 := hcell2 j hlt
      have HBk := Lib.hid hb
      clear hcell hcell2 hb
      generalize L[j] = x at *
      have e1 : ((x : Int) != (x : Int)) = false := by simp
      go_wp2_with fail
      go_quiet (fail)
      go_wp2_with fail
      go_roundw
      case rel => exact ⟨j + 1, by omega, by go_num, below_drewN HBk.out _⟩
      case measure => simp [intOf]; omega
    · have d1 : decide ((j : Int) < L.length) = false := by simp; omega
      have HBk := Lib.hid hb
      clear hb
      go_wp2_with fail
      go_ret
      exact ⟨rfl, HBk.out⟩
def NumPost (L : List Nat) (w : World) (e : Ending) (w' : World) : Prop := ∃ v, e = .returned v ∧ w'.ownsRow w.heap.size 3 1 v L.length (encK L) ∧ Below w.heap.size w w'
theorem listL_succ (j : Nat) (L : List (Int × Int)) (r : Int) : listL (j + 1) L r = if hasL L r j then listL j L r ++ [j] else listL j L r := by
  unfold listL
  rw [List.range_succ, List.filter_append]
  cases h : hasL L r j <;> simp [h]
set_option maxHeartbeats 1000000 in
set_option maxRecDepth 100000 in
theorem listRef (X n c : Nat) (A : Option Addr) (ca : Nat) (L : List (Int × Int)) (r : Int) (w : World) (h : RD w X n c A ca L) (hL : L.length ≤ 1000) (hc : c ≤ 1000) : Calls Tryd.prog 13 #[.pointer (some ⟨X, 0, none⟩), .int .i64 r] w (NumPost (listL c L r) w) := by
  unfold NumPost
  have HR := Lib.hid h
  have HH := Lib.hid (fun (k : Nat) wx (hx : RD wx X n c A ca L) => hasRef X n c A ca L r k wx hx hL)
  have HS := Lib.hid (fun j => listL_succ j L r)
  have HLn := Lib.hid (fun j => listL_len j L r)
  clear h
  obtain ⟨i0, hi, hz0, hz1, hz2⟩ := info_parts infoInt
  generalize hF : (fun j => listL j L r) = F at *
  have HS2 : Hid (∀ j, F (j + 1) = if hasL L r j then F j ++ [j] else F j) := Lib.hid (by rw [← hF]; exact HS.out)
  have HL2 : Hid (∀ j, (F j).length ≤ j) := Lib.hid (by rw [← hF]; exact HLn.out)
  have H0 : Hid (F 0 = []) := Lib.hid (by rw [← hF]; rfl)
  have HC : Hid (listL c L r = F c) := Lib.hid (by rw [← hF])
  clear HS HLn hF
  rw [HC.out]
  clear HC
  go_enter Tryd.func13, Tryd.ntmps13
  go_wp2_with fail
  go_loopw [5, 6] (fun l i wr => ∃ j : Nat, j ≤ c ∧ i = .int .i64 j ∧ Hid (wr.ownsRow w.heap.size 3 1 l (F j).length (encK (F j))) ∧ Below w.heap.size w wr) (fun _ i _ => c - (intOf i).toNat)
  case atStart => exact ⟨0, by omega, rfl, Lib.hid (by rw [H0.out]; exact World.ownsRow_nil _ _ _ _), Below.refl _ _⟩
  case round =>
    obtain ⟨j, hj, rfl, hown, hb⟩ := hrel
    have HRk := Lib.hid (HR.out.below hb)
    obtain ⟨c0, c1, c2⟩ := HRk.out.cell
    by_cases hlt : j < c
    · have d1 : decide ((j : Int) < c) = true := by simp; omega
      have HHj := Lib.hid (fun wx hx => HH.out j wx hx)
      have HSj := Lib.hid (HS2.out j)
      have hlj : (F j).length ≤ 1000 := Nat.le_trans (HL2.out j) (by omega)
      have HBk := Lib.hid hb
      clear hb
      cases h2 : hasL L r j with
      | true =>
        rw [h2] at HHj HSj
        have HSk : Hid (F (j + 1) = F j ++ [j]) := Lib.hid HSj.out
        clear h2 HSj
        go_wp2_with fail
        refine (HHj.out _ HRk.out).mono ?_
        rintro e w2 ⟨rfl, hb2⟩
        have hown2 := own_below hown.out hb2
        have HB2 := Lib.hid (HBk.out.trans (hb2.mono HBk.out.size))
        have hz : w.heap.size ≤ w2.heap.size := HB2.out.size
        clear hb2 hown c0 c1 c2
        go_wp2_with (at_builtin; refine wpList_append_own _ rfl _ _ 33 rfl w.heap.size 3 i0 (.int .i64 0) 1 8 Tryd.underlying33 hi hz0 hz1 hz2 rfl (by decide) _ _ _ rfl (hown2.alloc _) ⟨w2.heap.size, 0, none⟩ 1 1 [.int .i64 (j : Int)] rfl rfl ?c1 ?c2 ?c3 ?c4 ?c5 ?_)
        case c1 => exact new_cell1 _ _ _
        case c2 => intro u hu; simp at hu; subst hu; rfl
        case c3 => unfold maxLen; omega
        case c4 => omega
        case c5 => simp; omega
        intro v' w3 hown' hgrow _
        have hown3 : w3.ownsRow w.heap.size 3 1 v' (F (j + 1)).length (encK (F (j + 1))) := by
          rw [HSk.out, encK_snoc, List.length_append]
          simpa using hown'
        have hbel3 := below_own HB2.out hown2 hgrow
        have HO3 := Lib.hid hown3
        have HB3 := Lib.hid hbel3
        clear hown' hown2 hgrow hown3 hbel3
        go_wp2_with fail
        go_roundw
        case rel => exact ⟨j + 1, by omega, by go_num, HO3, HB3.out⟩
        case measure => simp [intOf]; omega
      | false =>
        rw [h2] at HHj HSj
        have HSk : Hid (F (j + 1) = F j) := Lib.hid (by rw [HSj.out]; rfl)
        clear h2 HSj
        go_wp2_with fail
        refine (HHj.out _ HRk.out).mono ?_
        rintro e w2 ⟨rfl, hb2⟩
        have hown2 := Lib.hid (own_below hown.out hb2)
        have HB2 := Lib.hid (HBk.out.trans (hb2.mono HBk.out.size))
        clear hb2 hown c0 c1 c2
        go_wp2_with fail
        go_roundw
        case rel => exact ⟨j + 1, by omega, by go_num, Lib.hid (by rw [HSk.out]; exact hown2.out), HB2.out⟩
        case measure => simp [intOf]; omega
    · have d1 : decide ((j : Int) < c) = false := by simp; omega
      have hjc : j = c := by omega
      subst hjc
      have HBk := Lib.hid hb
      clear hb
      go_wp2_with fail
      go_ret
      exact ⟨_, rfl, hown.out, HBk.out⟩
/-- The block of a row that was appended to: the old one, or one that is new. -/
def Moves (w : World) (b b' : Option Nat) : Prop := b' = b ∨ ∃ g, b' = some g ∧ w.heap.size ≤ g
section
variable {P : Program} (w : World)
theorem wpList_append_at {ops : Array Oper} {rest : List Oper} {o : Oper} {a : Act} {Q : Exit → Act → World → Prop} (hgd : o.guard = none) (s x : Operand) (t : TypeId)
    (ho : o.op = .call { callee := .builtin .append, args := #[s, x], argTypes := #[t, t] })
    (base : Nat) (e : TypeId) (i : TypeInfo) (z : Value) (size bytes : Nat) (ht : P.underlying t = some (.slice e)) (hi : P.info? e = some i) (hz : i.zero = some z)
    (hsize : i.size = size) (hby : i.bytes = bytes) (hzs : z.cells.size = size) (hsz : 0 < size) (v : Value) (n : Nat) (xs : List Value) (hs : a.eval s = v) (hown : w.ownsRow base e size v n xs)
    (ad : Addr) (m c : Nat) (news : List Value) (hx : a.eval x = .slice (some ad) m c) (hlen : news.length = m * size) (hA : ∀ ad', some ad = some ad' → ∀ j u, news[j]? = some u → w.cell? (ad'.add j) = some u) (h1 : ∀ u ∈ news, u.oneCell' = true)
    (h63 : n + m ≤ maxLen) (hbytes : (n + m) * bytes ≤ 140737488355328) (hbase : base ≤ w.heap.size)
    (h : ∀ v' w', w'.ownsRow base e size v' (n + m) (xs ++ news) → w.grownBy w' v.ownBlock → Moves w v.ownBlock v'.ownBlock → wpList P ops Q rest (a.put o.dst v') w') : wpList P ops Q (o :: rest) a w := by
  obtain ⟨v', w', hrun, h2, h3, _, h5⟩ := run_append_own_at (P := P) w base t o.type e i z size bytes ht hi hz hsize hby hzs hsz v n xs hown ad m c news hlen (hA ad rfl) h1 h63 hbytes hbase
  refine Lib.wpList_append_run w hgd s x t t ho v _ hs hx v' w' hrun (h v' w' h2 h3 ?_)
  rcases h5 with h | h
  · exact .inl h
  · exact .inr ⟨_, h, Nat.le_refl _⟩
end
theorem infoPair : (Tryd.prog.info? 27).map (fun i => (i.zero, i.size, i.bytes)) = some (some (.agg #[.int .i64 0, .int .i64 0]), 2, 16) := by kernel_rfl
def AddRPost (B0 T X n c : Nat) (L : List (Int × Int)) (r k : Int) (w : World) (e : Ending) (w' : World) : Prop :=
  e = .returned (.bool (mayB n c r k && !hasL L r k)) ∧ RF w' B0 w'.heap.size X n c (putL n c L r k) ∧ Below B0 w w' ∧ ∀ b, T ≤ b → b < w.heap.size → w'.heap[b]? = w.heap[b]?
theorem rf_block {w : World} {B0 T X n c : Nat} {L : List (Int × Int)} (h : RF w B0 T X n c L) : X < w.heap.size := by
  obtain ⟨v, h1, _⟩ := h.ex
  exact (Array.getElem?_eq_some_iff.1 h1).1
theorem addNo {B0 T X n c : Nat} {L : List (Int × Int)} {r k : Int} {w w' : World} (h : RF w B0 T X n c L) (hT : T ≤ w.heap.size) (hb : Below w.heap.size w w') (hno : (mayB n c r k && !hasL L r k) = false) : AddRPost B0 T X n c L r k w (.returned (.bool false)) w' := by
  refine ⟨by rw [hno], ?_, hb.mono (by have := h.lo; have := rf_block h; omega), fun b _ hb2 => hb.block b hb2⟩
  unfold putL
  rw [hno]
  exact (h.below hT hb).mono (Nat.le_trans hT hb.size)
set_option maxHeartbeats 2000000 in
set_option maxRecDepth 100000 in
theorem addRef (B0 T X n c : Nat) (L : List (Int × Int)) (r k : Int) (w : World) (h : RF w B0 T X n c L) (hT : T ≤ w.heap.size) (hL : L.length ≤ 1000) : Calls Tryd.prog 8 #[.pointer (some ⟨X, 0, none⟩), .int .i64 r, .int .i64 k] w (AddRPost B0 T X n c L r k w) := by
  have HNO := Lib.hid (fun w' (hb : Below w.heap.size w w') hno => addNo (r := r) (k := k) h hT hb hno)
  obtain ⟨A, ca, hrd⟩ := h.rd
  obtain ⟨c0, c1, c2⟩ := hrd.cell
  have HR := Lib.hid hrd
  have HF := Lib.hid h
  have HH := Lib.hid (fun wx (hx : RD wx X n c A ca L) => hasRef X n c A ca L r k wx hx hL)
  have hxlt := rf_block h
  have HB0 := Lib.hid (Below.refl w.heap.size w)
  clear hrd h
  by_cases g1 : r < 0
  · have d1 : decide (r < 0) = true := decide_eq_true g1
    have hm : (mayB n c r k && !hasL L r k) = false := by
      have : mayB n c r k = false := by rw [Bool.eq_false_iff]; intro hh; have := mayB_iff.1 hh; omega
      rw [this]; rfl
    have HP := Lib.hid (HNO.out w HB0.out hm)
    clear HNO
    go_enter Tryd.func8, Tryd.ntmps8
    go_wp2_with fail
    go_ret
    exact HP.out
  have d1 : decide (r < 0) = false := decide_eq_false g1
  by_cases g2 : (n : Int) ≤ r
  · have d2 : decide ((n : Int) ≤ r) = true := decide_eq_true g2
    have hm : (mayB n c r k && !hasL L r k) = false := by
      have : mayB n c r k = false := by rw [Bool.eq_false_iff]; intro hh; have := mayB_iff.1 hh; omega
      rw [this]; rfl
    have HP := Lib.hid (HNO.out w HB0.out hm)
    clear HNO
    go_enter Tryd.func8, Tryd.ntmps8
    go_wp2_with fail
    go_ret
    exact HP.out
  have d2 : decide ((n : Int) ≤ r) = false := decide_eq_false g2
  by_cases g3 : k < 0
  · have d3 : decide (k < 0) = true := decide_eq_true g3
    have hm : (mayB n c r k && !hasL L r k) = false := by
      have : mayB n c r k = false := by rw [Bool.eq_false_iff]; intro hh; have := mayB_iff.1 hh; omega
      rw [this]; rfl
    have HP := Lib.hid (HNO.out w HB0.out hm)
    clear HNO
    go_enter Tryd.func8, Tryd.ntmps8
    go_wp2_with fail
    go_ret
    exact HP.out
  have d3 : decide (k < 0) = false := decide_eq_false g3
  by_cases g4 : (c : Int) ≤ k
  · have d4 : decide ((c : Int) ≤ k) = true := decide_eq_true g4
    have hm : (mayB n c r k && !hasL L r k) = false := by
      have : mayB n c r k = false := by rw [Bool.eq_false_iff]; intro hh; have := mayB_iff.1 hh; omega
      rw [this]; rfl
    have HP := Lib.hid (HNO.out w HB0.out hm)
    clear HNO
    go_enter Tryd.func8, Tryd.ntmps8
    go_wp2_with fail
    go_ret
    exact HP.out
  have d4 : decide ((c : Int) ≤ k) = false := decide_eq_false g4
  have hmay : mayB n c r k = true := mayB_iff.2 ⟨by omega, by omega, by omega, by omega⟩
  cases hh : hasL L r k with
  | true =>
    rw [hh] at HH
    have hm : (mayB n c r k && !hasL L r k) = false := by rw [hh]; simp
    have HP := Lib.hid (fun w' hb => HNO.out w' hb hm)
    clear HNO hm hh hmay g1 g2 g3 g4
    go_enter Tryd.func8, Tryd.ntmps8
    go_wp2_with fail
    refine (HH.out _ HR.out).mono ?_
    rintro e w2 ⟨rfl, hb⟩
    have HPw := Lib.hid (HP.out _ hb)
    clear hb HP
    go_wp2_with fail
    go_ret
    exact HPw.out
  | false =>
    rw [hh] at HH
    have hm : (mayB n c r k && !hasL L r k) = true := by rw [hh, hmay]; rfl
    obtain ⟨i0, hi, hz0, hz1, hz2⟩ := info_parts infoPair
    have hput : putL n c L r k = L ++ [(r, k)] := by unfold putL; rw [hm]; rfl
    obtain ⟨v, e1, e2, e3⟩ := HF.out.ex
    obtain ⟨A2, ca2, rfl, _⟩ := prG_own e2
    have hv : Value.slice A L.length ca = Value.slice A2 L.length ca2 := by
      have := HR.out.hX
      rw [e1] at this
      simp only [Option.some.injEq, Obj.cells.injEq] at this
      have := congrArg (fun (x : Array Value) => x[2]?) this.1
      simpa using this.symm
    rw [← hv] at e1 e2 e3
    have HO := Lib.hid e2
    have HA3 := Lib.hid e3
    have hlo := HF.out.lo
    have hhi := HF.out.hi
    clear HNO hh hmay hv e1 e2 e3 g1 g2 g3 g4
    unfold AddRPost
    rw [hm, hput]
    clear hm hput HF
    go_enter Tryd.func8, Tryd.ntmps8
    go_wp2_with fail
    refine (HH.out _ HR.out).mono ?_
    rintro e w2 ⟨rfl, hb⟩
    have HR2 := Lib.hid (HR.out.below hb)
    obtain ⟨k0, k1, k2⟩ := HR2.out.cell
    have hown2 := own_below HO.out hb
    have hz2s := hb.size
    have HB2 := Lib.hid hb
    have hX2 : w2.heap[X]? = some (.cells #[.int .i64 n, .int .i64 c, .slice A L.length ca] 31 (0, 0)) := HR2.out.hX
    have hX3 : (w2.alloc (.cells #[.int .i64 r, .int .i64 k] 27)).heap[X]? = some (.cells #[.int .i64 n, .int .i64 c, .slice A L.length ca] 31 (0, 0)) := (Below.heap_alloc _ _ _ (by omega)).trans hX2
    have HX3 := Lib.hid hX3
    clear c0 c1 c2 hb hX2 hX3 HH HO
    have hc1 : ∀ ad', some (⟨w2.heap.size, 0, none⟩ : Addr) = some ad' → ∀ j u, ([.int .i64 r, .int .i64 k] : List Value)[j]? = some u → (w2.alloc (.cells #[.int .i64 r, .int .i64 k] 27)).cell? (ad'.add j) = some u := by
      intro ad e j u hu
      injection e with e; subst e
      have e : ((⟨w2.heap.size, 0, none⟩ : Addr).add j) = ⟨w2.heap.size, j, none⟩ := by unfold Addr.add; split <;> simp_all
      rw [e, Lib.cell_of_heap (heap_alloc_new w2 _), ← hu]
      simp
    have HC1 := Lib.hid hc1
    clear hc1
    go_wp2_with (at_builtin; refine wpList_append_at _ rfl _ _ 22 rfl B0 27 i0 (.agg #[.int .i64 0, .int .i64 0]) 2 16 Tryd.underlying22 hi hz0 hz1 hz2 rfl (by decide) _ _ _ rfl (hown2.alloc _) ⟨w2.heap.size, 0, none⟩ 1 1 [.int .i64 r, .int .i64 k] rfl rfl HC1.out ?c2 ?c3 ?c4 ?c5 ?_)
    case c2 => intro u hu; simp at hu; rcases hu with rfl | rfl <;> rfl
    case c3 => unfold maxLen; omega
    case c4 => omega
    case c5 => simp; omega
    intro v' w3 hown3 hg3 hm3
    obtain ⟨A3, n3, ca3, rfl⟩ : ∃ A3 n3 ca3, v' = .slice A3 n3 ca3 := by
      rcases hown3.2 with ⟨rfl, _⟩ | ⟨g, cap, cur, rfl, _⟩ <;> exact ⟨_, _, _, rfl⟩
    have hne : ∀ g, (Value.slice A L.length ca).ownBlock = some g → g ≠ X := fun g hg => (HA3.out g hg).1
    have hX4 : w3.heap[X]? = some (.cells #[.int .i64 n, .int .i64 c, .slice A L.length ca] 31 (0, 0)) := (hg3.block X (by simp; omega) (fun e => hne X e.symm rfl)).trans HX3.out
    have k3 : w3.cell? ⟨X, 2, none⟩ = some (.slice A L.length ca) := by rw [Lib.cell_of_heap hX4]; rfl
    have kf : w3.frozen? ⟨X, 2, none⟩ = false := frozen_of_row _ _ _ _ _ hX4
    have hz3 := hg3.size
    simp only [World.size_alloc] at hz3
    have hap : ∀ g, (Value.slice A3 n3 ca3).ownBlock = some g → g ≠ X ∧ g < w3.heap.size := fun g hg => by
      refine ⟨?_, (hown3.lt g hg).2⟩
      rcases hm3 with e | ⟨g', e, hgt⟩
      · exact hne g (by rw [← e]; exact hg)
      · rw [e] at hg
        injection hg with hg
        simp only [World.size_alloc] at hgt
        omega
    have HRF : Hid (RF (w3.setCell ⟨X, 2, none⟩ (.slice A3 n3 ca3)) B0 (w3.setCell ⟨X, 2, none⟩ (.slice A3 n3 ca3)).heap.size X n c (L ++ [(r, k)])) := Lib.hid (by
      refine ⟨⟨.slice A3 n3 ca3, ?_, ?_, fun g hg => ⟨(hap g hg).1, by simp [World.setCell]; exact (hap g hg).2⟩⟩, hlo, by simp [World.setCell]; omega⟩
      · rw [heap_setCell_same _ _ _ _ _ _ hX4]; rfl
      · have hlen : (L ++ [(r, k)]).length = L.length + 1 := by simp
        rw [encP_app, hlen]
        refine ⟨hown3.1, ?_⟩
        rcases hown3.2 with h0 | ⟨g, cap, cur, e, hB, hgg, hrest⟩
        · exact .inl h0
        · rw [e] at hap ⊢
          refine .inr ⟨g, cap, cur, rfl, hB, ?_, hrest⟩
          rw [Below.heap_setCell _ _ _ _ (fun e => (hap g rfl).1 e)]
          exact hgg)
    have HBB : Hid (Below B0 w (w3.setCell ⟨X, 2, none⟩ (.slice A3 n3 ca3))) := Lib.hid (by
      have hb1 : Below B0 w (w2.alloc (.cells #[.int .i64 r, .int .i64 k] 27)) := (HB2.out.mono (by omega)).alloc (by omega) _
      have hb2 := hb1.grown hg3 (by simp; omega) (fun j hj => (hown2.lt j hj).1)
      exact hb2.setCell hlo _)
    have HKK : Hid (∀ b, T ≤ b → b < w.heap.size → (w3.setCell ⟨X, 2, none⟩ (.slice A3 n3 ca3)).heap[b]? = w.heap[b]?) := Lib.hid (fun b hb1 hb2 => by
      rw [Below.heap_setCell _ _ _ _ (show b ≠ X by omega)]
      rw [hg3.block b (by simp; omega) (fun e => by have := (HA3.out b e.symm).2; omega)]
      rw [Below.heap_alloc _ _ _ (by omega)]
      exact HB2.out.block b hb2)
    clear hown3 hg3 hm3 hX4 hap hown2
    go_wp2_with fail
    go_ret
    exact ⟨rfl, HRF.out, HBB.out, HKK.out⟩
end Go.Proofs.YtmeiigcjfjapfaaDoor.SetR
