/- Small laws that the texts on rules and models share, for a seat without sets. -/
import Derived.Test.YtddjbchlpfaggaaRuC
import Derived.Maps.AppendAt
import Derived.Lib.AppendZeros
import Derived.ChangeKeysEq
import Derived.Deep.CutBlock
import Derived.Deep.LoopGhost
import Derived.Laws.AppendOwn
import Derived.Laws.OwnMore
import Derived.OwnWalk
import Derived.WalkSpells
import Derived.Deep.AppendSrc
import Derived.Deep.RegionLaw
import Derived.Deep.AppendLies
import Derived.Deep.RegionHeld3
namespace Go.Proofs.Ytddjbchlpfaggaa.TblP
end Go.Proofs.Ytddjbchlpfaggaa.TblP
namespace Go.Proofs.Ytddjbchlpfaggaa.TblQ
end Go.Proofs.Ytddjbchlpfaggaa.TblQ
namespace Go.Proofs.Ytddjbchlpfaggaa.SetA
end Go.Proofs.Ytddjbchlpfaggaa.SetA
namespace Go.Proofs.Ytddjbchlpfaggaa.SetC
end Go.Proofs.Ytddjbchlpfaggaa.SetC
namespace Go.Proofs.Ytddjbchlpfaggaa.SetD
end Go.Proofs.Ytddjbchlpfaggaa.SetD
namespace Go.Proofs.Ytddjbchlpfaggaa.SetF
end Go.Proofs.Ytddjbchlpfaggaa.SetF
namespace Go.Proofs.Ytddjbchlpfaggaa.SetN
end Go.Proofs.Ytddjbchlpfaggaa.SetN
namespace Go.Proofs.Ytddjbchlpfaggaa.SetQ
open Go.RowKit Go.Lib Go.Proofs Go.Proofs.Ytddjbchlpfaggaa.Plain Go.Proofs.Ytddjbchlpfaggaa.TblB Go.Proofs.Ytddjbchlpfaggaa.TblC Go.Proofs.Ytddjbchlpfaggaa.TblF Go.Proofs.Ytddjbchlpfaggaa.TblV Go.Proofs.Ytddjbchlpfaggaa.TblP Go.Proofs.Ytddjbchlpfaggaa.TblQ Go.Proofs.Ytddjbchlpfaggaa.SetA Go.Proofs.Ytddjbchlpfaggaa.SetC Go.Proofs.Ytddjbchlpfaggaa.SetD Go.Proofs.Ytddjbchlpfaggaa.SetF Go.Proofs.Ytddjbchlpfaggaa.SetN
set_option linter.unusedVariables false
set_option linter.unusedSimpArgs false
def BoolPost (b : Bool) (w : World) (e : Ending) (w' : World) : Prop := e = .returned (.bool b) ∧ Below w.heap.size w w'
end Go.Proofs.Ytddjbchlpfaggaa.SetQ
namespace Go.Proofs.Ytddjbchlpfaggaa.SynC
open Go.RowKit Go.Lib Go.Proofs Go.Proofs.Ytddjbchlpfaggaa.Plain Go.Proofs.Ytddjbchlpfaggaa.TblB Go.Proofs.Ytddjbchlpfaggaa.TblC Go.Proofs.Ytddjbchlpfaggaa.TblF Go.Proofs.Ytddjbchlpfaggaa.TblV Go.Proofs.Ytddjbchlpfaggaa.TblP Go.Proofs.Ytddjbchlpfaggaa.TblQ Go.Proofs.Ytddjbchlpfaggaa.SetA Go.Proofs.Ytddjbchlpfaggaa.SetC Go.Proofs.Ytddjbchlpfaggaa.SetD Go.Proofs.Ytddjbchlpfaggaa.SetF Go.Proofs.Ytddjbchlpfaggaa.SetN Go.Proofs.Ytddjbchlpfaggaa.SetQ
set_option linter.unusedVariables false
set_option linter.unusedSimpArgs false
section
variable {P : Program} (w : World)
theorem run_append_from (base : Nat) (t ty e : TypeId) (i : TypeInfo) (z : Value) (size bytes : Nat) (ht : P.underlying t = some (.slice e)) (hi : P.info? e = some i) (hz : i.zero = some z)
    (hsize : i.size = size) (hby : i.bytes = bytes) (hzs : z.cells.size = size) (hsz : 0 < size) (v : Value) (n : Nat) (xs : List Value) (hown : w.ownsRow base e size v n xs)
    (A : Option Addr) (m c : Nat) (news : List Value) (hlen : news.length = m * size) (h0 : A = none → m = 0) (hA : ∀ ad, A = some ad → ∀ j u, news[j]? = some u → w.cell? (ad.add j) = some u) (h1 : ∀ u ∈ news, u.oneCell' = true)
    (h63 : n + m ≤ maxLen) (hbytes : (n + m) * bytes ≤ 140737488355328) (hbase : base ≤ w.heap.size) :
    ∃ v' w', (Builtin.append_ #[t, t] ty #[v, .slice A m c]).run P w = .ok v' w' ∧ w'.ownsRow base e size v' (n + m) (xs ++ news) ∧ w.grownBy w' v.ownBlock := by
  cases A with
  | none =>
    have hm := h0 rfl
    subst hm
    have hn : news = [] := List.eq_nil_of_length_eq_zero (by omega)
    subst hn
    refine ⟨v, w, ?_, by simpa using hown, World.grownBy.refl w _⟩
    rcases hown.2 with ⟨rfl, rfl⟩ | ⟨g, cap, cur, rfl, _, _, hnc, _⟩
    · simp [Builtin.append_, run_underlying ht, sizeOf, typeInfo, hi, Builtin.lenOf, Builtin.firstCells]
    · simp [Builtin.append_, run_underlying ht, sizeOf, typeInfo, hi, Builtin.lenOf, Builtin.firstCells, hnc, storeCells]
  | some ad =>
    obtain ⟨v', w', hrun, h2, h3, _⟩ := run_append_own (P := P) w base t ty e i z size bytes ht hi hz hsize hby hzs hsz v n xs hown ad m c news hlen (hA ad rfl) h1 h63 hbytes hbase
    exact ⟨v', w', hrun, h2, h3⟩
end
end Go.Proofs.Ytddjbchlpfaggaa.SynC
namespace Go.Proofs.Ytddjbchlpfaggaa.SetB
open Go.RowKit Go.Lib Go.Proofs Go.Proofs.Ytddjbchlpfaggaa.Plain Go.Proofs.Ytddjbchlpfaggaa.TblB Go.Proofs.Ytddjbchlpfaggaa.TblC Go.Proofs.Ytddjbchlpfaggaa.TblF Go.Proofs.Ytddjbchlpfaggaa.TblV Go.Proofs.Ytddjbchlpfaggaa.TblP Go.Proofs.Ytddjbchlpfaggaa.TblQ Go.Proofs.Ytddjbchlpfaggaa.SetA Go.Proofs.Ytddjbchlpfaggaa.SetC Go.Proofs.Ytddjbchlpfaggaa.SetD Go.Proofs.Ytddjbchlpfaggaa.SetF Go.Proofs.Ytddjbchlpfaggaa.SetN Go.Proofs.Ytddjbchlpfaggaa.SetQ Go.Proofs.Ytddjbchlpfaggaa.SynC
set_option linter.unusedVariables false
set_option linter.unusedSimpArgs false
theorem ret_bool {a b : Bool} (h : a = b) : Ending.returned (.bool a) = .returned (.bool b) := by rw [h]
theorem grew_set (w : World) (a : Addr) (v : Value) : w.grownBy (w.setCell a v) (some a.block) := ⟨rfl, rfl, rfl, by simp [World.setCell], fun k hk hne => Below.heap_setCell _ _ _ _ (fun e => hne (by rw [e]))⟩
theorem still_tail {P : Program} {id : Nat} {Q : Exit → Act → World → Prop} {a : Act} {w : World} {l : List Oper} (n : Nat) (hm : P.follows .mixedOrders = true) (hB : Region.lexTailB .any l.toArray n = true)
    (h : wpStill P l.toArray w.drew (fun a' => wpList P l.toArray Q (l.drop n) a' w.drew) (l.take n) a) : (Code.region id l.toArray true).wp P Q a w := wp_region_still_tail n hm hB h
theorem grew_drewN (w : World) (q : Nat) (row : Option Nat) : w.grownBy (w.drewN q) row := ⟨rfl, rfl, rfl, Nat.le_refl _, fun _ _ _ => rfl⟩
end Go.Proofs.Ytddjbchlpfaggaa.SetB
namespace Go.Proofs.Ytddjbchlpfaggaa.SetJ
open Go.RowKit Go.Lib Go.Proofs Go.Proofs.Ytddjbchlpfaggaa.Plain Go.Proofs.Ytddjbchlpfaggaa.TblB Go.Proofs.Ytddjbchlpfaggaa.TblC Go.Proofs.Ytddjbchlpfaggaa.TblF Go.Proofs.Ytddjbchlpfaggaa.TblV Go.Proofs.Ytddjbchlpfaggaa.TblP Go.Proofs.Ytddjbchlpfaggaa.TblQ Go.Proofs.Ytddjbchlpfaggaa.SetA Go.Proofs.Ytddjbchlpfaggaa.SetC Go.Proofs.Ytddjbchlpfaggaa.SetD Go.Proofs.Ytddjbchlpfaggaa.SetF Go.Proofs.Ytddjbchlpfaggaa.SetN Go.Proofs.Ytddjbchlpfaggaa.SetQ Go.Proofs.Ytddjbchlpfaggaa.SynC Go.Proofs.Ytddjbchlpfaggaa.SetB
set_option linter.unusedVariables false
set_option linter.unusedSimpArgs false
/-- Numbers as cells. -/
def encK (l : List Nat) : List Value := l.map fun n : Nat => Value.int .i64 n
theorem encK_snoc (l : List Nat) (n : Nat) : encK (l ++ [n]) = encK l ++ [.int .i64 n] := by unfold encK; simp
theorem encK_len (l : List Nat) : (encK l).length = l.length := by unfold encK; simp
theorem infoInt : (Try.prog.info? 3).map (fun i => (i.zero, i.size, i.bytes)) = some (some (.int .i64 0), 1, 8) := by kernel_rfl
theorem new_cell1 (w : World) (a : Value) (t : TypeId) : ∀ j u, [a][j]? = some u → (w.alloc (.cells #[a] t)).cell? ((⟨w.heap.size, 0, none⟩ : Addr).add j) = some u := by
  intro j u hu
  have h : (w.alloc (.cells #[a] t)).cell? ⟨w.heap.size, j, none⟩ = #[a][j]? := Lib.cell_of_heap (heap_alloc_new w _) j
  have e : ((⟨w.heap.size, 0, none⟩ : Addr).add j) = ⟨w.heap.size, j, none⟩ := by
    unfold Addr.add
    split
    · rename_i h0; rw [h0]
    · simp
  rw [e, h, ← hu]
  simp
theorem below_own {a w w1 : World} {e : TypeId} {size n : Nat} {v : Value} {xs : List Value} {o : Obj} (hb : Below a.heap.size a w) (hown : w.ownsRow a.heap.size e size v n xs) (hg : (w.alloc o).grownBy w1 v.ownBlock) : Below a.heap.size a w1 :=
  (hb.alloc hb.size o).grown hg (by have := hb.size; simp; omega) (fun k hk => (hown.lt k hk).1)
def ListPost (L : List Nat) (w : World) (e : Ending) (w' : World) : Prop := ∃ v, e = .returned v ∧ w'.ownsRow w.heap.size 3 1 v L.length (encK L) ∧ Below w.heap.size w w'
end Go.Proofs.Ytddjbchlpfaggaa.SetJ
namespace Go.Proofs.Ytddjbchlpfaggaa.SetR
open Go.RowKit Go.Lib Go.Proofs Go.Proofs.Ytddjbchlpfaggaa.Plain Go.Proofs.Ytddjbchlpfaggaa.TblB Go.Proofs.Ytddjbchlpfaggaa.TblC Go.Proofs.Ytddjbchlpfaggaa.TblF Go.Proofs.Ytddjbchlpfaggaa.TblV Go.Proofs.Ytddjbchlpfaggaa.TblP Go.Proofs.Ytddjbchlpfaggaa.TblQ Go.Proofs.Ytddjbchlpfaggaa.SetA Go.Proofs.Ytddjbchlpfaggaa.SetC Go.Proofs.Ytddjbchlpfaggaa.SetD Go.Proofs.Ytddjbchlpfaggaa.SetF Go.Proofs.Ytddjbchlpfaggaa.SetN Go.Proofs.Ytddjbchlpfaggaa.SetQ Go.Proofs.Ytddjbchlpfaggaa.SynC Go.Proofs.Ytddjbchlpfaggaa.SetB Go.Proofs.Ytddjbchlpfaggaa.SetJ
set_option linter.unusedVariables false
set_option linter.unusedSimpArgs false
theorem own_below {w w' : World} {B n : Nat} {e : TypeId} {k : Nat} {v : Value} {xs : List Value} (h : w.ownsRow B e k v n xs) (hb : Below w.heap.size w w') : w'.ownsRow B e k v n xs :=
  h.kept (World.grownBy.mk hb.os hb.tape hb.output hb.size (fun k hk _ => hb.block k hk) : w.grownBy w' none) (by cases hv : v.ownBlock <;> simp)
/-- A slice value that reads as numbers, wherever it lies. -/
def NG (w : World) (A : Option Addr) (L : List Nat) : Prop :=
  0 < L.length → ∃ g o, A = some ⟨g, o, none⟩ ∧ g < w.heap.size ∧ ∀ j, (h : j < L.length) → w.cell? ⟨g, o + j, none⟩ = some (.int .i64 L[j])
theorem NG.below {w w' : World} {A : Option Addr} {L : List Nat} (h : NG w A L) (hb : Below w.heap.size w w') : NG w' A L := fun hp => by
  obtain ⟨g, o, hA, hg, hc⟩ := h hp
  exact ⟨g, o, hA, Nat.lt_of_lt_of_le hg hb.size, fun j hj => (hb.cell (p := ⟨g, o + j, none⟩) hg).trans (hc j hj)⟩
theorem ng_own {w : World} {B : Nat} {v : Value} {L : List Nat} {t : TypeId} (h : w.ownsRow B t 1 v L.length (encK L)) : ∃ A ca, v = .slice A L.length ca ∧ NG w A L := by
  have h0 := h
  rcases h.2 with ⟨rfl, hn⟩ | ⟨g, cap, cur, rfl, hb, hg, _⟩
  · exact ⟨none, 0, by rw [hn], fun hp => by omega⟩
  · refine ⟨_, cap, rfl, fun hp => ⟨g, 0, rfl, (Array.getElem?_eq_some_iff.1 hg).1, fun j hj => ?_⟩⟩
    have k := h0.cells (g := g) rfl j (.int .i64 L[j]) (by unfold encK; simp [List.getElem?_eq_getElem hj])
    have e : ((⟨g, 0, none⟩ : Addr).add j) = ⟨g, j, none⟩ := by unfold Addr.add; split <;> simp_all
    rw [e] at k
    rw [Nat.zero_add]
    exact k
set_option maxHeartbeats 1000000 in
set_option maxRecDepth 100000 in
theorem sameL (A B : Option Addr) (ca cb : Nat) (L : List Nat) (w : World) (hL : L.length ≤ 10000) (hA : NG w A L) (hB : NG w B L) : Calls Try.prog 12 #[.slice A L.length ca, .slice B L.length cb] w (BoolPost true w) := by
  unfold BoolPost
  have HA := Lib.hid hA
  have HB := Lib.hid hB
  clear hA hB
  go_enter Try.func12, Try.ntmps12
  go_wp2_with fail
  go_loopw [13] (fun i wr => ∃ j : Nat, j ≤ L.length ∧ i = .int .i64 j ∧ Below w.heap.size w wr) (fun i _ => L.length - (intOf i).toNat)
  case atStart => exact ⟨0, by omega, rfl, Below.refl _ _⟩
  case round =>
    obtain ⟨j, hj, rfl, hb⟩ := hrel
    by_cases hlt : j < L.length
    · have d1 : decide ((j : Int) < L.length) = true := by simp; omega
      have p0 : (0 : Int) ≤ j := by omega
      have p1 : (j : Int) < L.length := by omega
      obtain ⟨g, o, rfl, hg, hcell⟩ := (HA.out.below hb) (by omega)
      obtain ⟨g2, o2, rfl, hg2, hcell2⟩ := (HB.out.below hb) (by omega)
      have a1 := hcell j hlt
      have a2 := hcell2 j hlt
      have HBk := Lib.hid hb
      clear hcell hcell2 hb
      generalize L[j] = x at *
      have e1 : ((x : Int) != (x : Int)) = false := by simp
      go_wp2_with fail
      go_quiet (fail)
      go_wp2_with fail
      go_roundw
      case rel => exact ⟨j + 1, by omega, by go_num, below_drewN HBk.out _⟩
      case measure => simp [intOf]; omega
    · have d1 : decide ((j : Int) < L.length) = false := by simp; omega
      have HBk := Lib.hid hb
      clear hb
      go_wp2_with fail
      go_ret
      exact ⟨rfl, HBk.out⟩
/-- The block of a row that was appended to: the old one, or one that is new. -/
def Moves (w : World) (b b' : Option Nat) : Prop := b' = b ∨ ∃ g, b' = some g ∧ w.heap.size ≤ g
section
variable {P : Program} (w : World)
theorem wpList_append_at {ops : Array Oper} {rest : List Oper} {o : Oper} {a : Act} {Q : Exit → Act → World → Prop} (hgd : o.guard = none) (s x : Operand) (t : TypeId)
    (ho : o.op = .call { callee := .builtin .append, args := #[s, x], argTypes := #[t, t] })
    (base : Nat) (e : TypeId) (i : TypeInfo) (z : Value) (size bytes : Nat) (ht : P.underlying t = some (.slice e)) (hi : P.info? e = some i) (hz : i.zero = some z)
    (hsize : i.size = size) (hby : i.bytes = bytes) (hzs : z.cells.size = size) (hsz : 0 < size) (v : Value) (n : Nat) (xs : List Value) (hs : a.eval s = v) (hown : w.ownsRow base e size v n xs)
    (ad : Addr) (m c : Nat) (news : List Value) (hx : a.eval x = .slice (some ad) m c) (hlen : news.length = m * size) (hA : ∀ ad', some ad = some ad' → ∀ j u, news[j]? = some u → w.cell? (ad'.add j) = some u) (h1 : ∀ u ∈ news, u.oneCell' = true)
    (h63 : n + m ≤ maxLen) (hbytes : (n + m) * bytes ≤ 140737488355328) (hbase : base ≤ w.heap.size)
    (h : ∀ v' w', w'.ownsRow base e size v' (n + m) (xs ++ news) → w.grownBy w' v.ownBlock → Moves w v.ownBlock v'.ownBlock → wpList P ops Q rest (a.put o.dst v') w') : wpList P ops Q (o :: rest) a w := by
  obtain ⟨v', w', hrun, h2, h3, _, h5⟩ := run_append_own_at (P := P) w base t o.type e i z size bytes ht hi hz hsize hby hzs hsz v n xs hown ad m c news hlen (hA ad rfl) h1 h63 hbytes hbase
  refine Lib.wpList_append_run w hgd s x t t ho v _ hs hx v' w' hrun (h v' w' h2 h3 ?_)
  rcases h5 with h | h
  · exact .inl h
  · exact .inr ⟨_, h, Nat.le_refl _⟩
end
end Go.Proofs.Ytddjbchlpfaggaa.SetR
namespace Go.Proofs.Ytddjbchlpfaggaa.SemA
open Go.RowKit Go.Lib Go.Proofs Go.Proofs.Ytddjbchlpfaggaa.Plain Go.Proofs.Ytddjbchlpfaggaa.TblB Go.Proofs.Ytddjbchlpfaggaa.TblC Go.Proofs.Ytddjbchlpfaggaa.TblF Go.Proofs.Ytddjbchlpfaggaa.TblV Go.Proofs.Ytddjbchlpfaggaa.TblP Go.Proofs.Ytddjbchlpfaggaa.TblQ Go.Proofs.Ytddjbchlpfaggaa.SetA Go.Proofs.Ytddjbchlpfaggaa.SetC Go.Proofs.Ytddjbchlpfaggaa.SetD Go.Proofs.Ytddjbchlpfaggaa.SetF Go.Proofs.Ytddjbchlpfaggaa.SetN Go.Proofs.Ytddjbchlpfaggaa.SetQ Go.Proofs.Ytddjbchlpfaggaa.SynC Go.Proofs.Ytddjbchlpfaggaa.SetB Go.Proofs.Ytddjbchlpfaggaa.SetJ Go.Proofs.Ytddjbchlpfaggaa.SetR
set_option linter.unusedVariables false
set_option linter.unusedSimpArgs false
abbrev Pr := Int × Int
/-- Who is in which role, by rules. -/
inductive Der (K : Nat) (L : List Ru) : Int → Int → Prop
  | mem (u : Ru) : u ∈ L → u.kind = 1 → Der K L u.head u.who
  | incl (u : Ru) (x : Int) : u ∈ L → u.kind = 2 → Der K L u.a x → Der K L u.head x
  | link (u : Ru) (x y : Int) : u ∈ L → u.kind = 3 → Der K L u.a x → Der K L (x * K + u.via) y → Der K L u.head y
  | both (u : Ru) (x : Int) : u ∈ L → u.kind = 4 → Der K L u.a x → Der K L u.b x → Der K L u.head x
theorem Der.mono {K : Nat} {L L' : List Ru} (h : ∀ u ∈ L, u ∈ L') {r x : Int} (d : Der K L r x) : Der K L' r x := by
  induction d with
  | mem u hu hk => exact .mem u (h u hu) hk
  | incl u x hu hk _ ih => exact .incl u x (h u hu) hk ih
  | link u x y hu hk _ _ i1 i2 => exact .link u x y (h u hu) hk i1 i2
  | both u x hu hk _ _ i1 i2 => exact .both u x (h u hu) hk i1 i2
theorem sum_sub {α : Type} [DecidableEq α] (f : α → Nat) : ∀ (l m : List α), l.Nodup → (∀ x ∈ l, x ∈ m) → (l.map f).sum ≤ (m.map f).sum
  | [], m, _, _ => by simp
  | x :: l, m, hn, hs => by
    have hx := hs x (by simp)
    rw [List.nodup_cons] at hn
    have := sum_sub f l (m.erase x) hn.2 fun y hy => by
      have hne : y ≠ x := fun e => hn.1 (e ▸ hy)
      exact (List.mem_erase_of_ne hne).2 (hs y (by simp [hy]))
    have hp := ((List.perm_cons_erase hx).map f).sum_nat
    rw [hp, List.map_cons, List.map_cons, List.sum_cons, List.sum_cons]
    omega
def grid (n P : Nat) : List Pr := (List.range n).flatMap fun r : Nat => (List.range P).map fun x : Nat => ((r : Int), (x : Int))
end Go.Proofs.Ytddjbchlpfaggaa.SemA
namespace Go.Proofs.Ytddjbchlpfaggaa.SemB
open Go.RowKit Go.Lib Go.Proofs Go.Proofs.Ytddjbchlpfaggaa.Plain Go.Proofs.Ytddjbchlpfaggaa.TblB Go.Proofs.Ytddjbchlpfaggaa.TblC Go.Proofs.Ytddjbchlpfaggaa.TblF Go.Proofs.Ytddjbchlpfaggaa.TblV Go.Proofs.Ytddjbchlpfaggaa.TblP Go.Proofs.Ytddjbchlpfaggaa.TblQ Go.Proofs.Ytddjbchlpfaggaa.SetA Go.Proofs.Ytddjbchlpfaggaa.SetC Go.Proofs.Ytddjbchlpfaggaa.SetD Go.Proofs.Ytddjbchlpfaggaa.SetF Go.Proofs.Ytddjbchlpfaggaa.SetN Go.Proofs.Ytddjbchlpfaggaa.SetQ Go.Proofs.Ytddjbchlpfaggaa.SynC Go.Proofs.Ytddjbchlpfaggaa.SetB Go.Proofs.Ytddjbchlpfaggaa.SetJ Go.Proofs.Ytddjbchlpfaggaa.SetR Go.Proofs.Ytddjbchlpfaggaa.SemA
set_option linter.unusedVariables false
set_option linter.unusedSimpArgs false
theorem lt_of {w : World} {g : Nat} {o : Obj} (h : w.heap[g]? = some o) : g < w.heap.size := (Array.getElem?_eq_some_iff.1 h).1
theorem ne_of_type {w : World} {a b : Nat} {x y : Array Value} {t t' : TypeId} {f f' : Nat × Nat} (h : w.heap[a]? = some (.cells x t f)) (h' : w.heap[b]? = some (.cells y t' f')) (hne : t ≠ t') : a ≠ b := by
  rintro rfl
  rw [h] at h'
  injection h' with h'
  injection h' with _ h2
  exact hne h2
theorem own_blk {w : World} {B : Nat} {e : TypeId} {size n : Nat} {v : Value} {xs : List Value} (h : w.ownsRow B e size v n xs) {g : Nat} (hg : v.ownBlock = some g) : B ≤ g ∧ ∃ cur, w.heap[g]? = some (.cells cur e (0, 0)) := by
  rcases h.2 with ⟨rfl, _⟩ | ⟨g', cap, cur, rfl, hB, hh, _⟩
  · simp [Value.ownBlock] at hg
  · simp [Value.ownBlock] at hg
    subst hg
    exact ⟨hB, cur, hh⟩
theorem own_keep {w w' : World} {B : Nat} {e : TypeId} {size n : Nat} {v : Value} {xs : List Value} (h : w.ownsRow B e size v n xs) (hk : ∀ g, v.ownBlock = some g → w'.heap[g]? = w.heap[g]?) : w'.ownsRow B e size v n xs := by
  refine ⟨h.1, ?_⟩
  rcases h.2 with h0 | ⟨g, cap, cur, rfl, hB, hh, hc⟩
  · exact .inl h0
  · exact .inr ⟨g, cap, cur, rfl, hB, (hk g rfl).trans hh, hc⟩
/-- One block was stored into. -/
theorem set_other (w : World) (b i : Nat) (v : Value) {g : Nat} (h : g ≠ b) : (w.setCell ⟨b, i, none⟩ v).heap[g]? = w.heap[g]? := Below.heap_setCell _ _ _ _ (fun e => h (by rw [e]))
end Go.Proofs.Ytddjbchlpfaggaa.SemB
namespace Go.Proofs.Ytddjbchlpfaggaa.SemC
open Go.RowKit Go.Lib Go.Proofs Go.Proofs.Ytddjbchlpfaggaa.Plain Go.Proofs.Ytddjbchlpfaggaa.TblB Go.Proofs.Ytddjbchlpfaggaa.TblC Go.Proofs.Ytddjbchlpfaggaa.TblF Go.Proofs.Ytddjbchlpfaggaa.TblV Go.Proofs.Ytddjbchlpfaggaa.TblP Go.Proofs.Ytddjbchlpfaggaa.TblQ Go.Proofs.Ytddjbchlpfaggaa.SetA Go.Proofs.Ytddjbchlpfaggaa.SetC Go.Proofs.Ytddjbchlpfaggaa.SetD Go.Proofs.Ytddjbchlpfaggaa.SetF Go.Proofs.Ytddjbchlpfaggaa.SetN Go.Proofs.Ytddjbchlpfaggaa.SetQ Go.Proofs.Ytddjbchlpfaggaa.SynC Go.Proofs.Ytddjbchlpfaggaa.SetB Go.Proofs.Ytddjbchlpfaggaa.SetJ Go.Proofs.Ytddjbchlpfaggaa.SetR Go.Proofs.Ytddjbchlpfaggaa.SemA Go.Proofs.Ytddjbchlpfaggaa.SemB
set_option linter.unusedVariables false
set_option linter.unusedSimpArgs false
section
variable {P : Program} (w : World)
/-- append where there is room, to a slice that begins within its block. -/
theorem run_append_room_off (t ty e : TypeId) (i : TypeInfo) (ht : P.underlying t = some (.slice e)) (hi : P.info? e = some i)
    (g o sLen sCap : Nat) (cur : Array Value) (hg : w.heap[g]? = some (.cells cur e (0, 0)))
    (a : Addr) (m c : Nat) (news : List Value) (hl : news.length = m * i.size) (hnews : ∀ j u, news[j]? = some u → w.cell? (a.add j) = some u) (h1 : ∀ u ∈ news, u.oneCell' = true)
    (hroom : sLen + m ≤ sCap) (hfit : o + sLen * i.size + news.length ≤ cur.size) :
    (Builtin.append_ #[t, t] ty #[.slice (some ⟨g, o, none⟩) sLen sCap, .slice (some a) m c]).run P w =
      .ok (.slice (some ⟨g, o, none⟩) (sLen + m) sCap) (w.setRow g (cur.toList.take (o + sLen * i.size) ++ news ++ cur.toList.drop (o + sLen * i.size + news.length)).toArray) := by
  have hf := run_firstCells_some (P := P) w i.size m a m c news hl hnews
  have hst := run_storeCells_at P g (o + sLen * i.size) e news 0 cur w hg (by simpa using hfit) h1
  simp only [Nat.add_zero] at hst
  simp [Builtin.append_, run_underlying ht, sizeOf, typeInfo, hi, Builtin.lenOf, hroom, hf, Addr.add_lit, hst]
end
theorem infoRu : (Try.prog.info? 44).map (fun i => (i.zero, i.size, i.bytes)) = some (some zeroU.val, 6, 48) := by kernel_rfl
theorem add_off (g o j : Nat) : (⟨g, o, none⟩ : Addr).add j = ⟨g, o + j, none⟩ := by
  unfold Addr.add
  split <;> simp_all
theorem mid_two (A B : List Value) (x y : Value) {i : Nat} (h : A.length = i) : (A ++ ([x, y] ++ B))[i]? = some x ∧ (A ++ ([x, y] ++ B))[i + 1]? = some y := by
  subst h
  constructor
  · rw [List.getElem?_append_right (Nat.le_refl _)]; simp
  · rw [List.getElem?_append_right (by omega)]; simp
/-- Blocks of other types stay as they were. -/
def Chg (w w' : World) (ts : List TypeId) : Prop := w.heap.size ≤ w'.heap.size ∧ ∀ (b : Nat) (x : Array Value) (t : TypeId) (f : Nat × Nat), w.heap[b]? = some (.cells x t f) → t ∉ ts → w'.heap[b]? = some (.cells x t f)
theorem Chg.below {w w' : World} (h : Below w.heap.size w w') (ts : List TypeId) : Chg w w' ts := ⟨h.size, fun b x t f hx _ => (h.block b (lt_of hx)).trans hx⟩
theorem Chg.trans {a b c : World} {ts : List TypeId} (h : Chg a b ts) (k : Chg b c ts) : Chg a c ts := ⟨Nat.le_trans h.1 k.1, fun b x t f hx hn => k.2 b x t f (h.2 b x t f hx hn) hn⟩
theorem Chg.more {a b : World} {ts us : List TypeId} (h : Chg a b ts) (hs : ∀ t ∈ ts, t ∈ us) : Chg a b us := ⟨h.1, fun b x t f hx hn => h.2 b x t f hx fun hm => hn (hs t hm)⟩
theorem Chg.set {w : World} {ts : List TypeId} {b i : Nat} {v : Value} {y : Array Value} {t : TypeId} {f : Nat × Nat} (h : w.heap[b]? = some (.cells y t f)) (ht : t ∈ ts) : Chg w (w.setCell ⟨b, i, none⟩ v) ts :=
  ⟨by simp [World.setCell], fun c x t2 f2 hx hn => (set_other w _ _ _ (ne_of_type hx h (fun e => hn (e ▸ ht)))).trans hx⟩
theorem Chg.grown {w w' : World} {ts : List TypeId} {r : Option Nat} (hg : w.grownBy w' r) (h : ∀ g, r = some g → ∃ y t f, w.heap[g]? = some (.cells y t f) ∧ t ∈ ts) : Chg w w' ts :=
  ⟨hg.size, fun b x t f hx hn => (hg.block b (lt_of hx) (fun e => by
    obtain ⟨y, t2, f2, hy, ht⟩ := h b e.symm
    exact ne_of_type hy hx (fun e => hn (e ▸ ht)) rfl)).trans hx⟩
end Go.Proofs.Ytddjbchlpfaggaa.SemC
namespace Go.Proofs.Ytddjbchlpfaggaa.SemD
open Go.RowKit Go.Lib Go.Proofs Go.Proofs.Ytddjbchlpfaggaa.Plain Go.Proofs.Ytddjbchlpfaggaa.TblB Go.Proofs.Ytddjbchlpfaggaa.TblC Go.Proofs.Ytddjbchlpfaggaa.TblF Go.Proofs.Ytddjbchlpfaggaa.TblV Go.Proofs.Ytddjbchlpfaggaa.TblP Go.Proofs.Ytddjbchlpfaggaa.TblQ Go.Proofs.Ytddjbchlpfaggaa.SetA Go.Proofs.Ytddjbchlpfaggaa.SetC Go.Proofs.Ytddjbchlpfaggaa.SetD Go.Proofs.Ytddjbchlpfaggaa.SetF Go.Proofs.Ytddjbchlpfaggaa.SetN Go.Proofs.Ytddjbchlpfaggaa.SetQ Go.Proofs.Ytddjbchlpfaggaa.SynC Go.Proofs.Ytddjbchlpfaggaa.SetB Go.Proofs.Ytddjbchlpfaggaa.SetJ Go.Proofs.Ytddjbchlpfaggaa.SetR Go.Proofs.Ytddjbchlpfaggaa.SemA Go.Proofs.Ytddjbchlpfaggaa.SemB Go.Proofs.Ytddjbchlpfaggaa.SemC
set_option linter.unusedVariables false
set_option linter.unusedSimpArgs false
/-- What a row that was appended to leaves of its old block. -/
def Old (w w' : World) (v : Value) (m : Nat) (e : TypeId) : Prop := ∀ g, v.ownBlock = some g → (∃ cur, w'.heap[g]? = some (.cells cur e (0, 0))) ∧ ∀ j, j < m → w'.cell? ⟨g, j, none⟩ = w.cell? ⟨g, j, none⟩
section
variable {P : Program} (w : World)
theorem run_append_own_k (base : Nat) (t ty e : TypeId) (i : TypeInfo) (z : Value) (size bytes : Nat) (ht : P.underlying t = some (.slice e)) (hi : P.info? e = some i) (hz : i.zero = some z)
    (hsize : i.size = size) (hby : i.bytes = bytes) (hzs : z.cells.size = size) (hsz : 0 < size) (v : Value) (n : Nat) (xs : List Value) (hown : w.ownsRow base e size v n xs)
    (ad : Addr) (m c : Nat) (news : List Value) (hl : news.length = m * size) (hnews : ∀ j u, news[j]? = some u → w.cell? (ad.add j) = some u) (h1 : ∀ u ∈ news, u.oneCell' = true)
    (h63 : n + m ≤ maxLen) (hbytes : (n + m) * bytes ≤ 140737488355328) (hbase : base ≤ w.heap.size) :
    ∃ v' w', (Builtin.append_ #[t, t] ty #[v, .slice (some ad) m c]).run P w = .ok v' w' ∧ w'.ownsRow base e size v' (n + m) (xs ++ news) ∧ w.grownBy w' v.ownBlock ∧ Moves w v.ownBlock v'.ownBlock ∧ Old w w' v (n * size) e := by
  obtain ⟨v', w', hr, h2, h3, _, h5⟩ := run_append_own_at (P := P) w base t ty e i z size bytes ht hi hz hsize hby hzs hsz v n xs hown ad m c news hl hnews h1 h63 hbytes hbase
  have hm : Moves w v.ownBlock v'.ownBlock := by
    rcases h5 with h | h
    · exact .inl h
    · exact .inr ⟨_, h, Nat.le_refl _⟩
  refine ⟨v', w', hr, h2, h3, hm, fun g hg => ?_⟩
  have hx := hown.1
  have hold := hown.cells hg
  rcases hown.2 with ⟨rfl, _⟩ | ⟨g', cap, cur, rfl, hbg, hgg, hnc, hcm, hcs, htake⟩
  · simp [Value.ownBlock] at hg
  simp [Value.ownBlock] at hg
  subst hg
  have hfit : n * i.size + news.length ≤ cur.size ∨ cap < n + m := by
    by_cases hroom : n + m ≤ cap
    · left; rw [hsize, hl, hcs, ← Nat.add_mul]; exact Nat.mul_le_mul_right _ hroom
    · exact .inr (by omega)
  by_cases hroom : n + m ≤ cap
  · have hr2 := run_append_room (P := P) w t ty e i ht hi g' n cap cur hgg ad m c news (by rw [hsize]; exact hl) hnews h1 hroom (by rcases hfit with h | h; exact h; omega)
    rw [hr] at hr2
    injection hr2 with e1 e2
    subst e1
    refine ⟨(own_blk h2 rfl).2, fun j hj => ?_⟩
    have hj2 : j < xs.length := by rw [hx]; exact hj
    have hc2 := h2.cells (g := g') rfl j xs[j] (by rw [List.getElem?_append_left hj2]; exact List.getElem?_eq_getElem hj2)
    have hc1 := hold j xs[j] (List.getElem?_eq_getElem hj2)
    rw [add_off, Nat.zero_add] at hc1 hc2
    rw [hc1, hc2]
  · have holds : ∀ j u, xs[j]? = some u → w.cell? ((⟨g', 0, none⟩ : Addr).add j) = some u := hold
    have hr2 := run_append_grow (P := P) w t ty e i z ht hi hz ⟨g', 0, none⟩ n cap xs (by rw [hsize]; exact hx) holds ad m c news (by rw [hsize]; exact hl) hnews (by omega) (by simp only [maxLen] at h63; omega) (growslice_fits (by omega) (by rw [hby]; exact hbytes))
    rw [hr] at hr2
    injection hr2 with e1 e2
    have hlt := lt_of hgg
    have hh : w'.heap[g']? = w.heap[g']? := by rw [e2]; exact heap_alloc_old w.drew _ hlt
    exact ⟨⟨cur, hh.trans hgg⟩, fun j hj => by rw [Lib.cell_of_heap (hh.trans hgg), Lib.cell_of_heap hgg]⟩
/-- append in a region that draws its order, where the row went, and what it leaves of its old block. -/
theorem step_append_at {ops : Array Oper} {o : Oper} {a : Act} {K : Act → World → Prop} {Q : Exit → Act → World → Prop} {E : Prop} (hgd : o.guard = none) (s x : Operand) (t : TypeId)
    (ho : o.op = .call { callee := .builtin .append, args := #[s, x], argTypes := #[t, t] })
    (base : Nat) (e : TypeId) (i : TypeInfo) (z : Value) (size bytes : Nat) (ht : P.underlying t = some (.slice e)) (hi : P.info? e = some i) (hz : i.zero = some z)
    (hsize : i.size = size) (hby : i.bytes = bytes) (hzs : z.cells.size = size) (hsz : 0 < size) (v : Value) (n : Nat) (xs : List Value) (hs : a.eval s = v) (hown : w.ownsRow base e size v n xs)
    (ad : Addr) (m c : Nat) (news : List Value) (hx : a.eval x = .slice (some ad) m c) (hlen : news.length = m * size) (hA : ∀ j u, news[j]? = some u → w.cell? (ad.add j) = some u) (h1 : ∀ u ∈ news, u.oneCell' = true)
    (h63 : n + m ≤ maxLen) (hbytes : (n + m) * bytes ≤ 140737488355328) (hbase : base ≤ w.heap.size)
    (h : ∀ v' w', w'.ownsRow base e size v' (n + m) (xs ++ news) → w.grownBy w' v.ownBlock → Moves w v.ownBlock v'.ownBlock → Old w w' v (n * size) e → K (a.put o.dst v') w') :
    if Region.wanted o (yielded ops a.tmps) = true then Oper.wp P o a w K Q else E := by
  have hw : Region.wanted o (yielded ops a.tmps) = true := by simp [Region.wanted, hgd]
  rw [if_pos hw]
  obtain ⟨v', w', hr, h2, h3, h4, h5⟩ := run_append_own_k (P := P) w base t o.type e i z size bytes ht hi hz hsize hby hzs hsz v n xs hown ad m c news hlen hA h1 h63 hbytes hbase
  unfold Oper.wp execOp
  simp only [ho, resolve, invoke, builtin, Sem.run_bind, Sem.run_pure, Result.andThen_ok, List.map_toArray, List.map_cons, List.map_nil, hs, hx, hr]
  exact h v' w' h2 h3 h4 h5
end
theorem one6 (u : Ru) : ∀ x ∈ u.cells.toList, x.oneCell' = true := fun x hx => by
  simp [Ru.cells] at hx
  rcases hx with rfl | rfl | rfl | rfl | rfl | rfl <;> rfl
theorem own_drew {w : World} {B : Nat} {e : TypeId} {size n : Nat} {v : Value} {xs : List Value} (h : w.ownsRow B e size v n xs) : w.drew.ownsRow B e size v n xs := h
end Go.Proofs.Ytddjbchlpfaggaa.SemD
namespace Go.Proofs.Ytddjbchlpfaggaa.SemH
end Go.Proofs.Ytddjbchlpfaggaa.SemH
namespace Go.Proofs.Ytddjbchlpfaggaa.SemI
open Go.RowKit Go.Lib Go.Proofs Go.Proofs.Ytddjbchlpfaggaa.Plain Go.Proofs.Ytddjbchlpfaggaa.TblB Go.Proofs.Ytddjbchlpfaggaa.TblC Go.Proofs.Ytddjbchlpfaggaa.TblF Go.Proofs.Ytddjbchlpfaggaa.TblV Go.Proofs.Ytddjbchlpfaggaa.TblP Go.Proofs.Ytddjbchlpfaggaa.TblQ Go.Proofs.Ytddjbchlpfaggaa.SetA Go.Proofs.Ytddjbchlpfaggaa.SetC Go.Proofs.Ytddjbchlpfaggaa.SetD Go.Proofs.Ytddjbchlpfaggaa.SetF Go.Proofs.Ytddjbchlpfaggaa.SetN Go.Proofs.Ytddjbchlpfaggaa.SetQ Go.Proofs.Ytddjbchlpfaggaa.SynC Go.Proofs.Ytddjbchlpfaggaa.SetB Go.Proofs.Ytddjbchlpfaggaa.SetJ Go.Proofs.Ytddjbchlpfaggaa.SetR Go.Proofs.Ytddjbchlpfaggaa.SemA Go.Proofs.Ytddjbchlpfaggaa.SemB Go.Proofs.Ytddjbchlpfaggaa.SemC Go.Proofs.Ytddjbchlpfaggaa.SemD Go.Proofs.Ytddjbchlpfaggaa.SemH
set_option linter.unusedVariables false
set_option linter.unusedSimpArgs false
theorem nx {W w1 w2 : World} (h : Below W.heap.size W w1) (hb : Below w1.heap.size w1 w2) : Below W.heap.size W w2 := h.trans (hb.mono h.size)
end Go.Proofs.Ytddjbchlpfaggaa.SemI
namespace Go.Proofs.Ytddjbchlpfaggaa.SemJ
open Go.RowKit Go.Lib Go.Proofs Go.Proofs.Ytddjbchlpfaggaa.Plain Go.Proofs.Ytddjbchlpfaggaa.TblB Go.Proofs.Ytddjbchlpfaggaa.TblC Go.Proofs.Ytddjbchlpfaggaa.TblF Go.Proofs.Ytddjbchlpfaggaa.TblV Go.Proofs.Ytddjbchlpfaggaa.TblP Go.Proofs.Ytddjbchlpfaggaa.TblQ Go.Proofs.Ytddjbchlpfaggaa.SetA Go.Proofs.Ytddjbchlpfaggaa.SetC Go.Proofs.Ytddjbchlpfaggaa.SetD Go.Proofs.Ytddjbchlpfaggaa.SetF Go.Proofs.Ytddjbchlpfaggaa.SetN Go.Proofs.Ytddjbchlpfaggaa.SetQ Go.Proofs.Ytddjbchlpfaggaa.SynC Go.Proofs.Ytddjbchlpfaggaa.SetB Go.Proofs.Ytddjbchlpfaggaa.SetJ Go.Proofs.Ytddjbchlpfaggaa.SetR Go.Proofs.Ytddjbchlpfaggaa.SemA Go.Proofs.Ytddjbchlpfaggaa.SemB Go.Proofs.Ytddjbchlpfaggaa.SemC Go.Proofs.Ytddjbchlpfaggaa.SemD Go.Proofs.Ytddjbchlpfaggaa.SemH Go.Proofs.Ytddjbchlpfaggaa.SemI
set_option linter.unusedVariables false
set_option linter.unusedSimpArgs false
theorem wrapN {a b c : Nat} (h : a * b = c) (hc : c < 9223372036854775808) : IntKind.i64.wrap ((a : Int) * (b : Int)) = (c : Int) := by
  rw [← Int.natCast_mul, h, IntKind.wrap_i64]
  omega
/-- The document's example: rules, and who is in which role. -/
def ex1 : Ru := ⟨2, 0, 0, 3, 0, 0⟩
def ex2 : Ru := ⟨1, 3, 2, 0, 0, 0⟩
theorem ex_right : [ex1, ex2].filter (rightU 3 2) = [ex1, ex2] := by decide +kernel
theorem ex_der {r x : Int} : Der 2 [ex1, ex2] r x ↔ (r = 0 ∧ x = 2) ∨ (r = 3 ∧ x = 2) := by
  have h3 : Der 2 [ex1, ex2] 3 2 := Der.mem ex2 (by simp) rfl
  constructor
  · intro d
    induction d with
    | mem u hu hk =>
      simp at hu
      rcases hu with rfl | rfl
      · exact absurd hk (by decide)
      · exact .inr ⟨rfl, rfl⟩
    | incl u x hu hk _ ih =>
      simp at hu
      rcases hu with rfl | rfl
      · rcases ih with ⟨h, _⟩ | ⟨_, h⟩
        · exact absurd h (by decide)
        · exact .inl ⟨rfl, h⟩
      · exact absurd hk (by decide)
    | link u x y hu hk _ _ _ _ =>
      simp at hu
      rcases hu with rfl | rfl <;> exact absurd hk (by decide)
    | both u x hu hk _ _ _ _ =>
      simp at hu
      rcases hu with rfl | rfl <;> exact absurd hk (by decide)
  · rintro (⟨rfl, rfl⟩ | ⟨rfl, rfl⟩)
    · exact Der.incl ex1 2 (by simp) rfl h3
    · exact h3
end Go.Proofs.Ytddjbchlpfaggaa.SemJ
namespace Go.Proofs.Ytddjbchlpfaggaa.SemK
open Go.RowKit Go.Lib Go.Proofs Go.Proofs.Ytddjbchlpfaggaa.Plain Go.Proofs.Ytddjbchlpfaggaa.TblB Go.Proofs.Ytddjbchlpfaggaa.TblC Go.Proofs.Ytddjbchlpfaggaa.TblF Go.Proofs.Ytddjbchlpfaggaa.TblV Go.Proofs.Ytddjbchlpfaggaa.TblP Go.Proofs.Ytddjbchlpfaggaa.TblQ Go.Proofs.Ytddjbchlpfaggaa.SetA Go.Proofs.Ytddjbchlpfaggaa.SetC Go.Proofs.Ytddjbchlpfaggaa.SetD Go.Proofs.Ytddjbchlpfaggaa.SetF Go.Proofs.Ytddjbchlpfaggaa.SetN Go.Proofs.Ytddjbchlpfaggaa.SetQ Go.Proofs.Ytddjbchlpfaggaa.SynC Go.Proofs.Ytddjbchlpfaggaa.SetB Go.Proofs.Ytddjbchlpfaggaa.SetJ Go.Proofs.Ytddjbchlpfaggaa.SetR Go.Proofs.Ytddjbchlpfaggaa.SemA Go.Proofs.Ytddjbchlpfaggaa.SemB Go.Proofs.Ytddjbchlpfaggaa.SemC Go.Proofs.Ytddjbchlpfaggaa.SemD Go.Proofs.Ytddjbchlpfaggaa.SemH Go.Proofs.Ytddjbchlpfaggaa.SemI Go.Proofs.Ytddjbchlpfaggaa.SemJ
set_option linter.unusedVariables false
set_option linter.unusedSimpArgs false
theorem ex_ug (w : World) : UG (w.alloc (.cells #[.int .i64 2, .int .i64 0, .int .i64 0, .int .i64 3, .int .i64 0, .int .i64 0, .int .i64 1, .int .i64 3, .int .i64 2, .int .i64 0, .int .i64 0, .int .i64 0] 44)) (some ⟨w.heap.size, 0, none⟩) [ex1, ex2] := fun _ => by
  have hb := heap_alloc_new w (.cells #[.int .i64 2, .int .i64 0, .int .i64 0, .int .i64 3, .int .i64 0, .int .i64 0, .int .i64 1, .int .i64 3, .int .i64 2, .int .i64 0, .int .i64 0, .int .i64 0] 44)
  refine ⟨w.heap.size, 0, rfl, lt_of hb, fun j hj k hk => ?_⟩
  rw [Lib.cell_of_heap hb]
  have hj2 : j = 0 ∨ j = 1 := by simp at hj; omega
  rcases hj2 with rfl | rfl
  · match k, hk with
    | 0, _ => rfl
    | 1, _ => rfl
    | 2, _ => rfl
    | 3, _ => rfl
    | 4, _ => rfl
    | 5, _ => rfl
  · match k, hk with
    | 0, _ => rfl
    | 1, _ => rfl
    | 2, _ => rfl
    | 3, _ => rfl
    | 4, _ => rfl
    | 5, _ => rfl
theorem bw (w : World) (q : Nat) : Below w.heap.size w (w.drewN q) := below_drewN (Below.refl _ w) q
end Go.Proofs.Ytddjbchlpfaggaa.SemK
namespace Go.Proofs.Ytddjbchlpfaggaa.SemSw
open Go.RowKit Go.Lib Go.Proofs Go.Proofs.Ytddjbchlpfaggaa.Plain Go.Proofs.Ytddjbchlpfaggaa.TblB Go.Proofs.Ytddjbchlpfaggaa.TblC Go.Proofs.Ytddjbchlpfaggaa.TblF Go.Proofs.Ytddjbchlpfaggaa.TblV Go.Proofs.Ytddjbchlpfaggaa.TblP Go.Proofs.Ytddjbchlpfaggaa.TblQ Go.Proofs.Ytddjbchlpfaggaa.SetA Go.Proofs.Ytddjbchlpfaggaa.SetC Go.Proofs.Ytddjbchlpfaggaa.SetD Go.Proofs.Ytddjbchlpfaggaa.SetF Go.Proofs.Ytddjbchlpfaggaa.SetN Go.Proofs.Ytddjbchlpfaggaa.SetQ Go.Proofs.Ytddjbchlpfaggaa.SynC Go.Proofs.Ytddjbchlpfaggaa.SetB Go.Proofs.Ytddjbchlpfaggaa.SetJ Go.Proofs.Ytddjbchlpfaggaa.SetR Go.Proofs.Ytddjbchlpfaggaa.SemA Go.Proofs.Ytddjbchlpfaggaa.SemB Go.Proofs.Ytddjbchlpfaggaa.SemC Go.Proofs.Ytddjbchlpfaggaa.SemD Go.Proofs.Ytddjbchlpfaggaa.SemH Go.Proofs.Ytddjbchlpfaggaa.SemI Go.Proofs.Ytddjbchlpfaggaa.SemJ Go.Proofs.Ytddjbchlpfaggaa.SemK
set_option linter.unusedVariables false
set_option linter.unusedSimpArgs false
def smallB (p k : Int) (n : Nat) : Bool := decide (p ≤ 10) && (decide (k ≤ 6) && decide (n ≤ 60))
set_option maxRecDepth 100000 in
theorem small (p k : Int) (A : Option Addr) (ca : Nat) (n : Nat) (hn : n ≤ 9223372036854775807) (w : World) : Calls Try.prog 6 #[.int .i64 p, .int .i64 k, .slice A n ca] w fun e w' => e = .returned (.bool (smallB p k n)) ∧ w = w' := by
  unfold smallB
  by_cases h1 : p ≤ 10
  · rw [decide_eq_true h1, Bool.true_and]
    by_cases h2 : k ≤ 6
    · rw [decide_eq_true h2, Bool.true_and]
      by_cases h3 : n ≤ 60
      · rw [decide_eq_true h3]
        have e3 : decide ((n : Int) ≤ 60) = true := by simp; omega
        go_enter Try.func6, Try.ntmps6
        go_wp2_with fail
        go_ret
        exact ⟨rfl, rfl⟩
      · rw [decide_eq_false h3]
        have e3 : decide ((n : Int) ≤ 60) = false := by simp; omega
        go_enter Try.func6, Try.ntmps6
        go_wp2_with fail
        go_ret
        exact ⟨rfl, rfl⟩
    · rw [decide_eq_false h2, Bool.false_and]
      have e2 : decide (k ≤ 6) = false := decide_eq_false h2
      go_enter Try.func6, Try.ntmps6
      go_wp2_with fail
      go_ret
      exact ⟨rfl, rfl⟩
  · rw [decide_eq_false h1, Bool.false_and]
    have e1 : decide (p ≤ 10) = false := decide_eq_false h1
    go_enter Try.func6, Try.ntmps6
    go_wp2_with fail
    go_ret
    exact ⟨rfl, rfl⟩
theorem dims_box (w : World) (d0 d1 : Int) : Below w.heap.size w (w.alloc (.cells #[.int .i64 d0, .int .i64 d1] 22)) ∧ ∀ o, (w.alloc (.cells #[.int .i64 d0, .int .i64 d1] 22)).cell? ⟨w.heap.size, o, none⟩ = (#[.int .i64 d0, .int .i64 d1] : Array Value)[o]? :=
  ⟨(Below.refl _ _).alloc (Nat.le_refl _) _, fun o => Lib.cell_of_heap (heap_alloc_new w _) o⟩
end Go.Proofs.Ytddjbchlpfaggaa.SemSw
namespace Go.Proofs.Ytddjbchlpfaggaa.SemGa
open Go.RowKit Go.Lib Go.Proofs Go.Proofs.Ytddjbchlpfaggaa.Plain Go.Proofs.Ytddjbchlpfaggaa.TblB Go.Proofs.Ytddjbchlpfaggaa.TblC Go.Proofs.Ytddjbchlpfaggaa.TblF Go.Proofs.Ytddjbchlpfaggaa.TblV Go.Proofs.Ytddjbchlpfaggaa.TblP Go.Proofs.Ytddjbchlpfaggaa.TblQ Go.Proofs.Ytddjbchlpfaggaa.SetA Go.Proofs.Ytddjbchlpfaggaa.SetC Go.Proofs.Ytddjbchlpfaggaa.SetD Go.Proofs.Ytddjbchlpfaggaa.SetF Go.Proofs.Ytddjbchlpfaggaa.SetN Go.Proofs.Ytddjbchlpfaggaa.SetQ Go.Proofs.Ytddjbchlpfaggaa.SynC Go.Proofs.Ytddjbchlpfaggaa.SetB Go.Proofs.Ytddjbchlpfaggaa.SetJ Go.Proofs.Ytddjbchlpfaggaa.SetR Go.Proofs.Ytddjbchlpfaggaa.SemA Go.Proofs.Ytddjbchlpfaggaa.SemB Go.Proofs.Ytddjbchlpfaggaa.SemC Go.Proofs.Ytddjbchlpfaggaa.SemD Go.Proofs.Ytddjbchlpfaggaa.SemH Go.Proofs.Ytddjbchlpfaggaa.SemI Go.Proofs.Ytddjbchlpfaggaa.SemJ Go.Proofs.Ytddjbchlpfaggaa.SemK Go.Proofs.Ytddjbchlpfaggaa.SemSw
set_option linter.unusedVariables false
set_option linter.unusedSimpArgs false
section
variable {P : Program} (w : World)
theorem step_append_from {ops : Array Oper} {o : Oper} {a : Act} {K : Act → World → Prop} {Q : Exit → Act → World → Prop} {E : Prop} (hgd : o.guard = none) (s x : Operand) (t : TypeId)
    (ho : o.op = .call { callee := .builtin .append, args := #[s, x], argTypes := #[t, t] })
    (base : Nat) (e : TypeId) (i : TypeInfo) (z : Value) (size bytes : Nat) (ht : P.underlying t = some (.slice e)) (hi : P.info? e = some i) (hz : i.zero = some z)
    (hsize : i.size = size) (hby : i.bytes = bytes) (hzs : z.cells.size = size) (hsz : 0 < size) (v : Value) (n : Nat) (xs : List Value) (hs : a.eval s = v) (hown : w.ownsRow base e size v n xs)
    (A : Option Addr) (m c : Nat) (news : List Value) (hx : a.eval x = .slice A m c) (hlen : news.length = m * size) (h0 : A = none → m = 0) (hA : ∀ ad, A = some ad → ∀ j u, news[j]? = some u → w.cell? (ad.add j) = some u) (h1 : ∀ u ∈ news, u.oneCell' = true)
    (h63 : n + m ≤ maxLen) (hbytes : (n + m) * bytes ≤ 140737488355328) (hbase : base ≤ w.heap.size)
    (h : ∀ v' w', w'.ownsRow base e size v' (n + m) (xs ++ news) → w.grownBy w' v.ownBlock → K (a.put o.dst v') w') :
    if Region.wanted o (yielded ops a.tmps) = true then Oper.wp P o a w K Q else E := by
  have hw : Region.wanted o (yielded ops a.tmps) = true := by simp [Region.wanted, hgd]
  rw [if_pos hw]
  obtain ⟨v', w', hr, h2, h3⟩ := SynC.run_append_from (P := P) w base t o.type e i z size bytes ht hi hz hsize hby hzs hsz v n xs hown A m c news hlen h0 hA h1 h63 hbytes hbase
  unfold Oper.wp execOp
  simp only [ho, resolve, invoke, builtin, Sem.run_bind, Sem.run_pure, Result.andThen_ok, List.map_toArray, List.map_cons, List.map_nil, hs, hx, hr]
  exact h v' w' h2 h3
end
theorem own_n {w : World} {B n k : Nat} {e : TypeId} {v : Value} {xs : List Value} (h : w.ownsRow B e k v n xs) : ∃ A c, v = .slice A n c := by
  rcases h.2 with ⟨rfl, rfl⟩ | ⟨g, cap, cur, rfl, _⟩
  · exact ⟨none, 0, rfl⟩
  · exact ⟨_, cap, rfl⟩
theorem below_grown {W w w1 : World} {B n k : Nat} {e : TypeId} {v : Value} {xs : List Value} (hb : Below W.heap.size W w) (ho : w.ownsRow B e k v n xs) (hg : w.grownBy w1 v.ownBlock) (hB : W.heap.size ≤ B) (hBw : B ≤ w.heap.size) : Below W.heap.size W w1 :=
  hb.grown hg (by omega) (fun j hj => Nat.le_trans hB (ho.lt j hj).1)
noncomputable def derB (P K : Nat) (T : List Ru) (r x : Int) : Bool := @decide (Der K (T.filter (rightU P K)) r x) (Classical.propDecidable _)
theorem derB_iff {P K : Nat} {T : List Ru} {r x : Int} : derB P K T r x = true ↔ Der K (T.filter (rightU P K)) r x := @decide_eq_true_iff _ (Classical.propDecidable _)
noncomputable def memD (P K : Nat) (T : List Ru) (r : Int) : List Nat := (List.range P).filter fun x : Nat => derB P K T r (x : Int)
theorem mem_memD {P K : Nat} {T : List Ru} {r : Int} {x : Nat} : x ∈ memD P K T r ↔ x < P ∧ Der K (T.filter (rightU P K)) r (x : Int) := by
  unfold memD
  rw [List.mem_filter, List.mem_range, derB_iff]
theorem memD_len (P K : Nat) (T : List Ru) (r : Int) : (memD P K T r).length ≤ P := by
  unfold memD
  exact Nat.le_trans (List.length_filter_le _ _) (Nat.le_of_eq (List.length_range))
end Go.Proofs.Ytddjbchlpfaggaa.SemGa
