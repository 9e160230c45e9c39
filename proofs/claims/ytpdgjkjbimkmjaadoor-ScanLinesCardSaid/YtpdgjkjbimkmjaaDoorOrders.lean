/- A region that draws its order, within a round: each order that may come up, as a list. -/
import Derived.OrdersIn
import Derived.TacticsIn
namespace Go.Proofs.YtpdgjkjbimkmjaaDoor.Orders
def orders (md : Region.Mode) (ops : Array Oper) : Nat → Array Bool → List (List Nat)
  | 0, _ => [[]]
  | fuel + 1, listed => match Region.ready md ops listed with
    | [] => [[]]
    | rs => rs.flatMap fun i => (orders md ops fuel (listed.setIfInBounds i true)).map (i :: ·)
theorem go_mem {md : Region.Mode} {ops : Array Oper} : ∀ (fuel t : Nat) (listed : Array Bool), Region.linearise.go md ops fuel t listed [] ∈ orders md ops fuel listed := by
  intro fuel
  induction fuel with
  | zero => intro t listed; simp [Region.linearise.go, orders]
  | succ fuel ih =>
    intro t listed
    rw [show Region.linearise.go md ops (fuel + 1) t listed [] = (match (Region.ready md ops listed)[t % (Region.ready md ops listed).length]? with
      | some i => Region.linearise.go md ops fuel (t / (Region.ready md ops listed).length) (listed.setIfInBounds i true) [i]
      | none => [].reverse) from by simp only [Region.linearise.go]; rfl]
    unfold orders
    generalize Region.ready md ops listed = rs
    cases rs with
    | nil => simp
    | cons x xs =>
      have hlt : t % (x :: xs).length < (x :: xs).length := Nat.mod_lt _ (by simp)
      rw [List.getElem?_eq_getElem hlt]
      simp only []
      rw [linearise_go_acc, List.reverse_singleton, List.singleton_append, List.mem_flatMap]
      exact ⟨_, List.getElem_mem hlt, List.mem_map.2 ⟨_, ih _ _, rfl⟩⟩
theorem wpIn_region_orders {F : Fence} {n : Nat} {P : Program} {id : Nat} {ops : Array Oper} {Q : Exit → Act → World → Prop} {a : Act} {w : World} (hm : P.follows .mixedOrders = true) (L : List (List Nat))
    (hL : orders .any ops ops.size (Array.replicate ops.size false) = L) (h : ∀ l ∈ L, wpListIn F n P ops Q (l.filterMap fun i => ops[i]?) a w.drew) : (Code.region id ops true).wpIn F n P Q a w := by
  have hl : ∀ (l : List Nat), wpOpsIn F n P ops Q l = wpListIn F n P ops Q (l.filterMap fun i => ops[i]?) := by
    intro l
    induction l with
    | nil => rfl
    | cons i l ih =>
      funext a w
      rw [wpOpsIn_cons, ih]
      unfold wpOpIn
      cases e : ops[i]? with
      | none => rw [List.filterMap_cons_none e]
      | some o => rw [List.filterMap_cons_some e]; rfl
  refine wpIn_region_draw fun t => ?_
  simp only [Region.schedule, hm, Bool.true_or, if_true]
  rw [hl]
  exact h _ (hL ▸ go_mem _ _ _)
end Go.Proofs.YtpdgjkjbimkmjaaDoor.Orders
