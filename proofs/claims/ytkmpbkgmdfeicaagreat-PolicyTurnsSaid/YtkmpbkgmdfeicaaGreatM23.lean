/- policy.SortRoles, by contract. -/
import Derived.Test.YtkmpbkgmdfeicaaGreatM22
import Derived.Test.YtkmpbkgmdfeicaaGreatPolS
import Derived.Shelf.SlSortCmp.NoneTotal
import Derived.Test.YtkmpbkgmdfeicaaGreatM11
import Derived.Test.YtkmpbkgmdfeicaaGreatM05
import Derived.Shelf.SlSortCmp.WholeK
import Derived.Test.YtkmpbkgmdfeicaaGreatShelf
namespace Go.Proofs.YtkmpbkgmdfeicaaGreat.PolD
set_option linter.unusedVariables false
set_option linter.unusedSimpArgs false
open Go.Shelf Go.RowKit Go.Sort Go.Lib Go.Proofs Go.Proofs.YtkmpbkgmdfeicaaGreat.Plain Go.Proofs.YtkmpbkgmdfeicaaGreat.SynP Go.Proofs.YtkmpbkgmdfeicaaGreat.Grown Go.Proofs.YtkmpbkgmdfeicaaGreat.SynD Go.Proofs.YtkmpbkgmdfeicaaGreat.SynJ Go.Proofs.YtkmpbkgmdfeicaaGreat.PolA Go.Proofs.YtkmpbkgmdfeicaaGreat.PolB Go.Proofs.YtkmpbkgmdfeicaaGreat.PolC Go.Proofs.YtkmpbkgmdfeicaaGreat.PolS
set_option linter.unusedVariables false
set_option linter.unusedSimpArgs false
theorem sortR (blk off cap : Nat) (d : Array Rl) (w : World) (hH : HoldsK Rl.cells 2 w blk off d) (hblk : blk < w.heap.size) (hsz : d.size < 4611686018427387904) :
    Calls Tryz.prog 99 #[.slice (some ⟨blk, off, none⟩) d.size cap, .func (.func 100) #[] #[]] w fun e w' =>
      e = .returned (.tuple #[]) ∧ ∃ d' n os, PermIn 0 d.size d d' ∧ SortedIn (ltOf cmpR) 0 d.size d' ∧ w' = sortWorldK Rl.cells 2 w blk off n d' os :=
  AnyQ.slices_SortFunc laidSort 2 Tryz.isAgg44 Tryz.sizeOf44 Rl.cells (fun _ => rfl) (fun x v hv => by simp [Rl.cells] at hv; rcases hv with rfl | rfl <;> rfl) cmpR swo_R 100 #[] blk off cap d w (enters_of Tryz.func100 (by kernel_rfl) rfl) (cmpLaysR blk off d.size w) hH hblk hsz
set_option maxHeartbeats 1000000 in
theorem compNone (a : Option Addr) (cap : Nat) (w : World) : Calls Tryz.prog 101 #[.slice a 0 cap] w fun e w' => e = .returned (.slice a 0 cap) ∧ w' = w := by
  go_enter Tryz.func101, Tryz.ntmps101
  go_wp2_with fail
  go_ret
  exact ⟨rfl, rfl⟩
theorem below_sortK {w : World} {g off n : Nat} {d : Array Rl} {os : Array Obj} (hg : g < w.heap.size) : Below g w (sortWorldK Rl.cells 2 w g off n d os) :=
  ⟨rfl, rfl, rfl, size_sortWorldK_c Rl.cells 2 w g off n d os, fun k hk => by
    unfold sortWorldK
    rw [heap_grow_old _ _ (by rw [size_putRowK]; exact Nat.lt_trans hk hg)]
    unfold putRowK putRow mapBlock
    show (Array.modify (Sort.ahead w n).heap g _)[k]? = _
    rw [Array.getElem?_modify, if_neg (by omega)]; rfl⟩
def sortRl (L : List Rl) : List Rl := sortL cmpR [] L
def SortRPost (L : List Rl) (w : World) (e : Ending) (w' : World) : Prop := ∃ A c, e = .returned (.slice A (sortRl L).length c) ∧ RG w' A (sortRl L) ∧ Below w.heap.size w w'
set_option maxHeartbeats 1000000 in
set_option maxRecDepth 100000 in
theorem sortRoles (A : Option Addr) (ca : Nat) (L : List Rl) (w : World) (hL : L.length ≤ 1000) (hA : RG w A L) : Calls Tryz.prog 57 #[.slice A L.length ca] w (SortRPost L w) := by
  unfold SortRPost sortRl
  go_enter Tryz.func57, Tryz.ntmps57
  go_wp2_with fail
  refine (cloneR A ca L w (by omega) hA).mono ?_
  rintro e w1 ⟨v, rfl, hown, hb1⟩
  rcases rholds_own hown with ⟨rfl, rfl⟩ | ⟨g, cap, rfl, hc, hB, hg, hH⟩
  · clear hown
    go_wp2_with fail
    refine (AnyF.slices_SortFunc_none laidSort none 0 (.func (.func 100) #[] #[]) w1).mono ?_
    rintro e w2 ⟨rfl, rfl⟩
    go_wp2_with fail
    refine (compNone none 0 _).mono ?_
    rintro e w3 ⟨rfl, rfl⟩
    go_wp2_with fail
    go_ret
    exact ⟨none, 0, rfl, (fun h => by simp [sortL] at h), hb1⟩
  · clear hown
    have HS := Lib.hid (sortR g 0 cap L.toArray w1 hH hg (by simp; omega))
    have HH := Lib.hid hH
    clear hH hA
    go_wp2_with fail
    refine (HS.out).mono ?_
    rintro e w2 ⟨rfl, d', n, os, hp, hs, hw2⟩
    have hz : d'.size = L.length := hp.1.trans (by simp)
    have hH2 : HoldsK Rl.cells 2 w2 g 0 d' := by rw [hw2]; exact holdsK_sortWorldK_c Rl.cells 2 w1 g 0 L.toArray d' n os HH.out hg (by rw [hz]; simp)
    have hb2 : Below g w1 w2 := by rw [hw2]; exact below_sortK hg
    have hgg : g < w2.heap.size := Nat.lt_of_lt_of_le hg (by rw [hw2]; exact size_sortWorldK_c Rl.cells 2 w1 g 0 n d' os)
    have HU := Lib.hid (sorted_upR hp hs)
    have HC := Lib.hid (compSt g cap d' w2 hH2 hgg (by omega) (by omega))
    rw [hz] at HC
    clear hw2 hp hs hH2
    go_wp2_with fail
    refine (HC.out).mono ?_
    rintro e w3 ⟨rfl, hrow, hb3, hz3⟩
    have E : compactUpTo d' L.length = sortL cmpR [] L := by rw [← hz]; exact HU.out
    have hrow' : RAt w3 (some ⟨g, 0, none⟩) (sortL cmpR [] L) := HU.out ▸ hrow
    have HE := Lib.hid E
    clear E
    go_wp2_with fail
    go_ret
    exact ⟨some ⟨g, 0, none⟩, cap, by rw [← HE.out]; rfl, RG.of_rat hrow', hb1.trans ((hb2.trans (hb3.mono (Nat.le_refl _))).mono hB)⟩
end Go.Proofs.YtkmpbkgmdfeicaaGreat.PolD
/- The library's sort, at statements. -/
namespace Go.Proofs.YtkmpbkgmdfeicaaGreat.SynD4
set_option linter.unusedVariables false
set_option linter.unusedSimpArgs false
open Go.RowKit Go.Sort Go.Proofs Go.Proofs.YtkmpbkgmdfeicaaGreat.Plain Go.Proofs.YtkmpbkgmdfeicaaGreat.SynP Go.Proofs.YtkmpbkgmdfeicaaGreat.Grown Go.Proofs.YtkmpbkgmdfeicaaGreat.SynD2 Go.Proofs.YtkmpbkgmdfeicaaGreat.SynD3 Go.Proofs.YtkmpbkgmdfeicaaGreat.SynD
theorem cmpLays (blk off size : Nat) (w : World) : CmpLays Tryz.prog 96 #[] St.cells 9 cmpS blk off size w := fun m os dk _ x y =>
  (Syn3.order x y (sortWorldK St.cells 9 w blk off m dk os)).mono fun _ _ ⟨he, hg⟩ => ⟨he, by
    obtain ⟨⟨q, os'⟩, rfl⟩ := hg
    exact ⟨q, os', rfl⟩⟩
end Go.Proofs.YtkmpbkgmdfeicaaGreat.SynD4
