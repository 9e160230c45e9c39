/- syn.Sort, by contract. -/
import Derived.Test.YtofhiolmaojihaaSynD6
import Derived.Test.YtofhiolmaojihaaSynD8
import Derived.Shelf.SlSortCmp.NoneTotal
namespace Go.Proofs.Ytofhiolmaojihaa.SynD9
open Go.Shelf Go.RowKit Go.Sort Go.Lib Go.Proofs Go.Proofs.Ytofhiolmaojihaa.Plain Go.Proofs.Ytofhiolmaojihaa.SynP Go.Proofs.Ytofhiolmaojihaa.Grown Go.Proofs.Ytofhiolmaojihaa.SynE Go.Proofs.Ytofhiolmaojihaa.SynD Go.Proofs.Ytofhiolmaojihaa.SynD2 Go.Proofs.Ytofhiolmaojihaa.SynD3 Go.Proofs.Ytofhiolmaojihaa.SynD5 Go.Proofs.Ytofhiolmaojihaa.SynD6 Go.Proofs.Ytofhiolmaojihaa.SynD7 Go.Proofs.Ytofhiolmaojihaa.SynD8
set_option linter.unusedVariables false
set_option linter.unusedSimpArgs false
set_option maxHeartbeats 1000000 in
theorem compNone (a : Option Addr) (cap : Nat) (w : World) : Calls Try.prog 44 #[.slice a 0 cap] w fun e w' => e = .returned (.slice a 0 cap) ∧ w' = w := by
  go_enter Try.func44, Try.ntmps44
  go_wp2_with fail
  go_ret
  exact ⟨rfl, rfl⟩
theorem below_sortK {w : World} {g off n : Nat} {d : Array St} {os : Array Obj} (hg : g < w.heap.size) : Below g w (sortWorldK St.cells 9 w g off n d os) :=
  ⟨rfl, rfl, rfl, size_sortWorldK_c St.cells 9 w g off n d os, fun k hk => by
    unfold sortWorldK
    rw [heap_grow_old _ _ (by rw [size_putRowK]; exact Nat.lt_trans hk hg)]
    unfold putRowK putRow mapBlock
    show (Array.modify (Sort.ahead w n).heap g _)[k]? = _
    rw [Array.getElem?_modify, if_neg (by omega)]; rfl⟩
def SortPost (L : List St) (w : World) (e : Ending) (w' : World) : Prop := ∃ A c, e = .returned (.slice A (sortL cmpS [] L).length c) ∧ StRow w' A (sortL cmpS [] L) ∧ Below w.heap.size w w'
set_option maxHeartbeats 1000000 in
set_option maxRecDepth 100000 in
theorem sort (A : Option Addr) (ca : Nat) (L : List St) (w : World) (hL : L.length ≤ 1000) (hA : StAt w A L) : Calls Try.prog 26 #[.slice A L.length ca] w (SortPost L w) := by
  go_enter Try.func26, Try.ntmps26
  go_wp2_with fail
  refine (cloneSt A ca L w (by omega) hA).mono ?_
  rintro e w1 ⟨v, rfl, hown, hb1⟩
  rcases holds_own hown with ⟨rfl, rfl⟩ | ⟨g, cap, rfl, hc, hB, hg, hH⟩
  · clear hown
    go_wp2_with fail
    refine (AnyF.slices_SortFunc_none laidSort none 0 (.func (.func 22) #[] #[]) w1).mono ?_
    rintro e w2 ⟨rfl, rfl⟩
    go_wp2_with fail
    refine (compNone none 0 _).mono ?_
    rintro e w3 ⟨rfl, rfl⟩
    go_wp2_with fail
    go_ret
    exact ⟨none, 0, rfl, (fun h => by simp [sortL] at h), hb1⟩
  · clear hown
    have HS := Lib.hid (sortSt g 0 cap L.toArray w1 hH hg (by simp; omega))
    have HH := Lib.hid hH
    clear hH hA
    go_wp2_with fail
    refine (HS.out).mono ?_
    rintro e w2 ⟨rfl, d', n, os, hp, hs, hw2⟩
    have hz : d'.size = L.length := hp.1.trans (by simp)
    have hH2 : HoldsK St.cells 9 w2 g 0 d' := by rw [hw2]; exact holdsK_sortWorldK_c St.cells 9 w1 g 0 L.toArray d' n os HH.out hg (by rw [hz]; simp)
    have hb2 : Below g w1 w2 := by rw [hw2]; exact below_sortK hg
    have hgg : g < w2.heap.size := Nat.lt_of_lt_of_le hg (by rw [hw2]; exact size_sortWorldK_c St.cells 9 w1 g 0 n d' os)
    have HU := Lib.hid (sorted_up hp hs)
    have HC := Lib.hid (compSt g cap d' w2 hH2 hgg (by omega) (by omega))
    rw [hz] at HC
    clear hw2 hp hs hH2
    go_wp2_with fail
    refine (HC.out).mono ?_
    rintro e w3 ⟨rfl, hrow, hb3, hz3⟩
    have E : compactUpTo d' L.length = sortL cmpS [] L := by rw [← hz]; exact HU.out
    have hrow' : StRow w3 (some ⟨g, 0, none⟩) (sortL cmpS [] L) := HU.out ▸ hrow
    have HE := Lib.hid E
    clear E
    go_wp2_with fail
    go_ret
    exact ⟨some ⟨g, 0, none⟩, cap, by rw [← HE.out]; rfl, hrow', hb1.trans ((hb2.trans (hb3.mono (Nat.le_refl _))).mono hB)⟩
end Go.Proofs.Ytofhiolmaojihaa.SynD9
