/- The library's sort, at statements. -/
import Derived.Test.YtofhiolmaojihaaSynD3
import Derived.Test.YtofhiolmaojihaaSynD
import Derived.Test.YtofhiolmaojihaaSyn3
import Derived.Shelf.SlSortCmp.WholeK
import Derived.Test.YtofhiolmaojihaaShelf
namespace Go.Proofs.Ytofhiolmaojihaa.SynD4
open Go.RowKit Go.Sort Go.Proofs Go.Proofs.Ytofhiolmaojihaa.Plain Go.Proofs.Ytofhiolmaojihaa.SynP Go.Proofs.Ytofhiolmaojihaa.Grown Go.Proofs.Ytofhiolmaojihaa.SynD2 Go.Proofs.Ytofhiolmaojihaa.SynD3 Go.Proofs.Ytofhiolmaojihaa.SynD
theorem cmpLays (blk off size : Nat) (w : World) : CmpLays Try.prog 22 #[] St.cells 9 cmpS blk off size w := fun m os dk _ x y =>
  (Syn3.order x y (sortWorldK St.cells 9 w blk off m dk os)).mono fun _ _ ⟨he, hg⟩ => ⟨he, by
    obtain ⟨⟨q, os'⟩, rfl⟩ := hg
    exact ⟨q, os', rfl⟩⟩
end Go.Proofs.Ytofhiolmaojihaa.SynD4
