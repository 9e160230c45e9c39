/- slices.SortFunc at statements, by contract. -/
import Derived.Test.YtofhiolmaojihaaSynD4
import Derived.Test.YtofhiolmaojihaaSynD5
namespace Go.Proofs.Ytofhiolmaojihaa.SynD6
open Go.Shelf Go.RowKit Go.Lib Go.Sort Go.Proofs Go.Proofs.Ytofhiolmaojihaa.Plain Go.Proofs.Ytofhiolmaojihaa.SynP Go.Proofs.Ytofhiolmaojihaa.SynD2 Go.Proofs.Ytofhiolmaojihaa.SynD Go.Proofs.Ytofhiolmaojihaa.SynD4 Go.Proofs.Ytofhiolmaojihaa.SynD5
theorem sortSt (blk off cap : Nat) (d : Array St) (w : World) (hH : HoldsK St.cells 9 w blk off d) (hblk : blk < w.heap.size) (hsz : d.size < 4611686018427387904) :
    Calls Try.prog 43 #[.slice (some ⟨blk, off, none⟩) d.size cap, .func (.func 22) #[] #[]] w fun e w' =>
      e = .returned (.tuple #[]) ∧ ∃ d' n os, PermIn 0 d.size d d' ∧ SortedIn (ltOf cmpS) 0 d.size d' ∧ w' = sortWorldK St.cells 9 w blk off n d' os :=
  AnyQ.slices_SortFunc laidSort 9 Try.isAgg25 Try.sizeOf25 St.cells (fun _ => rfl) (fun x v hv => by simp [St.cells] at hv; rcases hv with rfl | rfl | rfl | rfl | rfl | rfl | rfl | rfl | rfl <;> rfl) cmpS swo_S 22 #[] blk off cap d w (enters_of Try.func22 (by kernel_rfl) rfl) (cmpLays blk off d.size w) hH hblk hsz
end Go.Proofs.Ytofhiolmaojihaa.SynD6
