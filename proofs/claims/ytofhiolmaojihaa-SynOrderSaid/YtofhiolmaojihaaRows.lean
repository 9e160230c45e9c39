/-
  No cell of these rows narrows 'for every input' (looked for: loops, veiled, ifaces, maps, wideKeys, modest, calm, conditions, laid).
  DERIVED. THE GIVEN ROWS OF THIS SEAT. 4 by the template 'for every input the law returns true; each argument reads behind the call as it read before'; 0 by the template 'total and deterministic' (their statements: YtofhiolmaojihaaTotals.lean).
  GIVEN WITH THE SEED: the statements are not yours to turn. If you find one false, say at which input.
  Laid BY PROGRAM, IN A SANDBOX (cutbox-rows.mjs): the forced cells as the released guide's own fill.sh prints them over the translation 2b685c89bd2ad761… (all of the seat's roots in one cut). By AI agents, Wed Nov 11 2026. No macro, syntax, notation, axiom, sorry.
-/
import Derived.Test.YtofhiolmaojihaaChecked
import GoSem.Claim
import GoSem.ClaimJoined
import GoSem.ClaimMapViews
import Derived.JoinedTies
import Derived.KernelRfl
namespace Go.Proofs.Ytofhiolmaojihaa
/- THE CELL 'sum', in the pinned program and in every row, IS THE sha256 OF THE DUMP (.gsa) THAT YtofhiolmaojihaaProg.lean LOADS. Nothing in Lean hashes anything: it is a label: what it is worth is what the hold of that sum in a sandbox is worth. -/
noncomputable def Try.pinned : Pinned := { name := "ytofhiolmaojihaa", sum := "2b685c89bd2ad761528e2c3b83baf12e67bd9d60bd3078a7cc37537625c5eb1b", checked := Try.checked }
namespace Rows
def none {H : Type} : Left H := { results := [], args := [] }

/-- 'crupperlaw03.SynRight': WHATEVER THE INPUT: true; the input reads as it did. -/
def synRightSpec : ChangeSpec := { name := "synRight", fn := fun _ => fun
  | [d] => { results := [.lit (.bool true)], args := [d] }
  | _ => none }
def synRightRow : OpenClaim := { program := "ytofhiolmaojihaa", sum := "2b685c89bd2ad761528e2c3b83baf12e67bd9d60bd3078a7cc37537625c5eb1b", func := "crupper/crupperlaw03.SynRight", spec := "synRight", inPlace := ["internal/bytealg.IndexByteString", "internal/bytealg.IndexString"], unfollowed := true, recurses := true, named := ["internal/bytealg.MaxLen"], apart := false }
def SynRightSaid : Prop := synRightRow.holds Try.pinned (OpenSpec.ofChange synRightSpec)

/-- ITS FALSE NEIGHBOUR: 'it returns false'. Refute it at one input. -/
def synRightWrong : ChangeSpec := { name := "synRight", fn := fun _ => fun
  | [d] => { results := [.lit (.bool false)], args := [d] }
  | _ => none }
def SynRightWrongFalsely : Prop := synRightRow.holds Try.pinned (OpenSpec.ofChange synRightWrong)

/-- 'crupperlaw03.SynOrder': WHATEVER THE INPUT: true; the input reads as it did. -/
def synOrderSpec : ChangeSpec := { name := "synOrder", fn := fun _ => fun
  | [d1, d2, d3] => { results := [.lit (.bool true)], args := [d1, d2, d3] }
  | _ => none }
def synOrderRow : OpenClaim := { program := "ytofhiolmaojihaa", sum := "2b685c89bd2ad761528e2c3b83baf12e67bd9d60bd3078a7cc37537625c5eb1b", func := "crupper/crupperlaw03.SynOrder", spec := "synOrder", inPlace := ["internal/bytealg.IndexByteString", "internal/bytealg.IndexString"], unfollowed := true, recurses := true, named := ["internal/bytealg.MaxLen"], apart := false }
def SynOrderSaid : Prop := synOrderRow.holds Try.pinned (OpenSpec.ofChange synOrderSpec)

/-- ITS FALSE NEIGHBOUR: 'it returns false'. Refute it at one input. -/
def synOrderWrong : ChangeSpec := { name := "synOrder", fn := fun _ => fun
  | [d1, d2, d3] => { results := [.lit (.bool false)], args := [d1, d2, d3] }
  | _ => none }
def SynOrderWrongFalsely : Prop := synOrderRow.holds Try.pinned (OpenSpec.ofChange synOrderWrong)

/-- 'crupperlaw03.SynParses': WHATEVER THE INPUT: true; the input reads as it did. -/
def synParsesSpec : ChangeSpec := { name := "synParses", fn := fun _ => fun
  | [d] => { results := [.lit (.bool true)], args := [d] }
  | _ => none }
def synParsesRow : OpenClaim := { program := "ytofhiolmaojihaa", sum := "2b685c89bd2ad761528e2c3b83baf12e67bd9d60bd3078a7cc37537625c5eb1b", func := "crupper/crupperlaw03.SynParses", spec := "synParses", inPlace := ["internal/bytealg.IndexByteString", "internal/bytealg.IndexString"], unfollowed := true, recurses := true, named := ["internal/bytealg.MaxLen"], apart := false }
def SynParsesSaid : Prop := synParsesRow.holds Try.pinned (OpenSpec.ofChange synParsesSpec)

/-- ITS FALSE NEIGHBOUR: 'it returns false'. Refute it at one input. -/
def synParsesWrong : ChangeSpec := { name := "synParses", fn := fun _ => fun
  | [d] => { results := [.lit (.bool false)], args := [d] }
  | _ => none }
def SynParsesWrongFalsely : Prop := synParsesRow.holds Try.pinned (OpenSpec.ofChange synParsesWrong)

/-- 'crupperlaw03.SynBack': WHATEVER THE INPUT: true; the input reads as it did. -/
def synBackSpec : ChangeSpec := { name := "synBack", fn := fun _ => fun
  | [d1, d2, d3] => { results := [.lit (.bool true)], args := [d1, d2, d3] }
  | _ => none }
def synBackRow : OpenClaim := { program := "ytofhiolmaojihaa", sum := "2b685c89bd2ad761528e2c3b83baf12e67bd9d60bd3078a7cc37537625c5eb1b", func := "crupper/crupperlaw03.SynBack", spec := "synBack", inPlace := ["internal/bytealg.IndexByteString", "internal/bytealg.IndexString"], unfollowed := true, recurses := true, named := ["internal/bytealg.MaxLen"], apart := false }
def SynBackSaid : Prop := synBackRow.holds Try.pinned (OpenSpec.ofChange synBackSpec)

/-- ITS FALSE NEIGHBOUR: 'it returns false'. Refute it at one input. -/
def synBackWrong : ChangeSpec := { name := "synBack", fn := fun _ => fun
  | [d1, d2, d3] => { results := [.lit (.bool false)], args := [d1, d2, d3] }
  | _ => none }
def SynBackWrongFalsely : Prop := synBackRow.holds Try.pinned (OpenSpec.ofChange synBackWrong)

/- THE SECOND FORM. 'bulk': how many values and letters a reading holds, each counted each time it is reached (what is shared counts as often as it is met; a slice's spare places count too). A statement '..UptoSaid' is the law's where the arguments, and the package variables that the reading takes, are together of bulk at most 1048576: NARROWER than '..Said'. Prove '..Said' where nothing that the law and all that it calls make is longer than what came in: it says more and counts as full. Else prove '..UptoSaid'. A law counts once. -/
mutual
def uptoBulk {H : Type} : DataW H → Nat
  | .lit (.string bytes) => bytes.length + 1
  | .lit _ => 1
  | .nil => 1
  | .ptr d => uptoBulk d + 1
  | .slice elems spare => uptoBulkAll elems + uptoBulkAll spare + 1
  | .agg parts => uptoBulkAll parts + 1
  | .iface _ d => uptoBulk d + 1
  | .map entries => uptoBulkEntries entries + 1
  | .held _ => 1
def uptoBulkAll {H : Type} : List (DataW H) → Nat
  | [] => 0
  | d :: r => uptoBulk d + uptoBulkAll r
def uptoBulkEntries {H : Type} : List (Lit × DataW H) → Nat
  | [] => 0
  | x :: r => uptoBulkEntry x + uptoBulkEntries r
def uptoBulkEntry {H : Type} : Lit × DataW H → Nat
  | (.string bytes, d) => bytes.length + uptoBulk d + 1
  | (_, d) => uptoBulk d + 1
 end
def uptoSmall : (H : Type) → List (DataW H) → Bool := fun _ ds => decide (uptoBulkAll ds ≤ 1048576)
def OpenSpec.upto (s : _root_.Go.ChangeSpec) : _root_.Go.OpenSpec := { _root_.Go.OpenSpec.ofChange s with cond := some uptoSmall }

/-- 'crupperlaw03.SynRight', WHERE WHAT IT READS IS OF BULK AT MOST 1048576: true; the input reads as it did. -/
def synRightUptoRow : OpenClaim := { program := "ytofhiolmaojihaa", sum := "2b685c89bd2ad761528e2c3b83baf12e67bd9d60bd3078a7cc37537625c5eb1b", func := "crupper/crupperlaw03.SynRight", spec := "synRight", inPlace := ["internal/bytealg.IndexByteString", "internal/bytealg.IndexString"], unfollowed := true, recurses := true, named := ["internal/bytealg.MaxLen"], apart := false, narrowed := true }
def SynRightUptoSaid : Prop := synRightUptoRow.holds Try.pinned (OpenSpec.upto synRightSpec)

/-- 'crupperlaw03.SynOrder', WHERE WHAT IT READS IS OF BULK AT MOST 1048576: true; the input reads as it did. -/
def synOrderUptoRow : OpenClaim := { program := "ytofhiolmaojihaa", sum := "2b685c89bd2ad761528e2c3b83baf12e67bd9d60bd3078a7cc37537625c5eb1b", func := "crupper/crupperlaw03.SynOrder", spec := "synOrder", inPlace := ["internal/bytealg.IndexByteString", "internal/bytealg.IndexString"], unfollowed := true, recurses := true, named := ["internal/bytealg.MaxLen"], apart := false, narrowed := true }
def SynOrderUptoSaid : Prop := synOrderUptoRow.holds Try.pinned (OpenSpec.upto synOrderSpec)

/-- 'crupperlaw03.SynParses', WHERE WHAT IT READS IS OF BULK AT MOST 1048576: true; the input reads as it did. -/
def synParsesUptoRow : OpenClaim := { program := "ytofhiolmaojihaa", sum := "2b685c89bd2ad761528e2c3b83baf12e67bd9d60bd3078a7cc37537625c5eb1b", func := "crupper/crupperlaw03.SynParses", spec := "synParses", inPlace := ["internal/bytealg.IndexByteString", "internal/bytealg.IndexString"], unfollowed := true, recurses := true, named := ["internal/bytealg.MaxLen"], apart := false, narrowed := true }
def SynParsesUptoSaid : Prop := synParsesUptoRow.holds Try.pinned (OpenSpec.upto synParsesSpec)

/-- 'crupperlaw03.SynBack', WHERE WHAT IT READS IS OF BULK AT MOST 1048576: true; the input reads as it did. -/
def synBackUptoRow : OpenClaim := { program := "ytofhiolmaojihaa", sum := "2b685c89bd2ad761528e2c3b83baf12e67bd9d60bd3078a7cc37537625c5eb1b", func := "crupper/crupperlaw03.SynBack", spec := "synBack", inPlace := ["internal/bytealg.IndexByteString", "internal/bytealg.IndexString"], unfollowed := true, recurses := true, named := ["internal/bytealg.MaxLen"], apart := false, narrowed := true }
def SynBackUptoSaid : Prop := synBackUptoRow.holds Try.pinned (OpenSpec.upto synBackSpec)

end Rows
end Go.Proofs.Ytofhiolmaojihaa
