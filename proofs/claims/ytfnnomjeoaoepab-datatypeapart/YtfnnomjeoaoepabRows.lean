/-
  NARROWER THAN 'FOR EVERY INPUT', by the rows' own cells (each row's printed sentence says how): DatatypeBytes: loops · DatatypeBack: loops · DatatypeKeeps: loops · DatatypeApart: loops.
  DERIVED. THE GIVEN ROWS OF THIS SEAT. 5 by the template 'for every input the law returns true; each argument reads behind the call as it read before'; 0 by the template 'total and deterministic' (their statements: YtfnnomjeoaoepabTotals.lean).
  GIVEN WITH THE SEED: the statements are not yours to turn. If you find one false, say at which input.
  Laid BY PROGRAM, IN A SANDBOX (cutbox-rows.mjs): the forced cells as the released guide's own fill.sh prints them over the translation 5b6f89d9476cb1ae… (all of the seat's roots in one cut). By AI agents, Wed Nov 11 2026. No macro, syntax, notation, axiom, sorry.
-/
import Derived.Test.YtfnnomjeoaoepabChecked
import GoSem.Claim
import GoSem.ClaimJoined
import GoSem.ClaimMapViews
import Derived.JoinedTies
import Derived.KernelRfl
namespace Go.Proofs.Ytfnnomjeoaoepab
/- THE CELL 'sum', in the pinned program and in every row, IS THE sha256 OF THE DUMP (.gsa) THAT YtfnnomjeoaoepabProg.lean LOADS. Nothing in Lean hashes anything: it is a label: what it is worth is what the hold of that sum in a sandbox is worth. -/
noncomputable def Try.pinned : Pinned := { name := "ytfnnomjeoaoepab", sum := "5b6f89d9476cb1aeaa7aabeee4e7ad27c40983b277895711d3249f3cc07816c6", checked := Try.checked }
namespace Rows
def none {H : Type} : Left H := { results := [], args := [] }

/-- 'slabvaultlaw09.DatatypeBytes': WHATEVER THE INPUT: true; the input reads as it did. -/
def datatypeBytesSpec : ChangeSpec := { name := "datatypeBytes", fn := fun _ => fun
  | [d] => { results := [.lit (.bool true)], args := [d] }
  | _ => none }
def datatypeBytesRow : OpenClaim := { program := "ytfnnomjeoaoepab", sum := "5b6f89d9476cb1aeaa7aabeee4e7ad27c40983b277895711d3249f3cc07816c6", func := "slabvault/slabvaultlaw09.DatatypeBytes", spec := "datatypeBytes", inPlace := ["internal/bytealg.IndexByteString"], unfollowed := true, recurses := true, loops := true, apart := false }
def DatatypeBytesSaid : Prop := datatypeBytesRow.holds Try.pinned (OpenSpec.ofChange datatypeBytesSpec)

/-- ITS FALSE NEIGHBOUR: 'it returns false'. Refute it at one input. -/
def datatypeBytesWrong : ChangeSpec := { name := "datatypeBytes", fn := fun _ => fun
  | [d] => { results := [.lit (.bool false)], args := [d] }
  | _ => none }
def DatatypeBytesWrongFalsely : Prop := datatypeBytesRow.holds Try.pinned (OpenSpec.ofChange datatypeBytesWrong)

/-- 'slabvaultlaw09.DatatypeLoads': WHATEVER THE INPUT: true; the input reads as it did. -/
def datatypeLoadsSpec : ChangeSpec := { name := "datatypeLoads", fn := fun _ => fun
  | [d] => { results := [.lit (.bool true)], args := [d] }
  | _ => none }
def datatypeLoadsRow : OpenClaim := { program := "ytfnnomjeoaoepab", sum := "5b6f89d9476cb1aeaa7aabeee4e7ad27c40983b277895711d3249f3cc07816c6", func := "slabvault/slabvaultlaw09.DatatypeLoads", spec := "datatypeLoads", inPlace := ["internal/bytealg.IndexByteString"], unfollowed := true, recurses := true, apart := false }
def DatatypeLoadsSaid : Prop := datatypeLoadsRow.holds Try.pinned (OpenSpec.ofChange datatypeLoadsSpec)

/-- ITS FALSE NEIGHBOUR: 'it returns false'. Refute it at one input. -/
def datatypeLoadsWrong : ChangeSpec := { name := "datatypeLoads", fn := fun _ => fun
  | [d] => { results := [.lit (.bool false)], args := [d] }
  | _ => none }
def DatatypeLoadsWrongFalsely : Prop := datatypeLoadsRow.holds Try.pinned (OpenSpec.ofChange datatypeLoadsWrong)

/-- 'slabvaultlaw09.DatatypeBack': WHATEVER THE INPUT: true; the input reads as it did. -/
def datatypeBackSpec : ChangeSpec := { name := "datatypeBack", fn := fun _ => fun
  | [d1, d2] => { results := [.lit (.bool true)], args := [d1, d2] }
  | _ => none }
def datatypeBackRow : OpenClaim := { program := "ytfnnomjeoaoepab", sum := "5b6f89d9476cb1aeaa7aabeee4e7ad27c40983b277895711d3249f3cc07816c6", func := "slabvault/slabvaultlaw09.DatatypeBack", spec := "datatypeBack", inPlace := ["internal/bytealg.IndexByteString"], unfollowed := true, recurses := true, loops := true, apart := false }
def DatatypeBackSaid : Prop := datatypeBackRow.holds Try.pinned (OpenSpec.ofChange datatypeBackSpec)

/-- ITS FALSE NEIGHBOUR: 'it returns false'. Refute it at one input. -/
def datatypeBackWrong : ChangeSpec := { name := "datatypeBack", fn := fun _ => fun
  | [d1, d2] => { results := [.lit (.bool false)], args := [d1, d2] }
  | _ => none }
def DatatypeBackWrongFalsely : Prop := datatypeBackRow.holds Try.pinned (OpenSpec.ofChange datatypeBackWrong)

/-- 'slabvaultlaw09.DatatypeKeeps': WHATEVER THE INPUT: true; the input reads as it did. -/
def datatypeKeepsSpec : ChangeSpec := { name := "datatypeKeeps", fn := fun _ => fun
  | [d1, d2] => { results := [.lit (.bool true)], args := [d1, d2] }
  | _ => none }
def datatypeKeepsRow : OpenClaim := { program := "ytfnnomjeoaoepab", sum := "5b6f89d9476cb1aeaa7aabeee4e7ad27c40983b277895711d3249f3cc07816c6", func := "slabvault/slabvaultlaw09.DatatypeKeeps", spec := "datatypeKeeps", inPlace := ["internal/bytealg.IndexByteString"], unfollowed := true, recurses := true, loops := true, apart := false }
def DatatypeKeepsSaid : Prop := datatypeKeepsRow.holds Try.pinned (OpenSpec.ofChange datatypeKeepsSpec)

/-- ITS FALSE NEIGHBOUR: 'it returns false'. Refute it at one input. -/
def datatypeKeepsWrong : ChangeSpec := { name := "datatypeKeeps", fn := fun _ => fun
  | [d1, d2] => { results := [.lit (.bool false)], args := [d1, d2] }
  | _ => none }
def DatatypeKeepsWrongFalsely : Prop := datatypeKeepsRow.holds Try.pinned (OpenSpec.ofChange datatypeKeepsWrong)

/-- 'slabvaultlaw09.DatatypeApart': WHATEVER THE INPUT: true; the input reads as it did. -/
def datatypeApartSpec : ChangeSpec := { name := "datatypeApart", fn := fun _ => fun
  | [d] => { results := [.lit (.bool true)], args := [d] }
  | _ => none }
def datatypeApartRow : OpenClaim := { program := "ytfnnomjeoaoepab", sum := "5b6f89d9476cb1aeaa7aabeee4e7ad27c40983b277895711d3249f3cc07816c6", func := "slabvault/slabvaultlaw09.DatatypeApart", spec := "datatypeApart", inPlace := ["internal/bytealg.IndexByteString"], unfollowed := true, recurses := true, loops := true, apart := false }
def DatatypeApartSaid : Prop := datatypeApartRow.holds Try.pinned (OpenSpec.ofChange datatypeApartSpec)

/-- ITS FALSE NEIGHBOUR: 'it returns false'. Refute it at one input. -/
def datatypeApartWrong : ChangeSpec := { name := "datatypeApart", fn := fun _ => fun
  | [d] => { results := [.lit (.bool false)], args := [d] }
  | _ => none }
def DatatypeApartWrongFalsely : Prop := datatypeApartRow.holds Try.pinned (OpenSpec.ofChange datatypeApartWrong)

/- THE SECOND FORM. 'bulk': how many values and letters a reading holds, each counted each time it is reached (what is shared counts as often as it is met; a slice's spare places count too). A statement '..UptoSaid' is the law's where the arguments, and the package variables that the reading takes, are together of bulk at most 1048576: NARROWER than '..Said'. Prove '..Said' where nothing that the law and all that it calls make is longer than what came in: it says more and counts as full. Else prove '..UptoSaid'. A law counts once. -/
mutual
def uptoBulk {H : Type} : DataW H → Nat
  | .lit (.string bytes) => bytes.length + 1
  | .lit _ => 1
  | .nil => 1
  | .ptr d => uptoBulk d + 1
  | .slice elems spare => uptoBulkAll elems + uptoBulkAll spare + 1
  | .agg parts => uptoBulkAll parts + 1
  | .iface _ d => uptoBulk d + 1
  | .map entries => uptoBulkEntries entries + 1
  | .held _ => 1
def uptoBulkAll {H : Type} : List (DataW H) → Nat
  | [] => 0
  | d :: r => uptoBulk d + uptoBulkAll r
def uptoBulkEntries {H : Type} : List (Lit × DataW H) → Nat
  | [] => 0
  | x :: r => uptoBulkEntry x + uptoBulkEntries r
def uptoBulkEntry {H : Type} : Lit × DataW H → Nat
  | (.string bytes, d) => bytes.length + uptoBulk d + 1
  | (_, d) => uptoBulk d + 1
 end
def uptoSmall : (H : Type) → List (DataW H) → Bool := fun _ ds => decide (uptoBulkAll ds ≤ 1048576)
def OpenSpec.upto (s : _root_.Go.ChangeSpec) : _root_.Go.OpenSpec := { _root_.Go.OpenSpec.ofChange s with cond := some uptoSmall }

/-- 'slabvaultlaw09.DatatypeBytes', WHERE WHAT IT READS IS OF BULK AT MOST 1048576: true; the input reads as it did. -/
def datatypeBytesUptoRow : OpenClaim := { program := "ytfnnomjeoaoepab", sum := "5b6f89d9476cb1aeaa7aabeee4e7ad27c40983b277895711d3249f3cc07816c6", func := "slabvault/slabvaultlaw09.DatatypeBytes", spec := "datatypeBytes", inPlace := ["internal/bytealg.IndexByteString"], unfollowed := true, recurses := true, loops := true, apart := false, narrowed := true }
def DatatypeBytesUptoSaid : Prop := datatypeBytesUptoRow.holds Try.pinned (OpenSpec.upto datatypeBytesSpec)

/-- 'slabvaultlaw09.DatatypeLoads', WHERE WHAT IT READS IS OF BULK AT MOST 1048576: true; the input reads as it did. -/
def datatypeLoadsUptoRow : OpenClaim := { program := "ytfnnomjeoaoepab", sum := "5b6f89d9476cb1aeaa7aabeee4e7ad27c40983b277895711d3249f3cc07816c6", func := "slabvault/slabvaultlaw09.DatatypeLoads", spec := "datatypeLoads", inPlace := ["internal/bytealg.IndexByteString"], unfollowed := true, recurses := true, apart := false, narrowed := true }
def DatatypeLoadsUptoSaid : Prop := datatypeLoadsUptoRow.holds Try.pinned (OpenSpec.upto datatypeLoadsSpec)

/-- 'slabvaultlaw09.DatatypeBack', WHERE WHAT IT READS IS OF BULK AT MOST 1048576: true; the input reads as it did. -/
def datatypeBackUptoRow : OpenClaim := { program := "ytfnnomjeoaoepab", sum := "5b6f89d9476cb1aeaa7aabeee4e7ad27c40983b277895711d3249f3cc07816c6", func := "slabvault/slabvaultlaw09.DatatypeBack", spec := "datatypeBack", inPlace := ["internal/bytealg.IndexByteString"], unfollowed := true, recurses := true, loops := true, apart := false, narrowed := true }
def DatatypeBackUptoSaid : Prop := datatypeBackUptoRow.holds Try.pinned (OpenSpec.upto datatypeBackSpec)

/-- 'slabvaultlaw09.DatatypeKeeps', WHERE WHAT IT READS IS OF BULK AT MOST 1048576: true; the input reads as it did. -/
def datatypeKeepsUptoRow : OpenClaim := { program := "ytfnnomjeoaoepab", sum := "5b6f89d9476cb1aeaa7aabeee4e7ad27c40983b277895711d3249f3cc07816c6", func := "slabvault/slabvaultlaw09.DatatypeKeeps", spec := "datatypeKeeps", inPlace := ["internal/bytealg.IndexByteString"], unfollowed := true, recurses := true, loops := true, apart := false, narrowed := true }
def DatatypeKeepsUptoSaid : Prop := datatypeKeepsUptoRow.holds Try.pinned (OpenSpec.upto datatypeKeepsSpec)

/-- 'slabvaultlaw09.DatatypeApart', WHERE WHAT IT READS IS OF BULK AT MOST 1048576: true; the input reads as it did. -/
def datatypeApartUptoRow : OpenClaim := { program := "ytfnnomjeoaoepab", sum := "5b6f89d9476cb1aeaa7aabeee4e7ad27c40983b277895711d3249f3cc07816c6", func := "slabvault/slabvaultlaw09.DatatypeApart", spec := "datatypeApart", inPlace := ["internal/bytealg.IndexByteString"], unfollowed := true, recurses := true, loops := true, apart := false, narrowed := true }
def DatatypeApartUptoSaid : Prop := datatypeApartUptoRow.holds Try.pinned (OpenSpec.upto datatypeApartSpec)

end Rows
end Go.Proofs.Ytfnnomjeoaoepab
