/-
  NARROWER THAN 'FOR EVERY INPUT', by the rows' own cells (each row's printed sentence says how): DatatypeChecks: loops · DatatypePlaces: loops · DatatypeTurns: loops · DatatypeSames: loops · DatatypeBytes: loops.
  DERIVED. THE GIVEN ROWS OF THIS SEAT. 6 by the template 'for every input the law returns true; each argument reads behind the call as it read before'; 0 by the template 'total and deterministic' (their statements: YtojcokdfplldbaaTotals.lean).
  GIVEN WITH THE SEED: the statements are not yours to turn. If you find one false, say at which input.
  Laid BY PROGRAM, IN A SANDBOX (cutbox-rows.mjs): the forced cells as the released guide's own fill.sh prints them over the translation 43232ae3f71e014e… (all of the seat's roots in one cut). By AI agents, Wed Nov 11 2026. No macro, syntax, notation, axiom, sorry.
-/
import Derived.Test.YtojcokdfplldbaaChecked
import GoSem.Claim
import GoSem.ClaimJoined
import GoSem.ClaimMapViews
import Derived.JoinedTies
import Derived.KernelRfl
namespace Go.Proofs.Ytojcokdfplldbaa
/- THE CELL 'sum', in the pinned program and in every row, IS THE sha256 OF THE DUMP (.gsa) THAT YtojcokdfplldbaaProg.lean LOADS. Nothing in Lean hashes anything: it is a label: what it is worth is what the hold of that sum in a sandbox is worth. -/
noncomputable def Try.pinned : Pinned := { name := "ytojcokdfplldbaa", sum := "43232ae3f71e014ec7e2c957b24423566de24ef1472ddbb917debf8933acbf49", checked := Try.checked }
namespace Rows
def none {H : Type} : Left H := { results := [], args := [] }

/-- 'slabvaultlaw09.DatatypeChecks': WHATEVER THE INPUT: true; the input reads as it did. -/
def datatypeChecksSpec : ChangeSpec := { name := "datatypeChecks", fn := fun _ => fun
  | [d] => { results := [.lit (.bool true)], args := [d] }
  | _ => none }
def datatypeChecksRow : OpenClaim := { program := "ytojcokdfplldbaa", sum := "43232ae3f71e014ec7e2c957b24423566de24ef1472ddbb917debf8933acbf49", func := "slabvault/slabvaultlaw09.DatatypeChecks", spec := "datatypeChecks", inPlace := ["internal/bytealg.IndexByteString"], unfollowed := true, recurses := true, loops := true, apart := false }
def DatatypeChecksSaid : Prop := datatypeChecksRow.holds Try.pinned (OpenSpec.ofChange datatypeChecksSpec)

/-- ITS FALSE NEIGHBOUR: 'it returns false'. Refute it at one input. -/
def datatypeChecksWrong : ChangeSpec := { name := "datatypeChecks", fn := fun _ => fun
  | [d] => { results := [.lit (.bool false)], args := [d] }
  | _ => none }
def DatatypeChecksWrongFalsely : Prop := datatypeChecksRow.holds Try.pinned (OpenSpec.ofChange datatypeChecksWrong)

/-- 'slabvaultlaw09.DatatypePlaces': WHATEVER THE INPUT: true; the input reads as it did. -/
def datatypePlacesSpec : ChangeSpec := { name := "datatypePlaces", fn := fun _ => fun
  | [d] => { results := [.lit (.bool true)], args := [d] }
  | _ => none }
def datatypePlacesRow : OpenClaim := { program := "ytojcokdfplldbaa", sum := "43232ae3f71e014ec7e2c957b24423566de24ef1472ddbb917debf8933acbf49", func := "slabvault/slabvaultlaw09.DatatypePlaces", spec := "datatypePlaces", inPlace := ["internal/bytealg.IndexByteString"], unfollowed := true, recurses := true, loops := true, apart := false }
def DatatypePlacesSaid : Prop := datatypePlacesRow.holds Try.pinned (OpenSpec.ofChange datatypePlacesSpec)

/-- ITS FALSE NEIGHBOUR: 'it returns false'. Refute it at one input. -/
def datatypePlacesWrong : ChangeSpec := { name := "datatypePlaces", fn := fun _ => fun
  | [d] => { results := [.lit (.bool false)], args := [d] }
  | _ => none }
def DatatypePlacesWrongFalsely : Prop := datatypePlacesRow.holds Try.pinned (OpenSpec.ofChange datatypePlacesWrong)

/-- 'slabvaultlaw09.DatatypeTurns': WHATEVER THE INPUT: true; the input reads as it did. -/
def datatypeTurnsSpec : ChangeSpec := { name := "datatypeTurns", fn := fun _ => fun
  | [d1, d2] => { results := [.lit (.bool true)], args := [d1, d2] }
  | _ => none }
def datatypeTurnsRow : OpenClaim := { program := "ytojcokdfplldbaa", sum := "43232ae3f71e014ec7e2c957b24423566de24ef1472ddbb917debf8933acbf49", func := "slabvault/slabvaultlaw09.DatatypeTurns", spec := "datatypeTurns", inPlace := ["internal/bytealg.IndexByteString"], unfollowed := true, recurses := true, loops := true, apart := false }
def DatatypeTurnsSaid : Prop := datatypeTurnsRow.holds Try.pinned (OpenSpec.ofChange datatypeTurnsSpec)

/-- ITS FALSE NEIGHBOUR: 'it returns false'. Refute it at one input. -/
def datatypeTurnsWrong : ChangeSpec := { name := "datatypeTurns", fn := fun _ => fun
  | [d1, d2] => { results := [.lit (.bool false)], args := [d1, d2] }
  | _ => none }
def DatatypeTurnsWrongFalsely : Prop := datatypeTurnsRow.holds Try.pinned (OpenSpec.ofChange datatypeTurnsWrong)

/-- 'slabvaultlaw09.DatatypeSames': WHATEVER THE INPUT: true; the input reads as it did. -/
def datatypeSamesSpec : ChangeSpec := { name := "datatypeSames", fn := fun _ => fun
  | [d1, d2] => { results := [.lit (.bool true)], args := [d1, d2] }
  | _ => none }
def datatypeSamesRow : OpenClaim := { program := "ytojcokdfplldbaa", sum := "43232ae3f71e014ec7e2c957b24423566de24ef1472ddbb917debf8933acbf49", func := "slabvault/slabvaultlaw09.DatatypeSames", spec := "datatypeSames", inPlace := ["internal/bytealg.IndexByteString"], unfollowed := true, recurses := true, loops := true, apart := false }
def DatatypeSamesSaid : Prop := datatypeSamesRow.holds Try.pinned (OpenSpec.ofChange datatypeSamesSpec)

/-- ITS FALSE NEIGHBOUR: 'it returns false'. Refute it at one input. -/
def datatypeSamesWrong : ChangeSpec := { name := "datatypeSames", fn := fun _ => fun
  | [d1, d2] => { results := [.lit (.bool false)], args := [d1, d2] }
  | _ => none }
def DatatypeSamesWrongFalsely : Prop := datatypeSamesRow.holds Try.pinned (OpenSpec.ofChange datatypeSamesWrong)

/-- 'slabvaultlaw09.DatatypeBytes': WHATEVER THE INPUT: true; the input reads as it did. -/
def datatypeBytesSpec : ChangeSpec := { name := "datatypeBytes", fn := fun _ => fun
  | [d] => { results := [.lit (.bool true)], args := [d] }
  | _ => none }
def datatypeBytesRow : OpenClaim := { program := "ytojcokdfplldbaa", sum := "43232ae3f71e014ec7e2c957b24423566de24ef1472ddbb917debf8933acbf49", func := "slabvault/slabvaultlaw09.DatatypeBytes", spec := "datatypeBytes", inPlace := ["internal/bytealg.IndexByteString"], unfollowed := true, recurses := true, loops := true, apart := false }
def DatatypeBytesSaid : Prop := datatypeBytesRow.holds Try.pinned (OpenSpec.ofChange datatypeBytesSpec)

/-- ITS FALSE NEIGHBOUR: 'it returns false'. Refute it at one input. -/
def datatypeBytesWrong : ChangeSpec := { name := "datatypeBytes", fn := fun _ => fun
  | [d] => { results := [.lit (.bool false)], args := [d] }
  | _ => none }
def DatatypeBytesWrongFalsely : Prop := datatypeBytesRow.holds Try.pinned (OpenSpec.ofChange datatypeBytesWrong)

/-- 'slabvaultlaw09.DatatypeLoads': WHATEVER THE INPUT: true; the input reads as it did. -/
def datatypeLoadsSpec : ChangeSpec := { name := "datatypeLoads", fn := fun _ => fun
  | [d] => { results := [.lit (.bool true)], args := [d] }
  | _ => none }
def datatypeLoadsRow : OpenClaim := { program := "ytojcokdfplldbaa", sum := "43232ae3f71e014ec7e2c957b24423566de24ef1472ddbb917debf8933acbf49", func := "slabvault/slabvaultlaw09.DatatypeLoads", spec := "datatypeLoads", inPlace := ["internal/bytealg.IndexByteString"], unfollowed := true, recurses := true, apart := false }
def DatatypeLoadsSaid : Prop := datatypeLoadsRow.holds Try.pinned (OpenSpec.ofChange datatypeLoadsSpec)

/-- ITS FALSE NEIGHBOUR: 'it returns false'. Refute it at one input. -/
def datatypeLoadsWrong : ChangeSpec := { name := "datatypeLoads", fn := fun _ => fun
  | [d] => { results := [.lit (.bool false)], args := [d] }
  | _ => none }
def DatatypeLoadsWrongFalsely : Prop := datatypeLoadsRow.holds Try.pinned (OpenSpec.ofChange datatypeLoadsWrong)

/- THE SECOND FORM. 'bulk': how many values and letters a reading holds, each counted each time it is reached (what is shared counts as often as it is met; a slice's spare places count too). A statement '..UptoSaid' is the law's where the arguments, and the package variables that the reading takes, are together of bulk at most 1048576: NARROWER than '..Said'. Prove '..Said' where nothing that the law and all that it calls make is longer than what came in: it says more and counts as full. Else prove '..UptoSaid'. A law counts once. -/
mutual
def uptoBulk {H : Type} : DataW H → Nat
  | .lit (.string bytes) => bytes.length + 1
  | .lit _ => 1
  | .nil => 1
  | .ptr d => uptoBulk d + 1
  | .slice elems spare => uptoBulkAll elems + uptoBulkAll spare + 1
  | .agg parts => uptoBulkAll parts + 1
  | .iface _ d => uptoBulk d + 1
  | .map entries => uptoBulkEntries entries + 1
  | .held _ => 1
def uptoBulkAll {H : Type} : List (DataW H) → Nat
  | [] => 0
  | d :: r => uptoBulk d + uptoBulkAll r
def uptoBulkEntries {H : Type} : List (Lit × DataW H) → Nat
  | [] => 0
  | x :: r => uptoBulkEntry x + uptoBulkEntries r
def uptoBulkEntry {H : Type} : Lit × DataW H → Nat
  | (.string bytes, d) => bytes.length + uptoBulk d + 1
  | (_, d) => uptoBulk d + 1
 end
def uptoSmall : (H : Type) → List (DataW H) → Bool := fun _ ds => decide (uptoBulkAll ds ≤ 1048576)
def OpenSpec.upto (s : _root_.Go.ChangeSpec) : _root_.Go.OpenSpec := { _root_.Go.OpenSpec.ofChange s with cond := some uptoSmall }

/-- 'slabvaultlaw09.DatatypeChecks', WHERE WHAT IT READS IS OF BULK AT MOST 1048576: true; the input reads as it did. -/
def datatypeChecksUptoRow : OpenClaim := { program := "ytojcokdfplldbaa", sum := "43232ae3f71e014ec7e2c957b24423566de24ef1472ddbb917debf8933acbf49", func := "slabvault/slabvaultlaw09.DatatypeChecks", spec := "datatypeChecks", inPlace := ["internal/bytealg.IndexByteString"], unfollowed := true, recurses := true, loops := true, apart := false, narrowed := true }
def DatatypeChecksUptoSaid : Prop := datatypeChecksUptoRow.holds Try.pinned (OpenSpec.upto datatypeChecksSpec)

/-- 'slabvaultlaw09.DatatypePlaces', WHERE WHAT IT READS IS OF BULK AT MOST 1048576: true; the input reads as it did. -/
def datatypePlacesUptoRow : OpenClaim := { program := "ytojcokdfplldbaa", sum := "43232ae3f71e014ec7e2c957b24423566de24ef1472ddbb917debf8933acbf49", func := "slabvault/slabvaultlaw09.DatatypePlaces", spec := "datatypePlaces", inPlace := ["internal/bytealg.IndexByteString"], unfollowed := true, recurses := true, loops := true, apart := false, narrowed := true }
def DatatypePlacesUptoSaid : Prop := datatypePlacesUptoRow.holds Try.pinned (OpenSpec.upto datatypePlacesSpec)

/-- 'slabvaultlaw09.DatatypeTurns', WHERE WHAT IT READS IS OF BULK AT MOST 1048576: true; the input reads as it did. -/
def datatypeTurnsUptoRow : OpenClaim := { program := "ytojcokdfplldbaa", sum := "43232ae3f71e014ec7e2c957b24423566de24ef1472ddbb917debf8933acbf49", func := "slabvault/slabvaultlaw09.DatatypeTurns", spec := "datatypeTurns", inPlace := ["internal/bytealg.IndexByteString"], unfollowed := true, recurses := true, loops := true, apart := false, narrowed := true }
def DatatypeTurnsUptoSaid : Prop := datatypeTurnsUptoRow.holds Try.pinned (OpenSpec.upto datatypeTurnsSpec)

/-- 'slabvaultlaw09.DatatypeSames', WHERE WHAT IT READS IS OF BULK AT MOST 1048576: true; the input reads as it did. -/
def datatypeSamesUptoRow : OpenClaim := { program := "ytojcokdfplldbaa", sum := "43232ae3f71e014ec7e2c957b24423566de24ef1472ddbb917debf8933acbf49", func := "slabvault/slabvaultlaw09.DatatypeSames", spec := "datatypeSames", inPlace := ["internal/bytealg.IndexByteString"], unfollowed := true, recurses := true, loops := true, apart := false, narrowed := true }
def DatatypeSamesUptoSaid : Prop := datatypeSamesUptoRow.holds Try.pinned (OpenSpec.upto datatypeSamesSpec)

/-- 'slabvaultlaw09.DatatypeBytes', WHERE WHAT IT READS IS OF BULK AT MOST 1048576: true; the input reads as it did. -/
def datatypeBytesUptoRow : OpenClaim := { program := "ytojcokdfplldbaa", sum := "43232ae3f71e014ec7e2c957b24423566de24ef1472ddbb917debf8933acbf49", func := "slabvault/slabvaultlaw09.DatatypeBytes", spec := "datatypeBytes", inPlace := ["internal/bytealg.IndexByteString"], unfollowed := true, recurses := true, loops := true, apart := false, narrowed := true }
def DatatypeBytesUptoSaid : Prop := datatypeBytesUptoRow.holds Try.pinned (OpenSpec.upto datatypeBytesSpec)

/-- 'slabvaultlaw09.DatatypeLoads', WHERE WHAT IT READS IS OF BULK AT MOST 1048576: true; the input reads as it did. -/
def datatypeLoadsUptoRow : OpenClaim := { program := "ytojcokdfplldbaa", sum := "43232ae3f71e014ec7e2c957b24423566de24ef1472ddbb917debf8933acbf49", func := "slabvault/slabvaultlaw09.DatatypeLoads", spec := "datatypeLoads", inPlace := ["internal/bytealg.IndexByteString"], unfollowed := true, recurses := true, apart := false, narrowed := true }
def DatatypeLoadsUptoSaid : Prop := datatypeLoadsUptoRow.holds Try.pinned (OpenSpec.upto datatypeLoadsSpec)

end Rows
end Go.Proofs.Ytojcokdfplldbaa
