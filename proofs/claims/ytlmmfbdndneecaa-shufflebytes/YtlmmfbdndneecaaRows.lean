/-
  No cell of these rows narrows 'for every input' (looked for: loops, veiled, ifaces, maps, wideKeys, modest, calm, conditions, laid).
  DERIVED. THE GIVEN ROWS OF THIS SEAT. 5 by the template 'for every input the law returns true; each argument reads behind the call as it read before'; 0 by the template 'total and deterministic' (their statements: YtlmmfbdndneecaaTotals.lean).
  GIVEN WITH THE SEED: the statements are not yours to turn. If you find one false, say at which input.
  Laid BY PROGRAM, IN A SANDBOX (cutbox-rows.mjs): the forced cells as the released guide's own fill.sh prints them over the translation 41476f2c5cbbe98e… (all of the seat's roots in one cut). By AI agents, Wed Nov 11 2026. No macro, syntax, notation, axiom, sorry.
-/
import Derived.Test.YtlmmfbdndneecaaChecked
import GoSem.Claim
import GoSem.ClaimJoined
import GoSem.ClaimMapViews
import Derived.JoinedTies
import Derived.KernelRfl
namespace Go.Proofs.Ytlmmfbdndneecaa
/- THE CELL 'sum', in the pinned program and in every row, IS THE sha256 OF THE DUMP (.gsa) THAT YtlmmfbdndneecaaProg.lean LOADS. Nothing in Lean hashes anything: it is a label: what it is worth is what the hold of that sum in a sandbox is worth. -/
noncomputable def Try.pinned : Pinned := { name := "ytlmmfbdndneecaa", sum := "41476f2c5cbbe98e6b88c95fbf792eac408542766bf1301448e3c792a2661f86", checked := Try.checked }
namespace Rows
def none {H : Type} : Left H := { results := [], args := [] }

/-- 'slabvaultlaw14.ShuffleMixes': WHATEVER THE INPUT: true; the input reads as it did. -/
def shuffleMixesSpec : ChangeSpec := { name := "shuffleMixes", fn := fun _ => fun
  | [d1, d2] => { results := [.lit (.bool true)], args := [d1, d2] }
  | _ => none }
def shuffleMixesRow : OpenClaim := { program := "ytlmmfbdndneecaa", sum := "41476f2c5cbbe98e6b88c95fbf792eac408542766bf1301448e3c792a2661f86", func := "slabvault/slabvaultlaw14.ShuffleMixes", spec := "shuffleMixes", unfollowed := true, recurses := true, apart := false }
def ShuffleMixesSaid : Prop := shuffleMixesRow.holds Try.pinned (OpenSpec.ofChange shuffleMixesSpec)

/-- ITS FALSE NEIGHBOUR: 'it returns false'. Refute it at one input. -/
def shuffleMixesWrong : ChangeSpec := { name := "shuffleMixes", fn := fun _ => fun
  | [d1, d2] => { results := [.lit (.bool false)], args := [d1, d2] }
  | _ => none }
def ShuffleMixesWrongFalsely : Prop := shuffleMixesRow.holds Try.pinned (OpenSpec.ofChange shuffleMixesWrong)

/-- 'slabvaultlaw14.ShuffleDeltas': WHATEVER THE INPUT: true; the input reads as it did. -/
def shuffleDeltasSpec : ChangeSpec := { name := "shuffleDeltas", fn := fun _ => fun
  | [d1, d2] => { results := [.lit (.bool true)], args := [d1, d2] }
  | _ => none }
def shuffleDeltasRow : OpenClaim := { program := "ytlmmfbdndneecaa", sum := "41476f2c5cbbe98e6b88c95fbf792eac408542766bf1301448e3c792a2661f86", func := "slabvault/slabvaultlaw14.ShuffleDeltas", spec := "shuffleDeltas", unfollowed := true, recurses := true, apart := false }
def ShuffleDeltasSaid : Prop := shuffleDeltasRow.holds Try.pinned (OpenSpec.ofChange shuffleDeltasSpec)

/-- ITS FALSE NEIGHBOUR: 'it returns false'. Refute it at one input. -/
def shuffleDeltasWrong : ChangeSpec := { name := "shuffleDeltas", fn := fun _ => fun
  | [d1, d2] => { results := [.lit (.bool false)], args := [d1, d2] }
  | _ => none }
def ShuffleDeltasWrongFalsely : Prop := shuffleDeltasRow.holds Try.pinned (OpenSpec.ofChange shuffleDeltasWrong)

/-- 'slabvaultlaw14.ShuffleBack': WHATEVER THE INPUT: true; the input reads as it did. -/
def shuffleBackSpec : ChangeSpec := { name := "shuffleBack", fn := fun _ => fun
  | [d1, d2] => { results := [.lit (.bool true)], args := [d1, d2] }
  | _ => none }
def shuffleBackRow : OpenClaim := { program := "ytlmmfbdndneecaa", sum := "41476f2c5cbbe98e6b88c95fbf792eac408542766bf1301448e3c792a2661f86", func := "slabvault/slabvaultlaw14.ShuffleBack", spec := "shuffleBack", unfollowed := true, recurses := true, apart := false }
def ShuffleBackSaid : Prop := shuffleBackRow.holds Try.pinned (OpenSpec.ofChange shuffleBackSpec)

/-- ITS FALSE NEIGHBOUR: 'it returns false'. Refute it at one input. -/
def shuffleBackWrong : ChangeSpec := { name := "shuffleBack", fn := fun _ => fun
  | [d1, d2] => { results := [.lit (.bool false)], args := [d1, d2] }
  | _ => none }
def ShuffleBackWrongFalsely : Prop := shuffleBackRow.holds Try.pinned (OpenSpec.ofChange shuffleBackWrong)

/-- 'slabvaultlaw14.ShuffleBytes': WHATEVER THE INPUT: true; the input reads as it did. -/
def shuffleBytesSpec : ChangeSpec := { name := "shuffleBytes", fn := fun _ => fun
  | [d1, d2] => { results := [.lit (.bool true)], args := [d1, d2] }
  | _ => none }
def shuffleBytesRow : OpenClaim := { program := "ytlmmfbdndneecaa", sum := "41476f2c5cbbe98e6b88c95fbf792eac408542766bf1301448e3c792a2661f86", func := "slabvault/slabvaultlaw14.ShuffleBytes", spec := "shuffleBytes", unfollowed := true, recurses := true, apart := false }
def ShuffleBytesSaid : Prop := shuffleBytesRow.holds Try.pinned (OpenSpec.ofChange shuffleBytesSpec)

/-- ITS FALSE NEIGHBOUR: 'it returns false'. Refute it at one input. -/
def shuffleBytesWrong : ChangeSpec := { name := "shuffleBytes", fn := fun _ => fun
  | [d1, d2] => { results := [.lit (.bool false)], args := [d1, d2] }
  | _ => none }
def ShuffleBytesWrongFalsely : Prop := shuffleBytesRow.holds Try.pinned (OpenSpec.ofChange shuffleBytesWrong)

/-- 'slabvaultlaw14.ShuffleSteps': WHATEVER THE INPUT: true; the input reads as it did. -/
def shuffleStepsSpec : ChangeSpec := { name := "shuffleSteps", fn := fun _ => fun
  | [d1, d2, d3, d4] => { results := [.lit (.bool true)], args := [d1, d2, d3, d4] }
  | _ => none }
def shuffleStepsRow : OpenClaim := { program := "ytlmmfbdndneecaa", sum := "41476f2c5cbbe98e6b88c95fbf792eac408542766bf1301448e3c792a2661f86", func := "slabvault/slabvaultlaw14.ShuffleSteps", spec := "shuffleSteps", unfollowed := true, recurses := true, apart := false }
def ShuffleStepsSaid : Prop := shuffleStepsRow.holds Try.pinned (OpenSpec.ofChange shuffleStepsSpec)

/-- ITS FALSE NEIGHBOUR: 'it returns false'. Refute it at one input. -/
def shuffleStepsWrong : ChangeSpec := { name := "shuffleSteps", fn := fun _ => fun
  | [d1, d2, d3, d4] => { results := [.lit (.bool false)], args := [d1, d2, d3, d4] }
  | _ => none }
def ShuffleStepsWrongFalsely : Prop := shuffleStepsRow.holds Try.pinned (OpenSpec.ofChange shuffleStepsWrong)

/- THE SECOND FORM. 'bulk': how many values and letters a reading holds, each counted each time it is reached (what is shared counts as often as it is met; a slice's spare places count too). A statement '..UptoSaid' is the law's where the arguments, and the package variables that the reading takes, are together of bulk at most 1048576: NARROWER than '..Said'. Prove '..Said' where nothing that the law and all that it calls make is longer than what came in: it says more and counts as full. Else prove '..UptoSaid'. A law counts once. -/
mutual
def uptoBulk {H : Type} : DataW H → Nat
  | .lit (.string bytes) => bytes.length + 1
  | .lit _ => 1
  | .nil => 1
  | .ptr d => uptoBulk d + 1
  | .slice elems spare => uptoBulkAll elems + uptoBulkAll spare + 1
  | .agg parts => uptoBulkAll parts + 1
  | .iface _ d => uptoBulk d + 1
  | .map entries => uptoBulkEntries entries + 1
  | .held _ => 1
def uptoBulkAll {H : Type} : List (DataW H) → Nat
  | [] => 0
  | d :: r => uptoBulk d + uptoBulkAll r
def uptoBulkEntries {H : Type} : List (Lit × DataW H) → Nat
  | [] => 0
  | x :: r => uptoBulkEntry x + uptoBulkEntries r
def uptoBulkEntry {H : Type} : Lit × DataW H → Nat
  | (.string bytes, d) => bytes.length + uptoBulk d + 1
  | (_, d) => uptoBulk d + 1
 end
def uptoSmall : (H : Type) → List (DataW H) → Bool := fun _ ds => decide (uptoBulkAll ds ≤ 1048576)
def OpenSpec.upto (s : _root_.Go.ChangeSpec) : _root_.Go.OpenSpec := { _root_.Go.OpenSpec.ofChange s with cond := some uptoSmall }

/-- 'slabvaultlaw14.ShuffleMixes', WHERE WHAT IT READS IS OF BULK AT MOST 1048576: true; the input reads as it did. -/
def shuffleMixesUptoRow : OpenClaim := { program := "ytlmmfbdndneecaa", sum := "41476f2c5cbbe98e6b88c95fbf792eac408542766bf1301448e3c792a2661f86", func := "slabvault/slabvaultlaw14.ShuffleMixes", spec := "shuffleMixes", unfollowed := true, recurses := true, apart := false, narrowed := true }
def ShuffleMixesUptoSaid : Prop := shuffleMixesUptoRow.holds Try.pinned (OpenSpec.upto shuffleMixesSpec)

/-- 'slabvaultlaw14.ShuffleDeltas', WHERE WHAT IT READS IS OF BULK AT MOST 1048576: true; the input reads as it did. -/
def shuffleDeltasUptoRow : OpenClaim := { program := "ytlmmfbdndneecaa", sum := "41476f2c5cbbe98e6b88c95fbf792eac408542766bf1301448e3c792a2661f86", func := "slabvault/slabvaultlaw14.ShuffleDeltas", spec := "shuffleDeltas", unfollowed := true, recurses := true, apart := false, narrowed := true }
def ShuffleDeltasUptoSaid : Prop := shuffleDeltasUptoRow.holds Try.pinned (OpenSpec.upto shuffleDeltasSpec)

/-- 'slabvaultlaw14.ShuffleBack', WHERE WHAT IT READS IS OF BULK AT MOST 1048576: true; the input reads as it did. -/
def shuffleBackUptoRow : OpenClaim := { program := "ytlmmfbdndneecaa", sum := "41476f2c5cbbe98e6b88c95fbf792eac408542766bf1301448e3c792a2661f86", func := "slabvault/slabvaultlaw14.ShuffleBack", spec := "shuffleBack", unfollowed := true, recurses := true, apart := false, narrowed := true }
def ShuffleBackUptoSaid : Prop := shuffleBackUptoRow.holds Try.pinned (OpenSpec.upto shuffleBackSpec)

/-- 'slabvaultlaw14.ShuffleBytes', WHERE WHAT IT READS IS OF BULK AT MOST 1048576: true; the input reads as it did. -/
def shuffleBytesUptoRow : OpenClaim := { program := "ytlmmfbdndneecaa", sum := "41476f2c5cbbe98e6b88c95fbf792eac408542766bf1301448e3c792a2661f86", func := "slabvault/slabvaultlaw14.ShuffleBytes", spec := "shuffleBytes", unfollowed := true, recurses := true, apart := false, narrowed := true }
def ShuffleBytesUptoSaid : Prop := shuffleBytesUptoRow.holds Try.pinned (OpenSpec.upto shuffleBytesSpec)

/-- 'slabvaultlaw14.ShuffleSteps', WHERE WHAT IT READS IS OF BULK AT MOST 1048576: true; the input reads as it did. -/
def shuffleStepsUptoRow : OpenClaim := { program := "ytlmmfbdndneecaa", sum := "41476f2c5cbbe98e6b88c95fbf792eac408542766bf1301448e3c792a2661f86", func := "slabvault/slabvaultlaw14.ShuffleSteps", spec := "shuffleSteps", unfollowed := true, recurses := true, apart := false, narrowed := true }
def ShuffleStepsUptoSaid : Prop := shuffleStepsUptoRow.holds Try.pinned (OpenSpec.upto shuffleStepsSpec)

end Rows
end Go.Proofs.Ytlmmfbdndneecaa
