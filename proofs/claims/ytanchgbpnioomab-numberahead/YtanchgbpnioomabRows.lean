/-
  No cell of these rows narrows 'for every input' (looked for: loops, veiled, ifaces, maps, wideKeys, modest, calm, conditions, laid).
  DERIVED. THE GIVEN ROWS OF THIS SEAT. 5 by the template 'for every input the law returns true; each argument reads behind the call as it read before'; 0 by the template 'total and deterministic' (their statements: YtanchgbpnioomabTotals.lean).
  GIVEN WITH THE SEED: the statements are not yours to turn. If you find one false, say at which input.
  Laid BY PROGRAM, IN A SANDBOX (cutbox-rows.mjs): the forced cells as the released guide's own fill.sh prints them over the translation 53415b25f0d90370… (all of the seat's roots in one cut). By AI agents, Wed Nov 11 2026. No macro, syntax, notation, axiom, sorry.
-/
import Derived.Test.YtanchgbpnioomabChecked
import GoSem.Claim
import GoSem.ClaimJoined
import GoSem.ClaimMapViews
import Derived.JoinedTies
import Derived.KernelRfl
namespace Go.Proofs.Ytanchgbpnioomab
/- THE CELL 'sum', in the pinned program and in every row, IS THE sha256 OF THE DUMP (.gsa) THAT YtanchgbpnioomabProg.lean LOADS. Nothing in Lean hashes anything: it is a label: what it is worth is what the hold of that sum in a sandbox is worth. -/
noncomputable def Try.pinned : Pinned := { name := "ytanchgbpnioomab", sum := "53415b25f0d90370110f3adf3a91cccf8a52a0bb2cd9ea03bbc01c38f562d695", checked := Try.checked }
namespace Rows
def none {H : Type} : Left H := { results := [], args := [] }

/-- 'slabvaultlaw10.NumberLanguage': WHATEVER THE INPUT: true; the input reads as it did. -/
def numberLanguageSpec : ChangeSpec := { name := "numberLanguage", fn := fun _ => fun
  | [d1, d2, d3] => { results := [.lit (.bool true)], args := [d1, d2, d3] }
  | _ => none }
def numberLanguageRow : OpenClaim := { program := "ytanchgbpnioomab", sum := "53415b25f0d90370110f3adf3a91cccf8a52a0bb2cd9ea03bbc01c38f562d695", func := "slabvault/slabvaultlaw10.NumberLanguage", spec := "numberLanguage", inPlace := ["math.Float64frombits", "math.Float32frombits", "math.Float64bits", "math.Float32bits"], apart := false }
def NumberLanguageSaid : Prop := numberLanguageRow.holds Try.pinned (OpenSpec.ofChange numberLanguageSpec)

/-- ITS FALSE NEIGHBOUR: 'it returns false'. Refute it at one input. -/
def numberLanguageWrong : ChangeSpec := { name := "numberLanguage", fn := fun _ => fun
  | [d1, d2, d3] => { results := [.lit (.bool false)], args := [d1, d2, d3] }
  | _ => none }
def NumberLanguageWrongFalsely : Prop := numberLanguageRow.holds Try.pinned (OpenSpec.ofChange numberLanguageWrong)

/-- 'slabvaultlaw10.NumberAhead': WHATEVER THE INPUT: true; the input reads as it did. -/
def numberAheadSpec : ChangeSpec := { name := "numberAhead", fn := fun _ => fun
  | [d] => { results := [.lit (.bool true)], args := [d] }
  | _ => none }
def numberAheadRow : OpenClaim := { program := "ytanchgbpnioomab", sum := "53415b25f0d90370110f3adf3a91cccf8a52a0bb2cd9ea03bbc01c38f562d695", func := "slabvault/slabvaultlaw10.NumberAhead", spec := "numberAhead", inPlace := ["math.Float64frombits", "math.Float32frombits", "math.Float64bits", "math.archTrunc", "math.Float32bits"], apart := false }
def NumberAheadSaid : Prop := numberAheadRow.holds Try.pinned (OpenSpec.ofChange numberAheadSpec)

/-- ITS FALSE NEIGHBOUR: 'it returns false'. Refute it at one input. -/
def numberAheadWrong : ChangeSpec := { name := "numberAhead", fn := fun _ => fun
  | [d] => { results := [.lit (.bool false)], args := [d] }
  | _ => none }
def NumberAheadWrongFalsely : Prop := numberAheadRow.holds Try.pinned (OpenSpec.ofChange numberAheadWrong)

/-- 'slabvaultlaw10.NumberBack': WHATEVER THE INPUT: true; the input reads as it did. -/
def numberBackSpec : ChangeSpec := { name := "numberBack", fn := fun _ => fun
  | [d1, d2] => { results := [.lit (.bool true)], args := [d1, d2] }
  | _ => none }
def numberBackRow : OpenClaim := { program := "ytanchgbpnioomab", sum := "53415b25f0d90370110f3adf3a91cccf8a52a0bb2cd9ea03bbc01c38f562d695", func := "slabvault/slabvaultlaw10.NumberBack", spec := "numberBack", inPlace := ["math.Float32bits", "math.Float64bits", "math.Float32frombits", "math.Float64frombits"], apart := false }
def NumberBackSaid : Prop := numberBackRow.holds Try.pinned (OpenSpec.ofChange numberBackSpec)

/-- ITS FALSE NEIGHBOUR: 'it returns false'. Refute it at one input. -/
def numberBackWrong : ChangeSpec := { name := "numberBack", fn := fun _ => fun
  | [d1, d2] => { results := [.lit (.bool false)], args := [d1, d2] }
  | _ => none }
def NumberBackWrongFalsely : Prop := numberBackRow.holds Try.pinned (OpenSpec.ofChange numberBackWrong)

/-- 'slabvaultlaw10.NumberOrder': WHATEVER THE INPUT: true; the input reads as it did. -/
def numberOrderSpec : ChangeSpec := { name := "numberOrder", fn := fun _ => fun
  | [d1, d2, d3] => { results := [.lit (.bool true)], args := [d1, d2, d3] }
  | _ => none }
def numberOrderRow : OpenClaim := { program := "ytanchgbpnioomab", sum := "53415b25f0d90370110f3adf3a91cccf8a52a0bb2cd9ea03bbc01c38f562d695", func := "slabvault/slabvaultlaw10.NumberOrder", spec := "numberOrder", inPlace := ["math.Float32bits", "math.Float64bits", "math.Float32frombits"], apart := false }
def NumberOrderSaid : Prop := numberOrderRow.holds Try.pinned (OpenSpec.ofChange numberOrderSpec)

/-- ITS FALSE NEIGHBOUR: 'it returns false'. Refute it at one input. -/
def numberOrderWrong : ChangeSpec := { name := "numberOrder", fn := fun _ => fun
  | [d1, d2, d3] => { results := [.lit (.bool false)], args := [d1, d2, d3] }
  | _ => none }
def NumberOrderWrongFalsely : Prop := numberOrderRow.holds Try.pinned (OpenSpec.ofChange numberOrderWrong)

/-- 'slabvaultlaw10.NumberFalls': WHATEVER THE INPUT: true; the input reads as it did. -/
def numberFallsSpec : ChangeSpec := { name := "numberFalls", fn := fun _ => fun
  | [d1, d2, d3] => { results := [.lit (.bool true)], args := [d1, d2, d3] }
  | _ => none }
def numberFallsRow : OpenClaim := { program := "ytanchgbpnioomab", sum := "53415b25f0d90370110f3adf3a91cccf8a52a0bb2cd9ea03bbc01c38f562d695", func := "slabvault/slabvaultlaw10.NumberFalls", spec := "numberFalls", inPlace := ["math.Float64frombits", "math.Float32bits", "math.Float64bits", "math.Float32frombits"], apart := false }
def NumberFallsSaid : Prop := numberFallsRow.holds Try.pinned (OpenSpec.ofChange numberFallsSpec)

/-- ITS FALSE NEIGHBOUR: 'it returns false'. Refute it at one input. -/
def numberFallsWrong : ChangeSpec := { name := "numberFalls", fn := fun _ => fun
  | [d1, d2, d3] => { results := [.lit (.bool false)], args := [d1, d2, d3] }
  | _ => none }
def NumberFallsWrongFalsely : Prop := numberFallsRow.holds Try.pinned (OpenSpec.ofChange numberFallsWrong)

/- THE SECOND FORM. 'bulk': how many values and letters a reading holds, each counted each time it is reached (what is shared counts as often as it is met; a slice's spare places count too). A statement '..UptoSaid' is the law's where the arguments, and the package variables that the reading takes, are together of bulk at most 1048576: NARROWER than '..Said'. Prove '..Said' where nothing that the law and all that it calls make is longer than what came in: it says more and counts as full. Else prove '..UptoSaid'. A law counts once. -/
mutual
def uptoBulk {H : Type} : DataW H → Nat
  | .lit (.string bytes) => bytes.length + 1
  | .lit _ => 1
  | .nil => 1
  | .ptr d => uptoBulk d + 1
  | .slice elems spare => uptoBulkAll elems + uptoBulkAll spare + 1
  | .agg parts => uptoBulkAll parts + 1
  | .iface _ d => uptoBulk d + 1
  | .map entries => uptoBulkEntries entries + 1
  | .held _ => 1
def uptoBulkAll {H : Type} : List (DataW H) → Nat
  | [] => 0
  | d :: r => uptoBulk d + uptoBulkAll r
def uptoBulkEntries {H : Type} : List (Lit × DataW H) → Nat
  | [] => 0
  | x :: r => uptoBulkEntry x + uptoBulkEntries r
def uptoBulkEntry {H : Type} : Lit × DataW H → Nat
  | (.string bytes, d) => bytes.length + uptoBulk d + 1
  | (_, d) => uptoBulk d + 1
 end
def uptoSmall : (H : Type) → List (DataW H) → Bool := fun _ ds => decide (uptoBulkAll ds ≤ 1048576)
def OpenSpec.upto (s : _root_.Go.ChangeSpec) : _root_.Go.OpenSpec := { _root_.Go.OpenSpec.ofChange s with cond := some uptoSmall }

/-- 'slabvaultlaw10.NumberLanguage', WHERE WHAT IT READS IS OF BULK AT MOST 1048576: true; the input reads as it did. -/
def numberLanguageUptoRow : OpenClaim := { program := "ytanchgbpnioomab", sum := "53415b25f0d90370110f3adf3a91cccf8a52a0bb2cd9ea03bbc01c38f562d695", func := "slabvault/slabvaultlaw10.NumberLanguage", spec := "numberLanguage", inPlace := ["math.Float64frombits", "math.Float32frombits", "math.Float64bits", "math.Float32bits"], apart := false, narrowed := true }
def NumberLanguageUptoSaid : Prop := numberLanguageUptoRow.holds Try.pinned (OpenSpec.upto numberLanguageSpec)

/-- 'slabvaultlaw10.NumberAhead', WHERE WHAT IT READS IS OF BULK AT MOST 1048576: true; the input reads as it did. -/
def numberAheadUptoRow : OpenClaim := { program := "ytanchgbpnioomab", sum := "53415b25f0d90370110f3adf3a91cccf8a52a0bb2cd9ea03bbc01c38f562d695", func := "slabvault/slabvaultlaw10.NumberAhead", spec := "numberAhead", inPlace := ["math.Float64frombits", "math.Float32frombits", "math.Float64bits", "math.archTrunc", "math.Float32bits"], apart := false, narrowed := true }
def NumberAheadUptoSaid : Prop := numberAheadUptoRow.holds Try.pinned (OpenSpec.upto numberAheadSpec)

/-- 'slabvaultlaw10.NumberBack', WHERE WHAT IT READS IS OF BULK AT MOST 1048576: true; the input reads as it did. -/
def numberBackUptoRow : OpenClaim := { program := "ytanchgbpnioomab", sum := "53415b25f0d90370110f3adf3a91cccf8a52a0bb2cd9ea03bbc01c38f562d695", func := "slabvault/slabvaultlaw10.NumberBack", spec := "numberBack", inPlace := ["math.Float32bits", "math.Float64bits", "math.Float32frombits", "math.Float64frombits"], apart := false, narrowed := true }
def NumberBackUptoSaid : Prop := numberBackUptoRow.holds Try.pinned (OpenSpec.upto numberBackSpec)

/-- 'slabvaultlaw10.NumberOrder', WHERE WHAT IT READS IS OF BULK AT MOST 1048576: true; the input reads as it did. -/
def numberOrderUptoRow : OpenClaim := { program := "ytanchgbpnioomab", sum := "53415b25f0d90370110f3adf3a91cccf8a52a0bb2cd9ea03bbc01c38f562d695", func := "slabvault/slabvaultlaw10.NumberOrder", spec := "numberOrder", inPlace := ["math.Float32bits", "math.Float64bits", "math.Float32frombits"], apart := false, narrowed := true }
def NumberOrderUptoSaid : Prop := numberOrderUptoRow.holds Try.pinned (OpenSpec.upto numberOrderSpec)

/-- 'slabvaultlaw10.NumberFalls', WHERE WHAT IT READS IS OF BULK AT MOST 1048576: true; the input reads as it did. -/
def numberFallsUptoRow : OpenClaim := { program := "ytanchgbpnioomab", sum := "53415b25f0d90370110f3adf3a91cccf8a52a0bb2cd9ea03bbc01c38f562d695", func := "slabvault/slabvaultlaw10.NumberFalls", spec := "numberFalls", inPlace := ["math.Float64frombits", "math.Float32bits", "math.Float64bits", "math.Float32frombits"], apart := false, narrowed := true }
def NumberFallsUptoSaid : Prop := numberFallsUptoRow.holds Try.pinned (OpenSpec.upto numberFallsSpec)

end Rows
end Go.Proofs.Ytanchgbpnioomab
