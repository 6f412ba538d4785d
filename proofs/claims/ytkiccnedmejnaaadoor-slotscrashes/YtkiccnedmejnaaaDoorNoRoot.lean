/-
  The two listed variables: the table of check, and noRoot. What stays of them.
-/
import Derived.Test.YtkiccnedmejnaaaDoorCrcWalk
namespace Go.Proofs.YtkiccnedmejnaaaDoor
open Go.RowKit
set_option linter.unusedVariables false
set_option maxRecDepth 100000

/-- A root: its three numbers. -/
abbrev Rt := Int × Int × Int
def RtW (r : Rt) : Prop := (0 ≤ r.1 ∧ r.1 < 18446744073709551616) ∧ (-9223372036854775808 ≤ r.2.1 ∧ r.2.1 ≤ 9223372036854775807) ∧ (-9223372036854775808 ≤ r.2.2 ∧ r.2.2 ≤ 9223372036854775807)
def rtV (r : Rt) : Value := .agg #[.int .u64 r.1, .int .i64 r.2.1, .int .i64 r.2.2]

/-- A list of roots. -/
def Rts (W : World) (v : Value) (qs : List Rt) : Prop :=
  ∃ ao cap, v = .slice ao qs.length cap ∧ qs.length ≤ cap ∧ ∀ i r, qs[i]? = some r → ∃ g o, ao = some ⟨g, o, none⟩ ∧ W.cell? ⟨g, o + i * 3, none⟩ = some (.int .u64 r.1) ∧ W.cell? ⟨g, o + i * 3 + 1, none⟩ = some (.int .i64 r.2.1) ∧ W.cell? ⟨g, o + i * 3 + 2, none⟩ = some (.int .i64 r.2.2)

/-- noRoot stands as its text lays it. -/
structure NoR (w : World) : Prop where
  g : w.cell? ⟨0, 0, none⟩ = some (.int .u64 0)
  a : w.cell? ⟨0, 1, none⟩ = some (.int .i64 (-1))
  z : w.cell? ⟨0, 2, none⟩ = some (.int .i64 0)
theorem NoR.lt {w : World} (h : NoR w) : 0 < w.heap.size := World.block_lt_of_cell? w _ h.g
theorem NoR.below {w w' : World} {B : Nat} (h : NoR w) (hb : Below B w w') (hB : 0 < B) : NoR w' := ⟨(hb.cell hB).trans h.g, (hb.cell hB).trans h.a, (hb.cell hB).trans h.z⟩
/-- Both. -/
structure Sl (w : World) : Prop where
  tab : Tab w
  nor : NoR w
theorem Sl.below {w w' : World} (h : Sl w) (hb : Below w.heap.size w w') : Sl w' := ⟨h.tab.below hb, h.nor.below hb h.nor.lt⟩
end Go.Proofs.YtkiccnedmejnaaaDoor
