/-
  The document's within, at numbers. No conditions.
-/
import Derived.Test.YtfnnomjeoaoepaaRSized
import Derived.Test.YtfnnomjeoaoepaaDPlR
namespace Go.Proofs.Ytfnnomjeoaoepaa
open Go.RowKit Go.Shelf
set_option linter.unusedVariables false
set_option maxRecDepth 100000

/-- Places as the document has them, of the call's own. -/
def OwnRp (w : World) (B : Nat) (v : Value) (L : List Pl) : Prop := w.ownsRow B 48 4 v L.length (gc encP L)
/-- What within tells. -/
def WtP (w : World) (L : List Pl) (e : Ending) (w' : World) : Prop := ∃ v, e = .returned v ∧ OwnRp w' w.heap.size v L ∧ Below w.heap.size w w'
theorem rp_one {w : World} {B g : Nat} {a c wd : Int} {b : Bool} (hg : w.heap[g]? = some (.cells #[.int .i64 a, .int .i64 c, .int .i64 wd, .bool b] 48 (0, 0))) (hB : B ≤ g) : OwnRp w B (.slice (some ⟨g, 0, none⟩) 1 1) [⟨a, c, wd, b⟩] :=
  ⟨rfl, .inr ⟨g, 1, _, rfl, hB, hg, Nat.le_refl _, by unfold maxLen; omega, rfl, rfl⟩⟩
theorem rp_two {w : World} {B g : Nat} {a c wd a' c' wd' : Int} {b b' : Bool} (hg : w.heap[g]? = some (.cells #[.int .i64 a, .int .i64 c, .int .i64 wd, .bool b, .int .i64 a', .int .i64 c', .int .i64 wd', .bool b'] 48 (0, 0))) (hB : B ≤ g) : OwnRp w B (.slice (some ⟨g, 0, none⟩) 2 2) [⟨a, c, wd, b⟩, ⟨a', c', wd', b'⟩] :=
  ⟨rfl, .inr ⟨g, 2, _, rfl, hB, hg, Nat.le_refl _, by unfold maxLen; omega, rfl, rfl⟩⟩
theorem rp_made (w w1 : World) (a c wd : Int) (b : Bool) (h : Below w.heap.size w w1) : ∃ w2, w1.alloc (.cells #[.int .i64 a, .int .i64 c, .int .i64 wd, .bool b] 48) = w2 ∧ Below w.heap.size w w2 ∧ OwnRp w2 w.heap.size (.slice (some ⟨w1.heap.size, 0, none⟩) 1 1) [⟨a, c, wd, b⟩] :=
  ⟨_, rfl, h.alloc h.size _, rp_one (heap_alloc_new w1 _) h.size⟩
theorem rp_made2 (w w1 : World) (a c wd a' c' wd' : Int) (b b' : Bool) (h : Below w.heap.size w w1) : ∃ w2, w1.alloc (.cells #[.int .i64 a, .int .i64 c, .int .i64 wd, .bool b, .int .i64 a', .int .i64 c', .int .i64 wd', .bool b'] 48) = w2 ∧ Below w.heap.size w w2 ∧ OwnRp w2 w.heap.size (.slice (some ⟨w1.heap.size, 0, none⟩) 2 2) [⟨a, c, wd, b⟩, ⟨a', c', wd', b'⟩] :=
  ⟨_, rfl, h.alloc h.size _, rp_two (heap_alloc_new w1 _) h.size⟩
set_option maxHeartbeats 8000000 in
theorem with_num (c wd : Int) (b : Bool) (f d y n : Value) (p : Int) (w : World) (hc : c = 1 ∨ c = 2 ∨ c = 3) : Calls Try.prog 28 #[.agg #[.int .i64 c, .int .i64 wd, .bool b, f, d, y, n], .int .i64 p] w (WtP w [⟨p, c, wd, b⟩]) := by
  obtain ⟨w1, hw1, hb1, hs1, c0, c1, c2, c3, c4, c5, c6⟩ := bx_made w c wd b f d y n
  obtain ⟨w2, hw2, hb2, ho2⟩ := rp_made w w1 p c wd b hb1
  have HB2 : Hid (Below w.heap.size w w2) := hb2
  have HO2 : Hid (OwnRp w2 w.heap.size (.slice (some ⟨w1.heap.size, 0, none⟩) 1 1) [⟨p, c, wd, b⟩]) := ho2
  clear hb1 hs1 hb2 ho2
  rcases hc with rfl | rfl | rfl
  all_goals
    go_enter Try.func28, Try.ntmps28
    go_wp2_with fail
    go_ret
    exact ⟨_, rfl, HO2.out, HB2.out⟩
set_option maxHeartbeats 8000000 in
theorem with_cpx (wd : Int) (b : Bool) (f d y n : Value) (p : Int) (w : World) (hw1 : 1 ≤ wd) (hw2 : wd ≤ 8) (hp : 0 ≤ p ∧ p ≤ 256) : Calls Try.prog 28 #[.agg #[.int .i64 4, .int .i64 wd, .bool b, f, d, y, n], .int .i64 p] w (WtP w [⟨p, 3, wd, b⟩, ⟨p + wd, 3, wd, b⟩]) := by
  obtain ⟨w1, hw1', hb1, hs1, c0, c1, c2, c3, c4, c5, c6⟩ := bx_made w 4 wd b f d y n
  obtain ⟨w2, hw2', hb2, ho2⟩ := rp_made2 w w1 p 3 wd (p + wd) 3 wd b b hb1
  have HB2 : Hid (Below w.heap.size w w2) := hb2
  have HO2 : Hid (OwnRp w2 w.heap.size (.slice (some ⟨w1.heap.size, 0, none⟩) 2 2) [⟨p, 3, wd, b⟩, ⟨p + wd, 3, wd, b⟩]) := ho2
  have hwr : IntKind.i64.wrap (p + wd) = p + wd := wrap_i64_inD _ (by omega) (by omega)
  clear hb1 hs1 hb2 ho2 hw1 hw2 hp
  go_enter Try.func28, Try.ntmps28
  go_wp2_with fail
  go_ret
  exact ⟨_, rfl, HO2.out, HB2.out⟩
end Go.Proofs.Ytfnnomjeoaoepaa
