/-
  Arguments that are roots, one or a list of them, opened: numbers within the machine's bounds. No conditions.
-/
import Derived.Test.YtkiccnedmejnaaaDoorFrame
import Derived.Test.YtkiccnedmejnaaaDoorFrameL4
import Derived.ProofKit
import Derived.OpenShut
import Derived.SizedLaws
import Derived.Lib.SmallJoins
import Derived.Deep.Slices
import Derived.Deep.Strs
namespace Go.Proofs.YtkiccnedmejnaaaDoor
open Go.ChangeShapes Go.WideShapes Go.ChangeAt Go.RowKit Go.Deep Go.Joins
set_option linter.unusedVariables false
set_option maxRecDepth 100000

theorem Tryd.oneRt : oneCellFields Tryd.prog #[{ name := "Generation", type := 22, offset := 0, embedded := false, tag := "", pkgPath := "", byteOffset := 0 }, { name := "At", type := 3, offset := 1, embedded := false, tag := "", pkgPath := "", byteOffset := 8 }, { name := "Size", type := 3, offset := 2, embedded := false, tag := "", pkgPath := "", byteOffset := 16 }] = true := by kernel_rfl
theorem Tryd.cellsRt : Tryd.prog.cellsOf 24 = 3 := by kernel_rfl

theorem bounds_u64r {a : Int} (h : (Lit.int .u64 a).wf = true) : 0 ≤ a ∧ a < 18446744073709551616 := by
  simp [Lit.wf, IntKind.min, IntKind.max, IntKind.bits, IntKind.signed] at h
  omega
theorem bounds_i64r {a : Int} (h : (Lit.int .i64 a).wf = true) : -9223372036854775808 ≤ a ∧ a ≤ 9223372036854775807 := by
  simp [Lit.wf, IntKind.min, IntKind.max, IntKind.bits, IntKind.signed] at h
  omega

theorem root_arg {H : Type} {enc : TypeId × Value → H} {W : World} {base : Nat} {v : Value} {d : DataW H} {p : List MemPlace}
    (hok : Value.okWide Tryd.prog W .any base 24 v) (h : DataW.Trod enc Tryd.prog W 0 (fun _ => true) true 24 v d p) :
    ∃ x : Rt, v = rtV x ∧ RtW x := by
  obtain ⟨v0, v1, v2, y0, y1, y2, n, rfl, rfl, rfl, h0, h1, h2⟩ := open_agg3 Tryd.underlying24 Tryd.oneRt Tryd.cellsRt hok h
  obtain ⟨k0, e0, _, w0⟩ := DataW.trod_int Tryd.underlying22 h0
  obtain ⟨k1, e1, _, w1⟩ := DataW.trod_int Tryd.underlying3 h1
  obtain ⟨k2, e2, _, w2⟩ := DataW.trod_int Tryd.underlying3 h2
  simp at e0 e1 e2
  subst e0 e1 e2
  exact ⟨(k0, k1, k2), rfl, bounds_u64r w0, bounds_i64r w1, bounds_i64r w2⟩
end Go.Proofs.YtkiccnedmejnaaaDoor

namespace Go.Proofs.YtkiccnedmejnaaaDoor
open Go.ChangeShapes Go.WideShapes Go.ChangeAt Go.RowKit Go.Deep Go.Joins
set_option linter.unusedVariables false
set_option maxRecDepth 100000

theorem Tryd.cellsI : Tryd.prog.cellsOf 3 = 1 := by kernel_rfl
theorem Tryd.cellsU : Tryd.prog.cellsOf 22 = 1 := by kernel_rfl

theorem roots_arg {H : Type} {enc : TypeId × Value → H} {W : World} {base : Nat} {v : Value} {d : DataW H} {p : List MemPlace}
    (hok : Value.okWide Tryd.prog W .any base 63 v) (h : DataW.Trod enc Tryd.prog W 0 (fun _ => true) true 63 v d p) :
    ∃ qs, Rts W v qs := by
  obtain ⟨a0, len, cap, rfl⟩ := okWide_slice Tryd.underlying63 hok
  obtain ⟨fuel, hf⟩ := h
  rcases open_slice Tryd.underlying63 hf with ⟨hcs, hx⟩ | ⟨a, len', cap', m, n, D, Pl, hcs, _, hl, hm, hmm, hx, hrow⟩
  · simp [Value.cells] at hcs
    obtain ⟨rfl, rfl, rfl⟩ := hcs
    exact ⟨[], none, 0, rfl, Nat.le_refl _, fun i a h => by simp at h⟩
  · simp [Value.cells] at hcs
    obtain ⟨rfl, rfl, rfl⟩ := hcs
    simp only [if_true] at hmm
    rw [Tryd.cellsRt] at hrow
    have each : ∀ i, i < len → ∃ q : Rt, ∃ g o, a = ⟨g, o, none⟩ ∧ W.cell? ⟨g, o + i * 3, none⟩ = some (.int .u64 q.1) ∧ W.cell? ⟨g, o + i * 3 + 1, none⟩ = some (.int .i64 q.2.1) ∧ W.cell? ⟨g, o + i * 3 + 2, none⟩ = some (.int .i64 q.2.2) := by
      intro i hi
      obtain ⟨cs', h1, h2⟩ := hrow i (by omega)
      obtain ⟨_, hlen, hcell⟩ := World.cells?_some h1
      obtain ⟨y0, y1, y2, k, _, _, g0, g1, g2⟩ := trod_struct3 Tryd.underlying24 h2
      match cs', hlen with
      | [v0, v1, v2], _ =>
        simp [Tryd.cellsI, Tryd.cellsU] at g0 g1 g2
        obtain ⟨k0, e0, _, w0⟩ := DataW.trod_int Tryd.underlying22 g0
        obtain ⟨k1, e1, _, w1⟩ := DataW.trod_int Tryd.underlying3 g1
        obtain ⟨k2, e2, _, w2⟩ := DataW.trod_int Tryd.underlying3 g2
        simp at e0 e1 e2
        subst e0 e1 e2
        have c0 := hcell 0 (by omega)
        have c1 := hcell 1 (by omega)
        have c2 := hcell 2 (by omega)
        obtain ⟨g, o, spot⟩ := a
        have hspot : spot = none := by
          obtain ⟨cs0, h10, _⟩ := hrow 0 (by omega)
          obtain ⟨_, hlen0, hcell0⟩ := World.cells?_some h10
          have h00 := hcell0 0 (by omega)
          rw [List.getElem?_eq_getElem (show 0 < cs0.length by omega)] at h00
          have := World.cell?_spot h00
          simpa [Addr.add] using this
        subst hspot
        rw [addr_add, addr_add] at c0 c1 c2
        exact ⟨(k0, k1, k2), g, o, rfl, by simpa using c0, by simpa using c1, by simpa using c2⟩
    have hch : ∃ f : Nat → Rt, ∀ i, i < len → ∃ g o, a = ⟨g, o, none⟩ ∧ W.cell? ⟨g, o + i * 3, none⟩ = some (.int .u64 (f i).1) ∧ W.cell? ⟨g, o + i * 3 + 1, none⟩ = some (.int .i64 (f i).2.1) ∧ W.cell? ⟨g, o + i * 3 + 2, none⟩ = some (.int .i64 (f i).2.2) :=
      ⟨fun i => if h : i < len then Classical.choose (each i h) else (0, 0, 0), fun i hi => by simp only [dif_pos hi]; exact Classical.choose_spec (each i hi)⟩
    obtain ⟨f, hf⟩ := hch
    refine ⟨(List.range len).map f, some a, cap, by simp, by simpa using hl, fun i q hq => ?_⟩
    have hi : i < len := by
      have := (List.getElem?_eq_some_iff.1 hq).1
      simpa using this
    have hq' : f i = q := by simpa [hi] using hq
    subst hq'
    obtain ⟨g, o, rfl, h2⟩ := hf i hi
    exact ⟨g, o, rfl, h2⟩
end Go.Proofs.YtkiccnedmejnaaaDoor
