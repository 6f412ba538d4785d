/-
  An argument that is an extent, opened: two ints within the machine's bounds. No conditions.
-/
import Derived.Test.YtbpaiioonljlpabFrameX
import Derived.Lib.SmallJoins
namespace Go.Proofs.Ytbpaiioonljlpab
open Go.ChangeShapes Go.WideShapes Go.ChangeAt Go.RowKit Go.Deep Go.Joins
set_option linter.unusedVariables false

theorem Try.oneX : oneCellFields Try.prog #[{ name := "At", type := 3, offset := 0, embedded := false, tag := "", pkgPath := "", byteOffset := 0 }, { name := "Size", type := 3, offset := 1, embedded := false, tag := "", pkgPath := "", byteOffset := 8 }] = true := by kernel_rfl

theorem x_arg {H : Type} {enc : TypeId × Value → H} {W : World} {base : Nat} {v : Value} {d : DataW H} {p : List MemPlace}
    (hok : Value.okWide Try.prog W .any base 48 v) (h : DataW.Trod enc Try.prog W 0 (fun _ => true) true 48 v d p) :
    ∃ x : Ext, v = .agg #[.int .i64 x.1, .int .i64 x.2] ∧ EW x := by
  obtain ⟨v0, v1, y0, y1, n, rfl, rfl, rfl, h0, h1⟩ := open_agg2 Try.underlying48 Try.oneX Try.cellsX hok h
  obtain ⟨k0, e0, _, w0⟩ := DataW.trod_int Try.underlying3 h0
  obtain ⟨k1, e1, _, w1⟩ := DataW.trod_int Try.underlying3 h1
  simp at e0 e1
  subst e0 e1
  exact ⟨(k0, k1), rfl, bounds_i64 w0, bounds_i64 w1⟩
end Go.Proofs.Ytbpaiioonljlpab
