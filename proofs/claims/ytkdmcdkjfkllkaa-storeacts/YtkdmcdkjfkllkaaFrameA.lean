/-
  Arguments that are acts of the laws of store, one or a list of them, opened: numbers and bytes. No conditions.
-/
import Derived.Test.YtkdmcdkjfkllkaaFrameS
import Derived.Lib.SmallJoins
import Derived.Deep.Slices
namespace Go.Proofs.Ytkdmcdkjfkllkaa
open Go.ChangeShapes Go.WideShapes Go.ChangeAt Go.RowKit Go.Deep Go.Joins
set_option linter.unusedVariables false

theorem Try.oneAct : oneCellFields Try.prog #[{ name := "Kind", type := 3, offset := 0, embedded := false, tag := "", pkgPath := "", byteOffset := 0 }, { name := "At", type := 3, offset := 1, embedded := false, tag := "", pkgPath := "", byteOffset := 8 }, { name := "N", type := 3, offset := 2, embedded := false, tag := "", pkgPath := "", byteOffset := 16 }, { name := "Bytes", type := 22, offset := 3, embedded := false, tag := "", pkgPath := "", byteOffset := 24 }] = true := by kernel_rfl
theorem Try.cellsAct : Try.prog.cellsOf 36 = 4 := by kernel_rfl
theorem Try.cellsInt : Try.prog.cellsOf 3 = 1 := by kernel_rfl
theorem Try.cellsBs : Try.prog.cellsOf 22 = 1 := by kernel_rfl

/-- A cell that holds a slice of bytes. -/
theorem bytes_cell {H : Type} {enc : TypeId × Value → H} {W : World} {v : Value} {y : DataW H × List MemPlace} {n : Nat}
    (h : DataW.trod enc Try.prog W 0 (fun _ => true) true n 22 [v] = some y) : ∃ l, Bs W v l ∧ Byt l ∧ l.length ≤ maxLen := by
  rcases open_ints Try.underlying22 Try.underlying5 Try.cells5 h with ⟨hcs, hx⟩ | ⟨x, len, cap, zs, hcs, _, hl, hm, hz, hx, hcell, hwz⟩
  · simp at hcs
    subst hcs
    exact ⟨[], Bs.nil _, fun i => by simp, by simp⟩
  · simp at hcs
    subst hcs
    simp only [if_true] at hz
    have hlen : (zs.take len).length = len := by simp; omega
    refine ⟨zs.take len, ⟨some x, cap, by rw [hlen], by omega, (fun h => by cases h), ?_⟩, ?_, by omega⟩
    · intro ad ha i hi
      obtain rfl := Option.some.inj ha
      rw [hcell i (by omega)]
      simp [List.getD, show i < len by omega]
    · intro i
      by_cases hi : i < len
      · have e : (zs.take len).getD i 0 = zs[i]'(by omega) := by simp [List.getD, hi, show i < zs.length by omega]
        rw [e]
        exact bounds_u8 (hwz _ (List.getElem_mem _))
      · have e : (zs.take len).getD i 0 = 0 := by
          rw [List.getD, List.getElem?_eq_none (by omega)]; rfl
        rw [e]; omega

/-- An act. -/
structure ActV where
  ki : Int
  pl : Int
  n : Int
  v : Value
  l : List Int
structure ActV.ok (a : ActV) (W : World) : Prop where
  bs : Bs W a.v a.l
  byt : Byt a.l
  len : a.l.length ≤ maxLen
  wki : (Lit.int .i64 a.ki).wf = true
  wpl : (Lit.int .i64 a.pl).wf = true
  wn : (Lit.int .i64 a.n).wf = true

theorem act_arg {H : Type} {enc : TypeId × Value → H} {W : World} {base : Nat} {v : Value} {d : DataW H} {p : List MemPlace}
    (hok : Value.okWide Try.prog W .any base 36 v) (h : DataW.Trod enc Try.prog W 0 (fun _ => true) true 36 v d p) :
    ∃ a : ActV, v = .agg #[.int .i64 a.ki, .int .i64 a.pl, .int .i64 a.n, a.v] ∧ a.ok W := by
  obtain ⟨v0, v1, v2, v3, y0, y1, y2, y3, n, rfl, rfl, rfl, h0, h1, h2, h3⟩ := open_agg4 Try.underlying36 Try.oneAct Try.cellsAct hok h
  obtain ⟨k0, e0, _, w0⟩ := DataW.trod_int Try.underlying3 h0
  obtain ⟨k1, e1, _, w1⟩ := DataW.trod_int Try.underlying3 h1
  obtain ⟨k2, e2, _, w2⟩ := DataW.trod_int Try.underlying3 h2
  obtain ⟨l, b, y, hl⟩ := bytes_cell h3
  simp at e0 e1 e2
  subst e0 e1 e2
  exact ⟨⟨k0, k1, k2, v3, l⟩, rfl, ⟨b, y, hl, w0, w1, w2⟩⟩

/-- A list of acts. -/
def As (W : World) (v : Value) (qs : List ActV) : Prop :=
  ∃ ao cap, v = .slice ao qs.length cap ∧ qs.length ≤ cap ∧ cap ≤ maxLen ∧ ∀ i a, qs[i]? = some a → a.ok W ∧ ∃ g o, ao = some ⟨g, o, none⟩ ∧
    W.cell? ⟨g, o + i * 4, none⟩ = some (.int .i64 a.ki) ∧ W.cell? ⟨g, o + i * 4 + 1, none⟩ = some (.int .i64 a.pl) ∧ W.cell? ⟨g, o + i * 4 + 2, none⟩ = some (.int .i64 a.n) ∧ W.cell? ⟨g, o + i * 4 + 3, none⟩ = some a.v

theorem acts_arg {H : Type} {enc : TypeId × Value → H} {W : World} {base : Nat} {v : Value} {d : DataW H} {p : List MemPlace}
    (hok : Value.okWide Try.prog W .any base 32 v) (h : DataW.Trod enc Try.prog W 0 (fun _ => true) true 32 v d p) :
    ∃ qs, As W v qs := by
  obtain ⟨a0, len, cap, rfl⟩ := okWide_slice Try.underlying32 hok
  obtain ⟨fuel, hf⟩ := h
  rcases open_slice Try.underlying32 hf with ⟨hcs, hx⟩ | ⟨a, len', cap', m, n, D, Pl, hcs, _, hl, hm, hmm, hx, hrow⟩
  · simp [Value.cells] at hcs
    obtain ⟨rfl, rfl, rfl⟩ := hcs
    exact ⟨[], none, 0, rfl, Nat.le_refl _, by simp, fun i a h => by simp at h⟩
  · simp [Value.cells] at hcs
    obtain ⟨rfl, rfl, rfl⟩ := hcs
    simp only [if_true] at hmm
    rw [Try.cellsAct] at hrow
    have each : ∀ i, i < len → ∃ q : ActV, q.ok W ∧ ∃ g o, a = ⟨g, o, none⟩ ∧ W.cell? ⟨g, o + i * 4, none⟩ = some (.int .i64 q.ki) ∧ W.cell? ⟨g, o + i * 4 + 1, none⟩ = some (.int .i64 q.pl) ∧ W.cell? ⟨g, o + i * 4 + 2, none⟩ = some (.int .i64 q.n) ∧ W.cell? ⟨g, o + i * 4 + 3, none⟩ = some q.v := by
      intro i hi
      obtain ⟨cs', h1, h2⟩ := hrow i (by omega)
      obtain ⟨_, hlen, hcell⟩ := World.cells?_some h1
      obtain ⟨y0, y1, y2, y3, k, _, _, g0, g1, g2, g3⟩ := trod_struct4 Try.underlying36 h2
      match cs', hlen with
      | [v0, v1, v2, v3], _ =>
        simp [Try.cellsInt, Try.cellsBs] at g0 g1 g2 g3
        obtain ⟨k0, e0, _, w0⟩ := DataW.trod_int Try.underlying3 g0
        obtain ⟨k1, e1, _, w1⟩ := DataW.trod_int Try.underlying3 g1
        obtain ⟨k2, e2, _, w2⟩ := DataW.trod_int Try.underlying3 g2
        obtain ⟨l, b, y, hl⟩ := bytes_cell g3
        simp at e0 e1 e2
        subst e0 e1 e2
        have c0 := hcell 0 (by omega)
        have c1 := hcell 1 (by omega)
        have c2 := hcell 2 (by omega)
        have c3 := hcell 3 (by omega)
        obtain ⟨g, o, spot⟩ := a
        have hspot : spot = none := by
          obtain ⟨cs0, h10, _⟩ := hrow 0 (by omega)
          obtain ⟨_, hlen0, hcell0⟩ := World.cells?_some h10
          have h00 := hcell0 0 (by omega)
          rw [List.getElem?_eq_getElem (show 0 < cs0.length by omega)] at h00
          have := World.cell?_spot h00
          simpa [Addr.add] using this
        subst hspot
        rw [addr_add, addr_add] at c0 c1 c2 c3
        exact ⟨⟨k0, k1, k2, v3, l⟩, ⟨b, y, hl, w0, w1, w2⟩, g, o, rfl, by simpa using c0, by simpa using c1, by simpa using c2, by simpa using c3⟩
    have hch : ∃ f : Nat → ActV, ∀ i, i < len → (f i).ok W ∧ ∃ g o, a = ⟨g, o, none⟩ ∧ W.cell? ⟨g, o + i * 4, none⟩ = some (.int .i64 (f i).ki) ∧ W.cell? ⟨g, o + i * 4 + 1, none⟩ = some (.int .i64 (f i).pl) ∧ W.cell? ⟨g, o + i * 4 + 2, none⟩ = some (.int .i64 (f i).n) ∧ W.cell? ⟨g, o + i * 4 + 3, none⟩ = some (f i).v :=
      ⟨fun i => if h : i < len then Classical.choose (each i h) else ⟨0, 0, 0, .slice none 0 0, []⟩, fun i hi => by simp only [dif_pos hi]; exact Classical.choose_spec (each i hi)⟩
    obtain ⟨f, hf⟩ := hch
    refine ⟨(List.range len).map f, some a, cap, by simp, by simpa using hl, hm, fun i q hq => ?_⟩
    have hi : i < len := by
      have := (List.getElem?_eq_some_iff.1 hq).1
      simpa using this
    have hq' : f i = q := by simpa [hi] using hq
    subst hq'
    obtain ⟨h1, g, o, rfl, h2⟩ := hf i hi
    exact ⟨h1, g, o, rfl, h2⟩
end Go.Proofs.Ytkdmcdkjfkllkaa
