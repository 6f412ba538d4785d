/-
  Rows of numbers whose numbers are written over. Conditions: lengths are such as memory bears.
-/
import Derived.Test.YtnikbcljonbpcaaSBeyF
import Derived.Test.YtnikbcljonbpcaaSTlO
namespace Go.Proofs.Ytnikbcljonbpcaa
open Go.RowKit Go.Shelf
set_option linter.unusedVariables false
set_option maxRecDepth 100000

/-- Rows of the call's own, of these lengths, whatever stands in them. -/
def Rl (w : World) (B M : Nat) (v : Value) (L : List (List Int)) : Prop := ∃ vs, w.ownsRow B 22 1 v L.length vs ∧ ∀ (i : Nat) (u : Value) (t : List Int), vs[i]? = some u → L[i]? = some t → ∃ t', OwnI w B u t' ∧ t'.length = t.length ∧ ∀ g, u.ownBlock = some g → g < M
theorem Rl.of {w : World} {B : Nat} {v : Value} {L : List (List Int)} (h : RwP w B v L) : Rl w B w.heap.size v L := by
  obtain ⟨vs, h⟩ := h
  refine ⟨vs, h.own, fun i u t hu ht => ⟨t, (h.el i u t hu ht).1, rfl, fun g hg => ?_⟩⟩
  have h3 : w.ownsRow B 3 1 u t.length (gc encZ t) := (h.el i u t hu ht).1
  exact (h3.lt g hg).2
theorem Rl.below {w w' : World} {B M : Nat} {v : Value} {L : List (List Int)} (h : Rl w B M v L) (hb : Below w.heap.size w w') : Rl w' B M v L := by
  obtain ⟨vs, h1, h2⟩ := h
  exact ⟨vs, ownsRow_below h1 hb, fun i u t hu ht => by obtain ⟨t', h3, h4, h5⟩ := h2 i u t hu ht; exact ⟨t', h3.below hb, h4, h5⟩⟩
/-- One of the rows: where it lies, and its cells. -/
theorem Rl.at {w : World} {B M : Nat} {ao : Option Addr} {n cap : Nat} {L : List (List Int)} (h : Rl w B M (.slice ao n cap) L) (hn : L.length = n) {i : Nat} (hi : i < n) : ∃ g u uc m t, ao = some ⟨g, 0, none⟩ ∧ L[i]? = some t ∧ t.length = m ∧ w.cell? ⟨g, i, none⟩ = some (.slice u m uc) ∧ m ≤ uc ∧ ∀ d, d < m → ∃ gu x, u = some ⟨gu, 0, none⟩ ∧ w.cell? ⟨gu, d, none⟩ = some (.int .i64 x) ∧ w.frozen? ⟨gu, d, none⟩ = false ∧ B ≤ gu ∧ gu < M ∧ ∀ y, Rl (w.setCell ⟨gu, d, none⟩ (.int .i64 y)) B M (.slice ao n cap) L := by
  obtain ⟨vs, h1, h2⟩ := h
  have hvl : vs.length = n := by have := h1.1; omega
  have hil : i < L.length := by omega
  obtain ⟨u, hu⟩ : ∃ u, vs[i]? = some u := ⟨vs[i]'(by omega), List.getElem?_eq_getElem _⟩
  obtain ⟨t', h3, h4, h4m⟩ := h2 i u L[i] hu (List.getElem?_eq_getElem hil)
  have h3' : w.ownsRow B 3 1 u t'.length (gc encZ t') := h3
  rcases ownsRow_shape h1 with ⟨e, h0⟩ | ⟨g, c, e, hB, hgl, hle, _, _, hcell⟩
  · omega
  · injection e with e1 e2 e3
    subst e1 e3
    have hc := hcell i u hu
    rcases ownsRow_shape h3' with ⟨rfl, h0⟩ | ⟨gu, cu, rfl, hBu, hgu, hlu, _, _, hcu⟩
    · exact ⟨g, none, 0, 0, _, rfl, List.getElem?_eq_getElem hil, by omega, hc, Nat.le_refl _, fun d hd => absurd hd (Nat.not_lt_zero _)⟩
    · refine ⟨g, some ⟨gu, 0, none⟩, cu, t'.length, _, rfl, List.getElem?_eq_getElem hil, h4.symm, hc, hlu, fun d hd => ?_⟩
      obtain ⟨f1, f2, f3, f4, _⟩ := own_at h3 rfl d (List.getElem?_eq_getElem hd)
      refine ⟨gu, _, rfl, f1, f2, f3, h4m gu rfl, fun y => ?_⟩
      have hgr := set_grown w gu d (.int .i64 y)
      refine ⟨vs, ?_, fun j r q hr hq => ?_⟩
      · refine ownsRow_kp h1 ((Kp.refl (fun x => some x = some gu) w).grown hgr (fun x _ e => e.symm)) (fun x hx e => ?_)
        have hx' := own_apart (B' := B) h1 h3 gu rfl
        exact hx' (by rw [← e]; exact hx.symm)
      · obtain ⟨q', h5, h6, h7⟩ := h2 j r q hr hq
        have h5' : w.ownsRow B 3 1 r q'.length (gc encZ q') := h5
        rcases ownsRow_shape h5' with ⟨rfl, h0⟩ | ⟨gr, cr, rfl, _⟩
        · exact ⟨q', ⟨h5.1, .inl ⟨rfl, h0⟩⟩, h6, h7⟩
        · by_cases he : gr = gu
          · subst he
            exact ⟨q'.set d y, by
              have h9 := own_stored h5 rfl d y
              exact h9, by rw [List.length_set, h6], h7⟩
          · exact ⟨q', own_grown h5 hgr (some_ne (fun e => he e.symm)), h6, h7⟩
end Go.Proofs.Ytnikbcljonbpcaa
