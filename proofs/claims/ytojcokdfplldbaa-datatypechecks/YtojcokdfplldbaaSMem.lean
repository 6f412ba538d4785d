/-
  Slices of numbers, of slices of numbers, and selections, as they lie in memory. No conditions.
-/
import Derived.Test.YtojcokdfplldbaaSMath
import Derived.Test.YtojcokdfplldbaaGApp
import Derived.Lib.Hide
import Derived.Lib.Walk
import Derived.BigQuiet
import Derived.Deep.LoopGhost
import Derived.Deep.DeepCutAuto
import Derived.Deep.CutBlock
import Derived.Deep.RegionHeld
namespace Go.Proofs.Ytojcokdfplldbaa
open Go.RowKit
set_option linter.unusedVariables false
set_option maxRecDepth 100000

def I64 (x : Int) : Prop := -9223372036854775808 ≤ x ∧ x ≤ 9223372036854775807
/-- A slice that reads as numbers. -/
structure Is (w : World) (v : Value) (l : List Int) : Prop where
  len : l.length ≤ 17592186043904
  rng : ∀ x ∈ l, I64 x
  is : ∃ ao cap, v = .slice ao l.length cap ∧ l.length ≤ cap ∧ ∀ i x, l[i]? = some x → ∃ g o, ao = some ⟨g, o, none⟩ ∧ w.cell? ⟨g, o + i, none⟩ = some (.int .i64 x)
/-- A slice of slices that reads as lists of numbers. -/
structure Iss (w : World) (v : Value) (L : List (List Int)) : Prop where
  len : L.length ≤ 5864062014634
  is : ∃ ao cap, v = .slice ao L.length cap ∧ L.length ≤ cap ∧ ∀ i l, L[i]? = some l → ∃ g o u, ao = some ⟨g, o, none⟩ ∧ w.cell? ⟨g, o + i, none⟩ = some u ∧ Is w u l
/-- A selection's value. -/
structure SV where
  p : Value
  a : Value
  b : Value
  c : Value
  d : Value
def selV (k : Int) (V : SV) : Value := .agg #[.int .i64 k, V.p, V.a, V.b, V.c, V.d]
structure Ss (w : World) (V : SV) (s : Sel) : Prop where
  k : I64 s.kind
  p : Iss w V.p s.pts
  a : Is w V.a s.st
  b : Is w V.b s.sd
  c : Is w V.c s.ct
  d : Is w V.d s.bl
theorem Is.kp {w w' : World} {v : Value} {l : List Int} (h : Is w v l) {F : Nat → Prop} (hk : Kp F w w') (hF : ∀ g, v.ownBlock = some g → ¬ F g) : Is w' v l := by
  obtain ⟨h1, h2, ao, cap, rfl, h3, h4⟩ := h
  refine ⟨h1, h2, ao, cap, rfl, h3, fun i x hx => ?_⟩
  obtain ⟨g, o, rfl, hc⟩ := h4 i x hx
  exact ⟨g, o, rfl, hk.cell hc (hF g rfl)⟩
theorem Is.below {w w' : World} {v : Value} {l : List Int} (h : Is w v l) (hb : Below w.heap.size w w') : Is w' v l := by
  obtain ⟨h1, h2, ao, cap, rfl, h3, h4⟩ := h
  refine ⟨h1, h2, ao, cap, rfl, h3, fun i x hx => ?_⟩
  obtain ⟨g, o, rfl, hc⟩ := h4 i x hx
  exact ⟨g, o, rfl, (hb.cell (World.block_lt_of_cell? w _ hc)).trans hc⟩
theorem Iss.below {w w' : World} {v : Value} {L : List (List Int)} (h : Iss w v L) (hb : Below w.heap.size w w') : Iss w' v L := by
  obtain ⟨h1, ao, cap, rfl, h3, h4⟩ := h
  refine ⟨h1, ao, cap, rfl, h3, fun i x hx => ?_⟩
  obtain ⟨g, o, u, rfl, hc, hu⟩ := h4 i x hx
  exact ⟨g, o, u, rfl, (hb.cell (World.block_lt_of_cell? w _ hc)).trans hc, hu.below hb⟩
theorem Ss.below {w w' : World} {V : SV} {s : Sel} (h : Ss w V s) (hb : Below w.heap.size w w') : Ss w' V s :=
  ⟨h.k, h.p.below hb, h.a.below hb, h.b.below hb, h.c.below hb, h.d.below hb⟩
theorem Is.at {w : World} {ao : Option Addr} {n cap : Nat} {l : List Int} (h : Is w (.slice ao n cap) l) {i : Nat} (hi : i < n) : ∃ g o x, ao = some ⟨g, o, none⟩ ∧ l[i]? = some x ∧ I64 x ∧ w.cell? ⟨g, o + i, none⟩ = some (.int .i64 x) := by
  obtain ⟨h1, h2, ao', cap', e, h3, h4⟩ := h
  injection e with e1 e2 e3
  subst e1 e3
  have hl : i < l.length := by omega
  obtain ⟨g, o, rfl, hc⟩ := h4 i l[i] (List.getElem?_eq_getElem hl)
  exact ⟨g, o, l[i], rfl, List.getElem?_eq_getElem hl, h2 _ (List.getElem_mem hl), hc⟩
theorem Is.open {w : World} {v : Value} {l : List Int} (h : Is w v l) : ∃ ao n cap, v = .slice ao n cap ∧ l.length = n ∧ n ≤ cap ∧ n ≤ 17592186043904 := by
  obtain ⟨h1, h2, ao, cap, rfl, h3, h4⟩ := h
  exact ⟨ao, _, cap, rfl, rfl, h3, h1⟩
theorem Iss.open {w : World} {v : Value} {L : List (List Int)} (h : Iss w v L) : ∃ ao n cap, v = .slice ao n cap ∧ L.length = n ∧ n ≤ cap ∧ n ≤ 5864062014634 := by
  obtain ⟨h1, ao, cap, rfl, h3, h4⟩ := h
  exact ⟨ao, _, cap, rfl, rfl, h3, h1⟩
theorem Iss.at {w : World} {ao : Option Addr} {n cap : Nat} {L : List (List Int)} (h : Iss w (.slice ao n cap) L) {i : Nat} (hi : i < n) : ∃ g o l u m c, ao = some ⟨g, o, none⟩ ∧ L[i]? = some l ∧ l.length = m ∧ m ≤ c ∧ m ≤ 17592186043904 ∧ w.cell? ⟨g, o + i, none⟩ = some (.slice u m c) ∧ Is w (.slice u m c) l := by
  obtain ⟨h1, ao', cap', e, h3, h4⟩ := h
  injection e with e1 e2 e3
  subst e1 e3
  have hl : i < L.length := by omega
  obtain ⟨g, o, u, rfl, hc, hu⟩ := h4 i L[i] (List.getElem?_eq_getElem hl)
  obtain ⟨ua, m, c, rfl, e4, e5, e6⟩ := hu.open
  exact ⟨g, o, L[i], ua, m, c, rfl, List.getElem?_eq_getElem hl, e4, e5, e6, hc, hu⟩
/-- A row of numbers of the call's own, from block B on. -/
abbrev encZ (x : Int) : List Value := [.int .i64 x]
theorem encZ1 (x : Int) : (encZ x).length = 1 := rfl
def OwnI (w : World) (B : Nat) (v : Value) (l : List Int) : Prop := w.ownsRow B 3 1 v l.length (gc encZ l)
theorem gcZ_at (l : List Int) (i : Nat) : (gc encZ l)[i]? = (l[i]?).map (fun x => .int .i64 x) := by
  have : gc encZ l = l.map (fun x => Value.int .i64 x) := by
    induction l with
    | nil => rfl
    | cons x l ih => rw [show gc encZ (x :: l) = encZ x ++ gc encZ l by simp [gc], ih]; rfl
  rw [this, List.getElem?_map]
theorem gcZ_one (l : List Int) : ∀ u ∈ gc encZ l, u.oneCell' = true := by
  intro u hu
  simp only [gc, List.mem_flatMap, List.mem_singleton] at hu
  obtain ⟨x, _, rfl⟩ := hu
  rfl
theorem OwnI.is {w : World} {B : Nat} {v : Value} {l : List Int} (h : OwnI w B v l) (hl : l.length ≤ 17592186043904) (hx : ∀ x ∈ l, I64 x) : Is w v l := by
  rcases ownsRow_shape h with ⟨rfl, h0⟩ | ⟨g, cap, rfl, _, _, hle, _, _, hc⟩
  · have : l = [] := List.eq_nil_of_length_eq_zero h0
    subst this
    exact ⟨by simp, by simp, none, 0, rfl, Nat.le_refl _, fun i x hi => by simp at hi⟩
  · refine ⟨hl, hx, _, cap, rfl, hle, fun i x hi => ⟨g, 0, rfl, ?_⟩⟩
    rw [Nat.zero_add]
    exact hc i _ (by rw [gcZ_at, hi]; rfl)
theorem OwnI.below {w w' : World} {B : Nat} {v : Value} {l : List Int} (h : OwnI w B v l) (hb : Below w.heap.size w w') : OwnI w' B v l := ownsRow_below h hb
theorem OwnI.kp {w w' : World} {B : Nat} {v : Value} {l : List Int} (h : OwnI w B v l) {F : Nat → Prop} (hb : Kp F w w') (hF : ∀ g, v.ownBlock = some g → ¬ F g) : OwnI w' B v l := ownsRow_kp h hb hF
end Go.Proofs.Ytojcokdfplldbaa
