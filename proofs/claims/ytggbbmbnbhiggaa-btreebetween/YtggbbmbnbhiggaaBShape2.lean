/-
  What BtreeShape asks of the nodes, put together; entries and their keys in memory. No conditions.
-/
import Derived.Test.YtggbbmbnbhiggaaBShape
import Derived.Test.YtggbbmbnbhiggaaBPlay
namespace Go.Proofs.Ytggbbmbnbhiggaa
open Go.RowKit
set_option linter.unusedVariables false

def SFacts (most : Nat) (F : List It) (es : List En) (H : Int) : Prop :=
  0 ≤ H ∧ (∀ (i : Nat) (e : En), es[i]? = some e → 1 ≤ e.2.2.2.length ∧ e.2.2.2.length ≤ most ∧ (0 < i → most / 2 ≤ e.2.2.2.length ∧ 0 < e.1) ∧ (i = 0 → e.1 = 0) ∧ e.2.1 = decide (e.1 = H) ∧ 0 ≤ e.1 ∧ e.1 ≤ 1000 ∧ List.Sublist e.2.2.2 (F.map (·.1))) ∧
  (∀ (i : Nat) (e e' : En), es[i]? = some e → es[i + 1]? = some e' → e'.1 ≤ e.1 + 1) ∧
  (es.map (fun e => e.2.2.2.length)).sum = F.length ∧ (es = [] ↔ F = [])
theorem sfacts {most : Nat} {F : List It} {es : List En} (h : NdsP most F es) (hm : 3 ≤ most) (hn : F.length ≤ 300) : ∃ H, SFacts most F es H := by
  rcases h with ⟨rfl, rfl⟩ | ⟨h0, h, t, lo, hs, hlo, hF, hes⟩
  · exact ⟨0, Int.le_refl _, fun i e he => by simp at he, fun i e e' he => by simp at he, rfl, by simp⟩
  · have h6 := shp_up.1 hs
    have hs1 : Shp most (h + 1) 1 most (up1 t) := shp_up.2 ⟨Nat.le_trans hlo h6.1, h6.2⟩
    have hpow := low_pow h t 1 hs1
    have hh : h < (most / 2 + 1) ^ h := Nat.lt_pow_self (by omega)
    rw [hF] at hpow
    have hmem : ∀ (i : Nat) (e : En), es[i]? = some e → (nodesL (h + 1) 0 (up1 t))[i]? = some (shE e) := fun i e he => by rw [← hes, List.getElem?_map, he]; rfl
    refine ⟨(h : Int), by omega, fun i e he => ?_, fun i e e' he he' => ?_, ?_, ?_⟩
    · have h1 := hmem i e he
      have h2 := List.mem_of_getElem? h1
      have a1 := len_ok (h + 1) (up1 t) 0 1 hs1 (by omega) _ h2
      have a2 := lvl_lt (h + 1) (up1 t) 0 _ h2
      have a3 := lvl_ge (h + 1) (up1 t) 0 _ h2
      have a4 := leaf_ok (h + 1) (up1 t) 0 _ h2
      have a5 := keys_sub (h + 1) (up1 t) 0 1 hs1 _ h2
      rw [hF] at a5
      have b1 : 1 ≤ e.2.2.2.length ∧ e.2.2.2.length ≤ most := a1
      have b2 : e.1 < ((0 : Nat) : Int) + ((h + 1 : Nat) : Int) := a2
      have b3 : ((0 : Nat) : Int) ≤ e.1 := a3
      have b4 : e.2.1 = decide (e.1 + 1 = ((0 : Nat) : Int) + ((h + 1 : Nat) : Int)) := a4
      refine ⟨b1.1, b1.2, fun hi => ?_, fun hi => ?_, ?_, by omega, by omega, a5⟩
      · obtain ⟨j, rfl⟩ : ∃ j, i = j + 1 := ⟨i - 1, by omega⟩
        have h3 : (t.ks.flatMap (nodesL h (0 + 1)))[j]? = some (shE e) := by
          have : (((0 : Nat) : Int), decide (h = 0), t.L.map (·.1)) :: t.ks.flatMap (nodesL h (0 + 1)) = nodesL (h + 1) 0 (up1 t) := rfl
          rw [← this] at h1
          simpa using h1
        have h4 := List.mem_of_getElem? h3
        have c1 := rest_ok hs1 _ h4
        obtain ⟨c, hc0, hc⟩ := List.mem_flatMap.1 h4
        have c2 := len_ok h c (0 + 1) (most / 2) (h6.2.2.2 c hc0) (Nat.le_refl _) _ hc
        have c3 : ((0 : Nat) : Int) < e.1 := c1
        exact ⟨c2.1, by omega⟩
      · subst hi
        have : shE e = (((0 : Nat) : Int), decide (h = 0), t.L.map (·.1)) := by
          have h7 : (nodesL (h + 1) 0 (up1 t))[0]? = some (((0 : Nat) : Int), decide (h = 0), t.L.map (·.1)) := rfl
          rw [h7] at h1
          exact (Option.some.inj h1).symm
        exact congrArg Prod.fst this
      · rw [b4, decide_eq_decide]; omega
    · have h1 := hmem i e he
      have h2 := hmem (i + 1) e' he'
      exact Steps.at (steps_ok (h + 1) (up1 t) 0).1 i e.1 e'.1 (by rw [List.getElem?_map, h1]; rfl) (by rw [List.getElem?_map, h2]; rfl)
    · have h1 := sum_ok (h + 1) (up1 t) 0 1 hs1
      rw [hF, ← hes, List.map_map] at h1
      exact h1
    · refine ⟨fun h1 => ?_, fun h1 => absurd h1 h0⟩
      rw [h1] at hes
      cases hes
/-- Entries as they lie in memory. -/
theorem BT.ents {w : World} {B p q most : Nat} {F : List It} {R : List Pc} {v : Value} {es : List En} (h : BT w B p q most F (rowE v es :: (kp es ++ R))) :
    ∃ ao cap, v = .slice ao es.length cap ∧ ∀ (i : Nat) (e : En), es[i]? = some e → ∃ g, ao = some ⟨g, 0, none⟩ ∧ w.cell? ⟨g, i * 3, none⟩ = some (.int .i64 e.1) ∧ w.cell? ⟨g, i * 3 + 1, none⟩ = some (.bool e.2.1) ∧ w.cell? ⟨g, i * 3 + 2, none⟩ = some e.2.2.1 ∧ Ss w e.2.2.1 e.2.2.2 := by
  obtain ⟨⟨h, t, lo, hS, _⟩, _⟩ := h
  have hr : w.ownsRow B 61 3 v es.length (gc encE es) := hS.at_ (rowE v es) (List.mem_append_right _ (List.mem_cons_of_mem _ (List.mem_cons_of_mem _ (List.Mem.head _))))
  obtain ⟨ao, cap, hv⟩ := row_slice hr
  refine ⟨ao, cap, hv, fun i e he => ?_⟩
  have h1 := (List.getElem?_eq_some_iff.1 he).1
  obtain ⟨g, capg, hg, _, _, _, _, _, hgc⟩ := row_some hr (by omega)
  rw [hv] at hg
  injection hg with e1 e2 e3
  refine ⟨g, e1, by have := hgc _ _ (gc_at encE_len es _ _ he 0 _ rfl); simpa using this, hgc _ _ (gc_at encE_len es _ _ he 1 _ rfl), hgc _ _ (gc_at encE_len es _ _ he 2 _ rfl), ?_⟩
  exact Ss.of_row (hS.at_ (rowS e.2.2.1 e.2.2.2) (List.mem_append_right _ (List.mem_cons_of_mem _ (List.mem_cons_of_mem _ (List.mem_cons_of_mem _ (List.mem_append_left _ (List.mem_map.2 ⟨e, List.mem_of_getElem? he, rfl⟩)))))))
/-- A key that a node has is found. -/
theorem get_in {w : World} {B p q most : Nat} {F : List It} {R : List Pc} (h64 : most ≤ 64) (h : BT w B p q most F R) {k : ByteArray} (hk : k ∈ F.map (·.1)) :
    Calls Try.prog 12 #[.pointer (some ⟨p, 0, none⟩), .string k] w fun e w' => ∃ v, e = .returned (.tuple #[.int .u64 v, .bool true]) ∧ Below w.heap.size w w' := by
  refine (get_any h64 h k).mono ?_
  rintro e w' ⟨⟨v, _, rfl⟩ | ⟨hno, _⟩, hb⟩
  · exact ⟨v, rfl, hb⟩
  · obtain ⟨y, hy, rfl⟩ := List.mem_map.1 hk
    exact absurd (cmpN_self _) (hno y hy)
end Go.Proofs.Ytggbbmbnbhiggaa
