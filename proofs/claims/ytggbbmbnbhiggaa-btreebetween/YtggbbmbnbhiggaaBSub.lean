/-
  Where a node stands among all nodes, all that lies below it stands right behind it. No conditions.
-/
import Derived.Test.YtggbbmbnbhiggaaBShape
namespace Go.Proofs.Ytggbbmbnbhiggaa
open Go.RowKit
set_option linter.unusedVariables false

theorem flatMap_pos {α β : Type} (f : α → List β) : ∀ (l : List α) (j : Nat) (e : β), (l.flatMap f)[j]? = some e → ∃ K1 c K2 j', l = K1 ++ c :: K2 ∧ j = (K1.flatMap f).length + j' ∧ (f c)[j']? = some e
  | [], j, e, h => by simp at h
  | a :: l, j, e, h => by
    rw [List.flatMap_cons] at h
    by_cases hj : j < (f a).length
    · rw [List.getElem?_append_left hj] at h
      exact ⟨[], a, l, j, rfl, by simp, h⟩
    · rw [List.getElem?_append_right (by omega)] at h
      obtain ⟨K1, c, K2, j', rfl, h2, h3⟩ := flatMap_pos f l _ e h
      exact ⟨a :: K1, c, K2, j', rfl, by rw [List.flatMap_cons, List.length_append]; omega, h3⟩
theorem head_kids (h lv : Nat) : ∀ (l : List (Tr h)) (b : Int × Bool × List ByteArray), (l.flatMap (nodesL h lv)).head? = some b → b.1 = (lv : Int)
  | [], b, hb => by simp at hb
  | c :: l, b, hb => by
    have hc := (steps_ok h c lv).2
    cases hn : nodesL h lv c with
    | nil => rw [hn] at hc; simp at hc
    | cons x xs =>
      rw [List.flatMap_cons, hn] at hb
      rw [hn] at hc
      simp at hb hc
      rw [← hb, hc]
/-- The node at a place, with all below it. -/
theorem sub_at {most : Nat} : ∀ (h : Nat) (t : Tr h) (lv lo : Nat), Shp most h lo most t → lo ≤ most / 2 → ∀ (i : Nat) (e : Int × Bool × List ByteArray), (nodesL h lv t)[i]? = some e →
    ∃ (h' : Nat) (s : Nd (Tr h')) (lv' : Nat) (A C : List (Int × Bool × List ByteArray)), nodesL h lv t = A ++ (nodesL (h' + 1) lv' (up1 s) ++ C) ∧ A.length = i ∧ Shp most (h' + 1) lo most (up1 s) ∧ (∀ c, C.head? = some c → c.1 ≤ (lv' : Int)) ∧ List.Sublist (flat (h' + 1) (up1 s)) (flat h t) ∧ lv ≤ lv'
  | 0, t, _, _, _, _ => nomatch t
  | h + 1, t, lv, lo, hs, hlo => by
    intro i e he
    have hk := shp_up.1 hs
    have hkin := shp_kin (t := t) hs
    cases i with
    | zero => exact ⟨h, t, lv, [], [], by simp; rfl, rfl, hs, (fun c hc => by simp at hc), List.Sublist.refl _, Nat.le_refl _⟩
    | succ j =>
      have he' : ((Nd.ks (K := Tr h) t).flatMap (nodesL h (lv + 1)))[j]? = some e := by
        have h1 : (((lv : Int), decide (h = 0), (Nd.L (K := Tr h) t).map (·.1)) :: (Nd.ks (K := Tr h) t).flatMap (nodesL h (lv + 1)))[j + 1]? = some e := he
        simpa using h1
      obtain ⟨K1, c, K2, j', hks, hj, hc⟩ := flatMap_pos _ _ _ _ he'
      have hcm : c ∈ Nd.ks (K := Tr h) t := by rw [hks]; simp
      obtain ⟨h', s, lv', A, C, e1, e2, e3, e4, e5, e6⟩ := sub_at h c (lv + 1) (most / 2) (hk.2.2.2 c hcm) (Nat.le_refl _) j' e hc
      refine ⟨h', s, lv', ((lv : Int), decide (h = 0), (Nd.L (K := Tr h) t).map (·.1)) :: (K1.flatMap (nodesL h (lv + 1)) ++ A), C ++ K2.flatMap (nodesL h (lv + 1)), ?_, ?_, ?_, ?_, ?_, by omega⟩
      · show ((lv : Int), decide (h = 0), (Nd.L (K := Tr h) t).map (·.1)) :: (Nd.ks (K := Tr h) t).flatMap (nodesL h (lv + 1)) = _
        rw [hks, List.flatMap_append, List.flatMap_cons, e1]
        simp
      · simp only [List.length_cons, List.length_append]; omega
      · have h9 := shp_up.1 e3
        exact shp_up.2 ⟨Nat.le_trans hlo h9.1, h9.2⟩
      · intro b hb
        cases C with
        | nil =>
          have := head_kids h (lv + 1) K2 b (by simpa using hb)
          rw [this]; omega
        | cons x xs => exact e4 b (by simpa using hb)
      · exact e5.trans (kid_sub (Nd.L (K := Tr h) t) _ hkin _ (List.mem_map.2 ⟨c, hcm, rfl⟩))
end Go.Proofs.Ytggbbmbnbhiggaa
