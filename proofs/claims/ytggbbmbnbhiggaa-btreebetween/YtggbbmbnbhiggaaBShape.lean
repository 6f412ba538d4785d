/-
  What the nodes of a tree are like: sizes, levels, leaves, keys. No conditions.
-/
import Derived.Test.YtggbbmbnbhiggaaBNods
namespace Go.Proofs.Ytggbbmbnbhiggaa
open Go.RowKit
set_option linter.unusedVariables false

/-- Each is at most one more than the one ahead of it. -/
def Steps : List Int → Prop
  | a :: b :: l => b ≤ a + 1 ∧ Steps (b :: l)
  | _ => True
theorem Steps.append : ∀ {l m : List Int}, Steps l → Steps m → (∀ a ∈ l, ∀ b, m.head? = some b → b ≤ a + 1) → Steps (l ++ m)
  | [], m, _, hm, _ => hm
  | [a], [], _, _, _ => trivial
  | [a], b :: m, _, hm, h => ⟨h a (by simp) b rfl, hm⟩
  | a :: b :: l, m, hl, hm, h => ⟨hl.1, Steps.append (l := b :: l) hl.2 hm (fun x hx => h x (List.mem_cons_of_mem _ hx))⟩
theorem Steps.at : ∀ {l : List Int}, Steps l → ∀ (i : Nat) (a b : Int), l[i]? = some a → l[i + 1]? = some b → b ≤ a + 1
  | [], _, i, a, b, h, _ => by simp at h
  | [x], _, i, a, b, _, h => by simp at h
  | x :: y :: l, hs, 0, a, b, h1, h2 => by
    simp at h1 h2
    subst h1 h2
    exact hs.1
  | x :: y :: l, hs, i + 1, a, b, h1, h2 => Steps.at (l := y :: l) hs.2 i a b (by simpa using h1) (by simpa using h2)
theorem lvl_ge : ∀ (h : Nat) (t : Tr h) (lv : Nat), ∀ e ∈ nodesL h lv t, (lv : Int) ≤ e.1
  | 0, t, _ => nomatch t
  | h + 1, t, lv => by
    intro e he
    have he' : e ∈ ((lv : Int), decide (h = 0), (Nd.L (K := Tr h) t).map (·.1)) :: (Nd.ks (K := Tr h) t).flatMap (nodesL h (lv + 1)) := he
    rcases List.mem_cons.1 he' with rfl | h1
    · exact Int.le_refl _
    · obtain ⟨c, _, hc⟩ := List.mem_flatMap.1 h1
      have := lvl_ge h c (lv + 1) e hc
      omega
/-- All behind the first lie deeper, and are full enough. -/
theorem rest_ok {most : Nat} {h lv lo : Nat} {t : Nd (Tr h)} (hs : Shp most (h + 1) lo most (up1 t)) : ∀ e ∈ t.ks.flatMap (nodesL h (lv + 1)), (lv : Int) < e.1 := by
  intro e he
  obtain ⟨c, _, hc⟩ := List.mem_flatMap.1 he
  have := lvl_ge h c (lv + 1) e hc
  omega
theorem len_ok {most : Nat} : ∀ (h : Nat) (t : Tr h) (lv lo : Nat), Shp most h lo most t → lo ≤ most / 2 → ∀ e ∈ nodesL h lv t, lo ≤ e.2.2.length ∧ e.2.2.length ≤ most
  | 0, t, _, _, _, _ => nomatch t
  | h + 1, t, lv, lo, hs, hlo => by
    have hk := shp_up.1 hs
    intro e he
    have he' : e ∈ ((lv : Int), decide (h = 0), (Nd.L (K := Tr h) t).map (·.1)) :: (Nd.ks (K := Tr h) t).flatMap (nodesL h (lv + 1)) := he
    rcases List.mem_cons.1 he' with rfl | h1
    · have a1 : lo ≤ (Nd.L (K := Tr h) t).length := hk.1
      have a2 : (Nd.L (K := Tr h) t).length ≤ most := hk.2.1
      exact ⟨by simpa using a1, by simpa using a2⟩
    · obtain ⟨c, hc0, hc⟩ := List.mem_flatMap.1 h1
      have := len_ok h c (lv + 1) (most / 2) (hk.2.2.2 c hc0) (Nat.le_refl _) e hc
      exact ⟨by omega, this.2⟩
theorem leaf_ok : ∀ (h : Nat) (t : Tr h) (lv : Nat), ∀ e ∈ nodesL h lv t, e.2.1 = decide (e.1 + 1 = (lv : Int) + (h : Int))
  | 0, t, _ => nomatch t
  | h + 1, t, lv => by
    intro e he
    have he' : e ∈ ((lv : Int), decide (h = 0), (Nd.L (K := Tr h) t).map (·.1)) :: (Nd.ks (K := Tr h) t).flatMap (nodesL h (lv + 1)) := he
    rcases List.mem_cons.1 he' with rfl | h1
    · show decide (h = 0) = decide ((lv : Int) + 1 = (lv : Int) + ((h + 1 : Nat) : Int))
      rw [decide_eq_decide]; omega
    · obtain ⟨c, _, hc⟩ := List.mem_flatMap.1 h1
      rw [leaf_ok h c (lv + 1) e hc, decide_eq_decide]; omega
theorem steps_ok : ∀ (h : Nat) (t : Tr h) (lv : Nat), Steps ((nodesL h lv t).map (·.1)) ∧ (nodesL h lv t).head?.map (·.1) = some (lv : Int)
  | 0, t, _ => nomatch t
  | h + 1, t, lv => by
    refine ⟨?_, rfl⟩
    have key : ∀ (l : List (Tr h)), Steps ((l.flatMap (nodesL h (lv + 1))).map (·.1)) ∧ ∀ b, ((l.flatMap (nodesL h (lv + 1))).map (·.1)).head? = some b → b = (lv : Int) + 1 := by
      intro l
      induction l with
      | nil => exact ⟨trivial, fun b hb => by simp at hb⟩
      | cons c l ih =>
        have hc := steps_ok h c (lv + 1)
        rw [List.flatMap_cons, List.map_append]
        refine ⟨Steps.append hc.1 ih.1 (fun a ha b hb => ?_), fun b hb => ?_⟩
        · obtain ⟨e, he, rfl⟩ := List.mem_map.1 ha
          have := lvl_ge h c (lv + 1) e he
          have := ih.2 b hb
          omega
        · have h2 := hc.2
          cases hn : nodesL h (lv + 1) c with
          | nil => rw [hn] at h2; simp at h2
          | cons x xs =>
            rw [hn] at h2 hb
            simp at h2 hb
            omega
    have hk := key (Nd.ks (K := Tr h) t)
    show Steps ((lv : Int) :: ((Nd.ks (K := Tr h) t).flatMap (nodesL h (lv + 1))).map (·.1))
    have := Steps.append (l := [(lv : Int)]) trivial hk.1 (fun a ha b hb => by
      have e1 : a = (lv : Int) := by simpa using ha
      have e2 := hk.2 b hb
      omega)
    exact this
theorem keys_sub {most : Nat} : ∀ (h : Nat) (t : Tr h) (lv lo : Nat), Shp most h lo most t → ∀ e ∈ nodesL h lv t, List.Sublist e.2.2 ((flat h t).map (·.1))
  | 0, t, _, _, _ => nomatch t
  | h + 1, t, lv, lo, hs => by
    have hk := shp_up.1 hs
    have hkin := shp_kin (t := t) hs
    intro e he
    have he' : e ∈ ((lv : Int), decide (h = 0), (Nd.L (K := Tr h) t).map (·.1)) :: (Nd.ks (K := Tr h) t).flatMap (nodesL h (lv + 1)) := he
    rcases List.mem_cons.1 he' with rfl | h1
    · exact (il_sub (Nd.L (K := Tr h) t) _ hkin).map _
    · obtain ⟨c, hc0, hc⟩ := List.mem_flatMap.1 h1
      exact (keys_sub h c (lv + 1) (most / 2) (hk.2.2.2 c hc0) e hc).trans ((kid_sub (Nd.L (K := Tr h) t) _ hkin _ (List.mem_map.2 ⟨c, hc0, rfl⟩)).map _)
theorem sum_flatMap {α β : Type} (f : α → List β) (g : β → Nat) : ∀ l : List α, ((l.flatMap f).map g).sum = (l.map (fun a => ((f a).map g).sum)).sum
  | [] => rfl
  | a :: l => by simp [List.flatMap_cons, sum_flatMap f g l]
theorem sum_congr {α : Type} (f g : α → Nat) : ∀ (l : List α), (∀ c ∈ l, f c = g c) → (l.map f).sum = (l.map g).sum
  | [], _ => rfl
  | a :: l, h => by simp only [List.map_cons, List.sum_cons]; rw [h a List.mem_cons_self, sum_congr f g l (fun c hc => h c (List.mem_cons_of_mem _ hc))]
theorem sum_ok {most : Nat} : ∀ (h : Nat) (t : Tr h) (lv lo : Nat), Shp most h lo most t → ((nodesL h lv t).map (fun e => e.2.2.length)).sum = (flat h t).length
  | 0, t, _, _, _ => nomatch t
  | h + 1, t, lv, lo, hs => by
    have hk := shp_up.1 hs
    have h1 : (flat (h + 1) t).length = (Nd.L (K := Tr h) t).length + ((Nd.ks (K := Tr h) t).map (fun c => (flat h c).length)).sum := flat_len (t := t) hs
    have h2 : ((nodesL (h + 1) lv t).map (fun e => e.2.2.length)).sum = (Nd.L (K := Tr h) t).length + (((Nd.ks (K := Tr h) t).flatMap (nodesL h (lv + 1))).map (fun e => e.2.2.length)).sum := by
      show ((((lv : Int), decide (h = 0), (Nd.L (K := Tr h) t).map (·.1)) :: (Nd.ks (K := Tr h) t).flatMap (nodesL h (lv + 1))).map (fun e => e.2.2.length)).sum = _
      simp
    rw [h2, h1, sum_flatMap, sum_congr _ (fun c => (flat h c).length) _ (fun c hc => sum_ok h c (lv + 1) (most / 2) (hk.2.2.2 c hc))]
end Go.Proofs.Ytggbbmbnbhiggaa
