/-
  Raw writes that were handed out, written over by their asker: they stay rows of their own. No conditions.
-/
import Derived.Test.YtkdmcdkjfkllkaaRefWrite
namespace Go.Proofs.Ytkdmcdkjfkllkaa
open Go.RowKit
set_option linter.unusedVariables false

theorem rcells_of_eq : ∀ (a b : List RawV), a.map (fun r => (r.1, r.2.2)) = b.map (fun r => (r.1, r.2.2)) → rcells a = rcells b
  | [], [], _ => rfl
  | [], _ :: _, h => by simp at h
  | _ :: _, [], h => by simp at h
  | x :: a, y :: b, h => by
    simp only [List.map_cons, List.cons.injEq, Prod.mk.injEq] at h
    have ih := rcells_of_eq a b h.2
    simp only [rcells, List.flatMap_cons] at ih ⊢
    rw [h.1.1, h.1.2, ih]
theorem rcells_set : ∀ (rv : List RawV) (i : Nat) (a : Int) (r : RawV), rv[i]? = some r → rcells (rv.set i (a, r.2.1, r.2.2)) = (rcells rv).set (i * 2) (.int .i64 a)
  | [], i, a, r, h => by simp at h
  | x :: rv, 0, a, r, h => by
    simp at h; subst h
    simp [rcells]
  | x :: rv, i + 1, a, r, h => by
    have ih := rcells_set rv i a r (by simpa using h)
    simp only [rcells] at ih
    rw [show (i + 1) * 2 = i * 2 + 1 + 1 by omega]
    simp only [rcells, List.set_cons_succ, List.flatMap_cons, List.cons_append, List.nil_append]
    rw [ih]

/-- One byte of one of them is written. -/
theorem Fresh.poke {w : World} {B : Nat} {v : Value} {rk : List RawV} (h : Fresh w B v rk) {i : Nat} {r : RawV} (hr : rk[i]? = some r) {g n c : Nat} (hv : r.2.2 = .slice (some ⟨g, 0, none⟩) n c) (j : Nat) (x : Int) :
    ∃ rk' : List RawV, Fresh (w.setCell ⟨g, j, none⟩ (.int .u8 x)) B v rk' ∧ rk'.length = rk.length ∧ ∀ (k : Nat) (q : RawV), rk[k]? = some q → ∃ l' : List Int, rk'[k]? = some (q.1, l', q.2.2) ∧ l'.length = q.2.1.length := by
  have hg : r.2.2.ownBlock = some g := by rw [hv]; rfl
  have hgv : v.ownBlock ≠ some g := h.dis r (List.mem_of_getElem? hr) g hg
  refine ⟨rk.map fun q => (q.1, if q.2.2.ownBlock = some g then q.2.1.set j x else q.2.1, q.2.2), ⟨?_, ?_, ?_⟩, by simp, ?_⟩
  · rw [List.length_map, rcells_of_eq _ rk (by simp [Function.comp_def])]
    exact owns_chg h.row (Chg.cell w g j _) (fun k hk e => hgv (by rw [hk, e]))
  · intro q hq
    obtain ⟨q0, hq0, rfl⟩ := List.mem_map.1 hq
    have ho := h.inn q0 hq0
    show Own _ B q0.2.2 (if q0.2.2.ownBlock = some g then q0.2.1.set j x else q0.2.1)
    by_cases e : q0.2.2.ownBlock = some g
    · rw [if_pos e]
      have ho' : w.ownsRow B 5 1 q0.2.2 q0.2.1.length (bcells q0.2.1) := ho
      obtain ⟨_, ⟨e2, h0⟩ | ⟨g', cap, cur, e2, _⟩⟩ := ho'
      · rw [e2] at e; simp [Value.ownBlock] at e
      · rw [e2] at e ho ⊢
        simp [Value.ownBlock] at e
        subst e
        exact (ho.put rfl j x).1
    · rw [if_neg e]
      exact owns_chg (S := fun k => k = g) ho (Chg.cell w g j _) (fun k hk e' => e (by rw [hk, e']))
  · intro q hq k hk
    obtain ⟨q0, hq0, rfl⟩ := List.mem_map.1 hq
    exact h.dis q0 hq0 k hk
  · intro k q hq
    refine ⟨if q.2.2.ownBlock = some g then q.2.1.set j x else q.2.1, by simp [hq], ?_⟩
    split <;> simp
/-- The place of one of them is written. -/
theorem Fresh.place {w : World} {B : Nat} {n c g : Nat} {rk : List RawV} (h : Fresh w B (.slice (some ⟨g, 0, none⟩) n c) rk) (hn : rk.length = n) {i : Nat} {r : RawV} (hr : rk[i]? = some r) (a : Int) :
    Fresh (w.setCell ⟨g, i * 2, none⟩ (.int .i64 a)) B (.slice (some ⟨g, 0, none⟩) n c) (rk.set i (a, r.2.1, r.2.2)) := by
  have hmem := List.mem_of_getElem? hr
  have hlt := (List.getElem?_eq_some_iff.1 hr).1
  have hset : ∀ q ∈ rk.set i (a, r.2.1, r.2.2), ∃ q0 ∈ rk, q.2 = q0.2 := fun q hq => by
    rcases List.mem_or_eq_of_mem_set hq with h1 | h1
    · exact ⟨q, h1, rfl⟩
    · exact ⟨r, hmem, by rw [h1]⟩
  refine ⟨?_, fun q hq => ?_, fun q hq k hk => ?_⟩
  · rw [List.length_set, rcells_set rk i a r hr]
    have := h.row
    rw [hn] at this ⊢
    exact (this.stored (i * 2) (.int .i64 a)).1
  · obtain ⟨q0, h0, e⟩ := hset q hq
    rw [e]
    exact owns_chg (S := fun k => k = g) (h.inn q0 h0) (Chg.cell w g _ _) (fun k hk e' => h.dis q0 h0 k hk (by rw [e']; rfl))
  · obtain ⟨q0, h0, e⟩ := hset q hq
    rw [e] at hk
    exact h.dis q0 h0 k hk
theorem Fresh.chg {S : Nat → Prop} {w w' : World} {B : Nat} {v : Value} {rk : List RawV} (h : Fresh w B v rk) (hc : Chg S w w') (hS : ∀ k, S k → k < B) : Fresh w' B v rk :=
  ⟨owns_chg h.row hc (fun g hg e => by have := (World.ownsRow.lt h.row g hg).1; have := hS g e; omega), fun r hr => owns_chg (h.inn r hr) hc (fun g hg e => by have := (World.ownsRow.lt (h.inn r hr) g hg).1; have := hS g e; omega), h.dis⟩
end Go.Proofs.Ytkdmcdkjfkllkaa
