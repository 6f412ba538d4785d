/-
  What was packed is unpacked again: the law's walk. No conditions.
-/
import Derived.Test.YtgodoogmbdgeoabMShortW
namespace Go.Proofs.Ytgodoogmbdgeoab
open Go.RowKit
set_option linter.unusedVariables false
set_option maxRecDepth 100000

theorem byt_mem {l : List Int} : Byt l ↔ ∀ x ∈ l, 0 ≤ x ∧ x ≤ 255 := by
  constructor
  · intro h x hx
    obtain ⟨i, hi, rfl⟩ := List.getElem_of_mem hx
    have := h i
    rwa [List.getD, List.getElem?_eq_getElem hi] at this
  · intro h i
    rw [List.getD]
    rcases Nat.lt_or_ge i l.length with hi | hi
    · rw [List.getElem?_eq_getElem hi]; exact h _ (List.getElem_mem hi)
    · rw [List.getElem?_eq_none hi]; simp
theorem cp_pre (d : Nat) : ∀ (n : Nat) (o : List Int), ∃ r, cpOut d n o = o ++ r
  | 0, o => ⟨[], by rw [List.append_nil]; rfl⟩
  | n + 1, o => by
    obtain ⟨r, hr⟩ := cp_pre d n (o ++ [o.getD (o.length - d) 0])
    exact ⟨_, by rw [cpOut, hr, List.append_assoc]⟩
theorem app_pre : ∀ (ts : List Tok) (o : List Int), ∃ r, appAll ts o = o ++ r
  | [], o => ⟨[], by rw [List.append_nil]; rfl⟩
  | t :: ts, o => by
    obtain ⟨r, hr⟩ := app_pre ts (t.app o)
    have e : appAll (t :: ts) o = appAll ts (t.app o) := rfl
    cases t with
    | run l => exact ⟨l ++ r, by rw [e, hr]; show o ++ l ++ r = _; rw [List.append_assoc]⟩
    | cp n d =>
      obtain ⟨q, hq⟩ := cp_pre d n o
      exact ⟨q ++ r, by rw [e, hr]; show cpOut d n o ++ r = _; rw [hq, List.append_assoc]⟩
theorem byt_toks : ∀ (ts : List Tok) (o : List Int), Good ts o → (∀ x ∈ appAll ts o, 0 ≤ x ∧ x ≤ 255) → ∀ x ∈ ts.flatMap Tok.byt, 0 ≤ x ∧ x ≤ 255
  | [], o, _, _, x, hx => by simp at hx
  | t :: ts, o, hg, hb, x, hx => by
    rw [List.flatMap_cons, List.mem_append] at hx
    rcases hx with hx | hx
    · cases t with
      | run l =>
        have h1 := hg.1
        have h1' : 1 ≤ l.length ∧ l.length ≤ 128 := h1
        have hx' : x = (l.length : Int) - 1 ∨ x ∈ l := by simpa [Tok.byt] using hx
        rcases hx' with rfl | hx'
        · omega
        · obtain ⟨r, hr⟩ := app_pre ts (o ++ l)
          refine hb x ?_
          show x ∈ appAll ts (o ++ l)
          rw [hr]
          simp [hx']
      | cp n d =>
        obtain ⟨k1, k2, k3, k4, k5⟩ := hg.1
        have hx' : x = (n : Int) + 124 ∨ x = (d : Int) := by simpa [Tok.byt] using hx
        rcases hx' with rfl | rfl <;> omega
    · exact byt_toks ts (t.app o) hg.2 hb x hx
theorem byt_pkX (c : Nat) {l : List Int} (h : Byt l) : Byt (pkX c l) := by
  rw [byt_mem] at h ⊢
  obtain ⟨h1, h2⟩ := toks_good l
  have h3 := byt_toks (toks l) [] h2 (by rw [h1]; exact h)
  unfold pkX
  split
  · intro x hx
    rcases List.mem_cons.1 hx with rfl | hx
    · omega
    · exact h3 x hx
  · intro x hx
    rcases List.mem_cons.1 hx with rfl | hx
    · omega
    · exact h x hx
end Go.Proofs.Ytgodoogmbdgeoab
