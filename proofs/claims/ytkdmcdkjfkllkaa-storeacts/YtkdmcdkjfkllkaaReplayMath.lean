/-
  Plain facts on raw writes that are laid down in order: what a file has recorded makes its bytes. No conditions but that places are within the file.
-/
import Derived.Test.YtkdmcdkjfkllkaaCutMath
namespace Go.Proofs.Ytkdmcdkjfkllkaa
open Go.RowKit
set_option linter.unusedVariables false

/-- Raw writes, laid down in order. -/
def repl (b : List Int) (rs : List (Int × List Int)) : List Int := rs.foldl (fun b r => layN b r.1.toNat r.2) b
theorem repl_snoc (b : List Int) (rs : List (Int × List Int)) (r : Int × List Int) : repl b (rs ++ [r]) = layN (repl b rs) r.1.toNat r.2 := by simp [repl]
/-- The recorded writes of a file that began with b: each may be, and all of them make its bytes. -/
structure Made (b : List Int) (F : Mdl) : Prop where
  bs : F.bs = repl b F.rs
  each : ∀ k r, F.rs[k]? = some r → 0 ≤ r.1 ∧ r.1.toNat ≤ (repl b (F.rs.take k)).length ∧ 1 ≤ r.2.length ∧ r.2.length ≤ 16
theorem Made.start (b : List Int) (most : Int) : Made b (newM b most) := ⟨rfl, fun k r h => by simp [newM] at h⟩
theorem Made.turn {b : List Int} {F F' : Mdl} (h : Made b F) (h1 : F'.bs = F.bs) (h2 : F'.rs = F.rs) : Made b F' := ⟨by rw [h1, h2]; exact h.bs, by rw [h2]; exact h.each⟩
theorem Made.step {b : List Int} {F : Mdl} (h : Made b F) (q : Nat) (x : List Int) (hq : q ≤ F.bs.length) (h1 : 1 ≤ x.length) (h2 : x.length ≤ 16) : Made b (step1 F q x) := by
  refine ⟨?_, fun k r hr => ?_⟩
  · show layN F.bs q x = repl b (F.rs ++ [((q : Int), x)])
    rw [repl_snoc, ← h.bs, Int.toNat_natCast]
  · have hr' : (F.rs ++ [((q : Int), x)])[k]? = some r := hr
    show _ ∧ _ ≤ (repl b ((F.rs ++ [((q : Int), x)]).take k)).length ∧ _
    rcases Nat.lt_or_ge k F.rs.length with hk | hk
    · rw [List.getElem?_append_left hk] at hr'
      rw [List.take_append_of_le_length (by omega)]
      exact h.each k r hr'
    · rw [List.getElem?_append_right hk] at hr'
      have hk0 : k - F.rs.length = 0 := by
        have := (List.getElem?_eq_some_iff.1 hr').1
        simp at this
        omega
      rw [hk0] at hr'
      simp at hr'
      subst hr'
      rw [List.take_left' (by omega), ← h.bs]
      exact ⟨by simp, by simpa using hq, h1, h2⟩
theorem wrN_made {b : List Int} : ∀ (m : Nat) (F : Mdl) (q : Nat) (x : List Int), Made b F → q ≤ F.bs.length → Made b (wrN m F q x).2
  | 0, F, q, x, h, hq => by simpa [wrN] using h
  | m + 1, F, q, x, h, hq => by
    rw [wrN]
    split
    · exact h
    · rename_i h0
      split
      · exact h.turn rfl rfl
      · have ht : (x.take 16).length = min 16 x.length := List.length_take
        have hs := h.step q (x.take 16) hq (by omega) (by omega)
        rcases Nat.lt_or_ge x.length 16 with h1 | h1
        · have hd : x.drop 16 = [] := List.drop_of_length_le (by omega)
          rw [hd, wrN_done m _ _ [] rfl]
          exact hs
        · refine wrN_made m _ _ _ hs ?_
          show q + 16 ≤ (layN F.bs q (x.take 16)).length
          rw [layN_length _ _ _ hq, ht]
          omega
theorem wrM_made {b : List Int} {F : Mdl} (h : Made b F) (at' : Int) (x : List Int) : Made b (wrM F at' x).2 := by
  unfold wrM
  split
  · rename_i hE
    obtain ⟨_, h0, h1, _⟩ := wErr_zero hE
    exact wrN_made _ _ _ _ h (by omega)
  · exact h
theorem repl_length (b : List Int) (F : Mdl) (h : Made b F) : ∀ k, k ≤ F.rs.length → (repl b (F.rs.take k)).length ≤ b.length + 16 * k
  | 0, _ => by simp [repl]
  | k + 1, hk => by
    have ih := repl_length b F h k (by omega)
    obtain ⟨r, hr⟩ : ∃ r, F.rs[k]? = some r := ⟨F.rs[k]'(by omega), List.getElem?_eq_getElem _⟩
    obtain ⟨_, e2, _, e4⟩ := h.each k r hr
    rw [List.take_add_one, hr]
    show (repl b (F.rs.take k ++ [r])).length ≤ _
    rw [repl_snoc, layN_length _ _ _ e2]
    omega
theorem repl_succ (b : List Int) (rs : List (Int × List Int)) (k : Nat) (r : Int × List Int) (h : rs[k]? = some r) : repl b (rs.take (k + 1)) = layN (repl b (rs.take k)) r.1.toNat r.2 := by
  rw [List.take_add_one, h]
  exact repl_snoc _ _ _
end Go.Proofs.Ytkdmcdkjfkllkaa
