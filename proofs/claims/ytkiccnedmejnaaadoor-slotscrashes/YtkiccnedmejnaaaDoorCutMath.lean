/-
  Plain facts on writes under a planned cut: how far they come, how many raw writes they record. No conditions but that the place is within the file.
-/
import Derived.Test.YtkiccnedmejnaaaDoorRefLay
namespace Go.Proofs.YtkiccnedmejnaaaDoor
open Go.RowKit
set_option linter.unusedVariables false

/-- A write records no more raw writes than it has bytes. -/
theorem wrN_count : ∀ (m : Nat) (F : Mdl) (q : Nat) (x : List Int), (wrN m F q x).2.rs.length ≤ F.rs.length + x.length
  | 0, F, q, x => by simp [wrN]
  | m + 1, F, q, x => by
    rw [wrN]
    split
    · simp
    · split
      · simp
      · rename_i h0 _
        have := wrN_count m (step1 F q (x.take 16)) (q + 16) (x.drop 16)
        have e : (step1 F q (x.take 16)).rs.length = F.rs.length + 1 := by simp [step1]
        rw [e, List.length_drop] at this
        omega
theorem wrM_count (F : Mdl) (at' : Int) (x : List Int) : (wrM F at' x).2.rs.length ≤ F.rs.length + x.length := by
  unfold wrM
  split
  · exact wrN_count _ _ _ _
  · simp

/-- Behind so many raw writes the power fails, unless all is laid down by then. -/
theorem wrN_cut : ∀ (m : Nat) (F : Mdl) (q : Nat) (x : List Int) (c : Nat), F.pl = true → F.left = (c : Int) → x.length ≤ m → q ≤ F.bs.length →
    (x.length ≤ 16 * c → ∃ F', wrN m F q x = (0, F') ∧ F'.bs = layN F.bs q x ∧ F'.most = F.most ∧ F'.off = F.off) ∧
    (16 * c < x.length → ∃ F', wrN m F q x = (6, F') ∧ F'.bs = layN F.bs q (x.take (16 * c)) ∧ F'.most = F.most ∧ F'.off = true ∧ F'.pl = false)
  | 0, F, q, x, c, hp, hl, hm, hq => by
    have : x = [] := List.eq_nil_of_length_eq_zero (by omega)
    subst this
    exact ⟨fun _ => ⟨F, rfl, (layN_nil _ _).symm, rfl, rfl⟩, fun h => by simp at h⟩
  | m + 1, F, q, x, c, hp, hl, hm, hq => by
    by_cases h0 : x.length = 0
    · have : x = [] := List.eq_nil_of_length_eq_zero h0
      subst this
      exact ⟨fun _ => ⟨F, wrN_done (m + 1) F q [] rfl, (layN_nil _ _).symm, rfl, rfl⟩, fun h => by simp at h⟩
    · have ht : (x.take 16).length = min 16 x.length := List.length_take
      have hlen : (step1 F q (x.take 16)).bs.length = max F.bs.length (q + min 16 x.length) := by
        show (layN F.bs q (x.take 16)).length = _
        rw [layN_length _ _ _ hq, ht]
      have hdl : (x.drop 16).length = x.length - 16 := List.length_drop
      cases c with
      | zero =>
        refine ⟨fun h => by omega, fun _ => ⟨_, wrN_due (m + 1) F q x (by omega) hm (by simp [hp, hl]), ?_, rfl, rfl, rfl⟩⟩
        show F.bs = _
        rw [Nat.mul_zero, List.take_zero, layN_nil]
      | succ c =>
        have hstep := wrN_step m F q x (by omega) (by simp [hl]; omega)
        have hl2 : (step1 F q (x.take 16)).left = (c : Int) := by
          show (if F.pl then F.left - 1 else F.left) = _
          rw [hp, hl]; simp
        rcases Nat.lt_or_ge x.length 16 with h1 | h1
        · have hd : x.drop 16 = [] := List.eq_nil_of_length_eq_zero (by omega)
          rw [hd, wrN_done m _ _ [] rfl, List.take_of_length_le (by omega)] at hstep
          exact ⟨fun _ => ⟨_, hstep, rfl, rfl, rfl⟩, fun h => by omega⟩
        · obtain ⟨g1, g2⟩ := wrN_cut m (step1 F q (x.take 16)) (q + 16) (x.drop 16) c hp hl2 (by omega) (by omega)
          have hmore : ∀ y, layN (step1 F q (x.take 16)).bs (q + 16) y = layN F.bs q (x.take 16 ++ y) := fun y => by
            show layN (layN F.bs q (x.take 16)) (q + 16) y = _
            have := layN_more F.bs q (x.take 16) y hq
            rwa [ht, Nat.min_eq_left h1] at this
          have hi1 : x.length ≤ 16 * (c + 1) → (x.drop 16).length ≤ 16 * c := by clear g1 g2; omega
          have hi2 : 16 * (c + 1) < x.length → 16 * c < (x.drop 16).length := by clear g1 g2; omega
          refine ⟨fun h => ?_, fun h => ?_⟩
          · obtain ⟨F', h2, h3, h4, h5⟩ := g1 (hi1 h)
            exact ⟨F', hstep.trans h2, by rw [h3, hmore, List.take_append_drop], h4, h5⟩
          · obtain ⟨F', h2, h3, h4, h5, h6⟩ := g2 (hi2 h)
            refine ⟨F', hstep.trans h2, ?_, h4, h5, h6⟩
            rw [h3, hmore, show 16 * (c + 1) = 16 + 16 * c by omega, ← List.take_add]
theorem wErr_fine {F : Mdl} {q n : Nat} (h1 : F.off = false) (h2 : q ≤ F.bs.length) (h3 : (n : Int) ≤ F.most - q) : wErr F (q : Int) n = 0 := by
  unfold wErr
  rw [h1, if_neg (by simp), if_neg (by omega), if_neg (by omega)]
/-- A write that a cut does not meet. -/
theorem wrM_whole {F : Mdl} {q c : Nat} {x : List Int} (hp : F.pl = true) (hl : F.left = (c : Int)) (h1 : F.off = false) (h2 : q ≤ F.bs.length) (h3 : (x.length : Int) ≤ F.most - q) (h : x.length ≤ 16 * c) :
    ∃ F', wrM F (q : Int) x = (0, F') ∧ F'.bs = layN F.bs q x ∧ F'.most = F.most ∧ F'.off = false := by
  obtain ⟨F', h4, h5, h6, h7⟩ := (wrN_cut x.length F q x c hp hl (Nat.le_refl _) h2).1 h
  refine ⟨F', ?_, h5, h6, h7.trans h1⟩
  unfold wrM
  rw [if_pos (wErr_fine h1 h2 h3), Int.toNat_natCast]
  exact h4
/-- One that it meets. -/
theorem wrM_cut {F : Mdl} {q c : Nat} {x : List Int} (hp : F.pl = true) (hl : F.left = (c : Int)) (h1 : F.off = false) (h2 : q ≤ F.bs.length) (h3 : (x.length : Int) ≤ F.most - q) (h : 16 * c < x.length) :
    ∃ F', wrM F (q : Int) x = (6, F') ∧ F'.bs = layN F.bs q (x.take (16 * c)) ∧ F'.most = F.most ∧ F'.off = true ∧ F'.pl = false := by
  obtain ⟨F', h4, h5, h6, h7, h8⟩ := (wrN_cut x.length F q x c hp hl (Nat.le_refl _) h2).2 h
  refine ⟨F', ?_, h5, h6, h7, h8⟩
  unfold wrM
  rw [if_pos (wErr_fine h1 h2 h3), Int.toNat_natCast]
  exact h4
/-- Without power nothing is written. -/
theorem wrM_off {F : Mdl} (h : F.off = true) (at' : Int) (x : List Int) : wrM F at' x = (6, F) := by
  have : wErr F at' x.length = 6 := by unfold wErr; rw [h]; simp
  unfold wrM
  rw [if_neg (by omega), this]
/-- Over its own first part all is laid down again. -/
theorem layN_again (b : List Int) (q k : Nat) (x : List Int) (hq : q ≤ b.length) (hk : k ≤ x.length) : layN (layN b q (x.take k)) q x = layN b q x := by
  have hl : (x.take k).length = k := by rw [List.length_take]; omega
  have e1 : (layN b q (x.take k)).take q = b.take q := layN_head b q _ hq
  have e2 : (layN b q (x.take k)).drop (q + x.length) = b.drop (q + x.length) := by
    have := layN_tail b q (x.take k) hq
    rw [hl] at this
    rw [show q + x.length = q + k + (x.length - k) by omega, ← List.drop_drop, this, List.drop_drop]
  show (layN b q (x.take k)).take q ++ (x ++ (layN b q (x.take k)).drop (q + x.length)) = _
  rw [e1, e2]
  rfl
end Go.Proofs.YtkiccnedmejnaaaDoor
