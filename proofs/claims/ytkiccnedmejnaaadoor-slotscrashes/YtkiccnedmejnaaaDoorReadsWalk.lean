/-
  The walk of StoreReads: what was written is read, and what lies beside it stays, for all bytes and places.
-/
import Derived.Test.YtkiccnedmejnaaaDoorLives
namespace Go.Proofs.YtkiccnedmejnaaaDoor
open Go.RowKit
set_option linter.unusedVariables false

/-- A place within n and its end, whatever number is asked. -/
theorem place_in (a : Int) (n : Nat) : ∃ k : Nat, k ≤ n ∧ (a.tmod ((n : Int) + 1) + (n : Int) + 1).tmod ((n : Int) + 1) = (k : Int) ∧ -((n : Int) + 1) ≤ a.tmod ((n : Int) + 1) ∧ a.tmod ((n : Int) + 1) < (n : Int) + 1 := by
  have hp : (0 : Int) < (n : Int) + 1 := by omega
  have h1 : a.tmod ((n : Int) + 1) < (n : Int) + 1 := Int.tmod_lt_of_pos a hp
  have h2 : -((n : Int) + 1) ≤ a.tmod ((n : Int) + 1) := by
    have e := Int.tmod_eq_emod (a := a) (b := (n : Int) + 1)
    have := Int.emod_nonneg a (show (n : Int) + 1 ≠ 0 by omega)
    rw [e]
    split
    · omega
    · have : (((n : Int) + 1).natAbs : Int) = (n : Int) + 1 := by omega
      omega
  have h3 := Int.emod_nonneg (a.tmod ((n : Int) + 1) + (n : Int) + 1) (show (n : Int) + 1 ≠ 0 by omega)
  have h4 := Int.emod_lt_of_pos (a.tmod ((n : Int) + 1) + (n : Int) + 1) hp
  refine ⟨((a.tmod ((n : Int) + 1) + (n : Int) + 1) % ((n : Int) + 1)).toNat, by omega, ?_, h2, h1⟩
  rw [Int.tmod_eq_emod_of_nonneg (by omega)]
  omega

/-- Without a planned cut all is laid down. -/
theorem wrN_plain : ∀ (m : Nat) (F : Mdl) (q : Nat) (x : List Int), F.pl = false → x.length ≤ m → q ≤ F.bs.length → ∃ F', wrN m F q x = (0, F') ∧ F'.bs = layN F.bs q x ∧ F'.most = F.most ∧ F'.off = F.off ∧ F'.pl = false
  | 0, F, q, x, hp, hm, hq => by
    have : x = [] := List.eq_nil_of_length_eq_zero (by omega)
    subst this
    exact ⟨F, rfl, (layN_nil _ _).symm, rfl, rfl, hp⟩
  | m + 1, F, q, x, hp, hm, hq => by
    by_cases h0 : x.length = 0
    · have : x = [] := List.eq_nil_of_length_eq_zero h0
      subst this
      exact ⟨F, wrN_done (m + 1) F q [] rfl, (layN_nil _ _).symm, rfl, rfl, hp⟩
    · have ht : (x.take 16).length = min 16 x.length := List.length_take
      have hl : (step1 F q (x.take 16)).bs.length = max F.bs.length (q + min 16 x.length) := by
        show (layN F.bs q (x.take 16)).length = _
        rw [layN_length _ _ _ hq, ht]
      have hstep := wrN_step m F q x (by omega) (by simp [hp])
      have hdl : (x.drop 16).length = x.length - 16 := List.length_drop
      rcases Nat.lt_or_ge x.length 16 with h1 | h1
      · have hd : x.drop 16 = [] := List.eq_nil_of_length_eq_zero (by omega)
        rw [hd, wrN_done m _ _ [] rfl, List.take_of_length_le (by omega)] at hstep
        exact ⟨_, hstep, rfl, rfl, rfl, hp⟩
      · obtain ⟨F', h2, h3, h4, h5, h6⟩ := wrN_plain m (step1 F q (x.take 16)) (q + 16) (x.drop 16) hp (by omega) (by omega)
        refine ⟨F', hstep.trans h2, ?_, h4, h5, h6⟩
        rw [h3]
        show layN (layN F.bs q (x.take 16)) (q + 16) (x.drop 16) = _
        have := layN_more F.bs q (x.take 16) (x.drop 16) hq
        rw [ht, Nat.min_eq_left h1, List.take_append_drop] at this
        exact this
theorem wErr_free {F : Mdl} {q n : Nat} (h1 : F.off = false) (h2 : q ≤ F.bs.length) (h3 : (n : Int) ≤ F.most - q) : wErr F (q : Int) n = 0 := by
  unfold wErr
  rw [h1, if_neg (by simp), if_neg (by omega), if_neg (by omega)]
theorem wrM_plain {F : Mdl} {q : Nat} {x : List Int} (hp : F.pl = false) (h1 : F.off = false) (h2 : q ≤ F.bs.length) (h3 : (x.length : Int) ≤ F.most - q) : ∃ F', wrM F (q : Int) x = (0, F') ∧ F'.bs = layN F.bs q x ∧ F'.most = F.most ∧ F'.off = false ∧ F'.pl = false := by
  obtain ⟨F', h4, h5, h6, h7, h8⟩ := wrN_plain x.length F q x hp (Nat.le_refl _) h2
  refine ⟨F', ?_, h5, h6, h7.trans h1, h8⟩
  unfold wrM
  rw [if_pos (wErr_free h1 h2 h3), Int.toNat_natCast]
  exact h4
theorem rd_ok {F : Mdl} {a m : Nat} (h1 : F.off = false) (h2 : a + m ≤ F.bs.length) : rdErr F (a : Int) (m : Int) = 0 ∧ rdList F (a : Int) (m : Int) = (F.bs.drop a).take m := by
  have h : rdErr F (a : Int) (m : Int) = 0 := by
    unfold rdErr
    rw [h1, if_neg (by simp), if_neg (by omega), if_neg (by omega)]
  refine ⟨h, ?_⟩
  unfold rdList
  rw [if_pos h, Int.toNat_natCast, Int.toNat_natCast]
/-- Bytes that lay there ahead of the file are none of its own. -/
theorem alien_old {w w1 : World} {p : Nat} {F : Mdl} {vb vr v : Value} {rv : List RawV} {l : List Int} (hf : PF w1 w.heap.size p F vb vr rv) (hb : Below w.heap.size w w1) (hl : Bs w v l) : 0 < l.length → Alien w1 p vb vr v := by
  intro h0 k hk
  obtain ⟨b, off, cap, rfl, hc, hcell⟩ := hl.opened h0
  simp [Value.ownBlock] at hk
  subst hk
  have h1 := World.block_lt_of_cell? w _ (hcell 0 h0)
  dsimp only at h1
  exact ⟨fun hfo => by have := (hf.hold.foot _ hfo).1; omega, Nat.lt_of_lt_of_le h1 hb.size⟩

theorem bs_take {w : World} {ao : Option Addr} {n cap : Nat} {l : List Int} (h : Bs w (.slice ao n cap) l) (k : Nat) (hk : k ≤ l.length) : Bs w (.slice ao k cap) (l.take k) := by
  obtain ⟨ao', cap', e, hc, hn, hcell⟩ := h
  injection e with e1 e2 e3
  subst e1 e3
  have hl : (l.take k).length = k := by rw [List.length_take]; omega
  refine ⟨ao, cap, by rw [hl], by omega, hn, fun ad ha i hi => ?_⟩
  rw [hl] at hi
  rw [hcell ad ha i (by omega)]
  simp [List.getD, hi]
end Go.Proofs.YtkiccnedmejnaaaDoor
