/-
  What bytes are read as by the document's Load, held against the program's. No conditions.
-/
import Derived.Test.YtpkbdpbggmiolaaDoorHBackMath
import Derived.Test.YtpkbdpbggmiolaaDoorHLoad
import Derived.Test.YtpkbdpbggmiolaaDoorTold
namespace Go.Proofs.YtpkbdpbggmiolaaDoor
open Go.RowKit Go.Maps
set_option linter.unusedVariables false
set_option maxRecDepth 100000

theorem seal_unH {l : List Int} (hb : Byt l) (h : unErr l = 0) : sealN (unList l) = l := by
  have h0 := h
  unfold unErr at h
  split at h
  · simp at h
  · rename_i hlen
    split at h
    · rename_i hc
      unfold unList
      rw [if_pos h0, sealN, hc]
      have hT : ((l.drop (l.length - 4)).take 4).length = 4 := by simp; omega
      rw [digs_four _ hT (byt_take hb _ _)]
      have e : (l.drop (l.length - 4)).take 4 = l.drop (l.length - 4) := List.take_of_length_le (by simp; omega)
      rw [e, List.take_append_drop]
    · simp at h
theorem get4H {l : List Int} (hb : Byt l) (p : Nat) (h : getErr l.length (p : Int) 4 = 0) : dig2 true (getNum l (p : Int) 4 true) 4 = (l.drop p).take 4 ∧ p + 4 ≤ l.length := by
  have hle : p + 4 ≤ l.length := by
    rcases getErr_cases l.length (p : Int) 4 with ⟨hE, _⟩ | ⟨_, _, _, _, _, hE⟩ | ⟨h1, h2, h3, h4, h5⟩
    · rw [h] at hE; simp at hE
    · rw [h] at hE; simp at hE
    · omega
  refine ⟨?_, hle⟩
  unfold getNum
  rw [if_pos h, Int.toNat_natCast]
  have h4 : (4 : Int).toNat = 4 := rfl
  rw [h4]
  have hlen : ((l.drop p).take 4).length = 4 := by simp; omega
  unfold val dig2
  simp only [if_true]
  rw [hlen, digs_four _ (by simp [hlen]) (byt_reverse (byt_take hb _ _)), List.reverse_reverse]
theorem gb_enc {l : List Int} (hb : Byt l) (p : Nat) (h : gbErr l (p : Int) = 0) : l.drop p = pbList [] (gbList l (p : Int)) ++ l.drop (gbNext l (p : Int)).toNat := by
  obtain ⟨f1, f2, f3, f4⟩ := gb_facts hb (p : Int) (by omega) h
  have h2 := h
  unfold gbErr at h2
  split at h2
  · rename_i hE
    obtain ⟨g1, g2⟩ := get4H hb p hE
    have hnb := getNum_bounds hb (p : Int) 4 true
    split at h2
    · simp at h2
    · split at h2
      · simp at h2
      · rename_i n1 n2
        obtain ⟨q, hq⟩ := Int.eq_ofNat_of_zero_le hnb.1
        rw [hq] at n1 n2
        have hL : gbList l (p : Int) = (l.drop (p + 4)).take q := by unfold gbList; rw [if_pos h, hq, Int.toNat_natCast, Int.toNat_natCast]
        have hN : (gbNext l (p : Int)).toNat = p + 4 + q := by unfold gbNext; rw [if_pos h, hq]; omega
        have hlen : (gbList l (p : Int)).length = q := by rw [hL]; simp; omega
        rw [pb_short f1, hlen, hN, hL]
        rw [hq] at g1
        rw [g1, List.append_assoc, ← List.drop_drop (i := q) (j := p + 4), List.take_append_drop, ← List.drop_drop (i := 4) (j := p), List.take_append_drop]
  · rename_i hh; exact absurd h2 hh
/-- What the document's Load takes at a place. -/
def entR (l : List Int) (p : Nat) : Option (Option (List Int) × Nat) :=
  if l.getD p 0 = 1 then (if gbErr l ((p : Int) + 1) = 0 then some (some (gbList l ((p : Int) + 1)), (gbNext l ((p : Int) + 1)).toNat) else none) else some (none, p + 1)
theorem ent_ref {l : List Int} {p : Nat} {o : Option (List Int) × Nat} (h : entAt l p = some o) : p < l.length ∧ entR l p = some o := by
  unfold entAt at h
  split at h
  · cases h
  · rename_i h1
    refine ⟨by omega, ?_⟩
    unfold entR
    split at h
    · rename_i h2; rw [if_neg (by omega)]; exact h
    · split at h
      · rename_i h3; rw [if_pos h3.1, if_pos h3.2]; exact h
      · cases h
/-- The document's loop behind k rounds. -/
def rpN (l : List Int) : Nat → Option (Nat × List (Option (List Int)))
  | 0 => some (4, [])
  | k + 1 => (rpN l k).bind fun s => if s.1 < l.length then (entR l s.1).map (fun o => (o.2, s.2 ++ [o.1])) else none
theorem rpN_none {l : List Int} {k : Nat} (h : rpN l k = none) : ∀ n, k ≤ n → rpN l n = none
  | 0, hn => by rw [show k = 0 by omega] at h; exact h
  | n + 1, hn => by
    by_cases e : k = n + 1
    · rw [← e]; exact h
    · rw [rpN, rpN_none h n (by omega)]; rfl
theorem rpN_len {l : List Int} : ∀ {k : Nat} {s : Nat × List (Option (List Int))}, rpN l k = some s → s.2.length = k
  | 0, s, h => by simp only [rpN, Option.some.injEq] at h; subst h; rfl
  | k + 1, s, h => by
    rw [rpN] at h
    cases hk : rpN l k with
    | none => rw [hk] at h; cases h
    | some t =>
      rw [hk] at h
      simp only [Option.bind_some] at h
      split at h
      · cases he : entR l t.1 with
        | none => rw [he] at h; cases h
        | some o =>
          rw [he] at h
          simp only [Option.map_some, Option.some.injEq] at h
          subst h
          rw [List.length_append, rpN_len hk]; rfl
      · cases h
/-- A run that can't go on is the only one. -/
theorem rpN_one {l : List Int} {k k' : Nat} {s s' : Nat × List (Option (List Int))} (h : rpN l k = some s) (h1 : rpN l (k + 1) = none) (h' : rpN l k' = some s') (h1' : rpN l (k' + 1) = none) : k = k' ∧ s = s' := by
  have e : k = k' := by
    rcases Nat.lt_trichotomy k k' with e | e | e
    · rw [rpN_none h1 k' e] at h'; cases h'
    · exact e
    · rw [rpN_none h1' k e] at h; cases h
  subst e
  rw [h] at h'
  exact ⟨rfl, Option.some.inj h'⟩
def LT (T : Int → Option (List Int)) (k : Nat) : List (Option (List Int)) := (List.range k).map (fun i : Nat => T (i : Int))
theorem LT_succ (T : Int → Option (List Int)) (k : Nat) : LT T (k + 1) = LT T k ++ [T (k : Int)] := by unfold LT; rw [List.range_succ]; simp
theorem LT_put (T : Int → Option (List Int)) (k : Nat) (x : Option (List Int)) : LT (putT T k x) k = LT T k := by
  unfold LT
  refine List.map_congr_left (fun i hi => ?_)
  rw [putT_other T _ (by have := List.mem_range.1 hi; omega)]
theorem encN_put (T : Int → Option (List Int)) (x : Option (List Int)) (n : Nat) : ∀ k, k ≤ n → encN (putT T n x) k = encN T k
  | 0, _ => rfl
  | k + 1, h => by
    rw [encN, encN, encN_put T x n k (by omega)]
    unfold entN
    rw [putT_other T _ (by omega)]
/-- What the program's loop has is what the document's has, and what stands in the bytes. -/
theorem thK_ref {l : List Int} (hb : Byt l) (h4 : 4 ≤ l.length) : ∀ k s, thK l k = some s → rpN l k = some (s.p, LT s.T k) ∧ l = l.take 4 ++ (encN s.T k ++ l.drop s.p) ∧ 4 ≤ s.p
  | 0, s, h => by
    simp only [thK, Option.some.injEq] at h
    subst h
    exact ⟨rfl, by simp [encN], Nat.le_refl _⟩
  | k + 1, s, h => by
    rw [thK] at h
    cases hk : thK l k with
    | none => rw [hk] at h; cases h
    | some s0 =>
      obtain ⟨r1, r2, r3⟩ := thK_ref hb h4 k s0 hk
      obtain ⟨f1, _⟩ := thK_facts hb k s0 hk
      have hTk : s0.T (k : Int) = none := by
        cases hT : s0.T (k : Int) with
        | none => rfl
        | some b => have := f1 _ _ hT; omega
      rw [hk] at h
      simp only [Option.bind_some] at h
      unfold thStep at h
      split at h
      · cases h
      · rename_i q he
        simp only [Option.some.injEq] at h
        subst h
        obtain ⟨e1, e2⟩ := ent_ref he
        have hq : q = s0.p + 1 ∧ l.getD s0.p 0 = 0 := by
          unfold entAt at he
          split at he
          · cases he
          · split at he
            · rename_i h0
              simp only [Option.some.injEq, Prod.mk.injEq, true_and] at he
              exact ⟨he.symm, h0⟩
            · split at he
              · simp at he
              · cases he
        refine ⟨?_, ?_, by simp only; omega⟩
        · rw [rpN, r1]
          simp only [Option.bind_some]
          rw [if_pos e1, e2, LT_succ, hTk]; rfl
        · simp only
          rw [encN, entN, hTk]
          have hd : l.drop s0.p = [0] ++ l.drop q := by
            rw [List.drop_eq_getElem_cons e1, hq.1]
            have : l[s0.p] = 0 := by have := hq.2; rw [List.getD, List.getElem?_eq_getElem e1] at this; exact this
            rw [this]; rfl
          rw [List.append_assoc, ← hd]
          exact r2
      · rename_i x q he
        split at h
        · cases h
        · simp only [Option.some.injEq] at h
          subst h
          obtain ⟨e1, e2⟩ := ent_ref he
          have hq : l.getD s0.p 0 = 1 ∧ gbErr l ((s0.p : Int) + 1) = 0 ∧ x = gbList l ((s0.p : Int) + 1) ∧ q = (gbNext l ((s0.p : Int) + 1)).toNat := by
            unfold entAt at he
            split at he
            · cases he
            · split at he
              · simp at he
              · split at he
                · rename_i h3
                  simp only [Option.some.injEq, Prod.mk.injEq] at he
                  exact ⟨h3.1, h3.2, he.1.symm, he.2.symm⟩
                · cases he
          obtain ⟨q1, q2, q3, q4⟩ := hq
          have hge := gb_enc hb (s0.p + 1) (by rw [Int.natCast_add]; exact q2)
          rw [Int.natCast_add] at hge
          have hfa := gb_facts hb ((s0.p : Int) + 1) (by omega) q2
          have hnx : gbNext l ((s0.p : Int) + 1) = (s0.p : Int) + 1 + 4 + getNum l ((s0.p : Int) + 1) 4 true := by unfold gbNext; rw [if_pos q2]
          have hgn := (getNum_bounds hb ((s0.p : Int) + 1) 4 true).1
          refine ⟨?_, ?_, by simp only; omega⟩
          · rw [rpN, r1]
            simp only [Option.bind_some]
            rw [if_pos e1, e2, LT_succ, LT_put, putT_same]; rfl
          · simp only
            rw [encN, entN, putT_same, encN_put _ _ _ _ (Nat.le_refl _)]
            have hd : l.drop s0.p = ([1] ++ pbList [] x) ++ l.drop q := by
              rw [List.drop_eq_getElem_cons e1]
              have h1 : l[s0.p] = 1 := by have := q1; rw [List.getD, List.getElem?_eq_getElem e1] at this; exact this
              have hge' : l.drop (s0.p + 1) = pbList [] x ++ l.drop q := by rw [q3, q4]; exact hge
              rw [h1, hge']; rfl
            simp only
            rw [List.append_assoc, ← hd]
            exact r2
theorem lst_some {l : List Int} : ∀ k s, thK l k = some s → s.la = -1 ∨ (0 ≤ s.la ∧ (s.T s.la).isSome = true)
  | 0, s, h => by simp only [thK, Option.some.injEq] at h; subst h; exact .inl rfl
  | k + 1, s, h => by
    rw [thK] at h
    cases hk : thK l k with
    | none => rw [hk] at h; cases h
    | some s0 =>
      have ih := lst_some k s0 hk
      rw [hk] at h
      simp only [Option.bind_some] at h
      unfold thStep at h
      split at h
      · cases h
      · simp only [Option.some.injEq] at h
        subst h
        exact ih
      · split at h
        · cases h
        · simp only [Option.some.injEq] at h
          subst h
          exact .inr ⟨by simp, by simp [putT_same]⟩
end Go.Proofs.YtpkbdpbggmiolaaDoor
