/-
  Plain facts: what a heap lays down is read back. Conditions: all things are short enough, and not too many.
-/
import Derived.Test.YtpkbdpbggmiolaaDoorHLoad
namespace Go.Proofs.YtpkbdpbggmiolaaDoor
open Go.RowKit Go.Maps
set_option linter.unusedVariables false
set_option maxRecDepth 100000

theorem runH_getErr (pre x post : List Int) : getErr (pre ++ (pbList [] x ++ post)).length pre.length 4 = 0 ∨ 65536 < x.length := by
  by_cases hx : 65536 < x.length
  · exact .inr hx
  · left
    have e : (pbList [] x).length = 4 + x.length := by unfold pbList; rw [if_neg hx]; simp [dig2_length]
    unfold getErr
    rw [if_pos ⟨wOk_true (by omega) (by omega), by simp [pOk]; omega⟩, if_neg]
    rw [List.length_append, List.length_append, e]; omega
theorem pb_short {x : List Int} (hx : x.length ≤ 65536) : pbList [] x = dig2 true x.length 4 ++ x := by unfold pbList; rw [if_neg (by omega)]; rfl
theorem runH_getNum (pre x post : List Int) (hx : x.length ≤ 65536) : getNum (pre ++ (pbList [] x ++ post)) pre.length 4 true = x.length := by
  have hE : getErr (pre ++ (pbList [] x ++ post)).length pre.length 4 = 0 := (runH_getErr pre x post).resolve_right (by omega)
  unfold getNum
  rw [if_pos hE, Int.toNat_natCast, List.drop_left]
  have e : (pbList [] x ++ post).take ((4 : Int).toNat) = dig2 true x.length 4 := by
    rw [pb_short hx, List.append_assoc]
    exact List.take_left' (by rw [dig2_length]; rfl)
  rw [e]
  exact val_back true (by omega) (by have : (256 : Int) ^ 4 = 4294967296 := rfl; omega)
theorem runH_gbErr (pre x post : List Int) (hx : x.length ≤ 65536) : gbErr (pre ++ (pbList [] x ++ post)) pre.length = 0 := by
  have e : (pbList [] x).length = 4 + x.length := by rw [pb_short hx, List.length_append, dig2_length]
  unfold gbErr
  rw [if_pos ((runH_getErr pre x post).resolve_right (by omega)), runH_getNum pre x post hx, if_neg (by omega), if_neg]
  rw [List.length_append, List.length_append, e]; omega
theorem runH_gbList (pre x post : List Int) (hx : x.length ≤ 65536) : gbList (pre ++ (pbList [] x ++ post)) pre.length = x := by
  unfold gbList
  rw [if_pos (runH_gbErr pre x post hx), runH_getNum pre x post hx, Int.toNat_natCast, Int.toNat_natCast, ← List.drop_drop, List.drop_left, pb_short hx, List.append_assoc, List.drop_left' (by rw [dig2_length]), List.take_left]
theorem runH_gbNext (pre x post : List Int) (hx : x.length ≤ 65536) : gbNext (pre ++ (pbList [] x ++ post)) pre.length = (pre.length : Int) + 4 + x.length := by
  unfold gbNext
  rw [if_pos (runH_gbErr pre x post hx), runH_getNum pre x post hx]

/-- What stands for a number. -/
def entN (T : Int → Option (List Int)) (j : Nat) : List Int := match T j with
  | none => [0]
  | some b => [1] ++ pbList [] b
def encN (T : Int → Option (List Int)) : Nat → List Int
  | 0 => []
  | j + 1 => encN T j ++ entN T j
theorem encN_gap (T : Int → Option (List Int)) (a : Nat) : ∀ d : Nat, (∀ i : Nat, a ≤ i → i < a + d → T i = none) → encN T (a + d) = encN T a ++ List.replicate d 0
  | 0, _ => by simp
  | d + 1, h => by
    rw [← Nat.add_assoc, encN, encN_gap T a d (fun i h1 h2 => h i h1 (by omega))]
    have e : entN T (a + d) = [0] := by unfold entN; rw [h (a + d) (by omega) (by omega)]
    rw [e, List.append_assoc, List.replicate_succ' ]
theorem encN_split (T : Int → Option (List Int)) (j : Nat) : ∀ u, j < u → ∃ post, encN T u = encN T j ++ (entN T j ++ post)
  | u + 1, h => by
    by_cases e : j = u
    · subst e; exact ⟨[], by rw [encN, List.append_nil]⟩
    · obtain ⟨post, hp⟩ := encN_split T j u (by omega)
      exact ⟨post ++ entN T u, by rw [encN, hp]; simp⟩
theorem getD_mem {L : List Int} {k : Nat} (h : k < L.length) : L.getD k 0 ∈ L := by rw [List.getD, List.getElem?_eq_getElem h]; exact List.getElem_mem h
theorem getD_lt {L : List Int} (h : L.Pairwise (· < ·)) {a b : Nat} (hab : a < b) (hb : b < L.length) : L.getD a 0 < L.getD b 0 := by
  have := List.pairwise_iff_getElem.1 h a b (by omega) hb hab
  rw [List.getD, List.getD, List.getElem?_eq_getElem (show a < L.length by omega), List.getElem?_eq_getElem hb]
  exact this
theorem encK_encN {T : Int → Option (List Int)} {L : List Int} (hL : Ids T L) (h0 : ∀ i ∈ L, 0 ≤ i) : ∀ k, k ≤ L.length → encK T L k = encN T (nxt L k).toNat
  | 0, _ => rfl
  | k + 1, hk => by
    have ih := encK_encN hL h0 k (by omega)
    have h1 := nxt_le hL.rise h0 (k := k) (by omega)
    obtain ⟨q, hq⟩ := Int.eq_ofNat_of_zero_le h1.1
    obtain ⟨x, hx⟩ := Int.eq_ofNat_of_zero_le (h0 _ (getD_mem (show k < L.length by omega)))
    rw [hq, hx] at h1
    have hgap : ∀ i : Nat, q ≤ i → i < q + (x - q) → T i = none := fun i hi1 hi2 => by
      cases hT : T (i : Int) with
      | none => rfl
      | some b =>
        exfalso
        have hm : (i : Int) ∈ L := (hL.mem _).2 (by rw [hT]; rfl)
        obtain ⟨j, hj, hji⟩ := List.getElem_of_mem hm
        have hjd : L.getD j 0 = (i : Int) := by rw [List.getD, List.getElem?_eq_getElem hj]; exact hji
        rcases Nat.lt_trichotomy j k with h2 | h2 | h2
        · have h3 : L.getD j 0 < nxt L k := by
            cases k with
            | zero => omega
            | succ k' =>
              show L.getD j 0 < L.getD k' 0 + 1
              by_cases e : j = k'
              · subst e; omega
              · have := getD_lt hL.rise (show j < k' by omega) (by omega); omega
          rw [hq, hjd] at h3
          omega
        · subst h2; rw [hx] at hjd; omega
        · have := getD_lt hL.rise h2 hj; rw [hx, hjd] at this; omega
    obtain ⟨b, hb⟩ := Option.isSome_iff_exists.1 ((hL.mem _).1 (getD_mem (show k < L.length by omega)))
    have e2 : (nxt L (k + 1)).toNat = x + 1 := by show (L.getD k 0 + 1).toNat = x + 1; rw [hx]; omega
    have e3 : x = q + (x - q) := by omega
    have e4 : entN T x = [1] ++ pbList [] b := by unfold entN; rw [← hx, hb]
    rw [encK, ih, hq, hb, hx, e2, encN, Int.toNat_natCast, e4]
    have e5 : encN T x = encN T q ++ List.replicate (x - q) 0 := by
      have := encN_gap T q (x - q) hgap
      rw [← e3] at this
      exact this
    rw [e5, show ((x : Int) - (q : Int)).toNat = x - q by omega]
    simp
def resT (T : Int → Option (List Int)) (j : Nat) : Int → Option (List Int) := fun i => if i < (j : Int) then T i else none
def cntN (T : Int → Option (List Int)) : Nat → Nat
  | 0 => 0
  | j + 1 => cntN T j + (if (T j).isSome then 1 else 0)
def lstN (T : Int → Option (List Int)) : Nat → Int
  | 0 => -1
  | j + 1 => if (T j).isSome then j else lstN T j
theorem resT_none {T : Int → Option (List Int)} {j : Nat} (h : T j = none) : resT T (j + 1) = resT T j := by
  funext i
  unfold resT
  by_cases e : i = (j : Int)
  · subst e; rw [if_pos (by omega), if_neg (by omega), h]
  · by_cases h1 : i < (j : Int)
    · rw [if_pos h1, if_pos (by omega)]
    · rw [if_neg h1, if_neg (by omega)]
theorem resT_some {T : Int → Option (List Int)} {j : Nat} {b : List Int} (h : T j = some b) : putT (resT T j) (j : Int) (some b) = resT T (j + 1) := by
  funext i
  unfold resT putT
  by_cases e : i = (j : Int)
  · subst e; rw [if_pos rfl, if_pos (by omega), h]
  · rw [if_neg e]
    show (if i < (j : Int) then T i else none) = _
    by_cases h1 : i < (j : Int)
    · rw [if_pos h1, if_pos (by omega)]
    · rw [if_neg h1, if_neg (by omega)]
theorem cntN_mono (T : Int → Option (List Int)) (j : Nat) : ∀ u, j ≤ u → cntN T j ≤ cntN T u
  | 0, h => by rw [show j = 0 by omega]; exact Nat.le_refl _
  | u + 1, h => by
    by_cases e : j = u + 1
    · rw [e]; exact Nat.le_refl _
    · have := cntN_mono T j u (by omega); rw [cntN]; omega
theorem entAt_absent (pre post : List Int) : entAt (pre ++ ([0] ++ post)) pre.length = some (none, pre.length + 1) := by
  unfold entAt
  rw [if_neg (by simp), if_pos (by simp [List.getD])]
theorem entAt_thing (pre x post : List Int) (hx : x.length ≤ 65536) : entAt (pre ++ (([1] ++ pbList [] x) ++ post)) pre.length = some (some x, pre.length + ([1] ++ pbList [] x).length) := by
  have e : pre ++ (([1] ++ pbList [] x) ++ post) = (pre ++ [1]) ++ (pbList [] x ++ post) := by simp
  have el : ((pre.length : Int) + 1) = ((pre ++ [1]).length : Nat) := by simp
  have g1 := runH_gbErr (pre ++ [1]) x post hx
  have g2 := runH_gbList (pre ++ [1]) x post hx
  have g3 := runH_gbNext (pre ++ [1]) x post hx
  have h1 : (pre ++ (([1] ++ pbList [] x) ++ post)).getD pre.length 0 = 1 := by simp [List.getD]
  unfold entAt
  rw [if_neg (by simp), h1, if_neg (by decide), el, e, if_pos ⟨rfl, g1⟩, g2, g3, pb_short hx]
  simp [dig2_length]
  omega
theorem thK_enc {T : Int → Option (List Int)} {A : List Int} {u : Nat} (hA : A.length = 4) (hb : ∀ i b, T i = some b → b.length ≤ 65536) (h0 : ∀ i b, T i = some b → 0 ≤ i) (hc : cntN T u ≤ 65536) :
    ∀ j, j ≤ u → thK (A ++ encN T u) j = some ⟨resT T j, cntN T j, lstN T j, 4 + (encN T j).length⟩
  | 0, _ => by
    have e : resT T 0 = fun _ => none := by
      funext i
      unfold resT
      split
      · rename_i h
        cases hT : T i with
        | none => rfl
        | some b => have := h0 i b hT; omega
      · rfl
    rw [thK, e]; rfl
  | j + 1, hj => by
    have ih := thK_enc hA hb h0 hc j (by omega)
    obtain ⟨post, hp⟩ := encN_split T j u (by omega)
    have hl : A ++ encN T u = (A ++ encN T j) ++ (entN T j ++ post) := by rw [hp]; simp
    have hpl : (A ++ encN T j).length = 4 + (encN T j).length := by rw [List.length_append, hA]
    rw [thK, ih]
    simp only [Option.bind_some, thStep]
    cases hT : T (j : Int) with
    | none =>
      have he : entN T j = [0] := by unfold entN; rw [hT]
      have := entAt_absent (A ++ encN T j) post
      rw [hl, he, ← hpl, this]
      simp only [resT_none hT, cntN, lstN, hT, encN, he]
      simp [hpl]
      omega
    | some b =>
      have he : entN T j = [1] ++ pbList [] b := by unfold entN; rw [hT]
      have h65 : cntN T j ≠ 65536 := by
        have h1 := cntN_mono T (j + 1) u hj
        rw [cntN, hT] at h1
        simp at h1
        omega
      have := entAt_thing (A ++ encN T j) b post (hb _ _ hT)
      rw [hl, he, ← hpl, this]
      simp only [if_neg h65, resT_some hT, cntN, lstN, hT, encN, he]
      simp [hpl]
      omega
theorem cntN_ids {T : Int → Option (List Int)} : ∀ (j : Nat) (L : List Int), Ids T L → (∀ i b, T i = some b → 0 ≤ i ∧ i < j) → cntN T j = L.length := by
  have key : ∀ j : Nat, ∃ L : List Int, L.length = cntN T j ∧ L.Nodup ∧ ∀ i : Int, i ∈ L ↔ (0 ≤ i ∧ i < j ∧ (T i).isSome = true) := by
    intro j
    induction j with
    | zero => exact ⟨[], rfl, List.nodup_nil, fun i => by simp; omega⟩
    | succ j ih =>
      obtain ⟨L, h1, h2, h3⟩ := ih
      cases hT : T (j : Int) with
      | none =>
        refine ⟨L, by rw [h1, cntN, hT]; rfl, h2, fun i => ?_⟩
        rw [h3 i]
        constructor
        · rintro ⟨a, b, c⟩; exact ⟨a, by omega, c⟩
        · rintro ⟨a, b, c⟩
          refine ⟨a, ?_, c⟩
          by_cases e : i = (j : Int)
          · subst e; rw [hT] at c; cases c
          · omega
      | some b =>
        refine ⟨(j : Int) :: L, by rw [List.length_cons, h1, cntN, hT]; rfl, List.nodup_cons.2 ⟨fun h => by have := (h3 _).1 h; omega, h2⟩, fun i => ?_⟩
        rw [List.mem_cons, h3 i]
        constructor
        · rintro (rfl | ⟨a, b, c⟩)
          · exact ⟨by omega, by omega, by rw [hT]; rfl⟩
          · exact ⟨a, by omega, c⟩
        · rintro ⟨a, b, c⟩
          by_cases e : i = (j : Int)
          · exact .inl e
          · exact .inr ⟨a, by omega, c⟩
  intro j L hL hbd
  obtain ⟨K, h1, h2, h3⟩ := key j
  rw [← h1]
  refine (List.perm_ext_iff_of_nodup h2 hL.nodup |>.2 fun i => ?_).length_eq
  rw [h3 i, hL.mem i]
  constructor
  · exact fun h => h.2.2
  · intro h
    obtain ⟨b, hb⟩ := Option.isSome_iff_exists.1 h
    have := hbd i b hb
    exact ⟨this.1, this.2, h⟩
/-- What a heap lays down is read back. -/
theorem back_res {T : Int → Option (List Int)} {L : List Int} (hL : Ids T L) (hb : ∀ i b, T i = some b → b.length ≤ 65536) (h0 : ∀ i b, T i = some b → 0 ≤ i ∧ i < 4294967295) (hc : L.length ≤ 65536) :
    ∃ la, thRes (plainH T L L.length) = some ⟨T, L.length, la, (plainH T L L.length).length⟩ := by
  have hL0 : ∀ i ∈ L, 0 ≤ i ∧ i < 4294967295 := fun i hi => by obtain ⟨b, hb'⟩ := Option.isSome_iff_exists.1 ((hL.mem i).1 hi); exact h0 i b hb'
  have hnx : 0 ≤ nxt L L.length ∧ nxt L L.length ≤ 4294967295 := by
    cases hn : L.length with
    | zero => exact ⟨Int.le_refl _, by show (0 : Int) ≤ _; omega⟩
    | succ k => have := hL0 _ (getD_mem (show k < L.length by omega)); show 0 ≤ L.getD k 0 + 1 ∧ L.getD k 0 + 1 ≤ _; omega
  obtain ⟨u, hu⟩ := Int.eq_ofNat_of_zero_le hnx.1
  have hbu : ∀ i b, T i = some b → 0 ≤ i ∧ i < u := fun i b hi => by
    refine ⟨(h0 i b hi).1, ?_⟩
    have hm : i ∈ L := (hL.mem i).2 (by rw [hi]; rfl)
    obtain ⟨j, hj, hji⟩ := List.getElem_of_mem hm
    have hjd : L.getD j 0 = i := by rw [List.getD, List.getElem?_eq_getElem hj]; exact hji
    rw [← hu]
    cases hn : L.length with
    | zero => omega
    | succ k =>
      show i < L.getD k 0 + 1
      by_cases e : j = k
      · subst e; omega
      · have := getD_lt hL.rise (show j < k by omega) (by omega); omega
  have hcnt : cntN T u = L.length := cntN_ids u L hL hbu
  have hpl : plainH T L L.length = dig2 true (u : Int) 4 ++ encN T u := by
    rw [plainH, encK_encN hL (fun i hi => (hL0 i hi).1) _ (Nat.le_refl _), hu, Int.toNat_natCast]
  have hA : (dig2 true (u : Int) 4).length = 4 := dig2_length _ _ _
  have hK := thK_enc hA hb (fun i b h => (h0 i b h).1) (by rw [hcnt]; exact hc) u (Nat.le_refl _)
  have hres : resT T u = T := by
    funext i
    unfold resT
    split
    · rfl
    · rename_i h
      cases hT : T i with
      | none => rfl
      | some b => exact absurd (hbu i b hT).2 h
  have hE : getErr (dig2 true (u : Int) 4 ++ encN T u).length 0 4 = 0 := by
    unfold getErr
    rw [if_pos ⟨wOk_true (by omega) (by omega), by simp [pOk]; omega⟩, if_neg]
    rw [List.length_append, hA]; omega
  have hG : getNum (dig2 true (u : Int) 4 ++ encN T u) 0 4 true = (u : Int) := by
    unfold getNum
    rw [if_pos hE]
    have e : ((dig2 true (u : Int) 4 ++ encN T u).drop (0 : Int).toNat).take (4 : Int).toNat = dig2 true (u : Int) 4 := by
      show ((dig2 true (u : Int) 4 ++ encN T u).drop 0).take 4 = _
      rw [List.drop_zero]
      exact List.take_left' hA
    rw [e]
    exact val_back true (by omega) (by have : (256 : Int) ^ 4 = 4294967296 := rfl; omega)
  have hlst : lstN T u = (u : Int) - 1 := by
    cases hn : L.length with
    | zero =>
      rw [hn] at hu
      have : (0 : Int) = u := hu
      obtain rfl : u = 0 := by omega
      rfl
    | succ k =>
      rw [hn] at hu
      have h1 : L.getD k 0 + 1 = (u : Int) := hu
      obtain ⟨j, rfl⟩ : ∃ j, u = j + 1 := ⟨u - 1, by have := (hL0 _ (getD_mem (show k < L.length by omega))).1; omega⟩
      have h2 : (T (j : Int)).isSome = true := by
        rw [show (j : Int) = L.getD k 0 by omega]
        exact (hL.mem _).1 (getD_mem (by omega))
      rw [lstN, if_pos h2]
      omega
  refine ⟨lstN T u, ?_⟩
  rw [hpl]
  unfold thRes
  rw [if_pos hE, hG, Int.toNat_natCast, hK, hres, hcnt]
  simp only [List.length_append, hA, hlst]
  simp
end Go.Proofs.YtpkbdpbggmiolaaDoor
