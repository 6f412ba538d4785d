/-
  The tuples of a selection in order; they lie inside; their places. No conditions.
-/
import Derived.Test.YtnikbcljonbpcaaSTup4
namespace Go.Proofs.Ytnikbcljonbpcaa
open Go.RowKit Go.Shelf
set_option linter.unusedVariables false
set_option maxRecDepth 100000

theorem cnts_cons (a : Ax) (A : List Ax) : prd (cnts (a :: A)) = a.ct * a.bl * prd (cnts A) := by
  rw [show cnts (a :: A) = [a.ct, a.bl] ++ cnts A by simp [cnts], prd_append]
  simp [prd]
theorem prdN_cnts : ∀ {A : List Ax}, (∀ a ∈ A, AxOk a) → ((prdN (A.map lenA) : Nat) : Int) = prd (cnts A)
  | [], _ => rfl
  | a :: A, h => by
    have ha := h a (by simp)
    have ih := prdN_cnts (A := A) (fun b hb => h b (by simp [hb]))
    rw [cnts_cons, ← ih, List.map_cons, prdN, Int.natCast_mul]
    have : ((lenA a : Nat) : Int) = a.ct * a.bl := by
      have := Int.mul_nonneg ha.c0 ha.b0
      unfold lenA
      omega
    rw [this]
theorem cnts_le : ∀ {A : List Ax} {a : Ax}, (∀ a ∈ A, 1 ≤ a.ct ∧ 1 ≤ a.bl) → a ∈ A → a.ct * a.bl ≤ prd (cnts A) ∧ 1 ≤ prd (cnts A)
  | [], a, _, h => by simp at h
  | b :: A, a, h, ha => by
    have hb := h b (by simp)
    have hb1 : 1 * 1 ≤ b.ct * b.bl := Int.mul_le_mul hb.1 hb.2 (by omega) (by omega)
    have hp : 1 ≤ prd (cnts A) := by
      refine prd_pos ?_ ?_
      · intro x hx
        obtain ⟨c, hc, h1⟩ := cnts_mem hx
        have := h c (by simp [hc])
        omega
      · intro hx
        obtain ⟨c, hc, h1⟩ := cnts_mem hx
        have := h c (by simp [hc])
        omega
    rw [cnts_cons]
    have h2 : 1 * 1 ≤ b.ct * b.bl * prd (cnts A) := Int.mul_le_mul (by omega) hp (by omega) (by omega)
    refine ⟨?_, by omega⟩
    rcases List.mem_cons.1 ha with rfl | ha
    · have := Int.mul_le_mul_of_nonneg_left hp (show 0 ≤ a.ct * a.bl by omega)
      omega
    · have ih := (cnts_le (A := A) (fun c hc => h c (by simp [hc])) ha).1
      have := Int.mul_le_mul_of_nonneg_right (show 1 ≤ b.ct * b.bl by omega) (show 0 ≤ prd (cnts A) by omega)
      omega
theorem fit_good {n : Int} {a : Ax} (hok : AxOk a) (hc : 1 ≤ a.ct) (hb : 1 ≤ a.bl) (hn : n ≤ 1048576) (hp : a.ct * a.bl ≤ 4096) (hf : fitB n a = true) : AxG a ∧ ∀ k, k < lenA a → atA a k < n := by
  simp only [fitB, Bool.and_eq_true, Bool.or_eq_true, decide_eq_true_eq] at hf
  obtain ⟨h1, h2⟩ := hf
  have hs := hok.s0
  have hd := hok.d0
  have hsp : (a.ct - 1) * a.sd ≤ n - 1 - a.st - (a.bl - 1) := by
    rcases h2 with h2 | h2
    · rw [h2]; omega
    · by_cases h0 : a.sd = 0
      · rw [h0]; omega
      · have h3 := Int.mul_le_mul_of_nonneg_right h2 hd
        have h4 := Int.ediv_mul_le (n - 1 - a.st - (a.bl - 1)) h0
        omega
  have hg : AxG a := ⟨hok, hc, hb, by omega, by omega, by omega, hp⟩
  refine ⟨hg, fun k hk => ?_⟩
  have hl := hg.len.1
  have hq1 : (k : Int) / a.bl < a.ct := by rw [Int.ediv_lt_iff_lt_mul (by omega)]; omega
  have h5 : (k : Int) / a.bl * a.sd ≤ (a.ct - 1) * a.sd := Int.mul_le_mul_of_nonneg_right (by omega) hd
  have h6 := Int.emod_lt_of_pos (k : Int) (show 0 < a.bl by omega)
  unfold atA
  omega
/-- A tuple that lies inside. -/
def Ins2 (D t : List Int) : Prop := t.length = D.length ∧ ∀ (i : Nat) (x n : Int), t[i]? = some x → D[i]? = some n → 0 ≤ x ∧ x < n
theorem ins_zip : ∀ {D : List Int} {A : List Ax} {T : List Nat}, A.length = D.length → T.length = A.length → (∀ (i : Nat) (a : Ax) (n : Int) (k : Nat), A[i]? = some a → D[i]? = some n → T[i]? = some k → 0 ≤ atA a k ∧ atA a k < n) → Ins2 D (zipAt A T) := by
  intro D A T h1 h2 h3
  refine ⟨by rw [zipAt_length h2, h1], fun i x n hx hn => ?_⟩
  rw [zipAt, List.getElem?_map, Option.map_eq_some_iff] at hx
  obtain ⟨z, hz, rfl⟩ := hx
  rw [List.getElem?_zip_eq_some] at hz
  exact h3 i z.1 n z.2 hz.1 hn hz.2
/-- The tuples of a selection, in order. -/
def tups (D : List Int) (s : Sel) : List (List Int) := if s.kind = 2 then s.pts else (List.range (prdN ((axA D s).map lenA))).map (tupA (axA D s))
def placeZ : List Int → List Int → Int → Int
  | n :: D, x :: t, p => placeZ D t (p * n + x)
  | _, _, p => p
def plc (D t : List Int) : Int := placeZ D t 0
theorem dims_of {D : List Int} (h : dimsB D = true) : D.length ≤ 4 ∧ ∀ x ∈ D, 0 ≤ x ∧ x ≤ 1048576 := by
  rw [dimsB, Bool.and_eq_true, List.all_eq_true] at h
  exact ⟨of_decide_eq_true h.1, fun x hx => by simpa using h.2 x hx⟩
/-- Axes that select something that fits. -/
theorem ax_good {D : List Int} {A : List Ax} (hd : dimsB D = true) (hl : A.length = D.length) (hok : ∀ a ∈ A, AxOk a) (hE : axE D A = 0) (hz : prd (cnts A) ≠ 0) : (∀ a ∈ A, AxG a) ∧ ∀ k, k < prdN (A.map lenA) → Ins2 D (tupA A k) := by
  have hp : ∀ a ∈ A, 1 ≤ a.ct ∧ 1 ≤ a.bl := fun a ha => by
    obtain ⟨h1, h2⟩ := cnts_has ha
    have h0 : (0 : Int) ∉ cnts A := fun e => hz (prd_zero e)
    have h5 : a.ct ≠ 0 := fun e => h0 (e ▸ h1)
    have h6 : a.bl ≠ 0 := fun e => h0 (e ▸ h2)
    have h7 := (hok a ha).c0
    have h8 := (hok a ha).b0
    omega
  have hE2 : fitsB D A = true ∧ prd (cnts A) ≤ 4096 := by
    unfold axE at hE
    by_cases h1 : prd (cnts A) ≠ 0 ∧ fitsB D A = false
    · rw [if_pos h1] at hE; omega
    · rw [if_neg h1] at hE
      by_cases h2 : prd (cnts A) ≤ 4096
      · refine ⟨?_, h2⟩
        cases hf : fitsB D A with
        | true => rfl
        | false => exact absurd ⟨hz, hf⟩ h1
      · rw [if_neg h2] at hE; omega
  have hfit : ∀ (i : Nat) (a : Ax) (n : Int), A[i]? = some a → D[i]? = some n → AxG a ∧ ∀ k, k < lenA a → atA a k < n := fun i a n ha hn => by
    have hm : (n, a) ∈ D.zip A := List.mem_of_getElem? (i := i) (by rw [List.getElem?_zip_eq_some]; exact ⟨hn, ha⟩)
    have hf := List.all_eq_true.1 hE2.1 _ hm
    have haA := List.mem_of_getElem? ha
    have h9 := (dims_of hd).2 n (List.mem_of_getElem? hn)
    exact fit_good (hok a haA) (hp a haA).1 (hp a haA).2 h9.2 (by have := (cnts_le hp haA).1; omega) hf
  have hg : ∀ a ∈ A, AxG a := fun a ha => by
    obtain ⟨i, hi⟩ := List.mem_iff_getElem?.1 ha
    have hil := (List.getElem?_eq_some_iff.1 hi).1
    exact (hfit i a _ hi (List.getElem?_eq_getElem (by omega))).1
  refine ⟨hg, fun k hk => ?_⟩
  have hLP : ∀ y ∈ A.map lenA, 0 < y := fun y hy => by
    obtain ⟨a, ha, rfl⟩ := List.mem_map.1 hy
    exact (hg a ha).len.2.1
  rw [tupA_eq]
  refine ins_zip hl (by rw [dig_length, List.length_map]) (fun i a n t ha hn ht => ?_)
  have htl := dig_lt _ _ hLP hk i t (lenA a) ht (by rw [List.getElem?_map, ha]; rfl)
  exact ⟨(atA_i64 (hg a (List.mem_of_getElem? ha)) htl).1, (hfit i a n ha hn).2 t htl⟩
theorem wholeA_ok {D : List Int} (hd : dimsB D = true) : ∀ a ∈ wholeA D, AxOk a := by
  intro a ha
  simp only [wholeA, List.mem_map] at ha
  obtain ⟨x, hx, rfl⟩ := ha
  have h9 := (dims_of hd).2 x hx
  constructor <;> simp only [] <;> omega
/-- What a selection that may be comes to. -/
theorem sel_ok {w : World} {V : SV} {D : List Int} {s : Sel} (hS : Ss w V s) (hE : slE D s = 0) : dimsB D = true ∧ prd D ≤ 1048576 ∧ (s.kind = 2 → ptE D s.pts = 0) ∧ (s.kind ≠ 2 → (axA D s).length = D.length ∧ (∀ a ∈ axA D s, AxOk a) ∧ axE D (axA D s) = 0) := by
  unfold slE at hE
  by_cases he : elE D = 0
  · rw [if_neg (by rw [he]; simp)] at hE
    obtain ⟨h1, h2⟩ := elE_ok he
    refine ⟨h1, h2, fun hk => ?_, fun hk => ?_⟩
    · rw [if_neg (by omega), if_pos hk] at hE; exact hE
    · by_cases k1 : s.kind = 1
      · rw [if_pos k1] at hE
        rw [axA, if_pos k1]
        exact ⟨by rw [wholeA, List.length_map], wholeA_ok h1, hE⟩
      · rw [if_neg k1, if_neg hk] at hE
        by_cases k3 : s.kind = 3
        · rw [if_pos k3] at hE
          by_cases ho : (okB D.length s.st && okB D.length s.sd && okB D.length s.ct && okB D.length s.bl) = true
          · rw [if_pos ho] at hE
            rw [axA, if_neg k1]
            simp only [Bool.and_eq_true] at ho
            obtain ⟨⟨⟨o1, o2⟩, o3⟩, o4⟩ := ho
            refine ⟨slabA_length _ _ _ _ _ (okB_iff.1 o1).1 (okB_iff.1 o2).1 (okB_iff.1 o3).1 (okB_iff.1 o4).1, ?_, hE⟩
            refine slabA_ok _ _ _ _ D.length (okB_iff.1 o1).1 (okB_iff.1 o2).1 (okB_iff.1 o3).1 (okB_iff.1 o4).1 ?_
            rintro x (hx | hx | hx | hx)
            · exact ⟨(okB_iff.1 o1).2 x hx, (hS.a.rng x hx).2⟩
            · exact ⟨(okB_iff.1 o2).2 x hx, (hS.b.rng x hx).2⟩
            · exact ⟨(okB_iff.1 o3).2 x hx, (hS.c.rng x hx).2⟩
            · exact ⟨(okB_iff.1 o4).2 x hx, (hS.d.rng x hx).2⟩
          · rw [if_neg ho] at hE; omega
        · rw [if_neg k3] at hE; omega
  · rw [if_pos he] at hE; exact absurd hE he
theorem pt_in {D : List Int} {P : List (List Int)} (h : ptE D P = 0) : P.length ≤ 4096 ∧ ∀ t ∈ P, Ins2 D t := by
  unfold ptE at h
  by_cases h1 : P.all (okB D.length) = false
  · rw [if_pos h1] at h; omega
  · rw [if_neg h1] at h
    by_cases h2 : P.any (outB D) = true
    · rw [if_pos h2] at h; omega
    · rw [if_neg h2] at h
      by_cases h3 : P.length ≤ 4096
      · refine ⟨h3, fun t ht => ?_⟩
        have o1 := okB_iff.1 (List.all_eq_true.1 (by simpa using h1) t ht)
        refine ⟨o1.1, fun i x n hx hn => ⟨o1.2 x (List.mem_of_getElem? hx), ?_⟩⟩
        have o2 : outB D t = false := by
          cases hb : outB D t with
          | false => rfl
          | true => exact absurd (List.any_eq_true.2 ⟨t, ht, hb⟩) h2
        rw [outB, List.any_eq_false] at o2
        have := o2 (n, x) (List.mem_of_getElem? (i := i) (by rw [List.getElem?_zip_eq_some]; exact ⟨hn, hx⟩))
        simp at this
        try omega
      · rw [if_neg h3] at h; omega
/-- The number and the tuples go together, and all lie inside. -/
theorem tups_ok {w : World} {V : SV} {D : List Int} {s : Sel} (hS : Ss w V s) (hE : slE D s = 0) : ((tups D s).length : Int) = slN D s ∧ (tups D s).length ≤ 4096 ∧ ∀ t ∈ tups D s, Ins2 D t := by
  obtain ⟨h1, h2, h3, h4⟩ := sel_ok hS hE
  by_cases k2 : s.kind = 2
  · have := pt_in (h3 k2)
    rw [tups, if_pos k2, slN, if_pos k2]
    exact ⟨rfl, this⟩
  · obtain ⟨a1, a2, a3⟩ := h4 k2
    have hN := prdN_cnts a2
    rw [tups, if_neg k2, slN, if_neg k2, List.length_map, List.length_range]
    have hle : prd (cnts (axA D s)) ≤ 4096 := by
      unfold axE at a3
      split at a3
      · omega
      · split at a3
        · assumption
        · omega
    refine ⟨hN, by omega, fun t ht => ?_⟩
    obtain ⟨k, hk, rfl⟩ := List.mem_map.1 ht
    have hk' := List.mem_range.1 hk
    have hz : prd (cnts (axA D s)) ≠ 0 := by omega
    exact (ax_good h1 a1 a2 a3 hz).2 k hk'
/-- The iterator of a selection tells its tuples. -/
theorem its_gives {w : World} {V : SV} {D : List Int} {s : Sel} {it : Value} (hS : Ss w V s) (hE : slE D s = 0) (hit : ItS w it D s) : ∃ f caps, it = .func (.func f) #[] caps ∧ (∀ args w, (callFunc f args).run Try.prog w = .ok (.enter f args) w) ∧ Gives f caps (tups D s).length (fun k W as' => ∃ v, as' = #[v] ∧ ∃ t, (tups D s)[k]? = some t ∧ Is W v t) w := by
  obtain ⟨h1, h2, h3, h4⟩ := sel_ok hS hE
  by_cases k2 : s.kind = 2
  · rw [ItS, if_pos k2] at hit
    obtain ⟨gb, ao, m, cap, rfl, hc, hP⟩ := hit
    refine ⟨_, _, rfl, enters_of Try.func53 (by kernel_rfl) rfl, ?_⟩
    rw [tups, if_pos k2]
    exact values_gives gb ao m cap s.pts w hc hP
  · rw [ItS, if_neg k2] at hit
    obtain ⟨gb, ao, m, cap, rfl, hc, hA⟩ := hit
    obtain ⟨a1, a2, a3⟩ := h4 k2
    refine ⟨_, _, rfl, enters_of Try.func45 (by kernel_rfl) rfl, ?_⟩
    rw [tups, if_neg k2, List.length_map, List.length_range]
    by_cases hz : prd (cnts (axA D s)) = 0
    · have hN := prdN_cnts a2
      have h0 : prdN ((axA D s).map lenA) = 0 := by omega
      rw [h0]
      refine tuples_none gb ao m cap _ w hc hA ?_ _
      have hm := (prd_eq_zero (fun x hx => by obtain ⟨a, ha, e | e⟩ := cnts_mem hx; rw [e]; exact (a2 a ha).c0; rw [e]; exact (a2 a ha).b0)).1 hz
      obtain ⟨a, ha, e⟩ := cnts_mem hm
      rw [List.any_eq_true]
      exact ⟨a, ha, by rcases e with e | e <;> simp [emptyB, ← e]⟩
    · have hg := (ax_good h1 a1 a2 a3 hz).1
      have := tuples_gives gb ao m cap _ w hc hA hg
      intro n l J W hb0 hst hmv hbw hY
      refine this n l J W hb0 hst hmv hbw ?_
      rintro B1 k W1 as' hk hj hB hB1 ⟨v, rfl, hi⟩
      exact hY B1 k W1 _ hk hj hB hB1 ⟨v, rfl, tupA (axA D s) k, by rw [List.getElem?_map, List.getElem?_range hk]; rfl, hi⟩
end Go.Proofs.Ytnikbcljonbpcaa
