/-
  All elements: as a whole, by steps of one, and as one block: the same places, from 0 on. No conditions.
-/
import Derived.Test.YtnikbcljonbpcaaSLaw
namespace Go.Proofs.Ytnikbcljonbpcaa
open Go.RowKit Go.Shelf
set_option linter.unusedVariables false
set_option maxRecDepth 100000

def GoodA (D : List Int) (A : List Ax) : Prop := A.length = D.length ∧ ∀ (i : Nat) (a : Ax) (n : Int), A[i]? = some a → D[i]? = some n → ((lenA a : Nat) : Int) = n ∧ ∀ k, k < lenA a → atA a k = (k : Int)
theorem GoodA.tail {n : Int} {D : List Int} {a : Ax} {A : List Ax} (h : GoodA (n :: D) (a :: A)) : (((lenA a : Nat) : Int) = n ∧ ∀ k, k < lenA a → atA a k = (k : Int)) ∧ GoodA D A :=
  ⟨h.2 0 a n rfl rfl, by have := h.1; simpa using this, fun i b m hb hm => h.2 (i + 1) b m (by simpa using hb) (by simpa using hm)⟩
theorem good_prd : ∀ {D : List Int} {A : List Ax}, GoodA D A → ((prdN (A.map lenA) : Nat) : Int) = prd D
  | [], [], _ => rfl
  | [], _ :: _, h => by have := h.1; simp at this
  | _ :: _, [], h => by have := h.1; simp at this
  | n :: D, a :: A, h => by
    obtain ⟨h1, h2⟩ := h.tail
    rw [List.map_cons, prdN, prd, Int.natCast_mul, good_prd h2, h1.1]
theorem plc_good : ∀ {D : List Int} {A : List Ax} (k : Nat) (p : Int), GoodA D A → k < prdN (A.map lenA) → placeZ D (tupA A k) p = p * prd D + (k : Int)
  | [], [], k, p, _, hk => by
    have : k = 0 := by simpa [prdN] using hk
    subst this
    simp [placeZ, prd]
  | [], _ :: _, _, _, h, _ => by have := h.1; simp at this
  | _ :: _, [], _, _, h, _ => by have := h.1; simp at this
  | n :: D, a :: A, k, p, h, hk => by
    obtain ⟨h1, h2⟩ := h.tail
    have hP := good_prd h2
    obtain ⟨m, hm⟩ : ∃ m, prdN (A.map lenA) = m := ⟨_, rfl⟩
    rw [List.map_cons, prdN, hm] at hk
    have hm0 : 0 < m := by
      rcases Nat.eq_zero_or_pos m with h0 | h0
      · rw [h0] at hk; omega
      · exact h0
    have e : tupA (a :: A) k = atA a (k / m) :: tupA A (k % m) := by
      simp only [tupA, List.map_cons, dig, hm, List.zip_cons_cons]
    have hq : k / m < lenA a := (Nat.div_lt_iff_lt_mul hm0).2 hk
    rw [e, placeZ, plc_good (k % m) _ h2 (by rw [hm]; exact Nat.mod_lt _ hm0), h1.2 _ hq, prd, ← hP, hm]
    have hk' : ((k / m : Nat) : Int) * (m : Int) + ((k % m : Nat) : Int) = (k : Int) := by
      have := Nat.div_add_mod k m
      rw [Nat.mul_comm] at this
      omega
    rw [Int.add_mul, Int.mul_assoc, Int.add_assoc, hk']
def upto (n : Nat) : List Int := (List.range n).map fun k : Nat => (k : Int)
theorem places_good {D : List Int} {A : List Ax} (h : GoodA D A) : ((List.range (prdN (A.map lenA))).map (tupA A)).map (plc D) = upto (prd D).toNat := by
  rw [List.map_map, upto, ← good_prd h, Int.toNat_natCast]
  refine List.map_congr_left fun k hk => ?_
  have := plc_good k 0 h (List.mem_range.1 hk)
  simp only [Function.comp, plc]
  rw [this]
  omega
theorem whole_good {D : List Int} (h : ∀ x ∈ D, 0 ≤ x) : GoodA D (wholeA D) := by
  refine ⟨by rw [wholeA, List.length_map], fun i a n ha hn => ?_⟩
  rw [wholeA, List.getElem?_map, hn] at ha
  obtain rfl := Option.some.inj ha
  have h0 := h n (List.mem_of_getElem? hn)
  refine ⟨by simp only [lenA]; omega, fun k _ => by simp only [atA]; omega⟩
def blockA (D : List Int) : List Ax := D.map fun n => ⟨0, 0, 1, n⟩
theorem block_good {D : List Int} (h : ∀ x ∈ D, 0 ≤ x) : GoodA D (blockA D) := by
  refine ⟨by rw [blockA, List.length_map], fun i a n ha hn => ?_⟩
  rw [blockA, List.getElem?_map, hn] at ha
  obtain rfl := Option.some.inj ha
  have h0 := h n (List.mem_of_getElem? hn)
  refine ⟨by simp only [lenA]; omega, fun k hk => ?_⟩
  simp only [lenA] at hk
  simp only [atA]
  rw [Int.emod_eq_of_lt (by omega) (by omega)]
  omega
theorem slab_whole : ∀ D : List Int, slabA (List.replicate D.length 0) (List.replicate D.length 1) D (List.replicate D.length 1) = wholeA D
  | [] => rfl
  | n :: D => by
    have ih := slab_whole D
    simp only [List.length_cons, List.replicate_succ, slabA, wholeA, List.map_cons] at ih ⊢
    rw [ih]
theorem slab_block : ∀ D : List Int, slabA (List.replicate D.length 0) (List.replicate D.length 0) (List.replicate D.length 1) D = blockA D
  | [] => rfl
  | n :: D => by
    have ih := slab_block D
    simp only [List.length_cons, List.replicate_succ, slabA, blockA, List.map_cons] at ih ⊢
    rw [ih]
theorem whole_prd : ∀ D : List Int, prd (cnts (wholeA D)) = prd D
  | [] => rfl
  | n :: D => by rw [show wholeA (n :: D) = ⟨0, 1, n, 1⟩ :: wholeA D from rfl, cnts_cons, whole_prd D, prd]; simp
theorem block_prd : ∀ D : List Int, prd (cnts (blockA D)) = prd D
  | [] => rfl
  | n :: D => by rw [show blockA (n :: D) = ⟨0, 0, 1, n⟩ :: blockA D from rfl, cnts_cons, block_prd D, prd]; simp
theorem ax_err {D : List Int} {A : List Ax} (h1 : prd (cnts A) = prd D) (h2 : prd D ≠ 0 → fitsB D A = true) : axE D A = if prd D ≤ 4096 then 0 else 18 := by
  rw [axE, h1, if_neg]
  rintro ⟨h3, h4⟩
  rw [h2 h3] at h4
  cases h4
theorem fits_map {D : List Int} (f : Int → Ax) (h : ∀ n ∈ D, fitB n (f n) = true) : fitsB D (D.map f) = true := by
  rw [fitsB, List.all_eq_true]
  rintro ⟨n, a⟩ hx
  obtain ⟨i, hi⟩ := List.mem_iff_getElem?.1 hx
  rw [List.getElem?_zip_eq_some] at hi
  obtain ⟨h1, h2⟩ := hi
  simp only [] at h1 h2
  rw [List.getElem?_map, h1] at h2
  have h3 : f n = a := Option.some.inj h2
  rw [← h3]
  exact h n (List.mem_of_getElem? h1)
theorem dim_pos {D : List Int} (h : ∀ x ∈ D, 0 ≤ x) (hz : prd D ≠ 0) : ∀ n ∈ D, 1 ≤ n := fun n hn => by
  have := h n hn
  have : n ≠ 0 := fun e => hz (prd_zero (e ▸ hn))
  omega
theorem whole_err {D : List Int} (h : ∀ x ∈ D, 0 ≤ x) : axE D (wholeA D) = if prd D ≤ 4096 then 0 else 18 := by
  refine ax_err (whole_prd D) (fun hz => fits_map _ (fun n hn => ?_))
  have := dim_pos h hz n hn
  simp [fitB]
  omega
theorem block_err {D : List Int} (h : ∀ x ∈ D, 0 ≤ x) : axE D (blockA D) = if prd D ≤ 4096 then 0 else 18 := by
  refine ax_err (block_prd D) (fun hz => fits_map _ (fun n hn => ?_))
  simp [fitB]
def allS : Sel := ⟨1, [], [], [], [], []⟩
def stepS (D : List Int) : Sel := ⟨3, [], List.replicate D.length 0, List.replicate D.length 1, D, List.replicate D.length 1⟩
def blockS (D : List Int) : Sel := ⟨3, [], List.replicate D.length 0, List.replicate D.length 0, List.replicate D.length 1, D⟩
theorem okB_rep (n : Nat) (x : Int) (hx : 0 ≤ x) : okB n (List.replicate n x) = true := by
  rw [okB_iff]
  exact ⟨by simp, fun y hy => by rw [List.eq_of_mem_replicate hy]; exact hx⟩
theorem all_sel {D : List Int} (he : elE D = 0) : elN D = prd D ∧ slE D allS = (if prd D ≤ 4096 then 0 else 18) ∧ (tups D allS).map (plc D) = upto (prd D).toNat ∧
    slE D (stepS D) = (if prd D ≤ 4096 then 0 else 18) ∧ (tups D (stepS D)).map (plc D) = upto (prd D).toNat ∧ slE D (blockS D) = (if prd D ≤ 4096 then 0 else 18) ∧ (tups D (blockS D)).map (plc D) = upto (prd D).toNat ∧ 0 ≤ prd D := by
  obtain ⟨h1, h2⟩ := elE_ok he
  have hd : ∀ x ∈ D, 0 ≤ x := fun x hx => ((dims_of h1).2 x hx).1
  have hoD : okB D.length D = true := okB_iff.2 ⟨rfl, hd⟩
  have z0 := okB_rep D.length 0 (by omega)
  have z1 := okB_rep D.length 1 (by omega)
  refine ⟨by rw [elN, if_pos ⟨h1, h2⟩], ?_, ?_, ?_, ?_, ?_, ?_, prd_nonneg hd⟩
  · rw [slE, if_neg (by rw [he]; simp), if_pos (by first | simp [allS] | simp [stepS] | simp [blockS]), whole_err hd]
  · rw [tups, if_neg (by simp [allS]), axA, if_pos (by first | simp [allS] | simp [stepS] | simp [blockS])]; exact places_good (whole_good hd)
  · rw [slE, if_neg (by rw [he]; simp), if_neg (by simp [stepS]), if_neg (by simp [stepS]), if_pos (by first | simp [allS] | simp [stepS] | simp [blockS]), if_pos (by simp only [stepS]; rw [z0, z1, hoD]; rfl)]
    simp only [stepS]
    rw [slab_whole, whole_err hd]
  · rw [tups, if_neg (by simp [stepS]), axA, if_neg (by simp [stepS])]
    simp only [stepS]
    rw [slab_whole]; exact places_good (whole_good hd)
  · rw [slE, if_neg (by rw [he]; simp), if_neg (by simp [blockS]), if_neg (by simp [blockS]), if_pos (by first | simp [allS] | simp [stepS] | simp [blockS]), if_pos (by simp only [blockS]; rw [z0, z1, hoD]; rfl)]
    simp only [blockS]
    rw [slab_block, block_err hd]
  · rw [tups, if_neg (by simp [blockS]), axA, if_neg (by simp [blockS])]
    simp only [blockS]
    rw [slab_block]; exact places_good (block_good hd)
end Go.Proofs.Ytnikbcljonbpcaa
