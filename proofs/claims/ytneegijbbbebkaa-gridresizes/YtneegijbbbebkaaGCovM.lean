/-
  The clips of all chunks make the extent, in plain words. No conditions.
-/
import Derived.Test.YtneegijbbbebkaaGRefO
namespace Go.Proofs.Ytneegijbbbebkaa
open Go.RowKit
set_option linter.unusedVariables false
set_option maxRecDepth 100000

theorem dig_lt : ∀ (L : List Nat) (k : Nat), (∀ x ∈ L, 0 < x) → k < prdN L → ∀ (j t n : Nat), (dig L k)[j]? = some t → L[j]? = some n → t < n
  | [], _, _, _, j, t, n, h, _ => by simp [dig] at h
  | a :: L, k, hp, hk, 0, t, n, h1, h2 => by
    simp only [dig, List.getElem?_cons_zero, Option.some.injEq] at h1 h2
    subst h1 h2
    have hm := prdN_pos (L := L) (fun y hy => hp y (by simp [hy]))
    exact (Nat.div_lt_iff_lt_mul hm).2 hk
  | a :: L, k, hp, hk, j + 1, t, n, h1, h2 => by
    have hm := prdN_pos (L := L) (fun y hy => hp y (by simp [hy]))
    exact dig_lt L (k % prdN L) (fun y hy => hp y (by simp [hy])) (Nat.mod_lt _ hm) j t n (by simpa [dig] using h1) (by simpa using h2)
/-- Numbers of either kind. -/
def toI (l : List Nat) : List Int := l.map Int.ofNat
theorem toI_at {l : List Nat} {i x : Nat} (h : l[i]? = some x) : (toI l)[i]? = some (x : Int) := by rw [toI, List.getElem?_map, h]; rfl
theorem toI_length (l : List Nat) : (toI l).length = l.length := by rw [toI, List.length_map]
theorem toI_set (l : List Nat) (i x : Nat) : (toI l).set i (x : Int) = toI (l.set i x) := by rw [toI, toI, List.map_set]; rfl
/-- The number of chunks along a dimension, and what of one lies within. -/
def cnt1 (n s : Int) : Nat := ((n + s - 1) / s).toNat
def cntN (D S : List Int) : List Nat := List.zipWith cnt1 D S
def box1 (n s : Int) (c : Nat) : Int := min s (n - (if (c : Int) ≤ n / s then (c : Int) * s else n))
def sum1 (n s : Int) : Nat → Int
  | 0 => 0
  | c + 1 => sum1 n s c + box1 n s c
theorem cnt1_eq {n s : Int} (hn : 1 ≤ n) (hs : 1 ≤ s) : (cnt1 n s : Int) = (n - 1) / s + 1 := by
  have h0 := Int.ediv_nonneg (show 0 ≤ n - 1 by omega) (show 0 ≤ s by omega)
  rw [cnt1, cnt_one hs]; omega
theorem cnt1_pos {n s : Int} (hn : 1 ≤ n) (hs : 1 ≤ s) : 0 < cnt1 n s := by
  have h0 := Int.ediv_nonneg (show 0 ≤ n - 1 by omega) (show 0 ≤ s by omega)
  have := cnt1_eq hn hs; omega
theorem start1 {n s : Int} {c : Nat} (hn : 1 ≤ n) (hs : 1 ≤ s) (hc : c < cnt1 n s) : (c : Int) * s ≤ n - 1 ∧ (if (c : Int) ≤ n / s then (c : Int) * s else n) = (c : Int) * s := by
  have h1 : (c : Int) ≤ (n - 1) / s := by have := cnt1_eq hn hs; omega
  have h2 := Int.mul_le_mul_of_nonneg_right h1 (show 0 ≤ s by omega)
  have h3 := Int.ediv_mul_le (n - 1) (show s ≠ 0 by omega)
  have h4 : (c : Int) ≤ n / s := (Int.le_ediv_iff_mul_le (by omega)).2 (by omega)
  exact ⟨by omega, if_pos h4⟩
theorem box1_eq {n s : Int} {c : Nat} (hn : 1 ≤ n) (hs : 1 ≤ s) (hc : c < cnt1 n s) : box1 n s c = min s (n - (c : Int) * s) ∧ 1 ≤ box1 n s c := by
  obtain ⟨h1, h2⟩ := start1 hn hs hc
  rw [box1, h2]
  exact ⟨rfl, by omega⟩
theorem sum1_eq {n s : Int} (hn : 1 ≤ n) (hs : 1 ≤ s) : ∀ c, c ≤ cnt1 n s → sum1 n s c = min ((c : Int) * s) n
  | 0, _ => by rw [sum1]; simp; omega
  | c + 1, h => by
    obtain ⟨h1, h2⟩ := box1_eq hn hs (show c < cnt1 n s by omega)
    obtain ⟨h3, _⟩ := start1 hn hs (show c < cnt1 n s by omega)
    rw [sum1, sum1_eq hn hs c (by omega), h1]
    have h4 : ((c + 1 : Nat) : Int) * s = (c : Int) * s + s := by rw [Int.natCast_add, Int.add_mul]; simp
    rw [h4]
    omega
theorem sum1_all {n s : Int} (hn : 1 ≤ n) (hs : 1 ≤ s) : sum1 n s (cnt1 n s) = n := by
  rw [sum1_eq hn hs _ (Nat.le_refl _), cnt1_eq hn hs]
  have h1 := Int.lt_ediv_add_one_mul_self (n - 1) (show 0 < s by omega)
  omega
/-- The coordinates of the k-th chunk, and what the chunks before it have together. -/
def cdig (D S : List Int) (k : Nat) : List Int := toI (dig (cntN D S) k)
def covT (D S : List Int) : Nat → Int
  | 0 => 0
  | k + 1 => covT D S k + prd (clB D S (cdig D S k))
theorem cntN_pos : ∀ {D S : List Int}, (∀ x ∈ D, 1 ≤ x) → (∀ x ∈ S, 1 ≤ x) → ∀ x ∈ cntN D S, 0 < x := by
  intro D S hd hs x hx
  obtain ⟨i, hi⟩ := List.getElem?_of_mem hx
  rw [cntN, List.getElem?_zipWith] at hi
  cases h1 : D[i]? with
  | none => rw [h1] at hi; simp at hi
  | some a =>
    cases h2 : S[i]? with
    | none => rw [h1, h2] at hi; simp at hi
    | some s =>
      rw [h1, h2] at hi
      simp only [Option.some.injEq] at hi
      rw [← hi]
      exact cnt1_pos (hd a (List.mem_of_getElem? h1)) (hs s (List.mem_of_getElem? h2))
theorem cov_row {n s : Int} {D S : List Int} {m : Nat} (hm : prdN (cntN D S) = m) (h0 : 0 < m) (hall : covT D S m = prd D) : ∀ q, covT (n :: D) (s :: S) (q * m) = sum1 n s q * prd D
  | 0 => by rw [Nat.zero_mul, covT, sum1, Int.zero_mul]
  | q + 1 => by
    have hr : ∀ r, r ≤ m → covT (n :: D) (s :: S) (q * m + r) = sum1 n s q * prd D + box1 n s q * covT D S r := fun r => by
      induction r with
      | zero => intro _; rw [Nat.add_zero, cov_row hm h0 hall q, covT, Int.mul_zero, Int.add_zero]
      | succ r ih =>
        intro hr
        have e1 : (q * m + r) / m = q := by rw [Nat.mul_comm, Nat.mul_add_div h0, Nat.div_eq_of_lt (by omega), Nat.add_zero]
        have e2 : (q * m + r) % m = r := by rw [Nat.mul_comm, Nat.mul_add_mod, Nat.mod_eq_of_lt (by omega)]
        have e3 : cdig (n :: D) (s :: S) (q * m + r) = (q : Int) :: cdig D S r := by
          rw [cdig, show cntN (n :: D) (s :: S) = cnt1 n s :: cntN D S from rfl, dig, hm, e1, e2]; rfl
        rw [← Nat.add_assoc, covT, ih (by omega), e3, clB, prd, covT, ← box1, Int.mul_add, Int.add_assoc]
    rw [Nat.add_mul, Nat.one_mul, hr m (Nat.le_refl _), hall, sum1, Int.add_mul]
theorem cov_all : ∀ {D S : List Int}, S.length = D.length → (∀ x ∈ D, 1 ≤ x) → (∀ x ∈ S, 1 ≤ x) → covT D S (prdN (cntN D S)) = prd D
  | [], [], _, _, _ => by simp [cntN, prdN, covT, clB, prd]
  | n :: D, s :: S, hl, hd, hs => by
    have ih := cov_all (D := D) (S := S) (by simpa using hl) (fun x hx => hd x (by simp [hx])) (fun x hx => hs x (by simp [hx]))
    have hp := prdN_pos (cntN_pos (D := D) (S := S) (fun x hx => hd x (by simp [hx])) (fun x hx => hs x (by simp [hx])))
    rw [show cntN (n :: D) (s :: S) = cnt1 n s :: cntN D S from rfl, prdN, cov_row rfl hp ih, sum1_all (hd n (by simp)) (hs s (by simp)), prd]
  | [], _ :: _, h, _, _ => by simp at h
  | _ :: _, [], h, _, _ => by simp at h
theorem cnt_toI : ∀ {D S : List Int}, (∀ x ∈ D, 1 ≤ x) → (∀ x ∈ S, 1 ≤ x) → cntL D S = toI (cntN D S)
  | [], _, _, _ => rfl
  | _ :: _, [], _, _ => rfl
  | n :: D, s :: S, hd, hs => by
    have h1 : (n + s - 1) / s = (cnt1 n s : Int) := by rw [cnt1_eq (hd n (by simp)) (hs s (by simp)), cnt_one (hs s (by simp))]
    rw [show cntL (n :: D) (s :: S) = (n + s - 1) / s :: cntL D S from rfl, cnt_toI (fun x hx => hd x (by simp [hx])) (fun x hx => hs x (by simp [hx])), h1]
    rfl
theorem prd_toI : ∀ l : List Nat, prd (toI l) = (prdN l : Int)
  | [] => rfl
  | x :: l => by rw [show toI (x :: l) = (x : Int) :: toI l from rfl, prd, prd_toI l, prdN, Int.natCast_mul]
/-- What Clip tells of the k-th chunk. -/
theorem cov_at {D S : List Int} (hl : S.length = D.length) (hd : ∀ x ∈ D, 1 ≤ x) (hs : ∀ x ∈ S, 1 ≤ x) {k : Nat} (hk : k < prdN (cntN D S)) {i : Nat} {n s : Int} (hn : D[i]? = some n) (hs1 : S[i]? = some s) :
    ∃ c : Int, (cdig D S k)[i]? = some c ∧ 0 ≤ c ∧ c * s ≤ n - 1 ∧ (clS D S (cdig D S k))[i]? = some (c * s) ∧ ∃ b, (clB D S (cdig D S k))[i]? = some b ∧ 1 ≤ b ∧ c * s + b ≤ n := by
  have hN : (cntN D S)[i]? = some (cnt1 n s) := by rw [cntN, List.getElem?_zipWith, hn, hs1]
  have hlen : i < (dig (cntN D S) k).length := by rw [dig_length]; exact (List.getElem?_eq_some_iff.1 hN).1
  have hc := List.getElem?_eq_getElem hlen
  have hlt := dig_lt _ k (cntN_pos hd hs) hk i _ _ hc hN
  have q1 := hd n (List.mem_of_getElem? hn)
  have q2 := hs s (List.mem_of_getElem? hs1)
  obtain ⟨h1, h2⟩ := start1 q1 q2 hlt
  obtain ⟨h3, h4⟩ := box1_eq q1 q2 hlt
  have hC : (cdig D S k)[i]? = _ := toI_at hc
  refine ⟨_, hC, by omega, h1, ?_, box1 n s _, ?_, h4, by omega⟩
  · rw [clS_at D S _ i n s _ hn hs1 hC, h2]
  · rw [clB_at D S _ i n s _ hn hs1 hC]; rfl
theorem cdig_length {D S : List Int} (hl : S.length = D.length) (k : Nat) : (cdig D S k).length = D.length := by
  rw [cdig, toI_length, dig_length, cntN, List.length_zipWith]; omega
theorem cdig_nn {D S : List Int} (k : Nat) : ∀ x ∈ cdig D S k, 0 ≤ x := fun x hx => by
  rw [cdig, toI, List.mem_map] at hx
  obtain ⟨y, _, rfl⟩ := hx
  exact Int.natCast_nonneg y
/-- Prefixes of a clip's box, and the sum, stay small. -/
theorem clB_take {D S : List Int} (hl : S.length = D.length) (hd : ∀ x ∈ D, 1 ≤ x) (hs : ∀ x ∈ S, 1 ≤ x) {k : Nat} (hk : k < prdN (cntN D S)) (i : Nat) : 1 ≤ prd ((clB D S (cdig D S k)).take i) ∧ prd ((clB D S (cdig D S k)).take i) ≤ prd D := by
  have hlen := clB_length D S (cdig D S k) hl (cdig_length hl k)
  have hb : ∀ (j : Nat) b, (clB D S (cdig D S k))[j]? = some b → ∃ n, D[j]? = some n ∧ 1 ≤ b ∧ b ≤ n := fun j b h => by
    have hj : j < D.length := by rw [← hlen]; exact (List.getElem?_eq_some_iff.1 h).1
    obtain ⟨c, _, h0, _, _, b', hb', h1, h2⟩ := cov_at hl hd hs hk (List.getElem?_eq_getElem hj) (List.getElem?_eq_getElem (show j < S.length by omega))
    rw [hb'] at h
    obtain rfl := Option.some.inj h
    have h5 := hs _ (List.getElem_mem (show j < S.length by omega))
    have := Int.mul_nonneg h0 (show 0 ≤ S[j]'(by omega) by omega)
    exact ⟨_, List.getElem?_eq_getElem hj, h1, by omega⟩
  have key : ∀ (X E : List Int), X.length = E.length → (∀ (j : Nat) b, X[j]? = some b → ∃ n, E[j]? = some n ∧ 1 ≤ b ∧ b ≤ n) → ∀ i, 1 ≤ prd (X.take i) ∧ prd (X.take i) ≤ prd E := by
    intro X
    induction X with
    | nil => intro E hE _ i; cases E with
      | nil => simp [prd]
      | cons => simp at hE
    | cons b X ih =>
      intro E hE h i
      cases E with
      | nil => simp at hE
      | cons n E =>
        obtain ⟨n', hn', p1, p2⟩ := h 0 b rfl
        obtain rfl : n = n' := by simpa using hn'
        have ih' := ih E (by simpa using hE) (fun j b hj => h (j + 1) b (by simpa using hj))
        cases i with
        | zero =>
          have h2 := ih' X.length
          have h3 : 1 * 1 ≤ n * prd E := Int.mul_le_mul (by omega) (by omega) (by omega) (by omega)
          rw [List.take_zero, prd, prd]; omega
        | succ i =>
          have h2 := ih' i
          rw [List.take_succ_cons, prd, prd]
          have h3 : 1 * 1 ≤ b * prd (X.take i) := Int.mul_le_mul p1 h2.1 (by omega) (by omega)
          exact ⟨by omega, Int.mul_le_mul p2 h2.2 (by omega) (by omega)⟩
  exact key _ D hlen hb i
theorem covT_bd {D S : List Int} (hl : S.length = D.length) (hd : ∀ x ∈ D, 1 ≤ x) (hs : ∀ x ∈ S, 1 ≤ x) : ∀ k, k ≤ prdN (cntN D S) → 0 ≤ covT D S k ∧ covT D S k ≤ (k : Int) * prd D
  | 0, _ => by simp [covT]
  | k + 1, h => by
    have h1 := covT_bd hl hd hs k (by omega)
    have h2 := clB_take hl hd hs (show k < prdN (cntN D S) by omega) (clB D S (cdig D S k)).length
    rw [List.take_length] at h2
    rw [covT, Int.natCast_add, Int.add_mul]
    simp only [Int.cast_ofNat_Int, Int.one_mul]
    exact ⟨by omega, by omega⟩
end Go.Proofs.Ytneegijbbbebkaa
