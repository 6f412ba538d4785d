/-
  The numbers within an element, in plain words: which they are, and that they lie apart, in order, within the element. No conditions.
-/
import Derived.Test.YtojcokdfplldbaaDSize
namespace Go.Proofs.Ytojcokdfplldbaa
set_option linter.unusedVariables false

/-- A number's place. -/
structure Pl where
  a : Int
  c : Int
  w : Int
  b : Bool
/-- The numbers of a type, from a byte on. -/
def plF : (n : Nat) → Ty n → Int → List Pl
  | 0, _, _ => []
  | n + 1, T, p =>
    if TyN.c T = 4 then [⟨p, 3, TyN.w T, TyN.b T⟩, ⟨p + TyN.w T, 3, TyN.w T, TyN.b T⟩]
    else if TyN.c T = 5 then (TyN.fs T).flatMap (fun q => plF n q.2.2 (p + q.2.1))
    else if TyN.c T = 6 ∨ TyN.c T = 7 then (match TyN.bs T with | [t] => (List.range (sz (n + 1) T 1 / sz n t 1).toNat).flatMap (fun (i : Nat) => plF n t (p + (i : Int) * sz n t 1)) | _ => [])
    else [⟨p, TyN.c T, TyN.w T, TyN.b T⟩]
/-- Places that lie in order, apart, between two bytes. -/
def ord : Int → List Pl → Int → Prop
  | lo, [], hi => lo ≤ hi
  | lo, p :: l, hi => lo ≤ p.a ∧ 1 ≤ p.w ∧ p.w ≤ 8 ∧ ord (p.a + p.w) l hi
theorem ord_le : ∀ {l : List Pl} {lo hi : Int}, ord lo l hi → lo ≤ hi
  | [], _, _, h => h
  | p :: l, _, _, h => by have := ord_le h.2.2.2; have := h.1; have := h.2.1; omega
theorem ord_from : ∀ {l : List Pl} {lo lo' hi : Int}, ord lo l hi → lo' ≤ lo → ord lo' l hi
  | [], _, _, _, h, h2 => Int.le_trans h2 h
  | p :: l, _, _, _, h, h2 => ⟨Int.le_trans h2 h.1, h.2⟩
theorem ord_to : ∀ {l : List Pl} {lo hi hi' : Int}, ord lo l hi → hi ≤ hi' → ord lo l hi'
  | [], _, _, _, h, h2 => Int.le_trans h h2
  | p :: l, _, _, _, h, h2 => ⟨h.1, h.2.1, h.2.2.1, ord_to h.2.2.2 h2⟩
theorem ord_append : ∀ {l l2 : List Pl} {lo mi hi : Int}, ord lo l mi → ord mi l2 hi → ord lo (l ++ l2) hi
  | [], l2, _, _, _, h, h2 => ord_from h2 h
  | p :: l, l2, _, _, _, h, h2 => ⟨h.1, h.2.1, h.2.2.1, ord_append h.2.2.2 h2⟩
theorem ord_len : ∀ {l : List Pl} {lo hi : Int}, ord lo l hi → (l.length : Int) ≤ hi - lo
  | [], _, _, h => by have : _ ≤ _ := h; simp; omega
  | p :: l, _, _, h => by
    have := ord_len h.2.2.2
    have := h.1
    have := h.2.1
    rw [List.length_cons]
    omega
theorem ord_range {s : Int} (g : Nat → List Pl) (p : Int) : ∀ (k : Nat), (∀ i, i < k → ord (p + (i : Int) * s) (g i) (p + (i : Int) * s + s)) → 0 ≤ s → ord p ((List.range k).flatMap g) (p + (k : Int) * s)
  | 0, _, hs => by show p ≤ _; simp
  | k + 1, h, hs => by
    rw [List.range_succ, List.flatMap_append]
    refine ord_append (ord_range g p k (fun i hi => h i (by omega)) hs) ?_
    have := h k (by omega)
    simp only [List.flatMap_cons, List.flatMap_nil, List.append_nil]
    rw [show (((k + 1 : Nat) : Int)) * s = (k : Int) * s + s by rw [Int.natCast_add, Int.add_mul]; simp]
    rw [← Int.add_assoc]
    exact this
/-- A size does not hang on the depth, where it is one. -/
theorem endF_same {α : Type} {f g : α → Int} (h : ∀ t, f t ≠ 0 → g t = f t) (wd : Int) : ∀ {l : List (ByteArray × Int × α)} {e e' : Int}, endF f wd e l = some e' → endF g wd e l = some e'
  | [], _, _, h2 => h2
  | q :: l, e, e', h2 => by
    rw [endF] at h2 ⊢
    by_cases hc : f q.2.2 = 0 ∨ ¬ (e ≤ q.2.1 ∧ q.2.1 ≤ wd - f q.2.2)
    · rw [if_pos hc] at h2; cases h2
    · rw [if_neg hc] at h2
      have h3 : f q.2.2 ≠ 0 := fun h => hc (.inl h)
      rw [h _ h3, if_neg hc]
      exact endF_same h wd h2
theorem dimF_zero : ∀ (l : List Int), dimF 0 l = 0
  | [] => rfl
  | d :: l => by
    rw [dimF, Int.zero_mul]
    split
    · exact dimF_zero l
    · rfl
theorem dimF_mul : ∀ (l : List Int) (s : Int), dimF s l ≠ 0 → ∃ k : Nat, 1 ≤ k ∧ dimF s l = (k : Int) * s
  | [], s, h => ⟨1, Nat.le_refl _, by rw [dimF]; simp⟩
  | d :: l, s, h => by
    rw [dimF] at h ⊢
    split at h
    · rename_i hc
      rw [if_pos hc]
      obtain ⟨k, h1, h2⟩ := dimF_mul l (s * d) h
      obtain ⟨d', rfl⟩ : ∃ d' : Nat, d = d' := ⟨d.toNat, by omega⟩
      refine ⟨k * d', Nat.mul_pos h1 (by omega), ?_⟩
      rw [h2, Int.natCast_mul, Int.mul_assoc, Int.mul_comm s]
    · exact absurd rfl h
theorem sz_depth : ∀ (n : Nat) (T : Ty n) (d d' : Nat), d' ≤ d → sz n T d ≠ 0 → sz n T d' = sz n T d
  | 0, _, _, _, _, h => absurd rfl h
  | n + 1, T, d, d', hd, h => by
    have ih : ∀ t : Ty n, sz n t (d + 1) ≠ 0 → sz n t (d' + 1) = sz n t (d + 1) := fun t => sz_depth n t (d + 1) (d' + 1) (by omega)
    rw [sz] at h ⊢
    by_cases h1 : 4 < d ∨ ownB (TyN.c T) (TyN.w T) (TyN.b T) (TyN.fs T).length (TyN.ds T).length (TyN.bs T).length (TyN.ns T).length = false
    · rw [if_pos h1] at h; exact absurd rfl h
    · have h2 : ¬ (4 < d' ∨ ownB (TyN.c T) (TyN.w T) (TyN.b T) (TyN.fs T).length (TyN.ds T).length (TyN.bs T).length (TyN.ns T).length = false) := fun h3 => h1 (h3.imp (by omega) id)
      rw [if_neg h1] at h
      rw [if_neg h2]
      conv => rhs; rw [sz, if_neg h1]
      by_cases h5 : TyN.c T = 5
      · rw [if_pos h5] at h
        rw [if_pos h5, if_pos h5]
        unfold cmpSz at h ⊢
        by_cases h6 : (1 ≤ TyN.w T ∧ TyN.w T ≤ 256) ∧ namesB ((TyN.fs T).map (·.1)) = true
        · rw [if_pos h6] at h ⊢
          rw [if_pos h6]
          cases he : endF (fun t => sz n t (d + 1)) (TyN.w T) 0 (TyN.fs T) with
          | none => rw [he] at h; exact absurd rfl h
          | some e => rw [endF_same (f := fun t => sz n t (d + 1)) (g := fun t => sz n t (d' + 1)) ih (TyN.w T) he]
        · rw [if_neg h6] at h; exact absurd rfl h
      · rw [if_neg h5] at h
        rw [if_neg h5, if_neg h5]
        by_cases h6 : TyN.c T = 6
        · rw [if_pos h6] at h
          rw [if_pos h6, if_pos h6]
          unfold arrSz at h ⊢
          split at h
          · rename_i t ht
            split at h
            · rename_i hr
              simp only [] at h ⊢
              simp only [if_pos hr]
              have h7 : sz n t (d + 1) ≠ 0 := fun h8 => h (by rw [h8]; exact dimF_zero _)
              rw [ih t h7]
            · exact absurd rfl h
          · exact absurd rfl h
        · rw [if_neg h6] at h
          rw [if_neg h6, if_neg h6]
          by_cases h7 : TyN.c T = 7
          · rw [if_pos h7] at h
            rw [if_pos h7, if_pos h7]
            unfold enSz at h ⊢
            split at h
            · rename_i t ht
              split at h
              · rename_i hr
                have h8 := ih t hr.2.1
                simp only []
                rw [h8]
              · exact absurd rfl h
            · exact absurd rfl h
          · rw [if_neg h7, if_neg h7]
theorem endF_ord {α : Type} {f : α → Int} {g : ByteArray × Int × α → List Pl} (wd p : Int) (hf : ∀ t, 0 ≤ f t) : ∀ {l : List (ByteArray × Int × α)} {e e' : Int}, (∀ q ∈ l, f q.2.2 ≠ 0 → ord (p + q.2.1) (g q) (p + q.2.1 + f q.2.2)) → endF f wd e l = some e' → e ≤ wd → ord (p + e) (l.flatMap g) (p + e') ∧ e' ≤ wd
  | [], e, e', _, h2, h3 => by
    rw [endF] at h2
    injection h2 with h2
    subst h2
    exact ⟨Int.le_refl _, h3⟩
  | q :: l, e, e', h, h2, h3 => by
    rw [endF] at h2
    by_cases hc : f q.2.2 = 0 ∨ ¬ (e ≤ q.2.1 ∧ q.2.1 ≤ wd - f q.2.2)
    · rw [if_pos hc] at h2; cases h2
    · rw [if_neg hc] at h2
      have h4 : f q.2.2 ≠ 0 := fun h => hc (.inl h)
      have h5 : e ≤ q.2.1 ∧ q.2.1 ≤ wd - f q.2.2 := Classical.not_not.1 (fun h => hc (.inr h))
      obtain ⟨h6, h7⟩ := endF_ord wd p hf (fun q hq => h q (List.mem_cons_of_mem _ hq)) h2 (by omega)
      refine ⟨?_, h7⟩
      rw [List.flatMap_cons]
      have h8 := h q (List.mem_cons_self ..) h4
      exact ord_append (ord_from h8 (by omega)) (by rw [Int.add_assoc]; exact h6)
theorem endF_all {α : Type} {f : α → Int} (wd : Int) : ∀ {l : List (ByteArray × Int × α)} {e e' : Int}, endF f wd e l = some e' → ∀ q ∈ l, f q.2.2 ≠ 0
  | [], _, _, _, q, hq => by cases hq
  | q :: l, e, e', h2, q', hq => by
    rw [endF] at h2
    by_cases hc : f q.2.2 = 0 ∨ ¬ (e ≤ q.2.1 ∧ q.2.1 ≤ wd - f q.2.2)
    · rw [if_pos hc] at h2; cases h2
    · rw [if_neg hc] at h2
      rcases List.mem_cons.1 hq with h | h
      · subst h; exact fun h => hc (.inl h)
      · exact endF_all wd h2 q' h
theorem arrSz_open {α : Type} {f : α → Int} {ds : List Int} {bs : List α} (h : arrSz f ds bs ≠ 0) : ∃ t, bs = [t] ∧ f t ≠ 0 ∧ ∃ k : Nat, 1 ≤ k ∧ arrSz f ds bs = (k : Int) * f t := by
  match bs, h with
  | [], h => exact absurd rfl h
  | [t], h =>
    rw [arrSz] at h ⊢
    by_cases hr : 1 ≤ ds.length ∧ ds.length ≤ 4
    · rw [if_pos hr] at h ⊢
      obtain ⟨k, hk, hk2⟩ := dimF_mul _ _ h
      exact ⟨t, rfl, fun h8 => h (by rw [h8]; exact dimF_zero _), k, hk, hk2⟩
    · rw [if_neg hr] at h; exact absurd rfl h
  | _ :: _ :: _, h => exact absurd rfl h
theorem enSz_open {α : Type} {f : α → Int} {hh : α → Int × Int × Bool} {bs : List α} {ns : List (ByteArray × Int)} (h : enSz f hh bs ns ≠ 0) : ∃ t, bs = [t] ∧ f t ≠ 0 ∧ ((hh t).1 = 1 ∨ (hh t).1 = 2) ∧ enSz f hh bs ns = f t := by
  match bs, h with
  | [], h => exact absurd rfl h
  | [t], h =>
    rw [enSz] at h ⊢
    split at h
    · rename_i hr
      rw [if_pos hr]
      exact ⟨t, rfl, hr.2.1, hr.2.2.1, rfl⟩
    · exact absurd rfl h
  | _ :: _ :: _, h => exact absurd rfl h
/-- What a size says of a type. -/
theorem sz_open {n : Nat} {T : Ty (n + 1)} {d : Nat} (h : sz (n + 1) T d ≠ 0) :
    (TyN.c T = 5 ∧ (1 ≤ TyN.w T ∧ TyN.w T ≤ 256) ∧ namesB ((TyN.fs T).map (·.1)) = true ∧ sz (n + 1) T d = TyN.w T ∧ ∃ e, endF (fun t => sz n t (d + 1)) (TyN.w T) 0 (TyN.fs T) = some e) ∨
    ((TyN.c T = 6 ∨ TyN.c T = 7) ∧ ∃ t, TyN.bs T = [t] ∧ sz n t (d + 1) ≠ 0 ∧ ∃ k : Nat, 1 ≤ k ∧ sz (n + 1) T d = (k : Int) * sz n t (d + 1)) ∨
    ((TyN.c T = 1 ∨ TyN.c T = 2 ∨ TyN.c T = 3) ∧ 1 ≤ TyN.w T ∧ TyN.w T ≤ 8 ∧ sz (n + 1) T d = TyN.w T) ∨
    (TyN.c T = 4 ∧ 1 ≤ TyN.w T ∧ TyN.w T ≤ 8 ∧ sz (n + 1) T d = 2 * TyN.w T) := by
  have h0 := h
  rw [sz] at h
  by_cases h1 : 4 < d ∨ ownB (TyN.c T) (TyN.w T) (TyN.b T) (TyN.fs T).length (TyN.ds T).length (TyN.bs T).length (TyN.ns T).length = false
  · rw [if_pos h1] at h; exact absurd rfl h
  · rw [if_neg h1] at h
    have hs : sz (n + 1) T d = (if TyN.c T = 5 then cmpSz (fun t => sz n t (d + 1)) (TyN.w T) (TyN.fs T) else if TyN.c T = 6 then arrSz (fun t => sz n t (d + 1)) (TyN.ds T) (TyN.bs T) else if TyN.c T = 7 then enSz (fun t => sz n t (d + 1)) hd (TyN.bs T) (TyN.ns T) else numSz (TyN.c T) (TyN.w T)) := by rw [sz, if_neg h1]
    by_cases h5 : TyN.c T = 5
    · rw [if_pos h5] at h hs
      unfold cmpSz at h hs
      by_cases h6 : (1 ≤ TyN.w T ∧ TyN.w T ≤ 256) ∧ namesB ((TyN.fs T).map (·.1)) = true
      · rw [if_pos h6] at h hs
        cases he : endF (fun t => sz n t (d + 1)) (TyN.w T) 0 (TyN.fs T) with
        | none => rw [he] at h; exact absurd rfl h
        | some e =>
          rw [he] at hs
          exact .inl ⟨h5, h6.1, h6.2, hs, e, rfl⟩
      · rw [if_neg h6] at h; exact absurd rfl h
    · rw [if_neg h5] at h hs
      by_cases h6 : TyN.c T = 6
      · rw [if_pos h6] at h hs
        obtain ⟨t, ht, h8, k, hk, hk2⟩ := arrSz_open h
        exact .inr (.inl ⟨.inl h6, t, ht, h8, k, hk, by rw [hs, hk2]⟩)
      · rw [if_neg h6] at h hs
        by_cases h7 : TyN.c T = 7
        · rw [if_pos h7] at h hs
          obtain ⟨t, ht, h8, _, hk2⟩ := enSz_open h
          exact .inr (.inl ⟨.inr h7, t, ht, h8, 1, Nat.le_refl _, by rw [hs, hk2]; simp⟩)
        · rw [if_neg h7] at h hs
          unfold numSz at h hs
          by_cases h8 : TyN.c T = 1 ∨ TyN.c T = 2
          · rw [if_pos h8] at h hs
            by_cases h9 : 1 ≤ TyN.w T ∧ TyN.w T ≤ 8
            · rw [if_pos h9] at hs
              exact .inr (.inr (.inl ⟨by omega, h9.1, h9.2, hs⟩))
            · rw [if_neg h9] at h; exact absurd rfl h
          · rw [if_neg h8] at h hs
            by_cases h10 : TyN.c T = 3
            · rw [if_pos h10] at h hs
              by_cases h9 : TyN.w T = 4 ∨ TyN.w T = 8
              · rw [if_pos h9] at hs
                exact .inr (.inr (.inl ⟨by omega, by omega, by omega, hs⟩))
              · rw [if_neg h9] at h; exact absurd rfl h
            · rw [if_neg h10] at h hs
              by_cases h11 : TyN.c T = 4
              · rw [if_pos h11] at h hs
                by_cases h9 : TyN.w T = 4 ∨ TyN.w T = 8
                · rw [if_pos h9] at hs
                  exact .inr (.inr (.inr ⟨h11, by omega, by omega, hs⟩))
                · rw [if_neg h9] at h; exact absurd rfl h
              · rw [if_neg h11] at h; exact absurd rfl h
/-- How many elements an array has. -/
theorem sz_count {n : Nat} {T : Ty (n + 1)} {t : Ty n} {d k : Nat} (h : sz (n + 1) T d ≠ 0) (ht : sz n t (d + 1) ≠ 0) (hd : 1 ≤ d) (hk : sz (n + 1) T d = (k : Int) * sz n t (d + 1)) : sz (n + 1) T 1 / sz n t 1 = k ∧ sz n t 1 = sz n t (d + 1) ∧ sz (n + 1) T 1 = sz (n + 1) T d := by
  have h1 := sz_depth (n + 1) T d 1 hd h
  have h2 := sz_depth n t (d + 1) 1 (by omega) ht
  refine ⟨?_, h2, h1⟩
  rw [h1, h2, hk, Int.mul_ediv_cancel _ ht]
theorem plF_ord : ∀ (n : Nat) (T : Ty n) (d : Nat) (p : Int), 1 ≤ d → sz n T d ≠ 0 → ord p (plF n T p) (p + sz n T d) ∧ plF n T p ≠ []
  | 0, _, _, _, _, h => absurd rfl h
  | n + 1, T, d, p, hd, h => by
    have ih := plF_ord n
    rw [plF]
    rcases sz_open h with ⟨h5, hw, hnm, hs, e, he⟩ | ⟨h67, t, ht, hst, k, hk, hs⟩ | ⟨hc, hw1, hw2, hs⟩ | ⟨hc, hw1, hw2, hs⟩
    · rw [if_neg (by omega), if_pos h5]
      have hall := endF_all (TyN.w T) he
      obtain ⟨h1, h2⟩ := endF_ord (g := fun q => plF n q.2.2 (p + q.2.1)) (TyN.w T) p (fun t => (sz_rng n t (d + 1)).1) (fun q hq h3 => (ih q.2.2 (d + 1) (p + q.2.1) (by omega) h3).1) he (by omega)
      refine ⟨by rw [hs]; exact ord_to (by rwa [Int.add_zero] at h1) (by omega), ?_⟩
      have hne : TyN.fs T ≠ [] := fun h0 => by rw [h0] at hnm; simp [namesB] at hnm
      cases hfs : TyN.fs T with
      | nil => exact absurd hfs hne
      | cons q l =>
        rw [List.flatMap_cons]
        intro h0
        have h3 := List.append_eq_nil_iff.1 h0
        exact (ih q.2.2 (d + 1) (p + q.2.1) (by omega) (hall q (by rw [hfs]; exact List.mem_cons_self ..))).2 h3.1
    · rw [if_neg (by omega), if_neg (by omega), if_pos h67, ht]
      simp only []
      obtain ⟨h1, h2, h3⟩ := sz_count h hst hd hs
      rw [h1, h2, Int.toNat_natCast]
      have h4 := sz_rng n t (d + 1)
      refine ⟨by rw [hs]; exact ord_range _ p k (fun i hi => (ih t (d + 1) _ (by omega) hst).1) h4.1, ?_⟩
      cases k with
      | zero => omega
      | succ k =>
        rw [List.range_succ, List.flatMap_append]
        intro h0
        have h5 := (List.append_eq_nil_iff.1 h0).2
        simp only [List.flatMap_cons, List.flatMap_nil, List.append_nil] at h5
        exact (ih t (d + 1) _ (by omega) hst).2 h5
    · rw [if_neg (by omega), if_neg (by omega), if_neg (by omega), hs]
      exact ⟨⟨Int.le_refl _, hw1, hw2, Int.le_refl _⟩, by simp⟩
    · rw [if_pos hc, hs]
      exact ⟨⟨Int.le_refl _, hw1, hw2, Int.le_refl _, hw1, hw2, by show _ ≤ _; simp only []; omega⟩, by simp⟩
end Go.Proofs.Ytojcokdfplldbaa
