/-
  What becomes of the bytes by a box, element by element. Conditions: the box lies within both parts.
-/
import Derived.Test.YtneegijbbbebkabGCut2
namespace Go.Proofs.Ytneegijbbbebkab
open Go.RowKit
set_option linter.unusedVariables false
set_option maxRecDepth 100000

theorem placeZ_inj : ∀ (D t t' : List Int) (p p' : Int), Ins2 D t → Ins2 D t' → placeZ D t p = placeZ D t' p' → p = p' ∧ t = t'
  | [], [], [], p, p', _, _, h => ⟨h, rfl⟩
  | [], _ :: _, _, _, _, h, _, _ => by have := h.1; simp at this
  | [], _, _ :: _, _, _, _, h, _ => by have := h.1; simp at this
  | _ :: _, [], _, _, _, h, _, _ => by have := h.1; simp at this
  | _ :: _, _, [], _, _, _, h, _ => by have := h.1; simp at this
  | n :: D, x :: t, x' :: t', p, p', h, h', e => by
    have hx := h.2 0 x n rfl rfl
    have hx' := h'.2 0 x' n rfl rfl
    have hr : Ins2 D t := ⟨by have := h.1; simpa using this, fun i y m hy hm => h.2 (i + 1) y m (by simpa using hy) (by simpa using hm)⟩
    have hr' : Ins2 D t' := ⟨by have := h'.1; simpa using this, fun i y m hy hm => h'.2 (i + 1) y m (by simpa using hy) (by simpa using hm)⟩
    rw [placeZ, placeZ] at e
    obtain ⟨e1, rfl⟩ := placeZ_inj D t t' _ _ hr hr' e
    have q1 : (p * n + x) / n = p := by rw [Int.add_comm, Int.add_mul_ediv_right _ _ (by omega), Int.ediv_eq_zero_of_lt hx.1 hx.2, Int.zero_add]
    have q2 : (p' * n + x') / n = p' := by rw [Int.add_comm, Int.add_mul_ediv_right _ _ (by omega), Int.ediv_eq_zero_of_lt hx'.1 hx'.2, Int.zero_add]
    have hp : p = p' := by rw [← q1, e1, q2]
    subst hp
    have : x = x' := by omega
    subst this
    exact ⟨rfl, rfl⟩
theorem plc_inj {D t t' : List Int} (h : Ins2 D t) (h' : Ins2 D t') (e : plc D t = plc D t') : t = t' := (placeZ_inj D t t' 0 0 h h' e).2
theorem addL_inj : ∀ {S t t' : List Int}, t.length = S.length → t'.length = S.length → addL S t = addL S t' → t = t'
  | [], [], [], _, _, _ => rfl
  | [], _ :: _, _, h, _, _ => by simp at h
  | [], _, _ :: _, _, h, _ => by simp at h
  | _ :: _, [], _, h, _, _ => by simp at h
  | _ :: _, _, [], _, h, _ => by simp at h
  | s :: S, x :: t, x' :: t', h, h', e => by
    have e1 : (s + x) :: addL S t = (s + x') :: addL S t' := e
    injection e1 with e2 e3
    rw [addL_inj (S := S) (by simpa using h) (by simpa using h') e3, show x = x' by omega]
/-- Bytes that were written over: where P is, as V says, and elsewhere as they were. -/
structure Wr (V : Nat → Option Int → Prop) (s s' : List Int) (P : Nat → Prop) : Prop where
  len : s'.length = s.length
  yes : ∀ m, P m → V m s'[m]?
  no : ∀ m, ¬ P m → s'[m]? = s[m]?
theorem Wr.nil (V : Nat → Option Int → Prop) (s : List Int) : Wr V s s (fun _ => False) := ⟨rfl, fun _ h => h.elim, fun _ _ => rfl⟩
theorem Wr.seq {V : Nat → Option Int → Prop} {s s1 s2 : List Int} {P Q : Nat → Prop} (h : Wr V s s1 P) (k : Wr V s1 s2 Q) : Wr V s s2 (fun m => P m ∨ Q m) :=
  ⟨k.len.trans h.len, fun m hm => by
    by_cases hq : Q m
    · exact k.yes m hq
    · rw [k.no m hq]; exact h.yes m (hm.resolve_right hq), fun m hm => by rw [k.no m (fun e => hm (.inr e)), h.no m (fun e => hm (.inl e))]⟩
theorem Wr.iff {V : Nat → Option Int → Prop} {s s' : List Int} {P Q : Nat → Prop} (h : Wr V s s' P) (e : ∀ m, P m ↔ Q m) : Wr V s s' Q := ⟨h.len, fun m hm => h.yes m ((e m).2 hm), fun m hm => h.no m (fun q => hm ((e m).1 q))⟩
theorem Wr.fold {V : Nat → Option Int → Prop} {F : List Int → Nat → List Int} {P : Nat → Nat → Prop} {sl : Nat} {s : List Int} (hs : s.length = sl) : ∀ b, (∀ k < b, ∀ s, s.length = sl → Wr V s (F s k) (P k)) → Wr V s ((List.range b).foldl F s) (fun m => ∃ k < b, P k m)
  | 0, _ => (Wr.nil V s).iff (fun m => ⟨fun h => h.elim, fun ⟨k, h, _⟩ => by omega⟩)
  | b + 1, hF => by
    have h1 := Wr.fold hs b (fun k hk => hF k (by omega))
    have h2 := h1.seq (hF b (by omega) _ (h1.len.trans hs))
    rw [foldl_range_succ]
    refine h2.iff (fun m => ⟨fun h => ?_, fun ⟨k, hk, hp⟩ => ?_⟩)
    · rcases h with ⟨k, hk, hp⟩ | h
      · exact ⟨k, by omega, hp⟩
      · exact ⟨b, by omega, h⟩
    · by_cases hkb : k = b
      · subst hkb; exact .inr hp
      · exact .inl ⟨k, by omega, hp⟩
/-- Digits of a box. -/
def Dg (bs : List Nat) (q : List Int) : Prop := q.length = bs.length ∧ ∀ (i : Nat) (x : Int) (b : Nat), q[i]? = some x → bs[i]? = some b → 0 ≤ x ∧ x < (b : Int)
theorem Wr.walk {V : Nat → Option Int → Prop} {f : List Int → List Int → List Int} {P : List Int → Nat → Prop} {sl : Nat} : ∀ (bs : List Nat) (p s : List Int), s.length = sl → (∀ q, Dg bs q → ∀ s, s.length = sl → Wr V s (f (p ++ q) s) (P (p ++ q))) → Wr V s (walkF f bs p s) (fun m => ∃ q, Dg bs q ∧ P (p ++ q) m)
  | [], p, s, hs, hf => by
    have h0 : Dg [] [] := ⟨rfl, fun i x b h => by simp at h⟩
    have h1 := hf [] h0 s hs
    rw [List.append_nil] at h1
    refine Wr.iff (show Wr V s (walkF f [] p s) (P p) from h1) (fun m => ⟨fun h => ⟨[], h0, by rw [List.append_nil]; exact h⟩, fun ⟨q, hq, h⟩ => ?_⟩)
    have : q = [] := List.eq_nil_of_length_eq_zero hq.1
    rw [this, List.append_nil] at h
    exact h
  | b :: bs, p, s, hs, hf => by
    have h1 := Wr.fold (V := V) (F := fun s (k : Nat) => walkF f bs (p ++ [(k : Int)]) s) (P := fun k m => ∃ q, Dg bs q ∧ P (p ++ [(k : Int)] ++ q) m) hs b (fun k hk s' hs' => Wr.walk bs (p ++ [(k : Int)]) s' hs' (fun q hq s'' hs'' => by
      have hd : Dg (b :: bs) ((k : Int) :: q) := ⟨by simp [hq.1], fun i x c hx hc => by
        cases i with
        | zero =>
          obtain rfl : (k : Int) = x := by simpa using hx
          obtain rfl : b = c := by simpa using hc
          omega
        | succ i => exact hq.2 i x c (by simpa using hx) (by simpa using hc)⟩
      have := hf _ hd s'' hs''
      rw [List.append_assoc]
      exact this))
    refine Wr.iff (show Wr V s (walkF f (b :: bs) p s) _ from h1) (fun m => ⟨fun ⟨k, hk, q, hq, h⟩ => ⟨(k : Int) :: q, ⟨by simp [hq.1], fun i x c hx hc => ?_⟩, by rw [List.append_assoc] at h; exact h⟩, fun ⟨q, hq, h⟩ => ?_⟩)
    · cases i with
      | zero =>
        obtain rfl : (k : Int) = x := by simpa using hx
        obtain rfl : b = c := by simpa using hc
        omega
      | succ i => exact hq.2 i x c (by simpa using hx) (by simpa using hc)
    · cases q with
      | nil => have := hq.1; simp at this
      | cons y q =>
        have hy := hq.2 0 y b rfl rfl
        refine ⟨y.toNat, by omega, q, ⟨by have := hq.1; simpa using this, fun i x c hx hc => hq.2 (i + 1) x c (by simpa using hx) (by simpa using hc)⟩, ?_⟩
        rw [List.append_assoc, show ((y.toNat : Nat) : Int) = y by omega]
        exact h
end Go.Proofs.Ytneegijbbbebkab
