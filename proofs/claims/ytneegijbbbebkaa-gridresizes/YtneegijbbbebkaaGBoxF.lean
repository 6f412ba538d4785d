/-
  What becomes of the bytes by a box, element by element. Conditions: the box lies within both parts.
  A box of elements: each element within it is the source's, each other one as it was. Conditions: the box lies within both parts.
-/
import Derived.Test.YtneegijbbbebkaaGCut2
namespace Go.Proofs.Ytneegijbbbebkaa
open Go.RowKit
set_option linter.unusedVariables false
set_option maxRecDepth 100000

theorem placeZ_inj : ∀ (D t t' : List Int) (p p' : Int), Ins2 D t → Ins2 D t' → placeZ D t p = placeZ D t' p' → p = p' ∧ t = t'
  | [], [], [], p, p', _, _, h => ⟨h, rfl⟩
  | [], _ :: _, _, _, _, h, _, _ => by have := h.1; simp at this
  | [], _, _ :: _, _, _, _, h, _ => by have := h.1; simp at this
  | _ :: _, [], _, _, _, h, _, _ => by have := h.1; simp at this
  | _ :: _, _, [], _, _, _, h, _ => by have := h.1; simp at this
  | n :: D, x :: t, x' :: t', p, p', h, h', e => by
    have hx := h.2 0 x n rfl rfl
    have hx' := h'.2 0 x' n rfl rfl
    have hr : Ins2 D t := ⟨by have := h.1; simpa using this, fun i y m hy hm => h.2 (i + 1) y m (by simpa using hy) (by simpa using hm)⟩
    have hr' : Ins2 D t' := ⟨by have := h'.1; simpa using this, fun i y m hy hm => h'.2 (i + 1) y m (by simpa using hy) (by simpa using hm)⟩
    rw [placeZ, placeZ] at e
    obtain ⟨e1, rfl⟩ := placeZ_inj D t t' _ _ hr hr' e
    have q1 : (p * n + x) / n = p := by rw [Int.add_comm, Int.add_mul_ediv_right _ _ (by omega), Int.ediv_eq_zero_of_lt hx.1 hx.2, Int.zero_add]
    have q2 : (p' * n + x') / n = p' := by rw [Int.add_comm, Int.add_mul_ediv_right _ _ (by omega), Int.ediv_eq_zero_of_lt hx'.1 hx'.2, Int.zero_add]
    have hp : p = p' := by rw [← q1, e1, q2]
    subst hp
    have : x = x' := by omega
    subst this
    exact ⟨rfl, rfl⟩
theorem plc_inj {D t t' : List Int} (h : Ins2 D t) (h' : Ins2 D t') (e : plc D t = plc D t') : t = t' := (placeZ_inj D t t' 0 0 h h' e).2
theorem addL_inj : ∀ {S t t' : List Int}, t.length = S.length → t'.length = S.length → addL S t = addL S t' → t = t'
  | [], [], [], _, _, _ => rfl
  | [], _ :: _, _, h, _, _ => by simp at h
  | [], _, _ :: _, _, h, _ => by simp at h
  | _ :: _, [], _, h, _, _ => by simp at h
  | _ :: _, _, [], _, h, _ => by simp at h
  | s :: S, x :: t, x' :: t', h, h', e => by
    have e1 : (s + x) :: addL S t = (s + x') :: addL S t' := e
    injection e1 with e2 e3
    rw [addL_inj (S := S) (by simpa using h) (by simpa using h') e3, show x = x' by omega]
/-- Bytes that were written over: where P is, as V says, and elsewhere as they were. -/
structure Wr (V : Nat → Option Int → Prop) (s s' : List Int) (P : Nat → Prop) : Prop where
  len : s'.length = s.length
  yes : ∀ m, P m → V m s'[m]?
  no : ∀ m, ¬ P m → s'[m]? = s[m]?
theorem Wr.nil (V : Nat → Option Int → Prop) (s : List Int) : Wr V s s (fun _ => False) := ⟨rfl, fun _ h => h.elim, fun _ _ => rfl⟩
theorem Wr.seq {V : Nat → Option Int → Prop} {s s1 s2 : List Int} {P Q : Nat → Prop} (h : Wr V s s1 P) (k : Wr V s1 s2 Q) : Wr V s s2 (fun m => P m ∨ Q m) :=
  ⟨k.len.trans h.len, fun m hm => by
    by_cases hq : Q m
    · exact k.yes m hq
    · rw [k.no m hq]; exact h.yes m (hm.resolve_right hq), fun m hm => by rw [k.no m (fun e => hm (.inr e)), h.no m (fun e => hm (.inl e))]⟩
theorem Wr.iff {V : Nat → Option Int → Prop} {s s' : List Int} {P Q : Nat → Prop} (h : Wr V s s' P) (e : ∀ m, P m ↔ Q m) : Wr V s s' Q := ⟨h.len, fun m hm => h.yes m ((e m).2 hm), fun m hm => h.no m (fun q => hm ((e m).1 q))⟩
theorem Wr.fold {V : Nat → Option Int → Prop} {F : List Int → Nat → List Int} {P : Nat → Nat → Prop} {sl : Nat} {s : List Int} (hs : s.length = sl) : ∀ b, (∀ k < b, ∀ s, s.length = sl → Wr V s (F s k) (P k)) → Wr V s ((List.range b).foldl F s) (fun m => ∃ k < b, P k m)
  | 0, _ => (Wr.nil V s).iff (fun m => ⟨fun h => h.elim, fun ⟨k, h, _⟩ => by omega⟩)
  | b + 1, hF => by
    have h1 := Wr.fold hs b (fun k hk => hF k (by omega))
    have h2 := h1.seq (hF b (by omega) _ (h1.len.trans hs))
    rw [foldl_range_succ]
    refine h2.iff (fun m => ⟨fun h => ?_, fun ⟨k, hk, hp⟩ => ?_⟩)
    · rcases h with ⟨k, hk, hp⟩ | h
      · exact ⟨k, by omega, hp⟩
      · exact ⟨b, by omega, h⟩
    · by_cases hkb : k = b
      · subst hkb; exact .inr hp
      · exact .inl ⟨k, by omega, hp⟩
/-- Digits of a box. -/
def Dg (bs : List Nat) (q : List Int) : Prop := q.length = bs.length ∧ ∀ (i : Nat) (x : Int) (b : Nat), q[i]? = some x → bs[i]? = some b → 0 ≤ x ∧ x < (b : Int)
theorem Wr.walk {V : Nat → Option Int → Prop} {f : List Int → List Int → List Int} {P : List Int → Nat → Prop} {sl : Nat} : ∀ (bs : List Nat) (p s : List Int), s.length = sl → (∀ q, Dg bs q → ∀ s, s.length = sl → Wr V s (f (p ++ q) s) (P (p ++ q))) → Wr V s (walkF f bs p s) (fun m => ∃ q, Dg bs q ∧ P (p ++ q) m)
  | [], p, s, hs, hf => by
    have h0 : Dg [] [] := ⟨rfl, fun i x b h => by simp at h⟩
    have h1 := hf [] h0 s hs
    rw [List.append_nil] at h1
    refine Wr.iff (show Wr V s (walkF f [] p s) (P p) from h1) (fun m => ⟨fun h => ⟨[], h0, by rw [List.append_nil]; exact h⟩, fun ⟨q, hq, h⟩ => ?_⟩)
    have : q = [] := List.eq_nil_of_length_eq_zero hq.1
    rw [this, List.append_nil] at h
    exact h
  | b :: bs, p, s, hs, hf => by
    have h1 := Wr.fold (V := V) (F := fun s (k : Nat) => walkF f bs (p ++ [(k : Int)]) s) (P := fun k m => ∃ q, Dg bs q ∧ P (p ++ [(k : Int)] ++ q) m) hs b (fun k hk s' hs' => Wr.walk bs (p ++ [(k : Int)]) s' hs' (fun q hq s'' hs'' => by
      have hd : Dg (b :: bs) ((k : Int) :: q) := ⟨by simp [hq.1], fun i x c hx hc => by
        cases i with
        | zero =>
          obtain rfl : (k : Int) = x := by simpa using hx
          obtain rfl : b = c := by simpa using hc
          omega
        | succ i => exact hq.2 i x c (by simpa using hx) (by simpa using hc)⟩
      have := hf _ hd s'' hs''
      rw [List.append_assoc]
      exact this))
    refine Wr.iff (show Wr V s (walkF f (b :: bs) p s) _ from h1) (fun m => ⟨fun ⟨k, hk, q, hq, h⟩ => ⟨(k : Int) :: q, ⟨by simp [hq.1], fun i x c hx hc => ?_⟩, by rw [List.append_assoc] at h; exact h⟩, fun ⟨q, hq, h⟩ => ?_⟩)
    · cases i with
      | zero =>
        obtain rfl : (k : Int) = x := by simpa using hx
        obtain rfl : b = c := by simpa using hc
        omega
      | succ i => exact hq.2 i x c (by simpa using hx) (by simpa using hc)
    · cases q with
      | nil => have := hq.1; simp at this
      | cons y q =>
        have hy := hq.2 0 y b rfl rfl
        refine ⟨y.toNat, by omega, q, ⟨by have := hq.1; simpa using this, fun i x c hx hc => hq.2 (i + 1) x c (by simpa using hx) (by simpa using hc)⟩, ?_⟩
        rw [List.append_assoc, show ((y.toNat : Nat) : Int) = y by omega]
        exact h
end Go.Proofs.Ytneegijbbbebkaa

namespace Go.Proofs.Ytneegijbbbebkaa
open Go.RowKit
set_option linter.unusedVariables false
set_option maxRecDepth 100000

/-- What the byte at a place should be. -/
def Vx (Dt St Df Sf x X : List Int) (r z : Nat) (m : Nat) (o : Option Int) : Prop := ∀ (u : List Int) (k : Nat), u.length = r → InB X u → k < z → m = (plc Dt (addL St u)).toNat * z + k → o = x[(plc Df (addL Sf u)).toNat * z + k]?
theorem cpy_at {s y : List Int} {a m : Nat} (h : a + y.length ≤ s.length) : (cpy s y a)[m]? = if a ≤ m ∧ m < a + y.length then y[m - a]? else s[m]? := by
  have h1 : (s.take a).length = a := by simp; omega
  rw [cpy]
  rcases Nat.lt_or_ge m a with hm | hm
  · rw [if_neg (by omega), List.getElem?_append_left (by omega), List.getElem?_take_of_lt hm]
  · rw [List.getElem?_append_right (by omega), h1]
    rcases Nat.lt_or_ge m (a + y.length) with h2 | h2
    · rw [if_pos ⟨hm, h2⟩, List.getElem?_append_left (by omega)]
    · rw [if_neg (by omega), List.getElem?_append_right (by omega), List.getElem?_drop]
      congr 1
      omega
/-- The tuples of a row. -/
theorem row_tup {X p : List Int} {r : Nat} (hx : X.length = r) (hX0 : ∀ y ∈ X, 0 ≤ y) (hp : p.length + 1 = r ∨ (p = [] ∧ r = 0)) (hb : InB X p) {j : Nat} (hj : j < lenX X) :
    ∃ u, u.length = r ∧ InB X u ∧ ∀ D S : List Int, D.length = r → S.length = r → plc D (addL S u) = plc D (addL S (tpl r p)) + j := by
  rcases hp with hp | ⟨rfl, rfl⟩
  · refine ⟨p ++ [(j : Int)], by simp; omega, inB_snoc hb hp (lenX_at hx hp hX0) (by omega) (by omega), fun D S hd hs => ?_⟩
    rw [tpl_at hp]
    exact plc_row hd hs hp j
  · have hX : X = [] := List.eq_nil_of_length_eq_zero hx
    subst hX
    have hj0 : j = 0 := by rw [show lenX ([] : List Int) = 1 from rfl] at hj; omega
    subst hj0
    exact ⟨[], rfl, fun i x y h => by simp at h, fun D S hd hs => by simp [tpl]⟩
theorem row_wr {Dt St Df Sf x X p s : List Int} {r z sl : Nat} (ht : BoxIn Dt St X r) (hf : BoxIn Df Sf X r) (hs : s.length = sl) (hsl : (sl : Int) = prd Dt * z) (hx : (x.length : Int) = prd Df * z) (hz : 1 ≤ z) (h0 : (0 : Int) ∉ X) (hp : p.length + 1 = r ∨ (p = [] ∧ r = 0)) (hb : InB X p) :
    Wr (Vx Dt St Df Sf x X r z) s (rowF Dt St Df Sf x z (lenX X) r p s) (fun m => (plc Dt (addL St (tpl r p))).toNat * z ≤ m ∧ m < (plc Dt (addL St (tpl r p))).toNat * z + lenX X * z) := by
  have hX0 := ht.xnn
  have hlen := rowF_len ht hf hX0 hs hsl hx hp hb h0
  obtain ⟨i1, a1, a2, _⟩ := row_in ht hp hb h0 hX0
  obtain ⟨i2, b1, b2, _⟩ := row_in hf hp hb h0 hX0
  obtain ⟨A, hA⟩ : ∃ A, (plc Dt (addL St (tpl r p))).toNat = A := ⟨_, rfl⟩
  obtain ⟨B, hB⟩ : ∃ B, (plc Df (addL Sf (tpl r p))).toNat = B := ⟨_, rfl⟩
  have eA : plc Dt (addL St (tpl r p)) = (A : Int) := by omega
  have eB : plc Df (addL Sf (tpl r p)) = (B : Int) := by omega
  have h1 := Int.mul_le_mul_of_nonneg_right a2 (show (0 : Int) ≤ z by omega)
  have h2 := Int.mul_le_mul_of_nonneg_right b2 (show (0 : Int) ≤ z by omega)
  rw [Int.add_mul, eA, ← hsl] at h1
  rw [Int.add_mul, eB, ← hx] at h2
  have h3 : A * z + lenX X * z ≤ sl := by exact_mod_cast h1
  have h4 : B * z + lenX X * z ≤ x.length := by exact_mod_cast h2
  have hy : ((x.drop (B * z)).take (lenX X * z)).length = lenX X * z := by rw [List.length_take, List.length_drop]; omega
  have hat : ∀ m, (rowF Dt St Df Sf x z (lenX X) r p s)[m]? = if A * z ≤ m ∧ m < A * z + lenX X * z then ((x.drop (B * z)).take (lenX X * z))[m - A * z]? else s[m]? := fun m => by
    rw [rowF, hA, hB, cpy_at (by rw [hy, hs]; exact h3), hy]
  rw [hA]
  refine ⟨by rw [hlen, hs], fun m hm u k hu hbu hk hmu => ?_, fun m hm => by rw [hat, if_neg hm]⟩
  rw [hat, if_pos hm, List.getElem?_take_of_lt (by omega), List.getElem?_drop]
  obtain ⟨U, hU⟩ : ∃ U, (plc Dt (addL St u)).toNat = U := ⟨_, rfl⟩
  rw [hU] at hmu
  have hIu := ht.ins hu hbu
  have hpu := plc_in hIu
  have hUA : A ≤ U := by
    rcases Nat.lt_or_ge U A with h | h
    · have := Nat.mul_le_mul_right z (show U + 1 ≤ A by omega)
      rw [Nat.add_mul, Nat.one_mul] at this
      omega
    · exact h
  have hUn : U < A + lenX X := by
    rcases Nat.lt_or_ge U (A + lenX X) with h | h
    · exact h
    · have := Nat.mul_le_mul_right z h
      rw [Nat.add_mul] at this
      omega
  obtain ⟨v, hv1, hv2, hv3⟩ := row_tup ht.x hX0 hp hb (show U - A < lenX X by omega)
  have e1 := hv3 Dt St ht.d ht.s
  have huv : u = v := by
    refine addL_inj (S := St) (by rw [hu, ht.s]) (by rw [hv1, ht.s]) (plc_inj hIu (ht.ins hv1 hv2) ?_)
    rw [e1, eA]; omega
  have e2 := hv3 Df Sf hf.d hf.s
  rw [huv, e2, eB, show ((B : Int) + ((U - A : Nat) : Int)).toNat = B + (U - A) by omega]
  have e3 : U * z = A * z + (U - A) * z := by rw [← Nat.add_mul]; congr 1; omega
  congr 1
  rw [Nat.add_mul]
  omega
theorem inB_zero {X u : List Int} {r : Nat} (hx : X.length = r) (hu : u.length = r) (hb : InB X u) : (0 : Int) ∉ X := fun h => by
  obtain ⟨i, hi⟩ := List.getElem?_of_mem h
  have hl := (List.getElem?_eq_some_iff.1 hi).1
  have := hb i _ 0 (List.getElem?_eq_getElem (by rw [hu, ← hx]; exact hl)) hi
  omega
/-- What becomes of the bytes by a box. -/
theorem box_wr {Dt St Df Sf x X s : List Int} {r z sl : Nat} (ht : BoxIn Dt St X r) (hf : BoxIn Df Sf X r) (hs : s.length = sl) (hsl : (sl : Int) = prd Dt * z) (hx : (x.length : Int) = prd Df * z) (hz : 1 ≤ z) :
    Wr (Vx Dt St Df Sf x X r z) s (boxB Dt St Df Sf x z X s) (fun m => ∃ u k, u.length = r ∧ InB X u ∧ k < z ∧ m = (plc Dt (addL St u)).toNat * z + k) := by
  have hX0 := ht.xnn
  unfold boxB boxF
  split
  · rename_i h0
    exact (Wr.nil _ s).iff (fun m => ⟨fun h => h.elim, fun ⟨u, k, h1, h2, _⟩ => inB_zero ht.x h1 h2 h0⟩)
  · rename_i h0
    rw [ht.x]
    have hbl : ((bsX X).length + 1 = r ∨ (bsX X = [] ∧ r = 0)) := by
      rcases Nat.eq_zero_or_pos r with h9 | h9
      · right
        have hx' : X = [] := List.eq_nil_of_length_eq_zero (by rw [ht.x]; exact h9)
        exact ⟨by rw [hx']; rfl, h9⟩
      · left
        rw [bsX, List.length_map, List.length_dropLast, ht.x]; omega
    have hba : ∀ (i : Nat) b, (bsX X)[i]? = some b → X[i]? = some (b : Int) := fun i b hb9 => by
      rw [bsX, List.getElem?_map, Option.map_eq_some_iff] at hb9
      obtain ⟨y, hy, rfl⟩ := hb9
      rw [List.getElem?_dropLast] at hy
      split at hy
      · rw [hy]
        have := hX0 y (List.mem_of_getElem? hy)
        congr 1
        omega
      · cases hy
    have hdg : ∀ q, Dg (bsX X) q → (q.length + 1 = r ∨ (q = [] ∧ r = 0)) ∧ InB X q := fun q hq => by
      refine ⟨?_, fun i a y ha hy => ?_⟩
      · rcases hbl with h | ⟨h1, h2⟩
        · left; rw [hq.1]; exact h
        · right; exact ⟨List.eq_nil_of_length_eq_zero (by rw [hq.1, h1]; rfl), h2⟩
      · have hi : i < (bsX X).length := by rw [← hq.1]; exact (List.getElem?_eq_some_iff.1 ha).1
        have h1 := hba i _ (List.getElem?_eq_getElem hi)
        rw [hy] at h1
        have h2 := Option.some.inj h1
        have h3 := hq.2 i a _ ha (List.getElem?_eq_getElem hi)
        omega
    have key := Wr.walk (V := Vx Dt St Df Sf x X r z) (f := rowF Dt St Df Sf x z (lenX X) r) (P := fun p m => (plc Dt (addL St (tpl r p))).toNat * z ≤ m ∧ m < (plc Dt (addL St (tpl r p))).toNat * z + lenX X * z) (sl := sl) (bsX X) [] s hs (fun q hq s' hs' => by
      rw [List.nil_append]
      exact row_wr ht hf hs' hsl hx hz h0 (hdg q hq).1 (hdg q hq).2)
    refine key.iff (fun m => ⟨fun ⟨q, hq, hm⟩ => ?_, fun ⟨u, k, hu, hbu, hk, hm⟩ => ?_⟩)
    · rw [List.nil_append] at hm
      obtain ⟨hq1, hq2⟩ := hdg q hq
      obtain ⟨i1, a1, a2, _⟩ := row_in ht hq1 hq2 h0 hX0
      obtain ⟨A, hA⟩ : ∃ A, (plc Dt (addL St (tpl r q))).toNat = A := ⟨_, rfl⟩
      rw [hA] at hm
      have hj : (m - A * z) / z < lenX X := (Nat.div_lt_iff_lt_mul (by omega)).2 (by omega)
      have hdm := Nat.div_add_mod (m - A * z) z
      rw [Nat.mul_comm] at hdm
      obtain ⟨j, hjj⟩ : ∃ j, (m - A * z) / z = j := ⟨_, rfl⟩
      rw [hjj] at hj hdm
      obtain ⟨v, hv1, hv2, hv3⟩ := row_tup ht.x hX0 hq1 hq2 hj
      refine ⟨v, (m - A * z) % z, hv1, hv2, Nat.mod_lt _ (by omega), ?_⟩
      have e9 : (plc Dt (addL St v)).toNat = A + j := by rw [hv3 Dt St ht.d ht.s]; omega
      rw [e9, Nat.add_mul]
      omega
    · refine ⟨u.take (bsX X).length, ⟨?_, fun i a b ha hb => ?_⟩, ?_⟩
      · rw [List.length_take]
        rcases hbl with h | ⟨h1, h2⟩
        · omega
        · rw [h1]; simp
      · rw [List.getElem?_take_of_lt (List.getElem?_eq_some_iff.1 hb).1] at ha
        exact hbu i a _ ha (hba i b hb)
      · rw [List.nil_append]
        have hq1 : (u.take (bsX X).length).length + 1 = r ∨ (u.take (bsX X).length = [] ∧ r = 0) := by
          rcases hbl with h | ⟨h1, h2⟩
          · left; rw [List.length_take]; omega
          · right; exact ⟨by rw [h1]; simp, h2⟩
        have hq2 : InB X (u.take (bsX X).length) := fun i a y ha hy => by
          have hi : i < (bsX X).length := by
            have := (List.getElem?_eq_some_iff.1 ha).1
            rw [List.length_take] at this; omega
          rw [List.getElem?_take_of_lt hi] at ha
          exact hbu i a y ha hy
        obtain ⟨i1, a1, a2, _⟩ := row_in ht hq1 hq2 h0 hX0
        obtain ⟨A, hA⟩ : ∃ A, (plc Dt (addL St (tpl r (u.take (bsX X).length)))).toNat = A := ⟨_, rfl⟩
        have hj : ∃ j, j < lenX X ∧ plc Dt (addL St u) = plc Dt (addL St (tpl r (u.take (bsX X).length))) + (j : Int) := by
          rcases hq1 with h | ⟨h1, h2⟩
          · have hl := lenX_at ht.x h hX0
            have hbn : (bsX X).length + 1 = r := by
              rw [List.length_take] at h
              rcases hbl with h' | ⟨h1', h2'⟩
              · exact h'
              · rw [h1'] at h; simp at h; omega
            have hp' : (u.take (bsX X).length).length = (bsX X).length := by rw [List.length_take]; omega
            have hn : (bsX X).length < u.length := by omega
            have hb1 := hbu (bsX X).length _ _ (List.getElem?_eq_getElem hn) (by rw [hp'] at hl; exact hl)
            refine ⟨(u[(bsX X).length]'hn).toNat, by omega, ?_⟩
            have hu2 : u = u.take (bsX X).length ++ [u[(bsX X).length]'hn] := by
              have h8 := List.take_append_drop (bsX X).length u
              rw [List.drop_eq_getElem_cons hn, List.drop_of_length_le (by omega)] at h8
              exact h8.symm
            rw [tpl_at h, show ((u[(bsX X).length]'hn).toNat : Int) = u[(bsX X).length]'hn by omega, ← plc_row ht.d ht.s h, ← hu2]
          · subst h2
            have hu0 : u = [] := List.eq_nil_of_length_eq_zero hu
            have hX : X = [] := List.eq_nil_of_length_eq_zero ht.x
            subst hu0 hX
            exact ⟨0, by decide, by simp [tpl]⟩
        obtain ⟨j, hj1, hj2⟩ := hj
        rw [hA, hm, hj2, show (plc Dt (addL St (tpl r (u.take (bsX X).length))) + (j : Int)).toNat = A + j by omega]
        have h5 := Nat.mul_le_mul_right z (show j + 1 ≤ lenX X by omega)
        rw [Nat.add_mul, Nat.one_mul] at h5
        rw [Nat.add_mul]
        exact ⟨by omega, by omega⟩
end Go.Proofs.Ytneegijbbbebkaa
