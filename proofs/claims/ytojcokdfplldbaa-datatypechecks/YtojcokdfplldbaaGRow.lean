/-
  Rows of elements of k cells each, of the call's own; what is kept of memory. No conditions.
-/
import Derived.Test.YtojcokdfplldbaaProg
import Derived.WalkKit
import Derived.WalkSpells
import Derived.Below
import Derived.Laws.AppendOwn
namespace Go.Proofs.Ytojcokdfplldbaa
open Go.RowKit
set_option linter.unusedVariables false
set_option maxRecDepth 100000

/-- Only blocks of F, and new ones, have turned. -/
structure Kp (F : Nat → Prop) (w w' : World) : Prop where
  os : w'.os = w.os
  tape : w'.tape = w.tape
  output : w'.output = w.output
  size : w.heap.size ≤ w'.heap.size
  block : ∀ x, x < w.heap.size → ¬ F x → w'.heap[x]? = w.heap[x]?
theorem Kp.refl (F : Nat → Prop) (w : World) : Kp F w w := ⟨rfl, rfl, rfl, Nat.le_refl _, fun _ _ _ => rfl⟩
theorem Kp.of {F : Nat → Prop} {w w' : World} (h : Below w.heap.size w w') : Kp F w w' := ⟨h.os, h.tape, h.output, h.size, fun x hx _ => h.block x hx⟩
theorem Kp.trans {F G : Nat → Prop} {w w' w'' : World} (h : Kp F w w') (k : Kp G w' w'') (hg : ∀ x, x < w.heap.size → G x → F x) : Kp F w w'' :=
  ⟨k.os.trans h.os, k.tape.trans h.tape, k.output.trans h.output, Nat.le_trans h.size k.size, fun x hx hf => (k.block x (Nat.lt_of_lt_of_le hx h.size) (fun e => hf (hg x hx e))).trans (h.block x hx hf)⟩
theorem Kp.below {F : Nat → Prop} {w w' : World} {B : Nat} (h : Kp F w w') (hB : B ≤ w.heap.size) (hF : ∀ x, F x → B ≤ x) : Below B w w' :=
  ⟨h.os, h.tape, h.output, h.size, fun x hx => h.block x (Nat.lt_of_lt_of_le hx hB) (fun e => by have := hF x e; omega)⟩
theorem Kp.cell {F : Nat → Prop} {w w' : World} (h : Kp F w w') {a : Addr} {u : Value} (hc : w.cell? a = some u) (hF : ¬ F a.block) : w'.cell? a = some u :=
  (World.cell?_of_block (h.block _ (World.block_lt_of_cell? w _ hc) hF)).trans hc
theorem Kp.mono {F G : Nat → Prop} {w w' : World} (h : Kp F w w') (hg : ∀ x, x < w.heap.size → F x → G x) : Kp G w w' :=
  ⟨h.os, h.tape, h.output, h.size, fun x hx hf => h.block x hx (fun e => hf (hg x hx e))⟩
theorem Kp.grown {F : Nat → Prop} {w w' w'' : World} {r : Option Nat} (h : Kp F w w') (k : w'.grownBy w'' r) (hr : ∀ x, x < w.heap.size → r = some x → F x) : Kp F w w'' :=
  ⟨k.os.trans h.os, k.tape.trans h.tape, k.output.trans h.output, Nat.le_trans h.size k.size, fun x hx hf => (k.block x (Nat.lt_of_lt_of_le hx h.size) (fun e => hf (hr x hx e.symm))).trans (h.block x hx hf)⟩
theorem Kp.setCell {F : Nat → Prop} {w w' : World} (h : Kp F w w') {a : Addr} (u : Value) (ha : a.block < w.heap.size → F a.block) : Kp F w (w'.setCell a u) :=
  ⟨h.os, h.tape, h.output, Nat.le_trans h.size (by simp [World.setCell]), fun x hx hf => (Below.heap_setCell _ _ _ _ (fun e => hf (by rw [e]; exact ha (by rw [← e]; exact hx)))).trans (h.block x hx hf)⟩
theorem Kp.alloc {F : Nat → Prop} {w w' : World} (h : Kp F w w') (o : Obj) : Kp F w (w'.alloc o) :=
  h.grown (World.grownBy_alloc w' o none) (fun _ _ e => by cases e)
theorem Kp.drew {F : Nat → Prop} {w w' : World} (h : Kp F w w') : Kp F w w'.drew := ⟨h.os, h.tape, h.output, h.size, h.block⟩

section
variable {α : Type} (enc : α → List Value)
/-- The cells of a list of elements. -/
def gc (l : List α) : List Value := l.flatMap enc
theorem gc_nil : gc enc [] = [] := rfl
theorem gc_append (a b : List α) : gc enc (a ++ b) = gc enc a ++ gc enc b := by simp [gc]
theorem gc_one (x : α) : gc enc [x] = enc x := by simp [gc]
variable {enc} {k : Nat} (hk : ∀ x, (enc x).length = k)
include hk
theorem gc_length (l : List α) : (gc enc l).length = l.length * k := by
  induction l with
  | nil => simp [gc]
  | cons x l ih =>
    have h1 : gc enc (x :: l) = enc x ++ gc enc l := by simp [gc]
    rw [h1, List.length_append, ih, hk, List.length_cons, Nat.succ_mul, Nat.add_comm]
theorem gc_at : ∀ (l : List α) (i : Nat) (x : α), l[i]? = some x → ∀ j u, (enc x)[j]? = some u → (gc enc l)[i * k + j]? = some u
  | [], i, x, h, _, _, _ => by simp at h
  | y :: l, 0, x, h, j, u, hu => by
    obtain rfl : y = x := by simpa using h
    have h1 : gc enc (y :: l) = enc y ++ gc enc l := by simp [gc]
    rw [h1, Nat.zero_mul, Nat.zero_add, List.getElem?_append_left (List.getElem?_eq_some_iff.1 hu).1]
    exact hu
  | y :: l, i + 1, x, h, j, u, hu => by
    have h1 : gc enc (y :: l) = enc y ++ gc enc l := by simp [gc]
    have h2 : (i + 1) * k + j = (enc y).length + (i * k + j) := by rw [hk, Nat.succ_mul]; omega
    rw [h1, h2, List.getElem?_append_right (by omega), Nat.add_sub_cancel_left]
    exact gc_at l i x (by simpa using h) j u hu
theorem gc_take (l : List α) (n : Nat) : (gc enc l).take (n * k) = gc enc (l.take n) := by
  induction l generalizing n with
  | nil => simp [gc]
  | cons x l ih =>
    cases n with
    | zero => simp [gc]
    | succ n =>
      have h1 : gc enc (x :: l) = enc x ++ gc enc l := by simp [gc]
      have h2 : gc enc ((x :: l).take (n + 1)) = enc x ++ gc enc (l.take n) := by simp [gc]
      rw [h1, h2, ← ih n, show (n + 1) * k = (enc x).length + n * k by rw [hk, Nat.succ_mul]; omega, List.take_length_add_append]
end
theorem gc_set2 {α : Type} {enc : α → List Value} (hk : ∀ x, (enc x).length = 2) : ∀ (l : List α) (i : Nat) (x : α) (a b : Value), i < l.length → enc x = [a, b] → gc enc (l.set i x) = ((gc enc l).set (i * 2) a).set (i * 2 + 1) b
  | [], i, x, a, b, h, _ => by simp at h
  | y :: l, 0, x, a, b, h, he => by
    have h1 : gc enc (y :: l) = enc y ++ gc enc l := by simp [gc]
    have h2 : gc enc ((y :: l).set 0 x) = enc x ++ gc enc l := by simp [gc]
    obtain ⟨p, q, hy⟩ : ∃ p q, enc y = [p, q] := by
      match h3 : enc y, hk y with
      | [p, q], _ => exact ⟨p, q, rfl⟩
    rw [h1, h2, he, hy]
    simp
  | y :: l, i + 1, x, a, b, h, he => by
    have ih := gc_set2 hk l i x a b (by simpa using h) he
    obtain ⟨p, q, hy⟩ : ∃ p q, enc y = [p, q] := by
      match h3 : enc y, hk y with
      | [p, q], _ => exact ⟨p, q, rfl⟩
    have h1 : gc enc (y :: l) = p :: q :: gc enc l := by simp [gc, hy]
    have h2 : gc enc ((y :: l).set (i + 1) x) = p :: q :: gc enc (l.set i x) := by simp [gc, hy]
    rw [h1, h2, ih, show (i + 1) * 2 = i * 2 + 1 + 1 by omega]
    simp

theorem addG (g o i : Nat) : (⟨g, o, none⟩ : Addr).add i = ⟨g, o + i, none⟩ := by unfold Addr.add; split <;> simp_all
/-- The shape of a row of one's own. -/
theorem ownsRow_shape {w : World} {B k n : Nat} {T : TypeId} {v : Value} {xs : List Value} (h : w.ownsRow B T k v n xs) : (v = .slice none 0 0 ∧ n = 0) ∨ ∃ g cap, v = .slice (some ⟨g, 0, none⟩) n cap ∧ B ≤ g ∧ g < w.heap.size ∧ n ≤ cap ∧ cap ≤ maxLen ∧ (∀ j, w.frozen? ⟨g, j, none⟩ = false) ∧ ∀ j u, xs[j]? = some u → w.cell? ⟨g, j, none⟩ = some u := by
  have h' := h
  obtain ⟨_, ⟨rfl, h0⟩ | ⟨g, cap, cur, rfl, hB, hg, hle, hm, hs, ht⟩⟩ := h
  · exact .inl ⟨rfl, h0⟩
  · refine .inr ⟨g, cap, rfl, hB, (h'.lt g rfl).2, hle, hm, fun j => by simp [World.frozen?, hg], fun j u hu => ?_⟩
    have := World.ownsRow.cells h' (g := g) rfl j u hu
    rw [addG, Nat.zero_add] at this
    exact this
theorem ownsRow_setCell {w : World} {B k n g cap : Nat} {T : TypeId} {xs : List Value} (h : w.ownsRow B T k (.slice (some ⟨g, 0, none⟩) n cap) n xs) (j : Nat) (u : Value) : (w.setCell ⟨g, j, none⟩ u).ownsRow B T k (.slice (some ⟨g, 0, none⟩) n cap) n (xs.set j u) := by
  obtain ⟨h1, ⟨h2, _⟩ | ⟨g', cap', cur, hv, hB, hg, hle, hmm, hs, ht⟩⟩ := h
  · cases h2
  · injection hv with e1 e2 e3
    obtain rfl : g = g' := by simpa using e1
    subst e3
    have hset := heap_setCell_same w g j _ _ u hg
    refine ⟨by simpa using h1, .inr ⟨g, cap, _, rfl, hB, hset, by omega, hmm, by simpa using hs, ?_⟩⟩
    rw [← ht, Array.toList_setIfInBounds, List.take_set]
theorem ownsRow_take {w : World} {B k n m g cap : Nat} {T : TypeId} {xs : List Value} (h : w.ownsRow B T k (.slice (some ⟨g, 0, none⟩) n cap) n xs) (hm : m ≤ n) : w.ownsRow B T k (.slice (some ⟨g, 0, none⟩) m cap) m (xs.take (m * k)) := by
  obtain ⟨h1, ⟨h2, _⟩ | ⟨g', cap', cur, hv, hB, hg, hle, hmm, hs, ht⟩⟩ := h
  · cases h2
  · injection hv with e1 e2 e3
    obtain rfl : g = g' := by simpa using e1
    subst e3
    have hmk : m * k ≤ n * k := Nat.mul_le_mul_right _ hm
    refine ⟨by rw [List.length_take, h1]; omega, .inr ⟨g, cap, cur, rfl, hB, hg, by omega, hmm, hs, ?_⟩⟩
    rw [← ht, List.take_take, Nat.min_eq_left hmk]
theorem ownsRow_below {w w' : World} {B k n : Nat} {T : TypeId} {v : Value} {xs : List Value} (h : w.ownsRow B T k v n xs) (hb : Below w.heap.size w w') : w'.ownsRow B T k v n xs := by
  have h' := h
  obtain ⟨h1, h2 | ⟨g, cap, cur, rfl, hB, hg, r⟩⟩ := h
  · exact ⟨h1, .inl h2⟩
  · exact ⟨h1, .inr ⟨g, cap, cur, rfl, hB, (hb.block g (h'.lt g rfl).2).trans hg, r⟩⟩
theorem ownsRow_kp {w w' : World} {B k n : Nat} {T : TypeId} {v : Value} {xs : List Value} (h : w.ownsRow B T k v n xs) {F : Nat → Prop} (hb : Kp F w w') (hF : ∀ g, v.ownBlock = some g → ¬ F g) : w'.ownsRow B T k v n xs := by
  have h' := h
  obtain ⟨h1, h2 | ⟨g, cap, cur, rfl, hB, hg, r⟩⟩ := h
  · exact ⟨h1, .inl h2⟩
  · exact ⟨h1, .inr ⟨g, cap, cur, rfl, hB, (hb.block g (h'.lt g rfl).2 (hF g rfl)).trans hg, r⟩⟩
end Go.Proofs.Ytojcokdfplldbaa
