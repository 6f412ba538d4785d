/-
  Pieces of memory that lie apart: objects and rows; what a step that turns one of them leaves. No conditions.
-/
import Derived.Test.YtnikbcljonbpcaaGCopy
namespace Go.Proofs.Ytnikbcljonbpcaa
open Go.RowKit
set_option linter.unusedVariables false
set_option maxRecDepth 100000

inductive Pc
  | obj (g : Nat) (a : Array Value) (T : TypeId)
  | row (T : TypeId) (k : Nat) (v : Value) (n : Nat) (xs : List Value)
/-- A piece of memory: an object, or a row. -/
def Pc.At (w : World) (B : Nat) : Pc → Prop
  | .obj g a T => w.heap[g]? = some (.cells a T (0, 0)) ∧ B ≤ g
  | .row T k v n xs => w.ownsRow B T k v n xs
def Pc.blk : Pc → List Nat
  | .obj g _ _ => [g]
  | .row _ _ v _ _ => v.ownBlock.toList
structure Sep (w : World) (B : Nat) (ps : List Pc) : Prop where
  at_ : ∀ p ∈ ps, p.At w B
  nd : (ps.flatMap Pc.blk).Nodup
theorem Pc.At.lt {w : World} {B : Nat} {p : Pc} (h : p.At w B) {x : Nat} (hx : x ∈ p.blk) : B ≤ x ∧ x < w.heap.size := by
  cases p with
  | obj g a T =>
    simp only [Pc.blk, List.mem_singleton] at hx
    subst hx
    exact ⟨h.2, (Array.getElem?_eq_some_iff.1 h.1).1⟩
  | row T k v n xs =>
    simp only [Pc.blk, Option.mem_toList] at hx
    exact World.ownsRow.lt h x hx
theorem Pc.At.keep {w w' : World} {B : Nat} {p : Pc} (h : p.At w B) (hb : ∀ x ∈ p.blk, w'.heap[x]? = w.heap[x]?) : p.At w' B := by
  cases p with
  | obj g a T => exact ⟨(hb g (by simp [Pc.blk])).trans h.1, h.2⟩
  | row T k v n xs =>
    obtain ⟨h1, h2 | ⟨g, cap, cur, rfl, hB, hg, r⟩⟩ := h
    · exact ⟨h1, .inl h2⟩
    · exact ⟨h1, .inr ⟨g, cap, cur, rfl, hB, (hb g (by simp [Pc.blk, Value.ownBlock])).trans hg, r⟩⟩
theorem Sep.lt {w : World} {B : Nat} {ps : List Pc} (h : Sep w B ps) {x : Nat} (hx : x ∈ ps.flatMap Pc.blk) : B ≤ x ∧ x < w.heap.size := by
  obtain ⟨p, hp, hx⟩ := List.mem_flatMap.1 hx
  exact (h.at_ p hp).lt hx
theorem Sep.below {w w' : World} {B : Nat} {ps : List Pc} (h : Sep w B ps) (hb : Below w.heap.size w w') : Sep w' B ps :=
  ⟨fun p hp => (h.at_ p hp).keep (fun x hx => hb.block x ((h.at_ p hp).lt hx).2), h.nd⟩
theorem Sep.perm {w : World} {B : Nat} {ps qs : List Pc} (h : Sep w B ps) (hp : List.Perm ps qs) : Sep w B qs :=
  ⟨fun p hq => h.at_ p (hp.mem_iff.2 hq), (hp.flatMap_right Pc.blk).nodup_iff.1 h.nd⟩
theorem sub_flatMap {α β : Type} (f : α → List β) {a b : List α} (h : List.Sublist a b) : List.Sublist (a.flatMap f) (b.flatMap f) := by
  induction h with
  | slnil => exact List.Sublist.refl _
  | cons x _ ih => rw [List.flatMap_cons]; exact ih.trans (List.sublist_append_right _ _)
  | cons_cons x _ ih => rw [List.flatMap_cons, List.flatMap_cons]; exact List.Sublist.append (List.Sublist.refl _) ih
theorem Sep.sub {w : World} {B : Nat} {ps qs : List Pc} (h : Sep w B ps) (hp : List.Sublist qs ps) : Sep w B qs :=
  ⟨fun p hq => h.at_ p (hp.subset hq), (sub_flatMap Pc.blk hp).nodup h.nd⟩
theorem Sep.tail {w : World} {B : Nat} {p : Pc} {ps : List Pc} (h : Sep w B (p :: ps)) : Sep w B ps := h.sub (List.sublist_cons_self _ _)
/-- A step that turns the first pieces' blocks alone, and lays new ones. -/
theorem Sep.step {w w' : World} {B : Nat} {X X' Y : List Pc} (h : Sep w B (X ++ Y)) (hX' : Sep w' B X')
    (hb : ∀ x, x < w.heap.size → x ∉ X.flatMap Pc.blk → w'.heap[x]? = w.heap[x]?) (hn : ∀ x ∈ X'.flatMap Pc.blk, x ∈ X.flatMap Pc.blk ∨ w.heap.size ≤ x) : Sep w' B (X' ++ Y) := by
  have hnd := h.nd
  rw [List.flatMap_append, List.nodup_append] at hnd
  obtain ⟨n1, n2, n3⟩ := hnd
  refine ⟨fun p hp => ?_, ?_⟩
  · rcases List.mem_append.1 hp with hp | hp
    · exact hX'.at_ p hp
    · refine (h.at_ p (List.mem_append_right _ hp)).keep (fun x hx => hb x ((h.at_ p (List.mem_append_right _ hp)).lt hx).2 (fun e => n3 x e x (List.mem_flatMap.2 ⟨p, hp, hx⟩) rfl))
  · rw [List.flatMap_append, List.nodup_append]
    refine ⟨hX'.nd, n2, fun x hx y hy e => ?_⟩
    subst e
    rcases hn x hx with h1 | h1
    · exact n3 x h1 x hy rfl
    · have := (Sep.lt h (x := x) (by rw [List.flatMap_append]; exact List.mem_append_right _ hy)).2
      omega
theorem Sep.one {w : World} {B : Nat} {p : Pc} (h : p.At w B) : Sep w B [p] := by
  refine ⟨fun q hq => by simp at hq; subst hq; exact h, ?_⟩
  cases p with
  | obj g a T => simp [Pc.blk]
  | row T k v n xs =>
    simp only [Pc.blk, List.flatMap_cons, List.flatMap_nil, List.append_nil]
    cases v.ownBlock <;> simp
theorem Sep.front {w : World} {B : Nat} {X Y : List Pc} {p : Pc} (h : Sep w B (X ++ p :: Y)) : Sep w B (p :: (X ++ Y)) := h.perm List.perm_middle
theorem Sep.back {w : World} {B : Nat} {X Y : List Pc} {p : Pc} (h : Sep w B (p :: (X ++ Y))) : Sep w B (X ++ p :: Y) := h.perm List.perm_middle.symm
/-- One piece turned. -/
theorem Sep.upd {w w' : World} {B : Nat} (X : List Pc) {Y : List Pc} {p p' : Pc} (h : Sep w B (X ++ p :: Y)) (hp' : p'.At w' B)
    (hb : ∀ x, x < w.heap.size → x ∉ p.blk → w'.heap[x]? = w.heap[x]?) (hn : ∀ x ∈ p'.blk, x ∈ p.blk ∨ w.heap.size ≤ x) : Sep w' B (X ++ p' :: Y) := by
  have h1 : Sep w B ([p] ++ (X ++ Y)) := h.front
  exact Sep.back (h1.step (X' := [p']) (Sep.one hp') (by simpa using hb) (by simpa using hn))
/-- An object's cell stored. -/
theorem Sep.store {w : World} {B : Nat} (X : List Pc) {Y : List Pc} {g : Nat} {a : Array Value} {T : TypeId} (h : Sep w B (X ++ .obj g a T :: Y)) (i : Nat) (u : Value) : Sep (w.setCell ⟨g, i, none⟩ u) B (X ++ .obj g (a.setIfInBounds i u) T :: Y) := by
  have h1 := h.at_ (.obj g a T) (by simp)
  refine h.upd X ⟨heap_setCell_same w g i _ _ u h1.1, h1.2⟩ (fun x hx hne => ?_) (fun x hx => .inl hx)
  exact Below.heap_setCell _ _ _ _ (fun e => hne (by simp [Pc.blk]; exact e))
/-- A row's cell stored. -/
theorem Sep.storeRow {w : World} {B : Nat} (X : List Pc) {Y : List Pc} {T : TypeId} {k g n cap : Nat} {xs : List Value} (h : Sep w B (X ++ .row T k (.slice (some ⟨g, 0, none⟩) n cap) n xs :: Y)) (i : Nat) (u : Value) : Sep (w.setCell ⟨g, i, none⟩ u) B (X ++ .row T k (.slice (some ⟨g, 0, none⟩) n cap) n (xs.set i u) :: Y) := by
  have h1 : w.ownsRow _ _ _ _ _ _ := h.at_ (.row T k (.slice (some ⟨g, 0, none⟩) n cap) n xs) (by simp)
  refine h.upd X (p' := .row T k (.slice (some ⟨g, 0, none⟩) n cap) n (xs.set i u)) (ownsRow_setCell h1 i u) (fun x hx hne => ?_) (fun x hx => .inl hx)
  exact Below.heap_setCell _ _ _ _ (fun e => hne (by simp [Pc.blk, Value.ownBlock]; exact e))
/-- A row turned, or laid anew. -/
theorem Sep.turn {w w' : World} {B : Nat} (X : List Pc) {Y : List Pc} {T : TypeId} {k n n' : Nat} {v v' : Value} {xs xs' : List Value} (h : Sep w B (X ++ .row T k v n xs :: Y)) (ho : w'.ownsRow B T k v' n' xs') (hg : w.grownBy w' v.ownBlock) (ha : v'.ownBlock = v.ownBlock ∨ ∀ x, v'.ownBlock = some x → w.heap.size ≤ x) : Sep w' B (X ++ .row T k v' n' xs' :: Y) := by
  refine h.upd X (p' := .row T k v' n' xs') ho (fun x hx hne => hg.block x hx (fun e => hne (by simp [Pc.blk, ← e]))) (fun x hx => ?_)
  rcases ha with e | e
  · left; simp only [Pc.blk] at hx ⊢; rw [← e]; exact hx
  · right; exact e x (by simpa [Pc.blk] using hx)
/-- A new piece. -/
theorem Sep.new {w w' : World} {B : Nat} {ps : List Pc} {p : Pc} (h : Sep w B ps) (hb : Below w.heap.size w w') (hp : p.At w' B) (hn : ∀ x ∈ p.blk, w.heap.size ≤ x) : Sep w' B (p :: ps) :=
  Sep.step (X := []) (X' := [p]) h (Sep.one hp) (fun x hx _ => hb.block x hx) (by simpa using hn)
theorem Sep.nil {w : World} {B : Nat} {ps : List Pc} (h : Sep w B ps) (T : TypeId) (k : Nat) : Sep w B (.row T k (.slice none 0 0) 0 [] :: ps) :=
  h.new (w' := w) (Below.refl _ _) (World.ownsRow_nil w B T k) (by simp [Pc.blk, Value.ownBlock])
theorem Sep.setBelow {w w0 : World} {B : Nat} {X Y : List Pc} {g : Nat} {a : Array Value} {T : TypeId} (h : Sep w B (X ++ .obj g a T :: Y)) (hb : Below B w0 w) (i : Nat) (u : Value) : Below B w0 (w.setCell ⟨g, i, none⟩ u) :=
  hb.setCell (h.at_ (.obj g a T) (by simp)).2 _
theorem Sep.obj {w : World} {B : Nat} {ps : List Pc} (h : Sep w B ps) {g : Nat} {a : Array Value} {T : TypeId} (hm : Pc.obj g a T ∈ ps) : w.heap[g]? = some (.cells a T (0, 0)) := (h.at_ _ hm).1
theorem Sep.rw_ {w : World} {B : Nat} {ps : List Pc} (h : Sep w B ps) {T : TypeId} {k n : Nat} {v : Value} {xs : List Value} (hm : Pc.row T k v n xs ∈ ps) : w.ownsRow B T k v n xs := h.at_ _ hm
theorem cellO {w : World} {g : Nat} {a : Array Value} {T : TypeId} (h : w.heap[g]? = some (.cells a T (0, 0))) (i : Nat) {u : Value} (hu : a[i]? = some u) : w.cell? ⟨g, i, none⟩ = some u := by
  rw [cell_of_row w g i a T _ h]; exact hu
theorem frozenO {w : World} {g : Nat} {a : Array Value} {T : TypeId} (h : w.heap[g]? = some (.cells a T (0, 0))) (i : Nat) : w.frozen? ⟨g, i, none⟩ = false := by simp [World.frozen?, h]
end Go.Proofs.Ytnikbcljonbpcaa
