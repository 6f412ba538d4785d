/-
  append on rows of extents; the sort of a row of extents; the walk of inOrder. Conditions: the numbers are ints, the list's length is one that memory bears.
-/
import Derived.Test.YtdalkjenjnalbaaDoorXSort
namespace Go.Proofs.YtdalkjenjnalbaaDoor
open Go.RowKit Go.Sort Go.Shelf Go.Lib
set_option linter.unusedVariables false
set_option maxRecDepth 100000

theorem Tryd.infoX : (Tryd.prog.info? 49).map (fun i => (i.zero, i.size, i.bytes)) = some (some (.agg #[.int .i64 0, .int .i64 0]), 2, 16) := by kernel_rfl
/-- One extent in a block of its own. -/
theorem Xs.one (w : World) (x : Ext) (T : TypeId) : Xs (w.alloc (.cells #[.int .i64 x.1, .int .i64 x.2] T)) (.slice (some ⟨w.heap.size, 0, none⟩) 1 1) [x] := by
  have h := cells_pairX (heap_alloc_new w (.cells #[.int .i64 x.1, .int .i64 x.2] T))
  refine ⟨some ⟨w.heap.size, 0, none⟩, 1, rfl, Nat.le_refl _, (fun h => by cases h), fun ad ha j u hj => ?_⟩
  obtain rfl := Option.some.inj ha
  rw [addr_addX, Nat.zero_add]
  rw [ecells_one] at hj
  match j, hj with
  | 0, hj => simp at hj; subst hj; exact h.1
  | 1, hj => simp at hj; subst hj; exact h.2

theorem Xs.oneAt (w : World) (g : Nat) (x : Ext) (T : TypeId) (hg : g = w.heap.size) : Xs (w.alloc (.cells #[.int .i64 x.1, .int .i64 x.2] T)) (.slice (some ⟨g, 0, none⟩) 1 1) [x] := by
  subst hg; exact Xs.one w x T

/-- 'append(s, x...)' on a row of the call's own. -/
theorem wpList_append_x {P : Program} (w : World) {ops : Array Oper} {rest : List Oper} {o : Oper} {a : Act} {Q : Exit → Act → World → Prop} (hgd : o.guard = none) (s x : Operand) (t T : TypeId)
    (ho : o.op = .call { callee := .builtin .append, args := #[s, x], argTypes := #[t, t] }) (i : TypeInfo) (ht : P.underlying t = some (.slice T)) (hi : P.info? T = some i) (hz : i.zero = some (.agg #[.int .i64 0, .int .i64 0])) (hsize : i.size = 2) (hby : i.bytes = 16)
    (B : Nat) (v y : Value) (l m : List Ext) (hs : a.eval s = v) (hx : a.eval x = y) (hown : OwnX w B T v l) (hm : Xs w y m) (hbytes : l.length + m.length ≤ 8796093022208) (hB : B ≤ w.heap.size)
    (h : ∀ ao cap w', OwnX w' B T (.slice ao (l.length + m.length) cap) (l ++ m) → w.grownBy w' v.ownBlock → l.length + m.length ≤ cap → (0 < m.length ∨ v ≠ .slice none 0 0 → ∃ g, ao = some ⟨g, 0, none⟩ ∧ B ≤ g ∧ g < w'.heap.size) → wpList P ops Q rest (a.put o.dst (.slice ao (l.length + m.length) cap)) w') :
    wpList P ops Q (o :: rest) a w := by
  have hlen : (l ++ m).length = l.length + m.length := List.length_append
  obtain ⟨ao, cap, rfl, hc, hn, hcell⟩ := hm
  cases ao with
  | none =>
    obtain rfl : cap = 0 := hn rfl
    obtain rfl : m = [] := List.eq_nil_of_length_eq_zero (by omega)
    have hown' := hown
    obtain ⟨ao, cap, rfl, hle, _, hsh⟩ := hown.shape
    refine wpList_append_own_none hgd s x t ho B T i 2 ht hi _ _ _ hs hown (by simpa using hx) ?_
    refine h ao cap w (by simpa using hown') (World.grownBy.refl _ _) (by simpa using hle) (fun hne => ?_)
    rcases hsh with ⟨rfl, rfl, rfl⟩ | ⟨g, rfl, h1, h2, _⟩
    · simp at hne
    · exact ⟨g, rfl, h1, h2⟩
  | some ad =>
    refine wpList_append_own w hgd s x t ho B T i (.agg #[.int .i64 0, .int .i64 0]) 2 16 ht hi hz hsize hby rfl (by decide) v l.length (ecells l) hs hown ad m.length cap (ecells m) hx (by rw [ecells_length])
      (fun j u hj => hcell ad rfl j u hj) (ecells_oneCell m) (by unfold maxLen; omega) (by omega) hB (fun v' w' ho' hg' hnil => ?_)
    have ho2 : OwnX w' B T v' (l ++ m) := by unfold OwnX; rw [hlen, ecells_append]; exact ho'
    obtain ⟨ao', cap', rfl, hle, _, hsh⟩ := ho2.shape
    rw [hlen] at ho2 hle hnil ⊢
    refine h ao' cap' w' ho2 hg' hle (fun hne => ?_)
    rcases hsh with ⟨rfl, h1, rfl⟩ | ⟨g, rfl, h1, h2, _⟩
    · have h0 : l.length + m.length = 0 := by rw [← hlen, h1]; rfl
      obtain ⟨h3, h4⟩ := hnil.1 (by rw [h0])
      rcases hne with h5 | h5
      · omega
      · exact absurd h3 h5
    · exact ⟨g, rfl, h1, h2⟩

/-- slices.SortFunc with the closure of inOrder. -/
theorem sort_any (w : World) (B g cap : Nat) (l : List Ext) (h : OwnX w B 49 (.slice (some ⟨g, 0, none⟩) l.length cap) l) (hl : l.length < 4611686018427387904) :
    Calls Tryd.prog 67 #[.slice (some ⟨g, 0, none⟩) l.length cap, .func (.func 68) #[] #[]] w fun e w' =>
      e = .returned (.tuple #[]) ∧ ∃ m : List Ext, m.Perm l ∧ InOrd m ∧ OwnX w' B 49 (.slice (some ⟨g, 0, none⟩) l.length cap) m ∧ w.grownBy w' (some g) := by
  have eg : ∀ args w, (callFunc 68 args).run Tryd.prog w = .ok (.enter 68 args) w := enters_of Tryd.func68 (by kernel_rfl) rfl
  have hcmp : CmpLays Tryd.prog 68 #[] encE 2 cmpE g 0 l.toArray.size w := fun m os dk hs x y => closure_any x y _
  have hcon := AnyQ.slices_SortFunc Tryd.sortX 2 Tryd.isAgg49 Tryd.sizeOf49 encE (fun _ => rfl) (fun x v hv => by simp [encE] at hv; rcases hv with rfl | rfl <;> rfl) cmpE swoE 68 #[] g 0 cap l.toArray w eg hcmp h.holds
    ((h.lt g rfl).2) (by simpa using hl)
  change Calls Tryd.prog 67 _ _ _ at hcon
  have e1 : l.toArray.size = l.length := by simp
  rw [e1] at hcon
  refine hcon.mono ?_
  rintro e w' ⟨rfl, d', n, os, hp, hs, rfl⟩
  obtain ⟨h1, h2⟩ := perm_list (l := l) (by rw [e1]; exact hp)
  refine ⟨rfl, d'.toList, h1, sorted_list h2 hs, ?_, ?_⟩
  · exact h.sorted (m := d'.toList) (by simpa using h2) n os
  · exact grown_sorted (w := w) (g := g) d'.toList n os

end Go.Proofs.YtdalkjenjnalbaaDoor
