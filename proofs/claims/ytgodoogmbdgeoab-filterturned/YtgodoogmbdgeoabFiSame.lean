/-
  A row of filters of the call's own; append of filters; where two slices read as the same filters. Conditions: lengths are such as memory bears.
-/
import Derived.Test.YtgodoogmbdgeoabFiMem
import Derived.Laws.AppendOwnNone
import Derived.Shelf.SlicesE.Kit
import Derived.Laws.StructEq
import Derived.BigQuiet
namespace Go.Proofs.Ytgodoogmbdgeoab
open Go.RowKit
set_option linter.unusedVariables false
set_option maxRecDepth 100000

theorem fcells_append (a b : List Fil) : fcells (a ++ b) = fcells a ++ fcells b := by simp [fcells]
/-- A row of the call's own, from block B on, of extents of a type. -/
def OwnF (w : World) (B : Nat) (T : TypeId) (v : Value) (l : List Fil) : Prop := w.ownsRow B T 2 v l.length (fcells l)
theorem OwnF.nil (w : World) (B : Nat) (T : TypeId) : OwnF w B T (.slice none 0 0) [] := World.ownsRow_nil _ _ _ _
theorem OwnF.empty (w : World) (B : Nat) (T : TypeId) (hB : B ≤ w.heap.size) : OwnF (w.alloc (.cells #[] T)) B T (.slice (some ⟨w.heap.size, 0, none⟩) 0 0) [] :=
  World.ownsRow_made w #[] 0 hB (Nat.zero_le _) rfl
theorem OwnF.fls {w : World} {B : Nat} {T : TypeId} {v : Value} {l : List Fil} (h : OwnF w B T v l) : Fls w v l := by
  have h' : w.ownsRow B T 2 v l.length (fcells l) := h
  obtain ⟨_, ⟨rfl, h0⟩ | ⟨g, cap, cur, rfl, hB, hg, hle, hm, hs, ht⟩⟩ := h
  · obtain rfl : l = [] := List.eq_nil_of_length_eq_zero h0
    exact Fls.nil _
  · refine ⟨some ⟨g, 0, none⟩, cap, rfl, hle, (fun h => by cases h), ?_⟩
    intro ad ha j u hj
    obtain rfl := Option.some.inj ha
    exact World.ownsRow.cells h' (g := g) rfl j u hj
theorem OwnF.mono {w : World} {B B' : Nat} {T : TypeId} {v : Value} {l : List Fil} (h : OwnF w B T v l) (hB : B' ≤ B) : OwnF w B' T v l := by
  obtain ⟨h1, h2 | ⟨g, cap, cur, rfl, hg, r⟩⟩ := h
  · exact ⟨h1, .inl h2⟩
  · exact ⟨h1, .inr ⟨g, cap, cur, rfl, Nat.le_trans hB hg, r⟩⟩
theorem OwnF.below {w w' : World} {B : Nat} {T : TypeId} {v : Value} {l : List Fil} (h : OwnF w B T v l) (hb : Below w.heap.size w w') : OwnF w' B T v l := by
  have h' : w.ownsRow B T 2 v l.length (fcells l) := h
  obtain ⟨h1, h2 | ⟨g, cap, cur, rfl, hB, hg, r⟩⟩ := h
  · exact ⟨h1, .inl h2⟩
  · exact ⟨h1, .inr ⟨g, cap, cur, rfl, hB, (hb.block g (h'.lt g rfl).2).trans hg, r⟩⟩
/-- Its shape. -/
theorem OwnF.shape {w : World} {B : Nat} {T : TypeId} {v : Value} {l : List Fil} (h : OwnF w B T v l) : ∃ ao cap, v = .slice ao l.length cap ∧ l.length ≤ cap ∧ cap ≤ maxLen ∧
    ((ao = none ∧ l = [] ∧ cap = 0) ∨ ∃ g, ao = some ⟨g, 0, none⟩ ∧ B ≤ g ∧ g < w.heap.size ∧ ∀ j, w.frozen? ⟨g, j, none⟩ = false) := by
  have h' : w.ownsRow B T 2 v l.length (fcells l) := h
  obtain ⟨_, ⟨rfl, h0⟩ | ⟨g, cap, cur, rfl, hB, hg, hle, hm, hs, ht⟩⟩ := h
  · obtain rfl : l = [] := List.eq_nil_of_length_eq_zero h0
    exact ⟨none, 0, rfl, Nat.le_refl _, Nat.zero_le _, .inl ⟨rfl, rfl, rfl⟩⟩
  · exact ⟨_, _, rfl, hle, hm, .inr ⟨g, rfl, hB, (h'.lt g rfl).2, fun j => by simp [World.frozen?, hg]⟩⟩
theorem wpList_append_f {P : Program} (w : World) {ops : Array Oper} {rest : List Oper} {o : Oper} {a : Act} {Q : Exit → Act → World → Prop} (hgd : o.guard = none) (s x : Operand) (t T : TypeId)
    (ho : o.op = .call { callee := .builtin .append, args := #[s, x], argTypes := #[t, t] }) (i : TypeInfo) (ht : P.underlying t = some (.slice T)) (hi : P.info? T = some i) (hz : i.zero = some (.agg #[.int .i64 0, .int .i64 0])) (hsize : i.size = 2) (hby : i.bytes = 16)
    (B : Nat) (v y : Value) (l m : List Fil) (hs : a.eval s = v) (hx : a.eval x = y) (hown : OwnF w B T v l) (hm : Fls w y m) (hbytes : l.length + m.length ≤ 8796093022208) (hB : B ≤ w.heap.size)
    (h : ∀ ao cap w', OwnF w' B T (.slice ao (l.length + m.length) cap) (l ++ m) → w.grownBy w' v.ownBlock → l.length + m.length ≤ cap → (0 < m.length ∨ v ≠ .slice none 0 0 → ∃ g, ao = some ⟨g, 0, none⟩ ∧ B ≤ g ∧ g < w'.heap.size) → wpList P ops Q rest (a.put o.dst (.slice ao (l.length + m.length) cap)) w') :
    wpList P ops Q (o :: rest) a w := by
  have hlen : (l ++ m).length = l.length + m.length := List.length_append
  obtain ⟨ao, cap, rfl, hc, hn, hcell⟩ := hm
  cases ao with
  | none =>
    obtain rfl : cap = 0 := hn rfl
    obtain rfl : m = [] := List.eq_nil_of_length_eq_zero (by omega)
    have hown' := hown
    obtain ⟨ao, cap, rfl, hle, _, hsh⟩ := hown.shape
    refine wpList_append_own_none hgd s x t ho B T i 2 ht hi _ _ _ hs hown (by simpa using hx) ?_
    refine h ao cap w (by simpa using hown') (World.grownBy.refl _ _) (by simpa using hle) (fun hne => ?_)
    rcases hsh with ⟨rfl, rfl, rfl⟩ | ⟨g, rfl, h1, h2, _⟩
    · simp at hne
    · exact ⟨g, rfl, h1, h2⟩
  | some ad =>
    refine wpList_append_own w hgd s x t ho B T i (.agg #[.int .i64 0, .int .i64 0]) 2 16 ht hi hz hsize hby rfl (by decide) v l.length (fcells l) hs hown ad m.length cap (fcells m) hx (by rw [fcells_length])
      (fun j u hj => hcell ad rfl j u hj) (fcells_one m) (by unfold maxLen; omega) (by omega) hB (fun v' w' ho' hg' hnil => ?_)
    have ho2 : OwnF w' B T v' (l ++ m) := by unfold OwnF; rw [hlen, fcells_append]; exact ho'
    obtain ⟨ao', cap', rfl, hle, _, hsh⟩ := ho2.shape
    rw [hlen] at ho2 hle hnil ⊢
    refine h ao' cap' w' ho2 hg' hle (fun hne => ?_)
    rcases hsh with ⟨rfl, h1, rfl⟩ | ⟨g, rfl, h1, h2, _⟩
    · have h0 : l.length + m.length = 0 := by rw [← hlen, h1]; rfl
      obtain ⟨h3, h4⟩ := hnil.1 (by rw [h0])
      rcases hne with h5 | h5
      · omega
      · exact absurd h3 h5
    · exact ⟨g, rfl, h1, h2⟩

theorem eqF_run (a b c d : Int) (w : World) : (binOp .eql 26 (.agg #[.int .i64 a, .int .i64 b]) (.agg #[.int .i64 c, .int .i64 d])).run Try.prog w = .ok (.bool (a == c && b == d)) w := by
  have u3 := Try.underlying3
  have a3 := Try.isAgg3
  have z3 := Try.sizeOf3
  have u4 := Try.underlying24
  have a4 := Try.isAgg24
  have z4 := Try.sizeOf24
  have hS : Try.prog.underlying 26 = some (.struct (Try.prog.fieldsOf 26)) := by kernel_rfl
  have hp : Try.prog.stoodInHeld 26 = false := by kernel_rfl
  rw [run_eql_struct, show (10000 : Nat) = 9999 + 1 from rfl, run_equalIn_agg w 9999 26 _ _ hS hp]
  simp only [Program.fieldsOf, Try.underlying26]
  go_simp
  by_cases h1 : a = c <;> by_cases h2 : b = d <;> simp [h1, h2]
theorem eqF_guard (op : BinOp) (p q : Operand) (x y : Array Value) (w : World) : (eqGuard op 26 p q (.agg x) (.agg y)).run Try.prog w = .ok () w :=
  (GuardAt.agg (P := Try.prog) (T := 26) (fun x : Array Value => x) (by kernel_rfl)) op p q x y w

end Go.Proofs.Ytgodoogmbdgeoab
