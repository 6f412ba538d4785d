/-
  Walks of the document's functions on bytes (Swap, Digits, Put, Get) and of the law's helpers (lent, kept, spoil). Conditions: lengths within the machine's bounds.
-/
import Derived.Test.YtbhcnpkioamjlaaWalkC
import Derived.Deep.QuietTactic
import Derived.BigQuiet
namespace Go.Proofs.Ytbhcnpkioamjlaa
open Go.RowKit
set_option linter.unusedVariables false
set_option maxRecDepth 100000

/-- A copy with one more byte behind its end. -/
theorem lent_any (v : Value) (l : List Int) (w : World) (hl : Bs w v l) (hb : l.length ≤ 140737488351232) :
    Calls Try.prog 10 #[v] w fun e w' => ∃ g cap, e = .returned (.slice (some ⟨g, 0, none⟩) l.length cap) ∧ w.heap.size ≤ g ∧ g < w'.heap.size ∧ l.length + 1 ≤ cap ∧ Own w' w.heap.size (.slice (some ⟨g, 0, none⟩) (l.length + 1) cap) (l ++ [90]) ∧ Below w.heap.size w w' := by
  obtain ⟨i0, hi, hz0, hz1, hz2⟩ := info_parts Try.info5
  have hl0 := hl
  obtain ⟨ao, cap, rfl, hc, hn, hcell⟩ := hl
  clear hcell hn
  go_enter Try.func10, Try.ntmps10
  go_wp2_with (first | (at_builtin; refine wpList_append_bytes _ rfl (.tmp 3) (.tmp 4) 22 rfl i0 Try.underlying22 hi hz0 hz1 hz2 w.heap.size _ _ [] l rfl rfl (Own.empty _ _ (Nat.le_refl _)) (hl0.below ((Below.refl _ _).alloc (Nat.le_refl _) _)) (by simp; omega) w ((Below.refl _ _).alloc (Nat.le_refl _) _) (by simp) ?_; intro ao1 cap1 w1 ho1 hb1 _ _; simp only [List.length_nil, Nat.zero_add, List.nil_append] at ho1) | (at_builtin; refine wpList_append_bytes _ rfl (.tmp 5) (.tmp 6) 22 rfl i0 Try.underlying22 hi hz0 hz1 hz2 w.heap.size _ _ l [90] rfl rfl (ho1.alloc _) (Bs.one _ _) (by simp; omega) w (hb1.alloc hb1.size _) (by have := hb1.size; simp; omega) ?_; intro ao2 cap2 w2 ho2 hb2 hs2 hc2; obtain ⟨g, rfl, hg1, hg2⟩ := hs2 (by simp); clear hs2; simp only [List.length_cons, List.length_nil, Nat.zero_add] at hc2 ho2))
  go_ret
  exact ⟨g, cap2, rfl, hg1, hg2, hc2, ho2, hb2⟩

/-- What was lent is as it was. -/
theorem kept_any (g n cap : Nat) (v : Value) (l : List Int) (w : World) (hx : Bs w (.slice (some ⟨g, 0, none⟩) (l.length + 1) cap) (l ++ [90])) (hl : Bs w v l) (hc : l.length + 1 ≤ cap) (hb : l.length ≤ 140737488351232) :
    Calls Try.prog 13 #[.slice (some ⟨g, 0, none⟩) n cap, v] w fun e w' => e = .returned (.bool true) ∧ ∃ k, w' = w.drewN k := by
  have hs1 := fun k => Bs.str (P := Try.prog) (w := w.drewN k) (hx.drewN k) Try.underlying22 Try.underlying5 (dst := 9) Try.underlying9
  have hs2 := fun k => Bs.str (P := Try.prog) (w := w.drewN k) (hl.drewN k) Try.underlying22 Try.underlying5 (dst := 9) Try.underlying9
  obtain ⟨ao, cap', rfl, hc', hn, hcell⟩ := hl
  clear hcell hn
  have hwr : IntKind.i64.wrap ((l.length : Int) + 1) = (l.length : Int) + 1 := wrap_i64_in _ (by omega) (by omega)
  have hci : ((l.length : Int) + 1) ≤ (cap : Int) := by omega
  have hci0 : 0 ≤ ((l.length : Int) + 1) := by omega
  have hadd := fun W => str_add (P := Try.prog) l 90 ⟨#[90]⟩ rfl (by omega) W
  go_enter Try.func13, Try.ntmps13
  go_wp2
  go_quiet (fail)
  go_wp2
  go_ret
  exact ⟨rfl, _, rfl⟩

end Go.Proofs.Ytbhcnpkioamjlaa
