/-
  An argument that is a slice of slices of bytes, opened where it is of bulk at most 1048576: it reads as lists of bytes, whose runs together are at most 4194304 bytes.
-/
import Derived.Test.YtdpjoldabnkboaaDoorRowNums
import Derived.Test.YtdpjoldabnkboaaDoorFrameU
import Derived.Deep.Matrix
namespace Go.Proofs.YtdpjoldabnkboaaDoor
open Go.ChangeShapes Go.WideShapes Go.ChangeAt Go.RowKit Go.Deep
set_option linter.unusedVariables false

theorem Tryd.cells23 : Tryd.prog.cellsOf 22 = 1 := by kernel_rfl

theorem bulk_snoc {H : Type} (d : DataW H) : ∀ l : List (DataW H), Rows.uptoBulkAll (l ++ [d]) = Rows.uptoBulkAll l + Rows.uptoBulk d
  | [] => by simp [Rows.uptoBulkAll]
  | e :: l => by simp only [List.cons_append, Rows.uptoBulkAll, bulk_snoc d l]; omega
theorem bulk_range {H : Type} (D : Nat → DataW H) (k : Nat) : Rows.uptoBulkAll ((List.range (k + 1)).map D) = Rows.uptoBulkAll ((List.range k).map D) + Rows.uptoBulk (D k) := by
  rw [List.range_succ, List.map_append]; exact bulk_snoc _ _
theorem bulk_mono {H : Type} (D : Nat → DataW H) (k : Nat) : ∀ n, k ≤ n → Rows.uptoBulkAll ((List.range k).map D) ≤ Rows.uptoBulkAll ((List.range n).map D)
  | 0, h => by rw [show k = 0 by omega]; exact Nat.le_refl _
  | n + 1, h => by
    by_cases e : k = n + 1
    · rw [e]; exact Nat.le_refl _
    · have := bulk_mono D k n (by omega); rw [bulk_range]; omega

theorem rows_upto {H : Type} {enc : TypeId × Value → H} {W : World} {base : Nat} {v : Value} {d : DataW H} {p : List MemPlace} {ds : List (DataW H)}
    (hok : Value.okWide Tryd.prog W .any base 37 v) (h : DataW.Trod enc Tryd.prog W 0 (fun _ => true) true 37 v d p)
    (hk : Rows.uptoSmall H ds = true) (j : Nat) (hd : ds[j]? = some d) :
    ∃ ls, Rs W v ls ∧ (∀ k, Byt (ls.getD k [])) ∧ (ls.length ≤ 1048576 ∧ ∀ k, k ≤ ls.length → (runsTo ls k).length ≤ 4194304 ∧ (ls.getD k []).length ≤ 1048576) := by
  have hk' : Rows.uptoBulkAll ds ≤ 1048576 := of_decide_eq_true hk
  have hj := bulk_at ds j d hd
  obtain ⟨a0, len, cap, rfl⟩ := okWide_slice Tryd.underlying37 hok
  obtain ⟨fuel, hf⟩ := h
  rcases open_int_rows Tryd.underlying37 Tryd.underlying22 Tryd.underlying5 Tryd.cells23 Tryd.cells5 hf with ⟨hcs, hx⟩ | ⟨a, l, c, A, L, C, Z, hcs, _, hl, hm, hx, hrow⟩
  · simp [Value.cells] at hcs
    obtain ⟨rfl, rfl, rfl⟩ := hcs
    refine ⟨[], ⟨none, 0, fun _ => none, fun _ => 0, rfl, Nat.le_refl _, fun _ => rfl, fun ad h => by cases h⟩, fun k i => by simp, by simp, fun k hk => ?_⟩
    obtain rfl : k = 0 := by simpa using hk
    simp [runsTo]
  · simp [Value.cells] at hcs
    obtain ⟨rfl, rfl, rfl⟩ := hcs
    simp only [Prod.mk.injEq] at hx
    obtain ⟨rfl, _⟩ := hx
    have hrl : ∀ r, r < len → ((Z r).take (L r)).length = L r := fun r hr => by
      have h1 := (hrow r (by omega)).2.1
      have h2 := (hrow r (by omega)).2.2.2.1
      simp; omega
    have hget : ∀ r, r < len → ((List.range len).map fun r => (Z r).take (L r)).getD r [] = (Z r).take (L r) := fun r hr => by
      simp [List.getD, hr]
    have hgetn : ∀ r, ¬ r < len → ((List.range len).map fun r => (Z r).take (L r)).getD r [] = [] := fun r hr => by
      rw [List.getD, List.getElem?_eq_none (by simp; omega)]; rfl
    have hlsl : ((List.range len).map fun r => (Z r).take (L r)).length = len := by simp
    have hbk : ∀ r, r < len → L r + 1 ≤ Rows.uptoBulk (intRow (H := H) .u8 (A r) (L r) (Z r)) := fun r hr => by
      obtain ⟨_, h1, _, h2, _, h3, _⟩ := hrow r (by omega)
      cases hA : A r with
      | none =>
        have := h3 hA
        simp only [intRow, Rows.uptoBulk]; omega
      | some a' =>
        have h4 := bulk_count (lits (H := H) .u8 ((Z r).take (L r)))
        have h5 : (lits (H := H) .u8 ((Z r).take (L r))).length = L r := by rw [lits, List.length_map, hrl r hr]
        simp only [intRow, Rows.uptoBulk]; omega
    have hall : Rows.uptoBulkAll ((List.range len).map fun r => intRow (H := H) .u8 (A r) (L r) (Z r)) ≤ 1048576 := by
      simp only [Rows.uptoBulk] at hj; omega
    have hruns : ∀ k, k ≤ len → (runsTo ((List.range len).map fun r => (Z r).take (L r)) k).length ≤ 4 * Rows.uptoBulkAll ((List.range k).map fun r => intRow (H := H) .u8 (A r) (L r) (Z r)) := by
      intro k
      induction k with
      | zero => intro _; simp [runsTo]
      | succ k ih =>
        intro hk1
        have h1 := ih (by omega)
        have h2 := hbk k (by omega)
        rw [runsTo, List.length_append, encR_length, hget k (by omega), hrl k (by omega), bulk_range]
        omega
    refine ⟨(List.range len).map fun r => (Z r).take (L r), ⟨some a, cap, A, C, by rw [hlsl], by omega, (fun h => by cases h), ?_⟩, ?_, ?_, ?_⟩
    · intro ad ha r hr
      obtain rfl := Option.some.inj ha
      rw [hlsl] at hr
      obtain ⟨h0, h1, h2, h3, h4, h5, h6⟩ := hrow r (by omega)
      rw [hget r hr, hrl r hr]
      refine ⟨h0, A r, C r, by rw [hrl r hr], by rw [hrl r hr]; exact h1, h5, fun ad' ha' i hi => ?_⟩
      rw [hrl r hr] at hi
      rw [(h6 ad' ha').2 i (by omega)]
      simp [List.getD, hi]
    · intro k i
      by_cases hr : k < len
      · rw [hget k hr]
        obtain ⟨_, h1, _, h3, h4, _⟩ := hrow k (by omega)
        by_cases hi : i < L k
        · have e : ((Z k).take (L k)).getD i 0 = (Z k)[i]'(by omega) := by simp [List.getD, hi, show i < (Z k).length by omega]
          rw [e]
          exact bounds_u8 (h4 _ (List.getElem_mem _))
        · have e : ((Z k).take (L k)).getD i 0 = 0 := by
            rw [List.getD, List.getElem?_eq_none (by rw [hrl k hr]; omega)]; rfl
          rw [e]; omega
      · rw [hgetn k hr]; simp
    · have := bulk_count ((List.range len).map fun r => intRow (H := H) .u8 (A r) (L r) (Z r))
      simp at this
      rw [hlsl]; omega
    · intro k hk1
      rw [hlsl] at hk1
      refine ⟨?_, ?_⟩
      · have h1 := hruns k hk1
        have h2 := bulk_mono (fun r => intRow (H := H) .u8 (A r) (L r) (Z r)) k len hk1
        omega
      · by_cases hr : k < len
        · rw [hget k hr, hrl k hr]
          have h2 := hbk k hr
          have h3 := bulk_mono (fun r => intRow (H := H) .u8 (A r) (L r) (Z r)) (k + 1) len (by omega)
          rw [bulk_range] at h3
          omega
        · rw [hgetn k hr]; simp

end Go.Proofs.YtdpjoldabnkboaaDoor
