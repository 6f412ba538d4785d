/-
  An argument that is a slice of bytes, opened where all arguments together are of bulk at most 1048576: it reads as a list of at most so many bytes.
-/
import Derived.Test.YtpkbdpbggmiolaaDoorFrame
import Derived.JoinedCond
namespace Go.Proofs.YtpkbdpbggmiolaaDoor
open Go.ChangeShapes Go.WideShapes Go.ChangeAt Go.RowKit
set_option linter.unusedVariables false
set_option maxRecDepth 100000

theorem bulk_pos {H : Type} : ∀ d : DataW H, 0 < Rows.uptoBulk d
  | .lit l => by cases l <;> simp [Rows.uptoBulk]
  | .nil | .held _ | .ptr _ | .slice _ _ | .agg _ | .iface _ _ | .map _ => by simp [Rows.uptoBulk]
theorem bulk_count {H : Type} : ∀ l : List (DataW H), l.length ≤ Rows.uptoBulkAll l
  | [] => Nat.zero_le _
  | d :: r => by have := bulk_pos d; have := bulk_count r; simp only [Rows.uptoBulkAll, List.length_cons]; omega
theorem bulk_at {H : Type} : ∀ (l : List (DataW H)) (j : Nat) (d : DataW H), l[j]? = some d → Rows.uptoBulk d ≤ Rows.uptoBulkAll l
  | [], _, _, h => by simp at h
  | d :: r, 0, e, h => by simp at h; subst h; simp only [Rows.uptoBulkAll]; omega
  | d :: r, j + 1, e, h => by have := bulk_at r j e (by simpa using h); simp only [Rows.uptoBulkAll]; omega

theorem bytes_upto {H : Type} {enc : TypeId × Value → H} {W : World} {base : Nat} {v : Value} {d : DataW H} {p : List MemPlace} {ds : List (DataW H)}
    (hok : Value.okWide Tryd.prog W .any base 29 v) (h : DataW.Trod enc Tryd.prog W 0 (fun _ => true) true 29 v d p)
    (hk : Rows.uptoSmall H ds = true) (j : Nat) (hd : ds[j]? = some d) :
    ∃ l, Bs W v l ∧ Byt l ∧ l.length ≤ 1048576 := by
  have hk' : Rows.uptoBulkAll ds ≤ 1048576 := of_decide_eq_true hk
  have hj := bulk_at ds j d hd
  obtain ⟨a0, len, cap, rfl⟩ := okWide_slice Tryd.underlying29 hok
  obtain ⟨fuel, hf⟩ := h
  rcases open_ints Tryd.underlying29 Tryd.underlying5 Tryd.cells5 hf with ⟨hcs, hx⟩ | ⟨x, l, c, zs, hcs, _, hl, hm, hz, hx, hcell, hwz⟩
  · simp [Value.cells] at hcs
    obtain ⟨rfl, rfl, rfl⟩ := hcs
    exact ⟨[], Bs.nil _, fun i => by simp, by simp⟩
  · simp [Value.cells] at hcs
    obtain ⟨rfl, rfl, rfl⟩ := hcs
    simp only [if_true] at hz
    have hlen : (zs.take len).length = len := by simp; omega
    have hb : len ≤ 1048576 := by
      simp only [Prod.mk.injEq] at hx
      obtain ⟨rfl, rfl⟩ := hx
      have h1 := bulk_count (lits (H := H) .u8 (zs.take len))
      have h2 : (lits (H := H) .u8 (zs.take len)).length = len := by rw [lits, List.length_map, hlen]
      simp only [Rows.uptoBulk] at hj
      omega
    refine ⟨zs.take len, ⟨some x, cap, by rw [hlen], by omega, (fun h => by cases h), ?_⟩, ?_, by omega⟩
    · intro ad ha i hi
      obtain rfl := Option.some.inj ha
      rw [hcell i (by omega)]
      simp [List.getD, show i < len by omega]
    · intro i
      by_cases hi : i < len
      · have e : (zs.take len).getD i 0 = zs[i]'(by omega) := by simp [List.getD, hi, show i < zs.length by omega]
        rw [e]
        exact bounds_u8 (hwz _ (List.getElem_mem _))
      · have e : (zs.take len).getD i 0 = 0 := by
          rw [List.getD, List.getElem?_eq_none (by omega)]; rfl
        rw [e]; omega

end Go.Proofs.YtpkbdpbggmiolaaDoor
