/-
  The walk of Load. Conditions: the bytes' length is one that memory bears; the table of check stands.
-/
import Derived.Test.YtkiccnedmejnaabDoorXLoad
namespace Go.Proofs.YtkiccnedmejnaabDoor
open Go.RowKit Go.Sort Go.Shelf Go.Lib
set_option linter.unusedVariables false
set_option maxRecDepth 100000

def cntOf (p : List Int) : Nat := (at4 p 0).toNat
def xldOk (p : List Int) : Bool := isL p && goodB (lstOf p (cntOf p)) 4194304
def xldErr (b : List Int) : Int := if unErr b = 0 then (if xldOk (unList b) = true then 0 else 5) else unErr b
def xldList (b : List Int) : List Ext := if xldErr b = 0 then lstOf (unList b) (cntOf (unList b)) else []
theorem isL_iff {p : List Int} (hby : Byt p) (h : isL p = true) : 4 ≤ p.length ∧ at4 p 0 = (cntOf p : Nat) ∧ cntOf p ≤ 65536 ∧ p.length = 4 + 8 * cntOf p := by
  unfold isL at h
  simp only [Bool.and_eq_true, decide_eq_true_eq] at h
  obtain ⟨h1, h2, h3⟩ := h
  have hb := at4_bd hby (p := 0) (by omega)
  unfold cntOf
  omega
theorem lstOf_ew {p : List Int} (hby : Byt p) {n : Nat} (h : 4 + 8 * n ≤ p.length) : EWs (lstOf p n) := fun x hx => by
  obtain ⟨k, hk, rfl⟩ := List.mem_map.1 hx
  have hk := List.mem_range.1 hk
  have h1 := at4_bd hby (p := 4 + 8 * k) (by omega)
  have h2 := at4_bd hby (p := 4 + 8 * k + 4) (by omega)
  unfold extOf EW
  dsimp only
  omega
theorem unList_byt {b : List Int} (h : Byt b) : Byt (unList b) := by
  unfold unList
  split
  · exact byt_left h _
  · intro i; simp
theorem unList_len (b : List Int) : (unList b).length ≤ b.length := by
  unfold unList
  split
  · rw [List.length_take]; omega
  · simp

set_option maxHeartbeats 2000000 in
theorem xload_any (v : Value) (b : List Int) (w : World) (hl : Bs w v b) (hb : b.length ≤ 140737488351232) (hby : Byt b) (ht : Tab w) :
    Calls Tryd.prog 15 #[v] w fun e w' => ∃ x, e = .returned (.tuple #[x, .int .i64 (xldErr b)]) ∧ OwnX w' w.heap.size 79 x (xldList b) ∧ Below w.heap.size w w' := by
  have HU : Hid _ := unseal_any v b w hl (by omega) hby ht
  have HPB : Hid (Byt (unList b)) := unList_byt hby
  have HPL : Hid ((unList b).length ≤ 140737488351232) := by have := unList_len b; unfold Hid; omega
  clear hl ht hby hb
  by_cases he : unErr b = 0
  · have HXE : Hid (xldErr b = if xldOk (unList b) = true then 0 else 5) := by unfold Hid xldErr; rw [if_pos he]
    have HXL : Hid (xldErr b = 0 → xldList b = lstOf (unList b) (cntOf (unList b))) := fun h => by unfold xldList; rw [if_pos h]
    have HXN : Hid (xldErr b ≠ 0 → xldList b = []) := fun h => by unfold xldList; rw [if_neg h]
    rw [he] at HU
    clear he
    generalize unList b = p at *
    cases hi : isL p with
    | false =>
      have H1 : Hid (xldErr b = 5) := by unfold Hid; rw [HXE.out]; unfold xldOk; rw [hi]; rfl
      go_enter Tryd.func15, Tryd.ntmps15
      go_wp2_with (first | (go_at_call 43; refine Calls.mono HU.out ?_; rintro e w1 ⟨x1, rfl, ho1, hb1⟩; have HO1 : Hid (Own w1 w.heap.size x1 p) := ho1; have HB1 : Hid (Below w.heap.size w w1) := hb1; clear ho1 hb1) | (go_at_call 44; refine (listOf_no _ p _ HO1.out.bs HPL.out HPB.out hi).mono ?_; rintro e w2 ⟨rfl, hb2⟩))
      go_ret2
      rw [H1.out, HXN.out (by rw [H1.out]; decide)]
      exact ⟨_, rfl, OwnX.nil _ _ _, HB1.out.trans (hb2.mono HB1.out.size)⟩
    | true =>
      obtain ⟨f1, f2, f3, f4⟩ := isL_iff HPB.out hi
      have HIL : Hid (isL p = true) := hi
      have HEW : Hid (EWs (lstOf p (cntOf p))) := lstOf_ew HPB.out (by omega)
      have HLL : Hid ((lstOf p (cntOf p)).length ≤ 65536) := by unfold Hid; rw [lstOf_length]; exact f3
      cases hg : goodB (lstOf p (cntOf p)) 4194304 with
      | false =>
        have H1 : Hid (xldErr b = 5) := by unfold Hid; rw [HXE.out]; unfold xldOk; rw [hi, hg]; rfl
        clear hi
        go_enter Tryd.func15, Tryd.ntmps15
        go_wp2_with (first | (go_at_call 43; refine Calls.mono HU.out ?_; rintro e w1 ⟨x1, rfl, ho1, hb1⟩; have HO1 : Hid (Own w1 w.heap.size x1 p) := ho1; have HB1 : Hid (Below w.heap.size w w1) := hb1; clear ho1 hb1) | (go_at_call 44; refine (listOf_yes _ p (cntOf p) _ HO1.out.bs HPL.out HPB.out f3 f4 f2).mono ?_; rintro e w2 ⟨x2, rfl, ho2, hb2⟩; have HO2 : Hid (OwnX w2 w1.heap.size 79 x2 (lstOf p (cntOf p))) := ho2; have HB2 : Hid (Below w.heap.size w w2) := HB1.out.trans (hb2.mono HB1.out.size); clear ho2 hb2) | (go_at_call 36; refine (good_any _ (lstOf p (cntOf p)) _ _ HO2.out.xs HEW.out (by have := HLL.out; omega)).mono ?_; rintro e w3 ⟨rfl, hb3⟩; rw [hg]))
        go_ret2
        rw [H1.out, HXN.out (by rw [H1.out]; decide)]
        exact ⟨_, rfl, OwnX.nil _ _ _, HB2.out.trans (hb3.mono HB2.out.size)⟩
      | true =>
        have H1 : Hid (xldErr b = 0) := by unfold Hid; rw [HXE.out]; unfold xldOk; rw [hi, hg]; rfl
        clear hi
        go_enter Tryd.func15, Tryd.ntmps15
        go_wp2_with (first | (go_at_call 43; refine Calls.mono HU.out ?_; rintro e w1 ⟨x1, rfl, ho1, hb1⟩; have HO1 : Hid (Own w1 w.heap.size x1 p) := ho1; have HB1 : Hid (Below w.heap.size w w1) := hb1; clear ho1 hb1) | (go_at_call 44; refine (listOf_yes _ p (cntOf p) _ HO1.out.bs HPL.out HPB.out f3 f4 f2).mono ?_; rintro e w2 ⟨x2, rfl, ho2, hb2⟩; have HO2 : Hid (OwnX w2 w.heap.size 79 x2 (lstOf p (cntOf p))) := ho2.mono HB1.out.size; have HB2 : Hid (Below w.heap.size w w2) := HB1.out.trans (hb2.mono HB1.out.size); clear ho2 hb2) | (go_at_call 36; refine (good_any _ (lstOf p (cntOf p)) _ _ HO2.out.xs HEW.out (by have := HLL.out; omega)).mono ?_; rintro e w3 ⟨rfl, hb3⟩; rw [hg]))
        go_ret2
        rw [H1.out, HXL.out H1.out]
        exact ⟨_, rfl, HO2.out.below hb3, HB2.out.trans (hb3.mono HB2.out.size)⟩
  · have he' : (unErr b != 0) = true := by simp [he]
    have H1 : Hid (xldErr b = unErr b ∧ xldList b = []) := by have h : xldErr b = unErr b := by { unfold xldErr; rw [if_neg he] }; unfold xldList; rw [h, if_neg he]; exact ⟨rfl, rfl⟩
    go_enter Tryd.func15, Tryd.ntmps15
    go_wp2_with (go_at_call 43; refine Calls.mono HU.out ?_; rintro e w1 ⟨x1, rfl, ho1, hb1⟩)
    go_ret2
    rw [H1.out.1, H1.out.2]
    exact ⟨_, rfl, OwnX.nil _ _ _, hb1⟩
end Go.Proofs.YtkiccnedmejnaabDoor
