/-
  The document's Lay: bytes with others laid down at a place. The place is within them or at their end, lengths within the machine's bounds.
-/
import Derived.Test.YtkiccnedmejnaaaDoorRawsWalk
namespace Go.Proofs.YtkiccnedmejnaaaDoor
open Go.RowKit
set_option linter.unusedVariables false
set_option maxRecDepth 100000

/-- A cell of a slice of the call's own is written. -/
theorem Own.put {w : World} {B g n cap : Nat} {l : List Int} (h : Own w B (.slice (some ⟨g, 0, none⟩) n cap) l) (hl : l.length = n) (j : Nat) (u : Int) :
    Own (w.setCell ⟨g, j, none⟩ (.int .u8 u)) B (.slice (some ⟨g, 0, none⟩) n cap) (l.set j u) ∧ w.grownBy (w.setCell ⟨g, j, none⟩ (.int .u8 u)) (some g) := by
  have h' : w.ownsRow B 5 1 (.slice (some ⟨g, 0, none⟩) n cap) n (bcells l) := by have := h; unfold Own at this; rwa [hl] at this
  obtain ⟨h1, h2⟩ := h'.stored j (.int .u8 u)
  refine ⟨?_, h2⟩
  unfold Own
  rw [List.length_set, hl]
  have e : bcells (l.set j u) = (bcells l).set j (.int .u8 u) := by simp [bcells, List.map_set]
  rw [e]; exact h1
theorem Own.at {w : World} {B g n cap : Nat} {l : List Int} (h : Own w B (.slice (some ⟨g, 0, none⟩) n cap) l) (hl : l.length = n) (j : Nat) (hj : j < n) : w.cell? ⟨g, j, none⟩ = some (.int .u8 (l.getD j 0)) ∧ w.frozen? ⟨g, j, none⟩ = false := by
  have h' : w.ownsRow B 5 1 (.slice (some ⟨g, 0, none⟩) n cap) n (bcells l) := by have := h; unfold Own at this; rwa [hl] at this
  refine ⟨?_, h'.frozenAt j⟩
  rw [h'.cellAt j (by omega)]
  simp [bcells, List.getD, hl, hj]

theorem take_snoc_get (x : List Int) (k : Nat) (h : k < x.length) : x.take (k + 1) = x.take k ++ [x.getD k 0] := by
  rw [List.take_succ_eq_append_getElem h]; simp [List.getD, h]

set_option maxHeartbeats 1000000 in
theorem refLay_any (bv xv : Value) (b x : List Int) (q : Nat) (w : World) (hb : Bs w bv b) (hx : Bs w xv x) (hq : q ≤ b.length) (hl : b.length + x.length ≤ 140737488355328) :
    Calls Tryd.prog 50 #[bv, .int .i64 (q : Int), xv] w fun e w' => ∃ ao cap, e = .returned (.slice ao (layN b q x).length cap) ∧ Own w' w.heap.size (.slice ao (layN b q x).length cap) (layN b q x) ∧ Below w.heap.size w w' := by
  obtain ⟨i0, hi, hz0, hz1, hz2⟩ := info_parts Tryd.info5
  have HBB : Hid (Bs w bv b) := hb
  have HXX : Hid (Bs w xv x) := hx
  obtain ⟨ab, cb, rfl, hcb, _⟩ := hb
  obtain ⟨ax, cx, rfl, hcx, hxn, _⟩ := hx
  have HXN : Hid (ax = none → cx = 0) := hxn
  clear hxn
  obtain ⟨m, Hm⟩ : ∃ m, Hid (x.length = m) := ⟨_, rfl⟩
  obtain ⟨n, Hn⟩ : ∃ n, Hid (b.length = n) := ⟨_, rfl⟩
  rw [Hm.out] at hl hcx HXX ⊢
  rw [Hn.out] at hl hcb hq HBB ⊢
  go_enter Tryd.func50, Tryd.ntmps50
  go_wp2_with (at_builtin; refine wpList_append_bytes _ rfl (.tmp 9) (.tmp 10) 25 rfl i0 Tryd.underlying25 hi hz0 hz1 hz2 w.heap.size _ _ [] b rfl rfl (Own.empty _ _ (Nat.le_refl _)) (HBB.out.below ((Below.refl _ w).alloc (Nat.le_refl _) _)) (by rw [Hn.out]; simp; omega) w ((Below.refl _ w).alloc (Nat.le_refl _) _) (by simp) ?_; intro ao1 cap1 w1 ho1 hb1 _ hc1; simp only [List.length_nil, Nat.zero_add, List.nil_append] at ho1 hc1; have HO1 : Hid (Own w1 w.heap.size (.slice ao1 b.length cap1) b) := ho1; have HB1 : Hid (Below w.heap.size w w1) := hb1; clear ho1 hb1; simp only [List.length_nil, Nat.zero_add])
  go_loopw [7, 8] (fun v i wr => ∃ k : Nat, k ≤ m ∧ i = .int .i64 (k : Int) ∧ Own wr w.heap.size v (layN b q (x.take k)) ∧ Below w.heap.size w wr) (fun _ i _ => m - (intOf i).toNat)
  case atStart => exact ⟨0, Nat.zero_le _, rfl, by rw [List.take_zero, layN_nil]; exact HO1.out, HB1.out⟩
  case round =>
    obtain ⟨k, hk, rfl, hor, hbr⟩ := hrel
    have HOR := hor
    obtain ⟨ao, cap, rfl, hcap, hg⟩ := hor.opened
    have hL : (layN b q (x.take k)).length = max n (q + k) := by rw [layN_length _ _ _ (by rw [Hn.out]; exact hq), Hn.out, List.length_take, Hm.out, Nat.min_eq_left hk]
    obtain ⟨L, HLL⟩ : ∃ L, Hid ((layN b q (x.take k)).length = L) := ⟨_, rfl⟩
    rw [HLL.out] at hL hcap hg HOR ⊢
    have HO : Hid (Own wr w.heap.size (.slice ao L cap) (layN b q (x.take k))) := HOR
    have HBR : Hid (Below w.heap.size w wr) := hbr
    have hsz := hbr.size
    clear HOR hor hbr
    by_cases hlt : k < m
    · obtain ⟨bx, ox, cx', e3, _, hcell⟩ := HXX.out.opened (by rw [Hm.out]; omega)
      injection e3 with e4 e5 e6
      subst e4
      subst e6
      have hc1 := cell_later HBR.out (hcell k (by rw [Hm.out]; exact hlt))
      obtain ⟨z, Hz⟩ : ∃ z, Hid (x.getD k 0 = z) := ⟨_, rfl⟩
      rw [Hz.out] at hc1
      have HT : Hid (x.take (k + 1) = x.take k ++ [z]) := by rw [Hid, ← Hz.out]; exact take_snoc_get x k (by rw [Hm.out]; exact hlt)
      have HTL : Hid ((x.take k).length = k) := by rw [Hid, List.length_take, Hm.out]; omega
      clear hcell
      by_cases hin : q + k < n
      · have hLn : L = n := by omega
        obtain ⟨g, rfl, hg1, hg2⟩ := hg (by omega)
        obtain ⟨qk, Hqk⟩ : ∃ qk, Hid (q + k = qk) := ⟨_, rfl⟩
        obtain ⟨hc2, hf2⟩ := HO.out.at HLL.out qk (by rw [← Hqk.out]; omega)
        have hqk : (q : Int) + (k : Int) = (qk : Int) := by have := Hqk.out; omega
        have hlt2 : (qk : Int) < (L : Int) := by have := Hqk.out; omega
        have hlt3 : (0 : Int) ≤ (qk : Int) := by omega
        clear hL hg
        go_wp2
        go_roundw
        case rel =>
          refine ⟨k + 1, by omega, by go_num, ?_, HBR.out.setCell hg1 _⟩
          have h5 := (HO.out.put HLL.out qk z).1
          rw [HT.out]
          have h6 := layN_in b q (x.take k) z (by rw [HTL.out, Hn.out]; exact hin)
          rw [HTL.out, Hqk.out] at h6
          rw [← h6]
          exact h5
        case measure => simp [intOf]; omega
      · have hLq : L = q + k := by omega
        have hlt2 : ¬ (q : Int) + (k : Int) < (L : Int) := by omega
        clear hL hg
        go_wp2_with (at_builtin; refine wpList_append_bytes _ rfl (.tmp 33) (.tmp 38) 25 rfl i0 Tryd.underlying25 hi hz0 hz1 hz2 w.heap.size _ _ (layN b q (x.take k)) [z] rfl rfl (HO.out.alloc _) (Bs.one _ _) (by rw [HLL.out]; simp; omega) w (HBR.out.alloc HBR.out.size _) (by simp; omega) ?_; intro ao2 cap2 w2 ho2 hb2 _ _; rw [HLL.out] at ho2 ⊢; simp only [List.length_cons, List.length_nil, Nat.zero_add] at ho2 ⊢; have HO2 : Hid (Own w2 w.heap.size (.slice ao2 (L + 1) cap2) (layN b q (x.take k) ++ [z])) := ho2; have HB2 : Hid (Below w.heap.size w w2) := hb2; clear ho2 hb2)
        go_roundw
        case rel =>
          refine ⟨k + 1, by omega, by go_num, ?_, HB2.out⟩
          rw [HT.out, ← layN_end b q (x.take k) z (by rw [Hn.out]; exact hq) (by rw [HTL.out, Hn.out]; omega)]
          have := HO2.out
          rw [hLq] at this
          exact this
        case measure => simp [intOf]; omega
    · obtain rfl : k = m := by omega
      have HF : Hid (x.take k = x) := List.take_of_length_le (by rw [Hm.out]; exact Nat.le_refl _)
      go_wp2
      go_ret
      refine ⟨ao, cap, ?_, ?_, HBR.out⟩
      · rw [← HLL.out, HF.out]; rfl
      · have := HO.out
        rw [HF.out, ← HLL.out, HF.out] at this
        exact this
end Go.Proofs.YtkiccnedmejnaaaDoor
