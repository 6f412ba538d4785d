/-
  The walks of Total, overlap and Meets. Conditions: the numbers are ints, the list's length is one that memory bears.
-/
import Derived.Test.YtdalkjenjnalbaaDoorXInOrder
import Derived.Test.YtdalkjenjnalbaaDoorXNormal
namespace Go.Proofs.YtdalkjenjnalbaaDoor
open Go.RowKit Go.Sort Go.Shelf Go.Lib
set_option linter.unusedVariables false
set_option maxRecDepth 100000

theorem total_take {l : List Ext} {k : Nat} (h : k < l.length) : totalL (l.take (k + 1)) = if mayB (l.getD k (0, 0)) = true then min (totalL (l.take k) + (l.getD k (0, 0)).2) 4611686018427387904 else totalL (l.take k) := by
  rw [take_snoc l h, totalL_snoc]

set_option maxHeartbeats 4000000 in
theorem total_any (v : Value) (l : List Ext) (w : World) (hl : Xs w v l) (hE : EWs l) (hn : l.length ≤ 281474976710656) :
    Calls Tryd.prog 32 #[v] w fun e w' => e = .returned (.int .i64 (totalL l)) ∧ Below w.heap.size w w' := by
  obtain ⟨ao, cap, rfl, hcap, hcell⟩ := hl.opened
  have HC : Hid (∀ i, i < l.length → ∃ b off, ao = some ⟨b, off, none⟩ ∧ w.cell? ⟨b, off + i * 2, none⟩ = some (.int .i64 (l.getD i (0, 0)).1) ∧ w.cell? ⟨b, off + i * 2 + 1, none⟩ = some (.int .i64 (l.getD i (0, 0)).2) ∧ b < w.heap.size) := hcell
  have HE : Hid (EWs l) := hE
  clear hl hcell hE
  obtain ⟨N, HN⟩ : ∃ N, Hid (l.length = N) := ⟨_, rfl⟩
  rw [HN.out] at hcap hn ⊢
  go_enter Tryd.func32, Tryd.ntmps32
  go_wp2
  go_loopw [3, 8] (fun t i wr => ∃ k : Nat, k ≤ N ∧ i = .int .i64 (k : Int) ∧ t = .int .i64 (totalL (l.take k)) ∧ Hid (Below w.heap.size w wr)) (fun _ i _ => N - (intOf i).toNat)
  case atStart => exact ⟨0, Nat.zero_le _, rfl, rfl, Below.refl _ _⟩
  case round =>
    obtain ⟨k, hk, rfl, rfl, HB⟩ := hrel
    obtain ⟨t1, t2⟩ := totalL_bd (l.take k)
    by_cases hlt : k < N
    · have hkl : k < l.length := by rw [HN.out]; exact hlt
      obtain ⟨b, off, rfl, c1, c2, hb⟩ := HC.out k hkl
      have d1 := (HB.out.cell (p := ⟨b, off + k * 2, none⟩) hb).trans c1
      have d2 := (HB.out.cell (p := ⟨b, off + k * 2 + 1, none⟩) hb).trans c2
      have hx := HE.out.at k
      have HT : Hid (totalL (l.take (k + 1)) = if mayB (l.getD k (0, 0)) = true then min (totalL (l.take k) + (l.getD k (0, 0)).2) 4611686018427387904 else totalL (l.take k)) := total_take hkl
      clear c1 c2
      generalize l.getD k (0, 0) = x at *
      generalize totalL (l.take k) = tt at *
      obtain ⟨xa, xs⟩ := x
      have HX : Hid (EW (xa, xs)) := hx
      clear hx
      dsimp only at d1 d2
      have HB0 : Hid (Below wr.heap.size wr (wr.alloc (.cells #[.int .i64 xa, .int .i64 xs] 49))) := (Below.refl _ _).alloc (Nat.le_refl _) _
      have hc0 := cells_pairX (heap_alloc_new wr (.cells #[.int .i64 xa, .int .i64 xs] 49))
      cases hm : mayB (xa, xs) with
      | false =>
        have HM : Hid (mayB (xa, xs) = false) := hm
        clear hm
        go_wp2_with (go_at_call 50; refine (mayBe_any _ _ _ HX.out).mono ?_; rintro e w' ⟨rfl, hb2⟩; rw [HM.out])
        go_roundw
        case rel =>
          have hbb := HB0.out.trans (hb2.mono HB0.out.size)
          exact ⟨k + 1, by omega, by simp, by rw [HT.out, HM.out]; rfl, HB.out.trans (hbb.mono HB.out.size)⟩
        case measure => simp [intOf]; omega
      | true =>
        have HM : Hid (mayB (xa, xs) = true) := hm
        have hmi := mayB_iff.1 hm
        dsimp only at hmi
        obtain ⟨m1, m2, m3⟩ := hmi
        clear hm
        go_wp2_with (first | (go_at_call 50; refine (mayBe_any _ _ _ HX.out).mono ?_; rintro e w' ⟨rfl, hb2⟩; rw [HM.out]; have e1 := cell_later hb2 hc0.1; have e2 := cell_later hb2 hc0.2) | (go_at_call 51; refine (withSize_any _ _ _ (by omega) (by omega) (by omega) (by omega)).mono ?_; rintro e w3 ⟨rfl, hw3⟩; obtain rfl := hw3.symm))
        go_roundw
        case rel =>
          have hbb := HB0.out.trans (hb2.mono HB0.out.size)
          exact ⟨k + 1, by omega, by simp, by rw [HT.out, HM.out, if_pos rfl], HB.out.trans (hbb.mono HB.out.size)⟩
        case measure => simp [intOf]; omega
    · obtain rfl : k = N := by omega
      have HF : Hid (totalL (l.take k) = totalL l) := by unfold Hid; rw [List.take_of_length_le (by rw [HN.out]; omega)]
      go_wp2
      go_ret
      exact ⟨ret_intX HF.out, HB.out⟩

theorem reach_snoc (l : List Ext) (x : Ext) : reachOf (l ++ [x]) = x.1 + x.2 := by simp [reachOf]
theorem over_snoc (l : List Ext) (x : Ext) : overFrom 0 (l ++ [x]) = (overFrom 0 l || decide (x.1 < reachOf l)) := by
  rw [overFrom_append]
  congr 1
  unfold reachOf
  cases l.getLast? <;> simp [overFrom]
theorem over_take {l : List Ext} (k : Nat) (h : overFrom 0 (l.take k) = true) : overFrom 0 l = true := by
  rw [← List.take_append_drop k l, overFrom_append, h]; rfl
theorem over_yes {l : List Ext} {k : Nat} (hk : k < l.length) (h : (l.getD k (0, 0)).1 < reachOf (l.take k)) : overFrom 0 l = true := by
  refine over_take (k + 1) ?_
  rw [take_snoc l hk, over_snoc, decide_eq_true h, Bool.or_true]
theorem over_step {l : List Ext} {k : Nat} (hk : k < l.length) (ho : overFrom 0 (l.take k) = false) (h : ¬ (l.getD k (0, 0)).1 < reachOf (l.take k)) : overFrom 0 (l.take (k + 1)) = false ∧ reachOf (l.take (k + 1)) = (l.getD k (0, 0)).1 + (l.getD k (0, 0)).2 := by
  rw [take_snoc l hk, over_snoc, reach_snoc, ho]
  exact ⟨by rw [decide_eq_false h]; rfl, rfl⟩

set_option maxHeartbeats 4000000 in
theorem overlap_any (v : Value) (l : List Ext) (w : World) (hl : Xs w v l) (hf : ∀ x ∈ l, fitB x = true) (hn : l.length ≤ 281474976710656) :
    Calls Tryd.prog 48 #[v] w fun e w' => e = .returned (.bool (overFrom 0 l)) ∧ Below w.heap.size w w' := by
  obtain ⟨ao, cap, rfl, hcap, hcell⟩ := hl.opened
  have HC : Hid (∀ i, i < l.length → ∃ b off, ao = some ⟨b, off, none⟩ ∧ w.cell? ⟨b, off + i * 2, none⟩ = some (.int .i64 (l.getD i (0, 0)).1) ∧ w.cell? ⟨b, off + i * 2 + 1, none⟩ = some (.int .i64 (l.getD i (0, 0)).2) ∧ b < w.heap.size) := hcell
  have HFI : Hid (∀ x ∈ l, fitB x = true) := hf
  clear hl hcell hf
  obtain ⟨N, HN⟩ : ∃ N, Hid (l.length = N) := ⟨_, rfl⟩
  rw [HN.out] at hcap hn ⊢
  go_enter Tryd.func48, Tryd.ntmps48
  go_wp2
  go_loopw [3, 8] (fun t i wr => ∃ k : Nat, k ≤ N ∧ i = .int .i64 (k : Int) ∧ t = .int .i64 (reachOf (l.take k)) ∧ Hid (overFrom 0 (l.take k) = false) ∧ Hid (Below w.heap.size w wr)) (fun _ i _ => N - (intOf i).toNat)
  case atStart => exact ⟨0, Nat.zero_le _, rfl, rfl, rfl, Below.refl _ _⟩
  case round =>
    obtain ⟨k, hk, rfl, rfl, HO, HB⟩ := hrel
    by_cases hlt : k < N
    · have hkl : k < l.length := by rw [HN.out]; exact hlt
      obtain ⟨b, off, rfl, c1, c2, hb⟩ := HC.out k hkl
      have d1 := (HB.out.cell (p := ⟨b, off + k * 2, none⟩) hb).trans c1
      have d2 := (HB.out.cell (p := ⟨b, off + k * 2 + 1, none⟩) hb).trans c2
      have hx := fitB_iff.1 (HFI.out _ (getD_mem hkl))
      have HY : Hid ((l.getD k (0, 0)).1 < reachOf (l.take k) → overFrom 0 l = true) := over_yes hkl
      have HS : Hid (¬ (l.getD k (0, 0)).1 < reachOf (l.take k) → overFrom 0 (l.take (k + 1)) = false ∧ reachOf (l.take (k + 1)) = (l.getD k (0, 0)).1 + (l.getD k (0, 0)).2) := over_step hkl HO.out
      clear c1 c2
      generalize l.getD k (0, 0) = x at *
      generalize reachOf (l.take k) = rr at *
      obtain ⟨xa, xs⟩ := x
      dsimp only at d1 d2 hx
      obtain ⟨x1, x2, x3⟩ := hx
      have HBW : Hid (Below w.heap.size w (wr.alloc (.cells #[.int .i64 xa, .int .i64 xs] 49))) := HB.out.alloc HB.out.size _
      by_cases h : xa < rr
      · go_wp2
        go_ret
        exact ⟨ret_boolX (HY.out h).symm, HBW.out⟩
      · go_wp2_with (go_at_call 66; refine (end_any _ _ _ (by omega) (by omega) (by omega)).mono ?_; rintro e w3 ⟨rfl, hb3⟩)
        go_roundw
        case rel =>
          obtain ⟨r1, r2⟩ := HS.out (by omega)
          exact ⟨k + 1, by omega, by simp, by rw [r2], r1, HBW.out.trans (hb3.mono HBW.out.size)⟩
        case measure => simp [intOf]; omega
    · obtain rfl : k = N := by omega
      have HF : Hid (overFrom 0 l = false) := by have h := HO.out; rwa [List.take_of_length_le (by rw [HN.out]; omega)] at h
      go_wp2
      go_ret
      exact ⟨ret_boolX HF.out.symm, HB.out⟩

theorem meets_any (v : Value) (l : List Ext) (w : World) (hl : Xs w v l) (hE : EWs l) (hn : l.length ≤ 8796093022208) :
    Calls Tryd.prog 31 #[v] w fun e w' => e = .returned (.bool (meetsB l)) ∧ Below w.heap.size w w' := by
  have HX : Hid (Xs w v l) := hl
  have HE : Hid (EWs l) := hE
  clear hl hE
  go_enter Tryd.func31, Tryd.ntmps31
  go_wp2_with (first | (go_at_call 49; refine (inOrder_any _ l _ HX.out HE.out hn).mono ?_; rintro e w2 ⟨ao2, cap2, m, rfl, hp2, ho2, hx2, hb2⟩; have HM2 : Hid (m.Perm (l.filter fitB)) := hp2; have HO2 : Hid (InOrd m) := ho2; have HX2 : Hid (OwnX w2 w.heap.size 49 (.slice ao2 m.length cap2) m) := hx2; have HB2 : Hid (Below w.heap.size w w2) := hb2; clear hp2 ho2 hx2 hb2) | (go_at_call 48; refine (overlap_any _ m _ HX2.out.xs (fit_perm HM2.out) (by rw [HM2.out.length_eq]; have h1 := List.length_filter_le fitB l; omega)).mono ?_; rintro e w3 ⟨rfl, hb3⟩; rw [overFrom_meets (fit_perm HM2.out) HO2.out, meetsB_perm HM2.out, meetsB_filter]))
  go_ret
  exact ⟨rfl, HB2.out.trans (hb3.mono HB2.out.size)⟩
end Go.Proofs.YtdalkjenjnalbaaDoor
