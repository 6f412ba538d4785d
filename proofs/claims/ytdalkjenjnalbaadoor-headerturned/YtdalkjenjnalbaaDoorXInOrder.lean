/-
  The walk of inOrder: those that may be and have a byte, in order, in a row of its own. Conditions: the numbers are ints, the list's length is one that memory bears.
-/
import Derived.Test.YtdalkjenjnalbaaDoorXOrder
namespace Go.Proofs.YtdalkjenjnalbaaDoor
open Go.RowKit Go.Sort Go.Shelf Go.Lib
set_option linter.unusedVariables false
set_option maxRecDepth 100000

theorem filter_snoc_pos {l : List Ext} {k : Nat} (hk : k < l.length) (h : fitB (l.getD k (0, 0)) = true) : (l.take (k + 1)).filter fitB = (l.take k).filter fitB ++ [l.getD k (0, 0)] := by
  rw [take_snoc l hk, List.filter_append, List.filter_cons_of_pos h]; rfl
theorem filter_snoc_neg {l : List Ext} {k : Nat} (hk : k < l.length) (h : fitB (l.getD k (0, 0)) = false) : (l.take (k + 1)).filter fitB = (l.take k).filter fitB := by
  rw [take_snoc l hk, List.filter_append, List.filter_cons_of_neg (by rw [h]; simp)]; simp

set_option maxHeartbeats 4000000 in
theorem inOrder_any (v : Value) (l : List Ext) (w : World) (hl : Xs w v l) (hE : EWs l) (hn : l.length ≤ 8796093022208) :
    Calls Tryd.prog 49 #[v] w fun e w' => ∃ ao cap m, e = .returned (.slice ao m.length cap) ∧ m.Perm (l.filter fitB) ∧ InOrd m ∧ OwnX w' w.heap.size 49 (.slice ao m.length cap) m ∧ Below w.heap.size w w' := by
  obtain ⟨i1, hi, hz0, hz1, hz2⟩ := info_parts Tryd.infoX
  obtain ⟨ao, cap, rfl, hcap, hcell⟩ := hl.opened
  have HC : Hid (∀ i, i < l.length → ∃ b off, ao = some ⟨b, off, none⟩ ∧ w.cell? ⟨b, off + i * 2, none⟩ = some (.int .i64 (l.getD i (0, 0)).1) ∧ w.cell? ⟨b, off + i * 2 + 1, none⟩ = some (.int .i64 (l.getD i (0, 0)).2) ∧ b < w.heap.size) := hcell
  have HE : Hid (EWs l) := hE
  clear hl hcell hE
  obtain ⟨N, HN⟩ : ∃ N, Hid (l.length = N) := ⟨_, rfl⟩
  rw [HN.out] at hcap hn ⊢
  go_enter Tryd.func49, Tryd.ntmps49
  go_wp2_with (at_make; refine wpList_make_own _ rfl _ _ 34 rfl w.heap.size 49 i1 _ 2 Tryd.underlying34 hi hz0 hz1 _ _ _ N rfl rfl rfl (by rw [hz2]; omega) (by unfold maxLen; omega) (Nat.le_refl _) ?_; intro w1 ho1 hg1; have HO1 : Hid (OwnX w1 w.heap.size 49 (.slice (some ⟨w.heap.size, 0, none⟩) 0 N) []) := ho1; have HB1 : Hid (Below w.heap.size w w1) := below_of_grownX hg1; clear ho1 hg1)
  go_loopw [3, 11] (fun o i wr => ∃ (k g n c : Nat), k ≤ N ∧ i = .int .i64 (k : Int) ∧ o = .slice (some ⟨g, 0, none⟩) n c ∧ Hid (((l.take k).filter fitB).length = n) ∧ Hid (OwnX wr w.heap.size 49 (.slice (some ⟨g, 0, none⟩) n c) ((l.take k).filter fitB)) ∧ Hid (Below w.heap.size w wr)) (fun _ i _ => N - (intOf i).toNat)
  case atStart => exact ⟨0, w.heap.size, 0, N, Nat.zero_le _, rfl, rfl, rfl, HO1.out, HB1.out⟩
  case round =>
    obtain ⟨k, g, n, c, hk, rfl, rfl, HL, HO, HB⟩ := hrel
    have hnk : n ≤ k := by
      have h1 := List.length_filter_le fitB (l.take k)
      have h2 := List.length_take_le k l
      have := HL.out; omega
    by_cases hlt : k < N
    · have hkl : k < l.length := by rw [HN.out]; exact hlt
      obtain ⟨b, off, rfl, c1, c2, hb⟩ := HC.out k hkl
      have d1 := (HB.out.cell (p := ⟨b, off + k * 2, none⟩) hb).trans c1
      have d2 := (HB.out.cell (p := ⟨b, off + k * 2 + 1, none⟩) hb).trans c2
      have hx := HE.out.at k
      have HP := @filter_snoc_pos l k hkl
      have HQ := @filter_snoc_neg l k hkl
      clear c1 c2
      generalize l.getD k (0, 0) = x at *
      obtain ⟨xa, xs⟩ := x
      have HX : Hid (EW (xa, xs)) := hx
      clear hx
      dsimp only at d1 d2
      have HP' : Hid (fitB (xa, xs) = true → (l.take (k + 1)).filter fitB = (l.take k).filter fitB ++ [(xa, xs)]) := HP
      have HQ' : Hid (fitB (xa, xs) = false → (l.take (k + 1)).filter fitB = (l.take k).filter fitB) := HQ
      clear HP HQ
      have HB0 : Hid (Below wr.heap.size wr (wr.alloc (.cells #[.int .i64 xa, .int .i64 xs] 49))) := (Below.refl _ _).alloc (Nat.le_refl _) _
      have hc0 := cells_pairX (heap_alloc_new wr (.cells #[.int .i64 xa, .int .i64 xs] 49))
      cases hm : mayB (xa, xs) with
      | false =>
        have HF : Hid (fitB (xa, xs) = false) := by unfold Hid fitB; rw [hm]; rfl
        go_wp2_with (go_at_call 50; refine (mayBe_any _ _ _ HX.out).mono ?_; rintro e w' ⟨rfl, hb2⟩; rw [hm])
        go_roundw
        case rel =>
          have hbb := HB0.out.trans (hb2.mono HB0.out.size)
          exact ⟨k + 1, g, n, c, by omega, by simp, rfl, by rw [HQ'.out HF.out]; exact HL, by rw [HQ'.out HF.out]; exact HO.out.below hbb, HB.out.trans (hbb.mono HB.out.size)⟩
        case measure => simp [intOf]; omega
      | true =>
        have HM : Hid (mayB (xa, xs) = true) := hm
        clear hm
        by_cases h0 : 0 < xs
        · have HF : Hid (fitB (xa, xs) = true) := by unfold Hid fitB; rw [HM.out]; simp [h0]
          go_wp2_with (first | (go_at_call 50; refine (mayBe_any _ _ _ HX.out).mono ?_; rintro e w' ⟨rfl, hb2⟩; rw [HM.out]; have HBB : Hid (Below wr.heap.size wr w') := HB0.out.trans (hb2.mono HB0.out.size); have e1 := cell_later hb2 hc0.1; have e2 := cell_later hb2 hc0.2) | (at_builtin; refine wpList_append_x _ rfl (.tmp 22) (.tmp 24) 34 49 rfl i1 Tryd.underlying34 hi hz0 hz1 hz2 w.heap.size _ _ ((l.take k).filter fitB) [(xa, xs)] rfl rfl ((HO.out.below HBB.out).below ((Below.refl _ _).alloc (Nat.le_refl _) _)) (Xs.one _ (xa, xs) _) (by rw [HL.out]; simp; omega) (by have h1 := HB.out.size; have h2 := HBB.out.size; simp; omega) ?_; intro ao3 cap3 w3 ho3 hg3 hc3 hne3; obtain ⟨g3, rfl, hB3, hg3'⟩ := hne3 (.inl (by simp)); rw [HL.out] at ho3 hc3; simp only [List.length_cons, List.length_nil] at ho3 hc3 ⊢; rw [HL.out]))
          go_roundw
          case rel =>
            have hbw := HB.out.trans (HBB.out.mono HB.out.size)
            have hbw2 := hbw.alloc hbw.size (.cells #[.int .i64 xa, .int .i64 xs] 49)
            refine ⟨k + 1, g3, n + 1, cap3, by omega, by simp, rfl, by unfold Hid; rw [HP'.out HF.out, List.length_append, HL.out]; rfl, by rw [HP'.out HF.out]; exact ho3, ?_⟩
            exact hbw2.grown hg3 hbw2.size (fun j hj => (HO.out.lt j hj).1)
          case measure => simp [intOf]; omega
        · have HF : Hid (fitB (xa, xs) = false) := by unfold Hid fitB; simp [h0]
          have h0' : decide (0 < xs) = false := by simpa using h0
          go_wp2_with (go_at_call 50; refine (mayBe_any _ _ _ HX.out).mono ?_; rintro e w' ⟨rfl, hb2⟩; rw [HM.out]; have e1 := cell_later hb2 hc0.1; have e2 := cell_later hb2 hc0.2)
          go_roundw
          case rel =>
            have hbb := HB0.out.trans (hb2.mono HB0.out.size)
            exact ⟨k + 1, g, n, c, by omega, by simp, rfl, by rw [HQ'.out HF.out]; exact HL, by rw [HQ'.out HF.out]; exact HO.out.below hbb, HB.out.trans (hbb.mono HB.out.size)⟩
          case measure => simp [intOf]; omega
    · obtain rfl : k = N := by omega
      have HF : Hid ((l.take k).filter fitB = l.filter fitB) := by unfold Hid; rw [List.take_of_length_le (by rw [HN.out]; omega)]
      have HS := sort_any wr w.heap.size g c (l.filter fitB) (by rw [← HF.out, HL.out]; exact HO.out) (by rw [← HF.out, HL.out]; omega)
      rw [show (l.filter fitB).length = n by rw [← HF.out]; exact HL.out] at HS
      have HS' : Hid _ := HS
      clear HS
      go_wp2_with (go_at_call 67; refine Calls.mono HS'.out ?_; rintro e w2 ⟨rfl, m, hp, ho, hx, hg2⟩)
      go_ret
      have hml : m.length = n := by rw [hp.length_eq, ← HF.out]; exact HL.out
      refine ⟨some ⟨g, 0, none⟩, c, m, by rw [hml]; rfl, hp, ho, by rw [hml]; exact hx, ?_⟩
      exact HB.out.grown hg2 HB.out.size (fun j hj => by cases hj; exact (HO.out.lt g rfl).1)
end Go.Proofs.YtdalkjenjnalbaaDoor
