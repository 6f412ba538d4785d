/-
  The walks of the document's Join and Normal. Conditions: the numbers are ints, the list's length is one that memory bears.
-/
import Derived.Test.YtbpaiioonljlpabXRefOrd
import Derived.Test.YtbpaiioonljlpabXRefGood
import Derived.Test.YtbpaiioonljlpabXNormal
namespace Go.Proofs.Ytbpaiioonljlpab
open Go.RowKit Go.Sort Go.Shelf Go.Lib
set_option linter.unusedVariables false
set_option maxRecDepth 100000

/-- Those of the first k that have a byte, joined. -/
def joinTo (m : List Ext) (k : Nat) : List Ext := joinL ((m.take k).filter fitB)
theorem joinTo_pos {m : List Ext} {k : Nat} (hk : k < m.length) (h : fitB (m.getD k (0, 0)) = true) : joinTo m (k + 1) = jstep (joinTo m k) (m.getD k (0, 0)) := by
  unfold joinTo; rw [filter_snoc_pos hk h, joinL_snoc]
theorem joinTo_neg {m : List Ext} {k : Nat} (hk : k < m.length) (h : fitB (m.getD k (0, 0)) = false) : joinTo m (k + 1) = joinTo m k := by
  unfold joinTo; rw [filter_snoc_neg hk h]
theorem joinTo_length (m : List Ext) (k : Nat) : (joinTo m k).length ≤ k := by
  have h1 := joinL_length ((m.take k).filter fitB)
  have h2 := List.length_filter_le fitB (m.take k)
  have h3 := List.length_take_le k m
  unfold joinTo; omega
theorem joinTo_fit {m : List Ext} (ho : InOrd m) (k : Nat) : ∀ y ∈ joinTo m k, fitB y = true :=
  joinL_fit (fit_filter (m.take k)) (List.Pairwise.sublist List.filter_sublist (ord_take ho k))
theorem joinTo_all {m l : List Ext} (hp : m.Perm l) (ho : InOrd m) {k : Nat} (hk : m.length ≤ k) : joinTo m k = normL l := by
  unfold joinTo
  rw [List.take_of_length_le hk]
  exact joinL_sorted (hp.filter fitB) (List.Pairwise.sublist List.filter_sublist ho)

set_option maxHeartbeats 16000000 in
theorem refJoin_any (v : Value) (l : List Ext) (w : World) (hl : Xs w v l) (hm : ∀ x ∈ l, mayB x = true) (hn : l.length ≤ 1000000) :
    Calls Try.prog 39 #[v] w fun e w' => ∃ ao cap, e = .returned (.slice ao (normL l).length cap) ∧ OwnX w' w.heap.size 51 (.slice ao (normL l).length cap) (normL l) ∧ Below w.heap.size w w' := by
  obtain ⟨i1, hi, hz0, hz1, hz2⟩ := info_parts Try.infoR
  have HX : Hid (Xs w v l) := hl
  have HMY : Hid (∀ x ∈ l, mayB x = true) := hm
  obtain ⟨ao, cap, rfl, hcap, _⟩ := hl.opened
  clear hl hm
  obtain ⟨N, HN⟩ : ∃ N, Hid (l.length = N) := ⟨_, rfl⟩
  rw [HN.out] at hcap hn HX ⊢
  go_enter Try.func39, Try.ntmps39
  go_wp2_with (go_at_call 47; refine (ordered_any _ l _ HX.out (by rw [HN.out]; exact hn)).mono ?_; rintro e w1 ⟨ao1, cap1, m, rfl, hp1, ho1, hx1, hb1⟩; have HP : Hid (m.Perm l) := hp1; have HI : Hid (InOrd m) := ho1; have HX1 : Hid (OwnX w1 w.heap.size 51 (.slice ao1 m.length cap1) m) := hx1; have HB1 : Hid (Below w.heap.size w w1) := hb1; have HML : Hid (m.length = N) := hp1.length_eq.trans HN.out; rw [HML.out] at HX1 ⊢; clear hp1 ho1 hx1 hb1)
  obtain ⟨_, _, hv1, hcp1, hcell1⟩ := HX1.out.xs.opened
  have HC : Hid (∀ i, i < m.length → ∃ b off, ao1 = some ⟨b, off, none⟩ ∧ w1.cell? ⟨b, off + i * 2, none⟩ = some (.int .i64 (m.getD i (0, 0)).1) ∧ w1.cell? ⟨b, off + i * 2 + 1, none⟩ = some (.int .i64 (m.getD i (0, 0)).2) ∧ b < w1.heap.size) := by injection hv1 with e1 e2 e3; subst e1; exact hcell1
  have hcp : N ≤ cap1 := by injection hv1 with e1 e2 e3; subst e3; rw [HML.out] at hcp1; exact hcp1
  clear hv1 hcell1 hcp1
  go_loopw [3, 5] (fun o i wr => ∃ (k n c : Nat) (a : Option Addr), k ≤ N ∧ i = .int .i64 (k : Int) ∧ o = .slice a n c ∧ Hid ((joinTo m k).length = n) ∧ Hid (OwnX wr w1.heap.size 51 (.slice a n c) (joinTo m k)) ∧ Hid (Below w1.heap.size w1 wr)) (fun _ i _ => N - (intOf i).toNat)
  case atStart => exact ⟨0, 0, 0, none, Nat.zero_le _, rfl, rfl, rfl, OwnX.nil _ _ _, Below.refl _ _⟩
  case round =>
    obtain ⟨k, n, c, a, hk, rfl, rfl, HL, HO, HB⟩ := hrel
    have hnk : n ≤ k := by have h1 := joinTo_length m k; have := HL.out; omega
    by_cases hlt : k < N
    · have hkl : k < m.length := by rw [HML.out]; exact hlt
      obtain ⟨b, off, rfl, c1, c2, hb⟩ := HC.out k hkl
      have d1 := (HB.out.cell (p := ⟨b, off + k * 2, none⟩) hb).trans c1
      have d2 := (HB.out.cell (p := ⟨b, off + k * 2 + 1, none⟩) hb).trans c2
      have hx := mayB_iff.1 (HMY.out _ (HP.out.mem_iff.1 (getD_mem hkl)))
      have HJP : Hid (fitB (m.getD k (0, 0)) = true → joinTo m (k + 1) = jstep (joinTo m k) (m.getD k (0, 0))) := joinTo_pos hkl
      have HJN : Hid (fitB (m.getD k (0, 0)) = false → joinTo m (k + 1) = joinTo m k) := joinTo_neg hkl
      have HFJ : Hid (∀ y ∈ joinTo m k, fitB y = true) := joinTo_fit HI.out k
      clear c1 c2
      generalize m.getD k (0, 0) = x at *
      generalize joinTo m k = J at *
      obtain ⟨xa, xs⟩ := x
      dsimp only at d1 d2 hx
      obtain ⟨x1, x2, x3⟩ := hx
      have HB0 : Hid (Below wr.heap.size wr (wr.alloc (.cells #[.int .i64 xa, .int .i64 xs] 51))) := (Below.refl _ _).alloc (Nat.le_refl _) _
      have HBW : Hid (Below w1.heap.size w1 (wr.alloc (.cells #[.int .i64 xa, .int .i64 xs] 51))) := HB.out.alloc HB.out.size _
      have hc0 := cells_pairX (heap_alloc_new wr (.cells #[.int .i64 xa, .int .i64 xs] 51))
      by_cases hz : xs = 0
      · have HF : Hid (fitB (xa, xs) = false) := by unfold Hid fitB; simp [hz]
        have hzb : (xs == 0) = true := by simp [hz]
        clear hz
        go_wp2
        go_roundw
        case rel => exact ⟨k + 1, n, c, a, by omega, by simp, rfl, by rw [HJN.out HF.out]; exact HL, by rw [HJN.out HF.out]; exact HO.out.below HB0.out, HBW.out⟩
        case measure => simp [intOf]; omega
      · have HF : Hid (fitB (xa, xs) = true) := fitB_iff.2 ⟨x1, by dsimp only; omega, x3⟩
        have hzb : (xs == 0) = false := by simpa using hz
        have hxs : 1 ≤ xs := by omega
        clear hz
        rcases snoc_cases J with rfl | ⟨o, y, rfl⟩
        · obtain rfl : n = 0 := HL.out.symm
          go_wp2
          go_quiet (fail)
          have HO1 : Hid (OwnX ((wr.alloc (.cells #[.int .i64 xa, .int .i64 xs] 51)).drewN nq) w1.heap.size 51 (.slice a 0 c) []) := (HO.out.below HB0.out).below (below_drewN (Below.refl _ _) nq)
          have HB1 : Hid (Below w1.heap.size w1 ((wr.alloc (.cells #[.int .i64 xa, .int .i64 xs] 51)).drewN nq)) := below_drewN HBW.out nq
          have hd0 : ((wr.alloc (.cells #[.int .i64 xa, .int .i64 xs] 51)).drewN nq).cell? ⟨wr.heap.size, 0, none⟩ = some (.int .i64 xa) := cell_later (below_drewN (Below.refl _ _) nq) hc0.1
          have hd1 : ((wr.alloc (.cells #[.int .i64 xa, .int .i64 xs] 51)).drewN nq).cell? ⟨wr.heap.size, 1, none⟩ = some (.int .i64 xs) := cell_later (below_drewN (Below.refl _ _) nq) hc0.2
          obtain ⟨wq, HWQ⟩ : ∃ wq, (wr.alloc (.cells #[.int .i64 xa, .int .i64 xs] 51)).drewN nq = wq := ⟨_, rfl⟩
          rw [HWQ] at HO1 HB1 hd0 hd1 ⊢
          clear HWQ
          go_wp2_with (at_builtin; refine wpList_append_x _ rfl (.tmp 22) (.tmp 24) 28 51 rfl i1 Try.underlying28 hi hz0 hz1 hz2 w1.heap.size _ _ [] [(xa, xs)] rfl rfl (HO1.out.below ((Below.refl _ _).alloc (Nat.le_refl _) _)) (Xs.oneAt _ _ (xa, xs) _ rfl) (by simp) (by have h1 := HB1.out.size; simp; omega) ?_; intro ao3 cap3 w3 ho3 hg3 hc3 hne3; simp only [List.length_cons, List.length_nil] at ho3 hc3 ⊢)
          go_roundw
          case rel =>
            refine ⟨k + 1, 1, cap3, ao3, by omega, by simp, rfl, by unfold Hid; rw [HJP.out HF.out, jstep_nil]; rfl, by rw [HJP.out HF.out, jstep_nil]; exact ho3, ?_⟩
            have hbw := HB1.out.alloc HB1.out.size (.cells #[.int .i64 xa, .int .i64 xs] 51)
            exact hbw.grown hg3 hbw.size (fun j hj => (HO1.out.lt j hj).1)
          case measure => simp [intOf]; omega
        · have hy := fitB_iff.1 (HFJ.out y (List.mem_append.2 (.inr (List.mem_singleton.2 rfl))))
          obtain ⟨p, HPP⟩ : ∃ p, Hid (o.length = p) := ⟨_, rfl⟩
          obtain rfl : n = p + 1 := by have := HL.out; rw [List.length_append, HPP.out] at this; exact this.symm
          obtain ⟨a', c', hv, _, _, hsh⟩ := HO.out.shape
          injection hv with e1 e2 e3
          subst e1
          obtain ⟨g, rfl, hBg, hgl, hfz⟩ : ∃ g, a = some ⟨g, 0, none⟩ ∧ w1.heap.size ≤ g ∧ g < wr.heap.size ∧ ∀ j, wr.frozen? ⟨g, j, none⟩ = false := by
            rcases hsh with ⟨_, h, _⟩ | h
            · simp at h
            · exact h
          have hcy := HO.out.cell (i := p) (by simp [HPP.out])
          rw [show (o ++ [y]).getD p (0, 0) = y by rw [← HPP.out]; exact getD_snoc o y] at hcy
          obtain ⟨ya, ys⟩ := y
          dsimp only at hy hcy
          obtain ⟨y1, y2, y3⟩ := hy
          obtain ⟨q1, q2⟩ := hcy
          clear hsh e2 e3
          have r1 := cell_later HB0.out q1
          have r2 := cell_later HB0.out q2
          have rf : (wr.alloc (.cells #[.int .i64 xa, .int .i64 xs] 51)).frozen? ⟨g, p * 2 + 1, none⟩ = false := (HB0.out.frozen (p := ⟨g, p * 2 + 1, none⟩) hgl).trans (hfz _)
          have HO1 : Hid (OwnX (wr.alloc (.cells #[.int .i64 xa, .int .i64 xs] 51)) w1.heap.size 51 (.slice (some ⟨g, 0, none⟩) (p + 1) c) (o ++ [(ya, ys)])) := HO.out.below HB0.out
          obtain ⟨hd0, hd1⟩ := hc0
          obtain ⟨wq, HWQ⟩ : ∃ wq, Hid (wr.alloc (.cells #[.int .i64 xa, .int .i64 xs] 51) = wq) := ⟨_, rfl⟩
          by_cases hcmp : xa ≤ ya + ys
          · have hcm : decide (xa ≤ ya + ys) = true := by simpa using hcmp
            go_wp2
            rw [HWQ.out] at HO1 HBW r1 r2 rf hd0 hd1 ⊢
            clear HWQ HB0 d1 d2 q1 q2 hfz
            go_quiet (fail)
            go_wp2
            have k1 : (wq.drewN nq).cell? ⟨g, p * 2, none⟩ = some (.int .i64 ya) := cell_later (below_drewN (Below.refl _ _) nq) r1
            have k2 : (wq.drewN nq).cell? ⟨g, p * 2 + 1, none⟩ = some (.int .i64 ys) := cell_later (below_drewN (Below.refl _ _) nq) r2
            have k3 : (wq.drewN nq).cell? ⟨wr.heap.size, 0, none⟩ = some (.int .i64 xa) := cell_later (below_drewN (Below.refl _ _) nq) hd0
            have k4 : (wq.drewN nq).cell? ⟨wr.heap.size, 1, none⟩ = some (.int .i64 xs) := cell_later (below_drewN (Below.refl _ _) nq) hd1
            have k5 : (wq.drewN nq).frozen? ⟨g, p * 2 + 1, none⟩ = false := ((below_drewN (Below.refl _ wq) nq).frozen (p := ⟨g, p * 2 + 1, none⟩) (World.block_lt_of_cell? wq _ r2)).trans rf
            have HO2 : Hid (OwnX (wq.drewN nq) w1.heap.size 51 (.slice (some ⟨g, 0, none⟩) (p + 1) c) (o ++ [(ya, ys)])) := HO1.out.below (below_drewN (Below.refl _ _) nq)
            have HB2 : Hid (Below w1.heap.size w1 (wq.drewN nq)) := below_drewN HBW.out nq
            obtain ⟨wz, HWZ⟩ : ∃ wz, wq.drewN nq = wz := ⟨_, rfl⟩
            rw [HWZ] at HO2 HB2 k1 k2 k3 k4 k5 ⊢
            clear HWZ r1 r2 rf hd0 hd1
            refine wp_region_quiet_tail (C := fun w' => ∃ n, w' = wz.drewN n) 24 (by kernel_rfl) (by kernel_rfl) ⟨1, rfl⟩ ?_
            simp only [List.take_succ_cons, List.take_zero, List.drop_succ_cons, List.drop_zero]
            repeat (go_big_quiet_step (fail))
            refine wpQuiet_nil ?_
            intro w4 hw4
            obtain ⟨n2, rfl⟩ := hw4
            go_wp2
            have hjs : jstep (o ++ [(ya, ys)]) (xa, xs) = o ++ [(ya, max ys (xa + xs - ya))] := by rw [jstep_snoc, if_neg (by simp; omega)]
            have ho5 := (HO2.out.below (below_drewN (Below.refl _ _) n2)).setSize (i := p) (max ys (xa + xs - ya)) (by rw [HL.out]; omega)
            rw [show (o ++ [(ya, ys)]).getD p (0, 0) = (ya, ys) by rw [← HPP.out]; exact getD_snoc o _, show (o ++ [(ya, ys)]).set p ((ya, ys).1, max ys (xa + xs - ya)) = o ++ [(ya, max ys (xa + xs - ya))] by rw [← HPP.out]; exact set_snoc o _ _] at ho5
            refine ⟨⟨k + 1, p + 1, c, _, by omega, by simp, rfl, by unfold Hid; rw [HJP.out HF.out, hjs, List.length_append, HPP.out]; rfl, by rw [HJP.out HF.out, hjs]; exact ho5, ?_⟩, by simp [intOf]; omega⟩
            exact (below_drewN HB2.out n2).setCell hBg _
          · have hcm : decide (xa ≤ ya + ys) = false := by simpa using hcmp
            go_wp2
            rw [HWQ.out] at HO1 HBW r1 r2 rf hd0 hd1 ⊢
            clear HWQ HB0 d1 d2 q1 q2 hfz
            go_quiet (fail)
            have HO2 : Hid (OwnX (wq.drewN nq) w1.heap.size 51 (.slice (some ⟨g, 0, none⟩) (p + 1) c) (o ++ [(ya, ys)])) := HO1.out.below (below_drewN (Below.refl _ _) nq)
            have HB2 : Hid (Below w1.heap.size w1 (wq.drewN nq)) := below_drewN HBW.out nq
            have k0 : (wq.drewN nq).cell? ⟨wr.heap.size, 0, none⟩ = some (.int .i64 xa) := cell_later (below_drewN (Below.refl _ _) nq) hd0
            have k1 : (wq.drewN nq).cell? ⟨wr.heap.size, 1, none⟩ = some (.int .i64 xs) := cell_later (below_drewN (Below.refl _ _) nq) hd1
            obtain ⟨wz, HWZ⟩ : ∃ wz, wq.drewN nq = wz := ⟨_, rfl⟩
            rw [HWZ] at HO2 HB2 k0 k1 ⊢
            clear HWZ
            go_wp2_with (at_builtin; refine wpList_append_x _ rfl (.tmp 22) (.tmp 24) 28 51 rfl i1 Try.underlying28 hi hz0 hz1 hz2 w1.heap.size _ _ (o ++ [(ya, ys)]) [(xa, xs)] rfl rfl (HO2.out.below ((Below.refl _ _).alloc (Nat.le_refl _) _)) (Xs.oneAt _ _ (xa, xs) _ rfl) (by rw [HL.out]; simp; omega) (by have h1 := HB2.out.size; simp; omega) ?_; intro ao3 cap3 w3 ho3 hg3 hc3 hne3; rw [HL.out] at ho3 hc3; simp only [List.length_cons, List.length_nil] at ho3 hc3 ⊢; rw [HL.out])
            go_roundw
            case rel =>
              have hjs : jstep (o ++ [(ya, ys)]) (xa, xs) = o ++ [(ya, ys)] ++ [(xa, xs)] := by rw [jstep_snoc, if_pos (by dsimp only; omega)]
              refine ⟨k + 1, p + 1 + 1, cap3, ao3, by omega, by simp, rfl, by unfold Hid; rw [HJP.out HF.out, hjs, List.length_append, HL.out]; rfl, by rw [HJP.out HF.out, hjs]; exact ho3, ?_⟩
              have hbw := HB2.out.alloc HB2.out.size (.cells #[.int .i64 xa, .int .i64 xs] 51)
              exact hbw.grown hg3 hbw.size (fun j hj => (HO2.out.lt j hj).1)
            case measure => simp [intOf]; omega
    · obtain rfl : k = N := by omega
      have HF : Hid (joinTo m k = normL l) := joinTo_all HP.out HI.out (by rw [HML.out]; omega)
      go_wp2
      go_ret
      refine ⟨a, c, by rw [← HF.out, HL.out]; rfl, ?_, HB1.out.trans (HB.out.mono HB1.out.size)⟩
      rw [← HF.out, HL.out]
      exact HO.out.mono HB1.out.size
end Go.Proofs.Ytbpaiioonljlpab
