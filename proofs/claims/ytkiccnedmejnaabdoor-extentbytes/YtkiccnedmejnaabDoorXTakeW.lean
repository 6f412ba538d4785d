/-
  The walk of extent.Take. Conditions: the numbers are ints, the list's length is one that memory bears.
-/
import Derived.Test.YtkiccnedmejnaabDoorXTake
import Derived.WalkMore
namespace Go.Proofs.YtkiccnedmejnaabDoor
open Go.RowKit Go.Sort Go.Shelf Go.Lib
set_option linter.unusedVariables false
set_option maxRecDepth 100000

set_option maxHeartbeats 8000000 in
theorem take_any (v : Value) (l : List Ext) (n : Int) (w : World) (hl : Xs w v l) (hE : EWs l) (hnl : l.length ≤ 8796093022208) :
    Calls Tryd.prog 35 #[v, .int .i64 n] w fun e w' => ∃ ao cap, e = .returned (.tuple #[.int .i64 (takeAt l n), .slice ao (takeList l n).length cap, .int .i64 (takeErr l n)]) ∧ OwnX w' w.heap.size 79 (.slice ao (takeList l n).length cap) (takeList l n) ∧ Below w.heap.size w w' := by
  have HX : Hid (Xs w v l) := hl
  obtain ⟨ao, cap, rfl, hcap, hcell⟩ := hl.opened
  have HC : Hid (∀ i, i < l.length → ∃ b off, ao = some ⟨b, off, none⟩ ∧ w.cell? ⟨b, off + i * 2, none⟩ = some (.int .i64 (l.getD i (0, 0)).1) ∧ w.cell? ⟨b, off + i * 2 + 1, none⟩ = some (.int .i64 (l.getD i (0, 0)).2) ∧ b < w.heap.size) := hcell
  have HE : Hid (EWs l) := hE
  clear hl hcell hE
  obtain ⟨N, HN⟩ : ∃ N, Hid (l.length = N) := ⟨_, rfl⟩
  rw [HN.out] at hcap hnl HX ⊢
  by_cases h1 : n < 1
  · obtain ⟨r1, r2, r3⟩ := take_arg (l := l) (n := n) (by unfold tOk; rw [show decide (1 ≤ n) = false by simp; omega]; rfl)
    have HR : Hid (takeErr l n = 2 ∧ takeAt l n = 0 ∧ takeList l n = []) := ⟨r1, r2, r3⟩
    clear r1 r2 r3
    go_enter Tryd.func35, Tryd.ntmps35
    go_wp2
    go_step3
    go_wp2
    rw [Exit.noGoto_ret]
    go_ret3
    rw [HR.out.1, HR.out.2.1, HR.out.2.2]
    exact ⟨none, 0, rfl, OwnX.nil _ _ _, Below.refl _ _⟩
  · cases hg : goodB l 4194304 with
    | false =>
      obtain ⟨r1, r2, r3⟩ := take_arg (l := l) (n := n) (by unfold tOk; rw [hg, Bool.and_false])
      have HR : Hid (takeErr l n = 2 ∧ takeAt l n = 0 ∧ takeList l n = []) := ⟨r1, r2, r3⟩
      clear r1 r2 r3
      go_enter Tryd.func35, Tryd.ntmps35
      go_wp2
      go_step3
      go_wp2_with (go_at_call 36; refine (good_any _ l _ _ HX.out HE.out (by rw [HN.out]; omega)).mono ?_; rintro e w1 ⟨rfl, hb1⟩; rw [hg])
      rw [Exit.noGoto_ret]
      go_ret3
      rw [HR.out.1, HR.out.2.1, HR.out.2.2]
      exact ⟨none, 0, rfl, OwnX.nil _ _ _, hb1⟩
    | true =>
      have HOK : Hid (tOk l n = true) := by unfold Hid tOk; rw [hg, show decide (1 ≤ n) = true by simp; omega]; rfl
      have HG : Hid (goodB l 4194304 = true) := hg
      have HFI : Hid (∀ x ∈ l, 0 ≤ x.1 ∧ 0 ≤ x.1 ∧ 1 ≤ x.2 ∧ x.1 + x.2 ≤ 4194304) := (goodFrom_sep (goodB_iff.1 hg).2.2).2
      clear hg
      go_enter Tryd.func35, Tryd.ntmps35
      go_wp2
      go_step3
      go_wp2_with (go_at_call 36; refine (good_any _ l _ _ HX.out HE.out (by rw [HN.out]; omega)).mono ?_; rintro e w1 ⟨rfl, hb1⟩; rw [HG.out]; have HB1 : Hid (Below w.heap.size w w1) := hb1; clear hb1)
      go_step3
      go_wp2
      go_loopw [7, 8, 9, 21] (fun pa pl pe i wr => ∃ k : Nat, pa = .int .i64 0 ∧ pl = .slice none 0 0 ∧ pe = .int .i64 7 ∧ k ≤ N ∧ i = .int .i64 (k : Int) ∧ Hid (∀ j, j < k → (l.getD j (0, 0)).2 < n) ∧ Hid (Below w.heap.size w wr)) (fun _ _ _ i _ => N - (intOf i).toNat)
      case atStart => exact ⟨0, rfl, rfl, rfl, Nat.zero_le _, rfl, fun j hj => by omega, HB1.out⟩
      case round =>
        obtain ⟨k, rfl, rfl, rfl, hk, rfl, HS, HB⟩ := hrel
        by_cases hlt : k < N
        · have hkl : k < l.length := by rw [HN.out]; exact hlt
          obtain ⟨b, off, rfl, c1, c2, hb⟩ := HC.out k hkl
          have d1 := (HB.out.cell (p := ⟨b, off + k * 2, none⟩) hb).trans c1
          have d2 := (HB.out.cell (p := ⟨b, off + k * 2 + 1, none⟩) hb).trans c2
          have hx := HFI.out _ (getD_mem hkl)
          have HT : Hid ((l.getD k (0, 0)).2 < n → ∀ j, j < k + 1 → (l.getD j (0, 0)).2 < n) := lt_snoc HS.out
          have HF : Hid (n ≤ (l.getD k (0, 0)).2 → takeErr l n = 0 ∧ takeAt l n = (l.getD k (0, 0)).1 ∧ takeList l n = cutL l k n) := take_found HOK.out hkl HS.out
          have HC1 : Hid ((l.getD k (0, 0)).2 = n → cutL l k n = l.take k ++ l.drop (k + 1)) := cut_same
          have HC2 : Hid (n < (l.getD k (0, 0)).2 → cutL l k n = l.set k ((l.getD k (0, 0)).1 + n, (l.getD k (0, 0)).2 - n)) := cut_set hkl
          clear c1 c2
          generalize l.getD k (0, 0) = x at *
          obtain ⟨xa, xs⟩ := x
          dsimp only at d1 d2 hx
          obtain ⟨x1, _, x2, x3⟩ := hx
          have HB0 : Hid (Below wr.heap.size wr (wr.alloc (.cells #[.int .i64 xa, .int .i64 xs] 79))) := (Below.refl _ _).alloc (Nat.le_refl _) _
          have HBW : Hid (Below w.heap.size w (wr.alloc (.cells #[.int .i64 xa, .int .i64 xs] 79))) := HB.out.alloc HB.out.size _
          have hc0 := cells_pairX (heap_alloc_new wr (.cells #[.int .i64 xa, .int .i64 xs] 79))
          by_cases hsz : xs = n
          · subst hsz
            have hq : (xs == xs) = true := by simp
            have hkc : (k : Int) + 1 ≤ (N : Int) := by omega
            have hck : (k : Int) ≤ (cap : Int) := by omega
            have hcc1 : (k : Int) + 1 ≤ (cap : Int) := by omega
            have hwk : IntKind.i64.wrap ((k : Int) + 1) = (k : Int) + 1 := by simp [IntKind.wrap, IntKind.bits, IntKind.signed]; omega
            have HL1 : Hid ((l.take k).length = k) := by unfold Hid; rw [List.length_take]; omega
            have HL2 : Hid ((l.drop (k + 1)).length = N - (k + 1)) := by unfold Hid; rw [List.length_drop, HN.out]
            have HX1 : Hid (Xs w (.slice (some ⟨b, off, none⟩) k cap) (l.take k)) := HX.out.first (by omega)
            by_cases hco : cap = k + 1
            · have hco' : (cap = k + 1) = True := by simp [hco]
              have HX2 : Hid (Xs w (.slice (some ⟨b, off, none⟩) (N - (k + 1)) (cap - (k + 1))) (l.drop (k + 1))) := HX.out.rest (by omega) (fun h => by have := HN.out; omega) (by simp)
              clear hco
              go_wp2
              go_region_held (fun w' => w'.cell? ⟨wr.heap.size, 0, none⟩ = some (.int .i64 xa)) (first | go_keep | assumption) ((go_at_call 64; refine (concat_any _ _ _ (l.take k) (l.drop (k + 1)) _ (newPairD _ _ _ _ _ (by simp)).1 (newPairD _ _ _ _ _ (by simp)).2 (HX1.out.below ((HBW.out.alloc HBW.out.size _).drew)) (HX2.out.below ((HBW.out.alloc HBW.out.size _).drew)) (by rw [HL1.out, HL2.out]; omega)).mono ?_; rintro e w5 ⟨ao5, cap5, rfl, ho5, hb5⟩; rw [HL1.out, HL2.out] at ho5 ⊢; have hc5 := cell_later hb5 (cell_later (((Below.refl _ (wr.alloc (.cells #[.int .i64 xa, .int .i64 xs] 79))).alloc (Nat.le_refl _) _).drew) hc0.1)))
              all_goals
                go_wp2
                rw [Exit.noGoto_ret]
                go_ret3
                obtain ⟨r1, r2, r3⟩ := HF.out (by simp)
                have hcl : takeList l xs = l.take k ++ l.drop (k + 1) := r3.trans (HC1.out (by simp))
                have hz : w.heap.size ≤ ((wr.alloc (.cells #[.int .i64 xa, .int .i64 xs] 79)).alloc (.cells #[.slice (some ⟨b, off, none⟩) k cap, .slice (some ⟨b, off, none⟩) (N - (k + 1)) (cap - (k + 1))] 22)).drew.heap.size := (HBW.out.alloc HBW.out.size _).drew.size
                rw [r1, r2, hcl, List.length_append, HL1.out, HL2.out]
                exact ⟨ao5, cap5, rfl, ho5.mono hz, (HBW.out.alloc HBW.out.size _).drew.trans (hb5.mono hz)⟩
            · have hco' : (cap = k + 1) = False := by simp [hco]
              have HX2 : Hid (Xs w (.slice (some ⟨b, off + (k + 1) * 2, none⟩) (N - (k + 1)) (cap - (k + 1))) (l.drop (k + 1))) := HX.out.rest (by omega) (fun _ => rfl) (by simp)
              clear hco
              go_wp2
              go_region_held (fun w' => w'.cell? ⟨wr.heap.size, 0, none⟩ = some (.int .i64 xa)) (first | go_keep | assumption) ((go_at_call 64; refine (concat_any _ _ _ (l.take k) (l.drop (k + 1)) _ (newPairD _ _ _ _ _ (by simp)).1 (newPairD _ _ _ _ _ (by simp)).2 (HX1.out.below ((HBW.out.alloc HBW.out.size _).drew)) (HX2.out.below ((HBW.out.alloc HBW.out.size _).drew)) (by rw [HL1.out, HL2.out]; omega)).mono ?_; rintro e w5 ⟨ao5, cap5, rfl, ho5, hb5⟩; rw [HL1.out, HL2.out] at ho5 ⊢; have hc5 := cell_later hb5 (cell_later (((Below.refl _ (wr.alloc (.cells #[.int .i64 xa, .int .i64 xs] 79))).alloc (Nat.le_refl _) _).drew) hc0.1)))
              all_goals
                go_wp2
                rw [Exit.noGoto_ret]
                go_ret3
                obtain ⟨r1, r2, r3⟩ := HF.out (by simp)
                have hcl : takeList l xs = l.take k ++ l.drop (k + 1) := r3.trans (HC1.out (by simp))
                have hz : w.heap.size ≤ ((wr.alloc (.cells #[.int .i64 xa, .int .i64 xs] 79)).alloc (.cells #[.slice (some ⟨b, off, none⟩) k cap, .slice (some ⟨b, off + (k + 1) * 2, none⟩) (N - (k + 1)) (cap - (k + 1))] 22)).drew.heap.size := (HBW.out.alloc HBW.out.size _).drew.size
                rw [r1, r2, hcl, List.length_append, HL1.out, HL2.out]
                exact ⟨ao5, cap5, rfl, ho5.mono hz, (HBW.out.alloc HBW.out.size _).drew.trans (hb5.mono hz)⟩
          · have hq : (xs == n) = false := by simpa using hsz
            by_cases hgt : n < xs
            · have hgt' : decide (n < xs) = true := by simpa using hgt
              have hne : 0 < l.length := by omega
              go_wp2
              go_region_held (fun w' => w'.cell? ⟨wr.heap.size, 0, none⟩ = some (.int .i64 xa) ∧ w'.cell? ⟨wr.heap.size, 1, none⟩ = some (.int .i64 xs)) (first | go_keep | exact ⟨cell_later HB5.out hc0.1, cell_later HB5.out hc0.2⟩) ((go_at_call 65; refine (clone_any _ l _ (HX.out.below (HBW.out.drew)) (by rw [HN.out]; omega) hne).mono ?_; rintro e w5 ⟨g5, cap5, rfl, ho5, hb5⟩; have HO5 : Hid (OwnX w5 (wr.alloc (.cells #[.int .i64 xa, .int .i64 xs] 79)).drew.heap.size 79 (.slice (some ⟨g5, 0, none⟩) l.length cap5) l) := ho5; have HB5 : Hid (Below (wr.alloc (.cells #[.int .i64 xa, .int .i64 xs] 79)).drew.heap.size (wr.alloc (.cells #[.int .i64 xa, .int .i64 xs] 79)).drew w5) := hb5; rw [HN.out] at HO5 ⊢; obtain ⟨m1, m2⟩ := HO5.out.cell (i := k) (by rw [HN.out]; exact hlt); have m3 := own_free HO5.out; have HZ5 : Hid (OwnX w5 (wr.alloc (.cells #[.int .i64 xa, .int .i64 xs] 79)).drew.heap.size 79 (.slice (some ⟨g5, 0, none⟩) N cap5) l) := HO5.out; clear ho5 hb5))
              all_goals
                go_wp2
                rw [Exit.noGoto_ret]
                go_ret3
                obtain ⟨r1, r2, r3⟩ := HF.out (by omega)
                have hcl : takeList l n = l.set k (xa + n, xs - n) := r3.trans (HC2.out hgt)
                have hz : w.heap.size ≤ (wr.alloc (.cells #[.int .i64 xa, .int .i64 xs] 79)).drew.heap.size := HBW.out.drew.size
                have h6 := ((HZ5.out.mono hz).setAt (i := k) (xa + n) hkl).setSize (i := k) (xs - n) (by rw [List.length_set]; exact hkl)
                rw [set_set_ext hkl] at h6
                have hg5 : w.heap.size ≤ g5 := Nat.le_trans hz (HZ5.out.lt g5 rfl).1
                rw [r1, r2, hcl, List.length_set, HN.out]
                exact ⟨_, cap5, rfl, h6, ((HBW.out.drew.trans (HB5.out.mono hz)).setCell hg5 _).setCell hg5 _⟩
            · go_wp2
              go_roundw
              case rel => exact ⟨k + 1, rfl, rfl, rfl, by omega, by simp, HT.out (by simp; omega), HBW.out⟩
              case measure => simp [intOf]; omega
        · obtain rfl : k = N := by omega
          obtain ⟨r1, r2, r3⟩ := take_full HOK.out (by rw [HN.out]; exact HS.out)
          have HR : Hid (takeErr l n = 7 ∧ takeAt l n = 0 ∧ takeList l n = []) := ⟨r1, r2, r3⟩
          clear r1 r2 r3
          go_wp2
          rw [Exit.noGoto_ret]
          go_ret3
          rw [HR.out.1, HR.out.2.1, HR.out.2.2]
          exact ⟨none, 0, rfl, OwnX.nil _ _ _, HB.out⟩
end Go.Proofs.YtkiccnedmejnaabDoor
