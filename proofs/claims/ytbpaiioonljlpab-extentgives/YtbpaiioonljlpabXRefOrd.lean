/-
  The walk of the document's ordered: a list put in order, in a row of its own. Conditions: the numbers are ints, there are not more than 1000000.
-/
import Derived.Test.YtbpaiioonljlpabXLaw
import Derived.Test.YtbpaiioonljlpabXTake
namespace Go.Proofs.Ytbpaiioonljlpab
open Go.RowKit Go.Sort Go.Shelf Go.Lib
set_option linter.unusedVariables false
set_option maxRecDepth 100000

/-- One more extent is put into a list in order. -/
theorem ins_perm (o : List Ext) (x : Ext) (k : Nat) : (o.take k ++ x :: o.drop k).Perm (o ++ [x]) := by
  have h1 : (o.take k ++ x :: o.drop k).Perm (x :: (o.take k ++ o.drop k)) := List.perm_middle
  rw [List.take_append_drop] at h1
  exact h1.trans (List.perm_append_singleton x o).symm
theorem ins_ord {o : List Ext} (h : InOrd o) (x : Ext) {k : Nat} (hk : k ≤ o.length) (h1 : 0 < k → (o.getD (k - 1) (0, 0)).1 ≤ x.1) (h2 : ∀ j, k ≤ j → j < o.length → x.1 < (o.getD j (0, 0)).1) : InOrd (o.take k ++ x :: o.drop k) := by
  have hp := List.pairwise_iff_getElem.1 h
  have lo : ∀ y ∈ o.take k, y.1 ≤ x.1 := by
    intro y hy
    obtain ⟨j, hj, rfl⟩ := List.getElem_of_mem hy
    rw [List.length_take] at hj
    have hk0 : 0 < k := by omega
    have h3 := h1 hk0
    have e : o.getD (k - 1) (0, 0) = o[k - 1]'(by omega) := by simp [List.getD, show k - 1 < o.length by omega]
    rw [e] at h3
    rw [List.getElem_take]
    by_cases hjk : j = k - 1
    · subst hjk; exact h3
    · have := hp j (k - 1) (by omega) (by omega) (by omega); omega
  have hi : ∀ y ∈ o.drop k, x.1 < y.1 := by
    intro y hy
    obtain ⟨j, hj, rfl⟩ := List.getElem_of_mem hy
    rw [List.length_drop] at hj
    have := h2 (k + j) (by omega) (by omega)
    rw [List.getElem_drop]
    simpa [List.getD, show k + j < o.length by omega] using this
  unfold InOrd
  rw [List.pairwise_append, List.pairwise_cons]
  refine ⟨List.Pairwise.sublist (List.take_sublist k o) h, ⟨fun y hy => by have := hi y hy; omega, List.Pairwise.sublist (List.drop_sublist k o) h⟩, fun a ha b hb => ?_⟩
  have h3 := lo a ha
  rcases List.mem_cons.1 hb with rfl | hb
  · exact h3
  · have := hi b hb; omega
/-- A step of the shift. -/
theorem shift_step (o : List Ext) (y : Ext) {j : Nat} (hj : j + 1 ≤ o.length) : (o.take (j + 1) ++ y :: o.drop (j + 1)).set (j + 1) (o.getD j (0, 0)) = o.take j ++ o.getD j (0, 0) :: o.drop j := by
  have e : o.getD j (0, 0) = o[j] := by simp [List.getD, show j < o.length by omega]
  have hl : (o.take (j + 1)).length = j + 1 := by rw [List.length_take]; omega
  have d : o.drop j = o.getD j (0, 0) :: o.drop (j + 1) := by rw [e]; exact List.drop_eq_getElem_cons (by omega)
  rw [List.set_append_right _ _ (by omega), hl, Nat.sub_self, List.set_cons_zero, d, take_snoc o (by omega), List.append_assoc]
  rfl
theorem shift_get (o : List Ext) (y : Ext) {j : Nat} (hj : j + 1 ≤ o.length) : (o.take (j + 1) ++ y :: o.drop (j + 1)).getD j (0, 0) = o.getD j (0, 0) := by
  have hl : (o.take (j + 1)).length = j + 1 := by rw [List.length_take]; omega
  simp [List.getD, List.getElem?_append_left (show j < (o.take (j + 1)).length by omega)]
theorem shift_last (o : List Ext) (y x : Ext) {k : Nat} (hk : k ≤ o.length) : (o.take k ++ y :: o.drop k).set k x = o.take k ++ x :: o.drop k := by
  have hl : (o.take k).length = k := by rw [List.length_take]; omega
  rw [List.set_append_right _ _ (by omega), hl, Nat.sub_self, List.set_cons_zero]
theorem shift_length (o : List Ext) (y : Ext) {k : Nat} (hk : k ≤ o.length) : (o.take k ++ y :: o.drop k).length = o.length + 1 := by
  simp; omega

set_option maxHeartbeats 16000000 in
theorem ordered_any (v : Value) (l : List Ext) (w : World) (hl : Xs w v l) (hn : l.length ≤ 1000000) :
    Calls Try.prog 47 #[v] w fun e w' => ∃ ao cap m, e = .returned (.slice ao m.length cap) ∧ m.Perm l ∧ InOrd m ∧ OwnX w' w.heap.size 51 (.slice ao m.length cap) m ∧ Below w.heap.size w w' := by
  obtain ⟨i1, hi, hz0, hz1, hz2⟩ := info_parts Try.infoR
  obtain ⟨ao, cap, rfl, hcap, hcell⟩ := hl.opened
  have HC : Hid (∀ i, i < l.length → ∃ b off, ao = some ⟨b, off, none⟩ ∧ w.cell? ⟨b, off + i * 2, none⟩ = some (.int .i64 (l.getD i (0, 0)).1) ∧ w.cell? ⟨b, off + i * 2 + 1, none⟩ = some (.int .i64 (l.getD i (0, 0)).2) ∧ b < w.heap.size) := hcell
  clear hl hcell
  obtain ⟨N, HN⟩ : ∃ N, Hid (l.length = N) := ⟨_, rfl⟩
  rw [HN.out] at hcap hn ⊢
  go_enter Try.func47, Try.ntmps47
  go_wp2
  go_loopw [3, 4] (fun o i wr => ∃ (p : Nat) (a : Option Addr) (c : Nat) (m : List Ext), p ≤ N ∧ i = .int .i64 (p : Int) ∧ o = .slice a p c ∧ Hid (m.Perm (l.take p)) ∧ Hid (InOrd m) ∧ Hid (m.length = p) ∧ Hid (OwnX wr w.heap.size 51 (.slice a p c) m) ∧ Hid (Below w.heap.size w wr)) (fun _ i _ => N - (intOf i).toNat)
  case atStart => exact ⟨0, none, 0, [], Nat.zero_le _, rfl, rfl, List.Perm.nil, List.Pairwise.nil, rfl, OwnX.nil _ _ _, Below.refl _ _⟩
  case round =>
    obtain ⟨p, a, c, m, hp, rfl, rfl, HP, HI, HL, HO, HB⟩ := hrel
    by_cases hlt : p < N
    · have hpl : p < l.length := by rw [HN.out]; exact hlt
      obtain ⟨b, off, rfl, c1, c2, hb⟩ := HC.out p hpl
      have HCW : Hid (∀ w', Below w.heap.size w w' → w'.cell? ⟨b, off + p * 2, none⟩ = some (.int .i64 (l.getD p (0, 0)).1) ∧ w'.cell? ⟨b, off + p * 2 + 1, none⟩ = some (.int .i64 (l.getD p (0, 0)).2)) := fun w' h' => ⟨(h'.cell (p := ⟨b, off + p * 2, none⟩) hb).trans c1, (h'.cell (p := ⟨b, off + p * 2 + 1, none⟩) hb).trans c2⟩
      have HTK : Hid (l.take (p + 1) = l.take p ++ [l.getD p (0, 0)]) := take_snoc l hpl
      clear c1 c2
      generalize l.getD p (0, 0) = x at *
      obtain ⟨xa, xs⟩ := x
      generalize wr = wa at *
      go_wp2
      -- the place
      go_loopw [5] (fun i wr => ∃ k : Nat, k ≤ p ∧ i = .int .i64 (k : Int) ∧ Hid (∀ j, k ≤ j → j < p → xa < (m.getD j (0, 0)).1) ∧ Hid (OwnX wr w.heap.size 51 (.slice a p c) m) ∧ Hid (Below w.heap.size w wr)) (fun i _ => (intOf i).toNat)
      case atStart => exact ⟨p, Nat.le_refl _, rfl, (fun j h1 h2 => by omega), HO.out, HB.out⟩
      case round =>
        obtain ⟨k, hk, rfl, HK, HO2, HB2⟩ := hrel
        obtain ⟨d1, d2⟩ := HCW.out _ HB2.out
        try dsimp only at d1 d2
        have hpN : (p : Int) < (N : Int) := by omega
        rcases (show k = 0 ∨ ∃ j, k = j + 1 by cases k with | zero => exact .inl rfl | succ j => exact .inr ⟨j, rfl⟩) with hk0 | ⟨j, rfl⟩
        · have HORD : Hid (InOrd (m.take k ++ (xa, xs) :: m.drop k)) := ins_ord HI.out (xa, xs) (by rw [HL.out]; exact hk) (fun h => by omega) (fun j h1 h2 => HK.out j h1 (by rw [HL.out] at h2; exact h2))
          have hp0 : ((0 : Int) < (k : Int)) = False := by simp [hk0]
          have hp1 : (0 < k) = False := by simp [hk0]
          clear hk0
          go_wp2
          go_quiet (fail)
          have HO1 : Hid (OwnX (wr.drewN nq) w.heap.size 51 (.slice a p c) m) := HO2.out.below (below_drewN (Below.refl _ _) nq)
          have HB1 : Hid (Below w.heap.size w (wr.drewN nq)) := below_drewN HB2.out nq
          obtain ⟨wq, HWQ⟩ : ∃ wq, wr.drewN nq = wq := ⟨_, rfl⟩
          rw [HWQ] at HO1 HB1 ⊢
          clear HWQ
          go_wp2_with (at_builtin; refine wpList_append_x _ rfl (.tmp 33) (.tmp 35) 28 51 rfl i1 Try.underlying28 hi hz0 hz1 hz2 w.heap.size _ _ m [(0, 0)] rfl rfl (HO1.out.below ((Below.refl _ _).alloc (Nat.le_refl _) _)) (Xs.oneAt _ _ (0, 0) _ rfl) (by rw [HL.out]; simp; omega) (by have h1 := HB1.out.size; simp; omega) ?_; intro ao3 cap3 w3 ho3 hg3 hc3 hne3; obtain ⟨g, rfl, hBg, hgl⟩ := hne3 (.inl (by simp)); rw [HL.out] at ho3 hc3 ⊢; simp only [List.length_cons, List.length_nil, Nat.zero_add] at ho3 hc3 ⊢; have HO3 : Hid (OwnX w3 w.heap.size 51 (.slice (some ⟨g, 0, none⟩) (p + 1) cap3) (m ++ [(0, 0)])) := ho3; have HB3 : Hid (Below w.heap.size w w3) := (HB1.out.alloc HB1.out.size (.cells #[.int .i64 0, .int .i64 0] 51)).grown hg3 (HB1.out.alloc HB1.out.size _).size (fun j hj => (HO1.out.lt j hj).1); clear ho3 hg3 hne3)
          go_loopw [6] (fun i wr => ∃ (j : Nat) (y : Ext), k ≤ j ∧ j ≤ p ∧ i = .int .i64 (j : Int) ∧ Hid (OwnX wr w.heap.size 51 (.slice (some ⟨g, 0, none⟩) (p + 1) cap3) (m.take j ++ y :: m.drop j)) ∧ Hid (Below w.heap.size w wr)) (fun i _ => (intOf i).toNat)
          case atStart => exact ⟨p, (0, 0), by omega, Nat.le_refl _, by simp, (by have := HO3.out; rw [show m ++ [((0 : Int), (0 : Int))] = m.take p ++ (0, 0) :: m.drop p by rw [List.take_of_length_le (by rw [HL.out]; omega), List.drop_of_length_le (by rw [HL.out]; omega)]] at this; exact this), HB3.out⟩
          case round =>
            obtain ⟨j, y, hkj, hjp, rfl, HO4, HB4⟩ := hrel
            have HSL : Hid ((m.take j ++ y :: m.drop j).length = p + 1) := by unfold Hid; rw [shift_length m y (by rw [HL.out]; exact hjp), HL.out]
            have hfz := own_free HO4.out
            by_cases hjk : k < j
            · obtain ⟨t, rfl⟩ : ∃ t, j = t + 1 := ⟨j - 1, by omega⟩
              obtain ⟨z1, z2⟩ := HO4.out.cell (i := t) (by rw [HSL.out]; omega)
              obtain ⟨y1, y2⟩ := HO4.out.cell (i := t + 1) (by rw [HSL.out]; omega)
              rw [shift_get m y (by rw [HL.out]; exact hjp)] at z1 z2
              have HST : Hid ((m.take (t + 1) ++ y :: m.drop (t + 1)).set (t + 1) (m.getD t (0, 0)) = m.take t ++ m.getD t (0, 0) :: m.drop t) := shift_step m y (by rw [HL.out]; exact hjp)
              generalize (m.take (t + 1) ++ y :: m.drop (t + 1)).getD (t + 1) (0, 0) = yy at y1 y2
              generalize m.getD t (0, 0) = zz at *
              obtain ⟨za, zs⟩ := zz
              dsimp only at z1 z2
              have hkj' : ((k : Nat) : Int) < ((t + 1 : Nat) : Int) := by omega
              go_wp2
              go_roundw
              case rel =>
                refine ⟨t, (za, zs), by omega, by omega, by simp, ?_, (HB4.out.setCell hBg _).setCell hBg _⟩
                have h6 := (HO4.out.setAt (i := t + 1) za (by rw [HSL.out]; omega)).setSize (i := t + 1) zs (by rw [List.length_set, HSL.out]; omega)
                rw [set_set_ext (by rw [HSL.out]; omega), HST.out] at h6
                exact h6
              case measure => simp [intOf]
            · obtain rfl : k = j := by omega
              obtain ⟨y1, y2⟩ := HO4.out.cell (i := k) (by rw [HSL.out]; omega)
              generalize (m.take (k) ++ y :: m.drop (k)).getD (k) (0, 0) = yy at y1 y2
              obtain ⟨f1, f2⟩ := HCW.out _ HB4.out
              try dsimp only at f1 f2
              have hjk' : ¬ (((k : Nat) : Int) < ((k : Nat) : Int)) := by omega
              go_wp2
              go_roundw
              case rel =>
                have h6 := (HO4.out.setAt (i := k) xa (by rw [HSL.out]; omega)).setSize (i := k) xs (by rw [List.length_set, HSL.out]; omega)
                rw [set_set_ext (by rw [HSL.out]; omega), shift_last m y (xa, xs) (by rw [HL.out]; exact hjp)] at h6
                refine ⟨p + 1, _, cap3, m.take (k) ++ (xa, xs) :: m.drop (k), by omega, by simp, rfl, ?_, HORD.out, ?_, h6, (HB4.out.setCell hBg _).setCell hBg _⟩
                · unfold Hid; rw [HTK.out]; exact (ins_perm m (xa, xs) (k)).trans (HP.out.append_right _)
                · unfold Hid; rw [shift_length m (xa, xs) (by rw [HL.out]; exact hjp), HL.out]
              case measure => simp [intOf]; omega
        · obtain ⟨aa, cc, hv, _, _, hsh⟩ := HO2.out.shape
          injection hv with e1 e2 e3
          subst e1
          obtain ⟨g0, rfl, hBg0, hgl0, _⟩ : ∃ g, a = some ⟨g, 0, none⟩ ∧ w.heap.size ≤ g ∧ g < wr.heap.size ∧ ∀ j, wr.frozen? ⟨g, j, none⟩ = false := by
            rcases hsh with ⟨_, h, _⟩ | h
            · have := HL.out; rw [h] at this; simp at this; omega
            · exact h
          clear hsh e2 e3
          obtain ⟨z1, z2⟩ := HO2.out.cell (i := j) (by rw [HL.out]; omega)
          have hjp' : (j : Int) < (p : Int) := by omega
          by_cases hgt : xa < (m.getD j (0, 0)).1
          · have HN2 : Hid (∀ i, j ≤ i → i < p → xa < (m.getD i (0, 0)).1) := fun i h1 h2 => by
              by_cases e : i = j
              · subst e; exact hgt
              · exact HK.out i (by omega) h2
            generalize m.getD j (0, 0) = zz at *
            obtain ⟨za, zs⟩ := zz
            dsimp only at z1 z2 hgt
            have hgt' : decide (xa < za) = true := by simpa using hgt
            have hp0 : ((0 : Int) < ((j + 1 : Nat) : Int)) = True := by simp
            go_wp2
            go_quiet (fail)
            go_wp2
            go_roundw
            case rel => exact ⟨j, by omega, by simp, HN2.out, HO2.out.below (below_drewN (Below.refl _ _) nq), below_drewN HB2.out nq⟩
            case measure => simp [intOf]
          · have HORD : Hid (InOrd (m.take (j + 1) ++ (xa, xs) :: m.drop (j + 1))) := ins_ord HI.out (xa, xs) (by rw [HL.out]; exact hk) (fun h => by simp; simp at hgt; omega) (fun i h1 h2 => HK.out i h1 (by rw [HL.out] at h2; exact h2))
            generalize m.getD j (0, 0) = zz at *
            obtain ⟨za, zs⟩ := zz
            dsimp only at z1 z2 hgt
            have hgt' : decide (xa < za) = false := by simpa using hgt
            have hp0 : ((0 : Int) < ((j + 1 : Nat) : Int)) = True := by simp
            go_wp2
            go_quiet (fail)
            have HO1 : Hid (OwnX (wr.drewN nq) w.heap.size 51 (.slice (some ⟨g0, 0, none⟩) p c) m) := HO2.out.below (below_drewN (Below.refl _ _) nq)
            have HB1 : Hid (Below w.heap.size w (wr.drewN nq)) := below_drewN HB2.out nq
            obtain ⟨wq, HWQ⟩ : ∃ wq, wr.drewN nq = wq := ⟨_, rfl⟩
            rw [HWQ] at HO1 HB1 ⊢
            clear HWQ
            go_wp2_with (at_builtin; refine wpList_append_x _ rfl (.tmp 33) (.tmp 35) 28 51 rfl i1 Try.underlying28 hi hz0 hz1 hz2 w.heap.size _ _ m [(0, 0)] rfl rfl (HO1.out.below ((Below.refl _ _).alloc (Nat.le_refl _) _)) (Xs.oneAt _ _ (0, 0) _ rfl) (by rw [HL.out]; simp; omega) (by have h1 := HB1.out.size; simp; omega) ?_; intro ao3 cap3 w3 ho3 hg3 hc3 hne3; obtain ⟨g, rfl, hBg, hgl⟩ := hne3 (.inl (by simp)); rw [HL.out] at ho3 hc3 ⊢; simp only [List.length_cons, List.length_nil, Nat.zero_add] at ho3 hc3 ⊢; have HO3 : Hid (OwnX w3 w.heap.size 51 (.slice (some ⟨g, 0, none⟩) (p + 1) cap3) (m ++ [(0, 0)])) := ho3; have HB3 : Hid (Below w.heap.size w w3) := (HB1.out.alloc HB1.out.size (.cells #[.int .i64 0, .int .i64 0] 51)).grown hg3 (HB1.out.alloc HB1.out.size _).size (fun j hj => (HO1.out.lt j hj).1); clear ho3 hg3 hne3)
            go_loopw [6] (fun i wr => ∃ (jj : Nat) (y : Ext), (j + 1) ≤ jj ∧ jj ≤ p ∧ i = .int .i64 (jj : Int) ∧ Hid (OwnX wr w.heap.size 51 (.slice (some ⟨g, 0, none⟩) (p + 1) cap3) (m.take jj ++ y :: m.drop jj)) ∧ Hid (Below w.heap.size w wr)) (fun i _ => (intOf i).toNat)
            case atStart => exact ⟨p, (0, 0), by omega, Nat.le_refl _, by simp, (by have := HO3.out; rw [show m ++ [((0 : Int), (0 : Int))] = m.take p ++ (0, 0) :: m.drop p by rw [List.take_of_length_le (by rw [HL.out]; omega), List.drop_of_length_le (by rw [HL.out]; omega)]] at this; exact this), HB3.out⟩
            case round =>
              obtain ⟨jj, y, hkj, hjp, rfl, HO4, HB4⟩ := hrel
              have HSL : Hid ((m.take jj ++ y :: m.drop jj).length = p + 1) := by unfold Hid; rw [shift_length m y (by rw [HL.out]; exact hjp), HL.out]
              have hfz := own_free HO4.out
              by_cases hjk : j + 1 < jj
              · obtain ⟨t, rfl⟩ : ∃ t, jj = t + 1 := ⟨jj - 1, by omega⟩
                obtain ⟨z1, z2⟩ := HO4.out.cell (i := t) (by rw [HSL.out]; omega)
                obtain ⟨y1, y2⟩ := HO4.out.cell (i := t + 1) (by rw [HSL.out]; omega)
                rw [shift_get m y (by rw [HL.out]; exact hjp)] at z1 z2
                have HST : Hid ((m.take (t + 1) ++ y :: m.drop (t + 1)).set (t + 1) (m.getD t (0, 0)) = m.take t ++ m.getD t (0, 0) :: m.drop t) := shift_step m y (by rw [HL.out]; exact hjp)
                generalize (m.take (t + 1) ++ y :: m.drop (t + 1)).getD (t + 1) (0, 0) = yy at y1 y2
                generalize m.getD t (0, 0) = zz at *
                obtain ⟨za, zs⟩ := zz
                dsimp only at z1 z2
                have hkj' : (((j + 1) : Nat) : Int) < ((t + 1 : Nat) : Int) := by omega
                go_wp2
                go_roundw
                case rel =>
                  refine ⟨t, (za, zs), by omega, by omega, by simp, ?_, (HB4.out.setCell hBg _).setCell hBg _⟩
                  have h6 := (HO4.out.setAt (i := t + 1) za (by rw [HSL.out]; omega)).setSize (i := t + 1) zs (by rw [List.length_set, HSL.out]; omega)
                  rw [set_set_ext (by rw [HSL.out]; omega), HST.out] at h6
                  exact h6
                case measure => simp [intOf]
              · obtain rfl : jj = j + 1 := by omega
                obtain ⟨y1, y2⟩ := HO4.out.cell (i := (j + 1)) (by rw [HSL.out]; omega)
                generalize (m.take ((j + 1)) ++ y :: m.drop ((j + 1))).getD ((j + 1)) (0, 0) = yy at y1 y2
                obtain ⟨f1, f2⟩ := HCW.out _ HB4.out
                try dsimp only at f1 f2
                have hjk' : ¬ ((((j + 1) : Nat) : Int) < (((j + 1) : Nat) : Int)) := by omega
                go_wp2
                go_roundw
                case rel =>
                  have h6 := (HO4.out.setAt (i := (j + 1)) xa (by rw [HSL.out]; omega)).setSize (i := (j + 1)) xs (by rw [List.length_set, HSL.out]; omega)
                  rw [set_set_ext (by rw [HSL.out]; omega), shift_last m y (xa, xs) (by rw [HL.out]; exact hjp)] at h6
                  refine ⟨p + 1, _, cap3, m.take ((j + 1)) ++ (xa, xs) :: m.drop ((j + 1)), by omega, by simp, rfl, ?_, HORD.out, ?_, h6, (HB4.out.setCell hBg _).setCell hBg _⟩
                  · unfold Hid; rw [HTK.out]; exact (ins_perm m (xa, xs) ((j + 1))).trans (HP.out.append_right _)
                  · unfold Hid; rw [shift_length m (xa, xs) (by rw [HL.out]; exact hjp), HL.out]
                case measure => simp [intOf]; omega
    · obtain rfl : p = N := by omega
      go_wp2
      go_ret
      refine ⟨a, c, m, by rw [HL.out]; rfl, ?_, HI.out, by rw [HL.out]; exact HO.out, HB.out⟩
      have := HP.out
      rwa [List.take_of_length_le (by rw [HN.out]; omega)] at this
end Go.Proofs.Ytbpaiioonljlpab
