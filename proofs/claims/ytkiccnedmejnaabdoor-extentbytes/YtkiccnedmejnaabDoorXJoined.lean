/-
  The walk of joined: a list in order becomes a good list, in a row of its own. Conditions: each of the list may be and has a byte, they stand in order.
-/
import Derived.Test.YtkiccnedmejnaabDoorXInOrder
import Derived.Test.YtkiccnedmejnaabDoorTail
import Derived.Shelf.SlSortCmp.QuietGrown
import Derived.BigRegion
namespace Go.Proofs.YtkiccnedmejnaabDoor
open Go.RowKit Go.Sort Go.Shelf Go.Lib
set_option linter.unusedVariables false
set_option maxRecDepth 100000

theorem joinL_fit {l : List Ext} (h : ∀ x ∈ l, fitB x = true) (ho : InOrd l) : ∀ y ∈ joinL l, fitB y = true := by
  intro y hy
  have h1 : ∀ x ∈ l, 1 ≤ x.2 := fun x hx => (fitB_iff.1 (h x hx)).2.1
  obtain ⟨s, c⟩ := joinL_sep h1 ho
  have hy2 := s.1 y hy
  obtain ⟨a, ha, a1, a2⟩ := (c y.1).1 ⟨y, hy, Int.le_refl _, by omega⟩
  obtain ⟨b, hb, b1, b2⟩ := (c (y.1 + y.2 - 1)).1 ⟨y, hy, by omega, by omega⟩
  have ha' := fitB_iff.1 (h a ha)
  have hb' := fitB_iff.1 (h b hb)
  rw [fitB_iff]; omega
theorem ord_take {l : List Ext} (h : InOrd l) (k : Nat) : InOrd (l.take k) := List.Pairwise.sublist (List.take_sublist k l) h
theorem fit_take {l : List Ext} (h : ∀ x ∈ l, fitB x = true) (k : Nat) : ∀ x ∈ l.take k, fitB x = true := fun x hx => h x (List.take_subset k l hx)
theorem getD_snoc (o : List Ext) (c : Ext) : (o ++ [c]).getD o.length (0, 0) = c := by simp [List.getD]

/-- A round's three ways. -/
theorem joinL_step {l : List Ext} {k : Nat} (hk : k < l.length) : joinL (l.take (k + 1)) = jstep (joinL (l.take k)) (l.getD k (0, 0)) := by
  rw [take_snoc l hk, joinL_snoc]
theorem set_snoc (o : List Ext) (c d : Ext) : (o ++ [c]).set o.length d = o ++ [d] := by simp

theorem below_grow (w : World) (n : Nat) (os : Array Obj) : Below w.heap.size w (grow (w.drewN n) os) :=
  ⟨rfl, rfl, rfl, by simp, fun k hk => heap_grow_old _ _ (by simpa using hk)⟩
theorem end_grown (a b : Int) (w : World) (ha : 0 ≤ a) (hb : 0 ≤ b) (hab : a + b ≤ 9223372036854775807) :
    Calls Tryd.prog 68 #[.agg #[.int .i64 a, .int .i64 b]] w fun e w' => e = .returned (.int .i64 (a + b)) ∧ ∃ q os', w' = grow (w.drewN q) os' :=
  (end_eq a b w ha hb hab).mono fun e w' ⟨h1, h2⟩ => ⟨h1, 0, _, h2.trans (alloc_eq_grow _ _)⟩

set_option maxHeartbeats 4000000 in
theorem joined_any (v : Value) (l : List Ext) (w : World) (hl : Xs w v l) (hf : ∀ x ∈ l, fitB x = true) (ho : InOrd l) (hn : l.length ≤ 8796093022208) :
    Calls Tryd.prog 62 #[v] w fun e w' => ∃ ao cap, e = .returned (.slice ao (joinL l).length cap) ∧ OwnX w' w.heap.size 79 (.slice ao (joinL l).length cap) (joinL l) ∧ Below w.heap.size w w' := by
  obtain ⟨i1, hi, hz0, hz1, hz2⟩ := info_parts Tryd.infoX
  obtain ⟨ao, cap, rfl, hcap, hcell⟩ := hl.opened
  have HC : Hid (∀ i, i < l.length → ∃ b off, ao = some ⟨b, off, none⟩ ∧ w.cell? ⟨b, off + i * 2, none⟩ = some (.int .i64 (l.getD i (0, 0)).1) ∧ w.cell? ⟨b, off + i * 2 + 1, none⟩ = some (.int .i64 (l.getD i (0, 0)).2) ∧ b < w.heap.size) := hcell
  have HFI : Hid (∀ x ∈ l, fitB x = true) := hf
  have HOR : Hid (InOrd l) := ho
  clear hl hcell hf ho
  obtain ⟨N, HN⟩ : ∃ N, Hid (l.length = N) := ⟨_, rfl⟩
  rw [HN.out] at hcap hn ⊢
  go_enter Tryd.func62, Tryd.ntmps62
  go_wp2
  go_loopw [3, 9] (fun o i wr => ∃ (k n c : Nat) (a : Option Addr), k ≤ N ∧ i = .int .i64 (k : Int) ∧ o = .slice a n c ∧ Hid ((joinL (l.take k)).length = n) ∧ Hid (OwnX wr w.heap.size 79 (.slice a n c) (joinL (l.take k))) ∧ Hid (Below w.heap.size w wr)) (fun _ i _ => N - (intOf i).toNat)
  case atStart => exact ⟨0, 0, 0, none, Nat.zero_le _, rfl, rfl, rfl, OwnX.nil _ _ _, Below.refl _ _⟩
  case round =>
    obtain ⟨k, n, c, a, hk, rfl, rfl, HL, HO, HB⟩ := hrel
    have hnk : n ≤ k := by
      have h1 := joinL_length (l.take k)
      have h2 := List.length_take_le k l
      have := HL.out; omega
    by_cases hlt : k < N
    · have hkl : k < l.length := by rw [HN.out]; exact hlt
      obtain ⟨b, off, rfl, c1, c2, hb⟩ := HC.out k hkl
      have d1 := (HB.out.cell (p := ⟨b, off + k * 2, none⟩) hb).trans c1
      have d2 := (HB.out.cell (p := ⟨b, off + k * 2 + 1, none⟩) hb).trans c2
      have hx := fitB_iff.1 (HFI.out _ (getD_mem hkl))
      have HJ : Hid (joinL (l.take (k + 1)) = jstep (joinL (l.take k)) (l.getD k (0, 0))) := joinL_step hkl
      have HFJ : Hid (∀ y ∈ joinL (l.take k), fitB y = true) := joinL_fit (fit_take HFI.out k) (ord_take HOR.out k)
      clear c1 c2
      generalize l.getD k (0, 0) = x at *
      generalize joinL (l.take k) = J at *
      obtain ⟨xa, xs⟩ := x
      dsimp only at d1 d2 hx
      obtain ⟨x1, x2, x3⟩ := hx
      have HB0 : Hid (Below wr.heap.size wr (wr.alloc (.cells #[.int .i64 xa, .int .i64 xs] 79))) := (Below.refl _ _).alloc (Nat.le_refl _) _
      have HB1 : Hid (Below w.heap.size w (wr.alloc (.cells #[.int .i64 xa, .int .i64 xs] 79))) := HB.out.alloc HB.out.size _
      have hc0 := cells_pairX (heap_alloc_new wr (.cells #[.int .i64 xa, .int .i64 xs] 79))
      rcases snoc_cases J with rfl | ⟨o, y, rfl⟩
      · obtain rfl : n = 0 := HL.out.symm
        go_wp2
        go_region
        all_goals
          go_wp2_with (at_builtin; go_loud (refine wpList_append_x _ rfl (.tmp 28) (.tmp 30) 22 79 rfl i1 Tryd.underlying22 hi hz0 hz1 hz2 w.heap.size _ _ [] [(xa, xs)] rfl rfl ((HO.out.below HB0.out).below ((Below.refl _ _).alloc (Nat.le_refl _) _)).drew (Xs.oneAt _ _ (xa, xs) _ (by simp)).drew (by simp) (by have h1 := HB.out.size; simp; omega) ?_; intro ao3 cap3 w3 ho3 hg3 hc3 hne3; simp only [List.length_cons, List.length_nil] at ho3 hc3 ⊢))
          go_roundw
          case rel =>
            obtain ⟨g3, rfl, hB3, hg3'⟩ := hne3 (.inl (by simp))
            refine ⟨k + 1, 1, cap3, _, by omega, by simp, rfl, by unfold Hid; rw [HJ.out, jstep_nil]; rfl, by rw [HJ.out, jstep_nil]; exact ho3, ?_⟩
            have hbw := (HB1.out.alloc HB1.out.size (.cells #[.int .i64 xa, .int .i64 xs] 79)).drew
            exact hbw.grown hg3 hbw.size (fun j hj => (HO.out.lt j hj).1)
          case measure => simp [intOf]; omega
      · have hy := fitB_iff.1 (HFJ.out y (List.mem_append.2 (.inr (List.mem_singleton.2 rfl))))
        obtain ⟨p, HP⟩ : ∃ p, Hid (o.length = p) := ⟨_, rfl⟩
        obtain rfl : n = p + 1 := by have := HL.out; rw [List.length_append, HP.out] at this; exact this.symm
        obtain ⟨a', c', hv, _, _, hsh⟩ := HO.out.shape
        injection hv with e1 e2 e3
        subst e1
        obtain ⟨g, rfl, hBg, hgl, hfz⟩ : ∃ g, a = some ⟨g, 0, none⟩ ∧ w.heap.size ≤ g ∧ g < wr.heap.size ∧ ∀ j, wr.frozen? ⟨g, j, none⟩ = false := by
          rcases hsh with ⟨_, h, _⟩ | h
          · simp at h
          · exact h
        have hcy := HO.out.cell (i := p) (by simp [HP.out])
        rw [show (o ++ [y]).getD p (0, 0) = y by rw [← HP.out]; exact getD_snoc o y] at hcy
        obtain ⟨ya, ys⟩ := y
        dsimp only at hy hcy
        obtain ⟨y1, y2, y3⟩ := hy
        obtain ⟨q1, q2⟩ := hcy
        clear hsh e2 e3
        have HS : Hid (∀ w', Below (wr.alloc (.cells #[.int .i64 xa, .int .i64 xs] 79)).drew.heap.size (wr.alloc (.cells #[.int .i64 xa, .int .i64 xs] 79)).drew w' → w'.cell? ⟨g, p * 2, none⟩ = some (.int .i64 ya) ∧ w'.cell? ⟨g, p * 2 + 1, none⟩ = some (.int .i64 ys) ∧ w'.cell? ⟨wr.heap.size, 0, none⟩ = some (.int .i64 xa) ∧ w'.cell? ⟨wr.heap.size, 1, none⟩ = some (.int .i64 xs)) := fun w' hb' =>
          ⟨cell_later hb' (cell_later HB0.out.drew q1), cell_later hb' (cell_later HB0.out.drew q2), cell_later hb' (show (wr.alloc _).drew.cell? _ = _ from hc0.1), cell_later hb' (show (wr.alloc _).drew.cell? _ = _ from hc0.2)⟩
        have r1 := cell_later HB0.out q1
        have r2 := cell_later HB0.out q2
        have HR : Hid (Below (wr.alloc (.cells #[.int .i64 xa, .int .i64 xs] 79)).drew.heap.size (wr.alloc (.cells #[.int .i64 xa, .int .i64 xs] 79)).drew (wr.alloc (.cells #[.int .i64 xa, .int .i64 xs] 79)).drew) := Below.refl _ _
        go_wp2
        have hR := HR.out
        go_region_held (fun w' => w'.cell? ⟨g, p * 2, none⟩ = some (.int .i64 ya) ∧ w'.cell? ⟨g, p * 2 + 1, none⟩ = some (.int .i64 ys) ∧ w'.cell? ⟨wr.heap.size, 0, none⟩ = some (.int .i64 xa) ∧ Below (wr.alloc (.cells #[.int .i64 xa, .int .i64 xs] 79)).drew.heap.size (wr.alloc (.cells #[.int .i64 xa, .int .i64 xs] 79)).drew w') (exact ⟨(HS.out _ (by assumption)).1, (HS.out _ (by assumption)).2.1, (HS.out _ (by assumption)).2.2.1, by assumption⟩) ((go_at_call 68; refine (end_any _ _ _ (by omega) (by omega) (by omega)).mono ?_; rintro e w3 ⟨rfl, hb3⟩))
        all_goals
          have hb4 : Below (wr.alloc (.cells #[.int .i64 xa, .int .i64 xs] 79)).drew.heap.size (wr.alloc (.cells #[.int .i64 xa, .int .i64 xs] 79)).drew w3 := by assumption
          have HB4 : Hid (Below wr.heap.size wr w3) := HB0.out.drew.trans (hb4.mono HB0.out.size)
          obtain ⟨s1, s2, s3, s4⟩ := HS.out w3 hb4
          have hz3 : wr.heap.size < w3.heap.size := by have h1 := hb4.size; have h2 : (wr.alloc (.cells #[.int .i64 xa, .int .i64 xs] 79)).drew.heap.size = wr.heap.size + 1 := World.size_alloc _ _; omega
          have hp0 : decide ((p : Int) < 0) = false := by simp
          by_cases hcmp : ya + ys < xa
          · have hcm : decide (ya + ys < xa) = true := by simpa using hcmp
            clear HS HR hR hb3 hb4
            go_wp2_with (at_builtin; refine wpList_append_x _ rfl (.tmp 28) (.tmp 30) 22 79 rfl i1 Tryd.underlying22 hi hz0 hz1 hz2 w.heap.size _ _ (o ++ [(ya, ys)]) [(xa, xs)] rfl rfl ((HO.out.below HB4.out).below ((Below.refl _ _).alloc (Nat.le_refl _) _)) (Xs.oneAt _ _ (xa, xs) _ (by simp)) (by rw [HL.out]; simp; omega) (by have h1 := HB.out.size; have h2 := HB4.out.size; simp; omega) ?_; intro ao4 cap4 w5 ho5 hg5 hc5 hne5; rw [HL.out] at ho5 hc5; simp only [List.length_cons, List.length_nil] at ho5 hc5 ⊢; rw [HL.out])
            go_roundw
            case rel =>
              obtain ⟨g5, rfl, hB5, hg5'⟩ := hne5 (.inl (by simp))
              have hjs : jstep (o ++ [(ya, ys)]) (xa, xs) = o ++ [(ya, ys)] ++ [(xa, xs)] := by rw [jstep_snoc, if_pos hcmp]
              refine ⟨k + 1, p + 1 + 1, cap4, _, by omega, by simp, rfl, by unfold Hid; rw [HJ.out, hjs, List.length_append, HL.out]; rfl, by rw [HJ.out, hjs]; exact ho5, ?_⟩
              have hbw0 := HB.out.trans (HB4.out.mono HB.out.size)
              have hbw := hbw0.alloc hbw0.size (.cells #[.int .i64 xa, .int .i64 xs] 79)
              exact hbw.grown hg5 hbw.size (fun j hj => (HO.out.lt j hj).1)
            case measure => simp [intOf]; omega
          · have hcm : decide (ya + ys < xa) = false := by simpa using hcmp
            clear HS HR hR hb3 hb4
            have hgl3 : g < w3.heap.size := Nat.lt_of_lt_of_le hgl HB4.out.size
            have hfz3 : w3.frozen? ⟨g, p * 2 + 1, none⟩ = false := (HB4.out.frozen (p := ⟨g, p * 2 + 1, none⟩) hgl).trans (hfz _)
            have hbl3 : wr.heap.size < w3.heap.size := hz3
            have g1 := cell_grown (w := w3) (a := ⟨g, p * 2, none⟩) hgl3 s1
            have g2 := cell_grown (w := w3) (a := ⟨g, p * 2 + 1, none⟩) hgl3 s2
            have g3 := cell_grown (w := w3) (a := ⟨wr.heap.size, 0, none⟩) hbl3 s3
            have g4 := cell_grown (w := w3) (a := ⟨wr.heap.size, 1, none⟩) hbl3 s4
            have g5 : ∀ n os, (grow (w3.drewN n) os).frozen? ⟨g, p * 2 + 1, none⟩ = false := fun n os => by rw [frozen?_grow _ _ _ (by exact hgl3)]; exact hfz3
            have hww : IntKind.i64.wrap (xa + xs - ya) = xa + xs - ya := by simp [IntKind.wrap, IntKind.bits, IntKind.signed]; omega
            clear s1 s2 s3 s4
            go_wp2
            refine wp_region_quiet_tail (C := fun w' => ∃ p : GrownBy, w' = grow (w3.drewN p.n) p.os) 18 (by kernel_rfl) (by kernel_rfl) ⟨⟨1, #[]⟩, by rw [grow_empty]; rfl⟩ ?_
            simp only [List.take_succ_cons, List.take_zero, List.drop_succ_cons, List.drop_zero]
            repeat (quiet_step ((go_at_call 68; exact Calls.grown_of (end_grown _ _ _ (by omega) (by omega) (by omega)))))
            refine wpQuiet_nil ?_
            intro w4 hw4
            obtain ⟨⟨nq, osq⟩, rfl⟩ := hw4
            go_wp2
            have hjs : jstep (o ++ [(ya, ys)]) (xa, xs) = o ++ [(ya, max ys (xa + xs - ya))] := by rw [jstep_snoc, if_neg (by simp; omega)]
            have hb4 : Below w3.heap.size w3 (grow (w3.drewN nq) osq) := below_grow w3 nq osq
            have hb5 := HB4.out.trans (hb4.mono HB4.out.size)
            have ho5 := (HO.out.below hb5).setSize (i := p) (max ys (xa + xs - ya)) (by rw [HL.out]; omega)
            rw [show (o ++ [(ya, ys)]).getD p (0, 0) = (ya, ys) by rw [← HP.out]; exact getD_snoc o _, show (o ++ [(ya, ys)]).set p ((ya, ys).1, max ys (xa + xs - ya)) = o ++ [(ya, max ys (xa + xs - ya))] by rw [← HP.out]; exact set_snoc o _ _] at ho5
            refine ⟨⟨k + 1, p + 1, c, _, by omega, by simp, rfl, by unfold Hid; rw [HJ.out, hjs, List.length_append, HP.out]; rfl, by rw [HJ.out, hjs]; exact ho5, ?_⟩, by simp [intOf]; omega⟩
            exact (HB.out.trans (hb5.mono HB.out.size)).setCell hBg _
    · obtain rfl : k = N := by omega
      have HF : Hid (joinL (l.take k) = joinL l) := by unfold Hid; rw [List.take_of_length_le (by rw [HN.out]; omega)]
      go_wp2
      go_ret
      refine ⟨a, c, by rw [← HF.out, HL.out]; rfl, ?_, HB.out⟩
      rw [← HF.out, HL.out]; exact HO.out
end Go.Proofs.YtkiccnedmejnaabDoor
