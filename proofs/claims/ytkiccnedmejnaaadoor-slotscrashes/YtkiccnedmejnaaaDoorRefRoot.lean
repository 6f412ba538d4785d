/-
  The document's bytes of a root. Conditions: the numbers fit their kinds.
-/
import Derived.Test.YtkiccnedmejnaaaDoorLoadWalk
import Derived.ArgAppend
namespace Go.Proofs.YtkiccnedmejnaaaDoor
open Go.RowKit
set_option linter.unusedVariables false
set_option maxRecDepth 100000

theorem refRBytes_no (g a z : Int) (w : World) (h : inF a = false ∨ inF z = false) :
    Calls Tryd.prog 10 #[.agg #[.int .u64 g, .int .i64 a, .int .i64 z]] w fun e w' => e = .returned (.tuple #[.slice none 0 0, .int .i64 2]) ∧ Below w.heap.size w w' := by
  rcases inF_cases a with ⟨ha, ha0, ha1⟩ | ⟨ha, hb⟩
  · rcases inF_cases z with ⟨hz, _, _⟩ | ⟨hz, hz0 | hz0⟩
    · rw [ha, hz] at h; simp at h
    · go_enter Tryd.func10, Tryd.ntmps10
      go_wp2
      go_ret2
      exact ⟨rfl, (Below.refl _ _).alloc (Nat.le_refl _) _⟩
    · have hz1 : ¬ z < 0 := by omega
      go_enter Tryd.func10, Tryd.ntmps10
      go_wp2
      go_ret2
      exact ⟨rfl, (Below.refl _ _).alloc (Nat.le_refl _) _⟩
  · rcases hb with hb | hb
    · go_enter Tryd.func10, Tryd.ntmps10
      go_wp2
      go_ret2
      exact ⟨rfl, (Below.refl _ _).alloc (Nat.le_refl _) _⟩
    · have hb1 : ¬ a < 0 := by omega
      go_enter Tryd.func10, Tryd.ntmps10
      go_wp2
      go_ret2
      exact ⟨rfl, (Below.refl _ _).alloc (Nat.le_refl _) _⟩
/-- 'append(s, x...)', s full and read as bytes, x not empty: a new row. -/
theorem wpList_append_full {P : Program} (w : World) {ops : Array Oper} {rest : List Oper} {o : Oper} {a : Act} {Q : Exit → Act → World → Prop} (hgd : o.guard = none) (s x : Operand) (t : TypeId)
    (ho : o.op = .call { callee := .builtin .append, args := #[s, x], argTypes := #[t, t] }) (i : TypeInfo) (ht : P.underlying t = some (.slice 5)) (hi : P.info? 5 = some i) (hz : i.zero = some (.int .u8 0)) (hsize : i.size = 1) (hby : i.bytes = 1)
    (v y : Value) (l m : List Int) (hs : a.eval s = v) (hx : a.eval x = y) (hl : Bs w v l) (hm : Bs w y m) (hm0 : 0 < m.length) (hfull : ∀ ao n cap, v = .slice ao n cap → cap < l.length + m.length) (hbytes : l.length + m.length ≤ 140737488355328)
    (h : ∀ ao cap w', Own w' w.heap.size (.slice ao (l.length + m.length) cap) (l ++ m) → Below w.heap.size w w' → wpList P ops Q rest (a.put o.dst (.slice ao (l.length + m.length) cap)) w') :
    wpList P ops Q (o :: rest) a w := by
  obtain ⟨ao, cap, rfl, hc, hn, hcell⟩ := hl
  obtain ⟨b, off, cap2, rfl, hc2, hcell2⟩ := hm.opened hm0
  refine wpList_append_grows w hgd s x t ho 5 i (.int .u8 0) 1 1 ht hi hz hsize hby rfl (by decide) ao l.length cap (bcells l) hs (fun e => ⟨by have := hn e; omega, hn e⟩) (by rw [bcells_length]; omega) (fun ad ha j u hj => ?_)
    ⟨b, off, none⟩ m.length cap2 (bcells m) hx (by rw [bcells_length]; omega) (fun j u hj => ?_) (bcells_one m) (hfull _ _ _ rfl) (by unfold maxLen; omega) (by omega) (fun v' w' ho' hg' => ?_)
  · obtain ⟨hj', rfl⟩ := bcells_get hj
    exact hcell ad ha j hj'
  · obtain ⟨hj', rfl⟩ := bcells_get hj
    rw [addr_add]
    exact hcell2 j hj'
  · have ho2 : Own w' w.heap.size v' (l ++ m) := by unfold Own; rw [List.length_append, bcells_append]; exact ho'
    obtain ⟨ao', cap', rfl, _, _⟩ := ho2.opened
    rw [List.length_append] at ho2 ⊢
    exact h ao' cap' w' ho2 (below_of_grown hg')

theorem digs_zero4 : digs 0 4 = [0, 0, 0, 0] := by decide
theorem four_bs (w : World) : Bs (w.alloc (.cells #[.int .u8 0, .int .u8 0, .int .u8 0, .int .u8 0] 5)) (.slice (some ⟨w.heap.size, 0, none⟩) 4 4) (digs 0 4) := by
  have hr : Row (w.alloc (.cells #[.int .u8 0, .int .u8 0, .int .u8 0, .int .u8 0] 5)) w.heap.size (digs 0 4) := by
    rw [digs_zero4]; exact heap_alloc_new w _
  exact row_bs hr (by rw [digs_length])

set_option maxHeartbeats 4000000 in
theorem refRBytes_ok (g a z : Int) (w : World) (hg0 : 0 ≤ g) (hg1 : g < 18446744073709551616) (ha0 : 0 ≤ a) (ha1 : a ≤ 4194304) (hz0 : 0 ≤ z) (hz1 : z ≤ 4194304) :
    Calls Tryd.prog 10 #[.agg #[.int .u64 g, .int .i64 a, .int .i64 z]] w fun e w' => ∃ ao cap, e = .returned (.tuple #[.slice ao 32 cap, .int .i64 0]) ∧ Own w' w.heap.size (.slice ao 32 cap) (rootB g a z) ∧ Below w.heap.size w w' := by
  obtain ⟨i0, hi, hi0, hi1, hi2⟩ := info_parts Tryd.info5
  obtain ⟨W, HW⟩ : ∃ W, Hid (W = w.alloc (.cells #[.int .u64 g, .int .i64 a, .int .i64 z] 31)) := ⟨_, rfl⟩
  have HBW : Hid (Below w.heap.size w W) := by rw [Hid, HW.out]; exact (Below.refl _ w).alloc (Nat.le_refl _) _
  have HCW : Hid (W.heap[w.heap.size]? = some (.cells #[.int .u64 g, .int .i64 a, .int .i64 z] 31 (0, 0))) := by rw [Hid, HW.out]; exact heap_alloc_new w _
  have hcv := Lib.run_convert_bytes_const (P := Tryd.prog) W 25 5 #[.int .u8 83, .int .u8 76, .int .u8 65, .int .u8 66] 4 4 Tryd.underlying25 Tryd.underlying5
  have HB2 : Hid (Below W.heap.size W (W.alloc (.cells #[.int .u8 83, .int .u8 76, .int .u8 65, .int .u8 66] 5 (4, 5)))) := (Below.refl _ W).alloc (Nat.le_refl _) _
  have HBS : Hid (Bs (W.alloc (.cells #[.int .u8 83, .int .u8 76, .int .u8 65, .int .u8 66] 5 (4, 5))) (.slice (some ⟨W.heap.size, 0, none⟩) 4 4) [83, 76, 65, 66]) := made_bs W [83, 76, 65, 66] _ rfl (4, 5)
  have HCL : Hid (∀ w', Below W.heap.size W w' → w'.cell? ⟨w.heap.size, 0, none⟩ = some (.int .u64 g) ∧ w'.cell? ⟨w.heap.size, 1, none⟩ = some (.int .i64 a) ∧ w'.cell? ⟨w.heap.size, 2, none⟩ = some (.int .i64 z)) := fun w' hb =>
    ⟨cell_later hb (by simp [World.cell?, HCW.out]), cell_later hb (by simp [World.cell?, HCW.out]), cell_later hb (by simp [World.cell?, HCW.out])⟩
  go_enter Tryd.func10, Tryd.ntmps10
  go_upto_region 3 with fail
  rw [← HW.out]
  obtain ⟨c0, c1, c2⟩ := HCL.out _ HB2.out
  go_wp2_with fail
  refine (refDigits_any 8 false g _ (by omega) hg0 hg1).mono ?_
  rintro e w3 ⟨v3, rfl, ho3, hb3⟩
  have hd3 : dig2 false g 8 = digs g 8 := rfl
  rw [hd3] at ho3
  obtain ⟨a3, cap3, e3, hc3, _⟩ := ho3.opened
  rw [digs_length] at e3
  subst e3
  have HO3 : Hid (Bs w3 (.slice a3 8 cap3) (digs g 8)) := ho3.bs
  have HL3 : Hid (Bs w3 (.slice (some ⟨W.heap.size, 0, none⟩) 4 4) [83, 76, 65, 66]) := HBS.out.below hb3
  have HB3 : Hid (Below W.heap.size W w3) := HB2.out.trans (hb3.mono HB2.out.size)
  clear ho3 hb3 hcv c0 c1 c2 hc3
  go_wp2_with (first | (at_builtin; refine wpList_append_full _ rfl (.tmp 24) (.tmp 27) 25 rfl i0 Tryd.underlying25 hi hi0 hi1 hi2 _ _ [83, 76, 65, 66] (digs g 8) rfl rfl HL3.out HO3.out (by rw [digs_length]; omega) (fun ao n cap e => by injection e with e1 e2 e3; rw [digs_length]; simp; omega) (by rw [digs_length]; simp) ?_; intro a4 cap4 w4 ho4 hb4; simp only [List.length_cons, List.length_nil, digs_length, Nat.reduceAdd] at ho4 ⊢; have HO4 : Hid (Own w4 w3.heap.size (.slice a4 12 cap4) ([83, 76, 65, 66] ++ digs g 8)) := ho4; have HB4 : Hid (Below w3.heap.size w3 w4) := hb4; clear ho4 hb4) | (at_builtin; refine wpList_append_bytes _ rfl (.tmp 29) (.tmp 30) 25 rfl i0 Tryd.underlying25 hi hi0 hi1 hi2 w3.heap.size _ _ ([83, 76, 65, 66] ++ digs g 8) (digs 0 4) rfl rfl (HO4.out.alloc _) (four_bs _) (by simp [digs_length]) w3 (HB4.out.alloc HB4.out.size _) (by have := HB4.out.size; simp; omega) ?_; intro a5 cap5 w5 ho5 hb5 _ _; simp only [List.length_cons, List.length_nil, List.length_append, digs_length, Nat.reduceAdd] at ho5 ⊢; have HO5 : Hid (Own w5 w3.heap.size (.slice a5 16 cap5) (([83, 76, 65, 66] ++ digs g 8) ++ digs 0 4)) := ho5; have HB5 : Hid (Below w3.heap.size w3 w5) := hb5; obtain ⟨r50, r51, r52⟩ := HCL.out _ (HB3.out.trans (HB5.out.mono HB3.out.size)); clear ho5 hb5))
  refine (refDigits_any 4 false a w5 (by omega) ha0 (by omega)).mono ?_
  rintro e u6 ⟨y6, rfl, hoy6, hby6⟩
  have hd6 : dig2 false a 4 = digs a 4 := rfl
  rw [hd6] at hoy6
  obtain ⟨ay6, cy6, ey6, _, _⟩ := hoy6.opened
  rw [digs_length] at ey6
  subst ey6
  have HBd6 : Hid (Bs u6 (.slice ay6 4 cy6) (digs a 4)) := hoy6.bs
  have HOd6 : Hid (Own u6 w3.heap.size (.slice a5 16 cap5) (([83, 76, 65, 66] ++ digs g 8) ++ digs 0 4)) := HO5.out.below hby6
  have HBe6 : Hid (Below w3.heap.size w3 u6) := HB5.out.trans (hby6.mono HB5.out.size)
  obtain ⟨q60, q61, q62⟩ := HCL.out _ (HB3.out.trans (HBe6.out.mono HB3.out.size))
  clear hoy6 hby6
  go_wp2_with (at_builtin; refine wpList_append_bytes _ rfl (.tmp 32) (.tmp 36) 25 rfl i0 Tryd.underlying25 hi hi0 hi1 hi2 w3.heap.size _ _ (([83, 76, 65, 66] ++ digs g 8) ++ digs 0 4) (digs a 4) rfl rfl HOd6.out HBd6.out (by simp [digs_length]) w3 HBe6.out HBe6.out.size ?_; intro a6 cap6 w6 ho6 hb6 _ _; simp only [List.length_cons, List.length_nil, List.length_append, digs_length, Nat.reduceAdd] at ho6 ⊢; have HO6 : Hid (Own w6 w3.heap.size (.slice a6 20 cap6) ((([83, 76, 65, 66] ++ digs g 8) ++ digs 0 4) ++ digs a 4)) := ho6; have HB6 : Hid (Below w3.heap.size w3 w6) := hb6; obtain ⟨r60, r61, r62⟩ := HCL.out _ (HB3.out.trans (HB6.out.mono HB3.out.size)); clear ho6 hb6)
  refine (refDigits_any 4 false z w6 (by omega) hz0 (by omega)).mono ?_
  rintro e u7 ⟨y7, rfl, hoy7, hby7⟩
  have hd7 : dig2 false z 4 = digs z 4 := rfl
  rw [hd7] at hoy7
  obtain ⟨ay7, cy7, ey7, _, _⟩ := hoy7.opened
  rw [digs_length] at ey7
  subst ey7
  have HBd7 : Hid (Bs u7 (.slice ay7 4 cy7) (digs z 4)) := hoy7.bs
  have HOd7 : Hid (Own u7 w3.heap.size (.slice a6 20 cap6) ((([83, 76, 65, 66] ++ digs g 8) ++ digs 0 4) ++ digs a 4)) := HO6.out.below hby7
  have HBe7 : Hid (Below w3.heap.size w3 u7) := HB6.out.trans (hby7.mono HB6.out.size)
  obtain ⟨q70, q71, q72⟩ := HCL.out _ (HB3.out.trans (HBe7.out.mono HB3.out.size))
  clear hoy7 hby7
  go_wp2_with (first | (at_builtin; refine wpList_append_bytes _ rfl (.tmp 38) (.tmp 42) 25 rfl i0 Tryd.underlying25 hi hi0 hi1 hi2 w3.heap.size _ _ ((([83, 76, 65, 66] ++ digs g 8) ++ digs 0 4) ++ digs a 4) (digs z 4) rfl rfl HOd7.out HBd7.out (by simp [digs_length]) w3 HBe7.out HBe7.out.size ?_; intro a7 cap7 w7 ho7 hb7 _ _; simp only [List.length_cons, List.length_nil, List.length_append, digs_length, Nat.reduceAdd] at ho7 ⊢; have HO7 : Hid (Own w7 w3.heap.size (.slice a7 24 cap7) (((([83, 76, 65, 66] ++ digs g 8) ++ digs 0 4) ++ digs a 4) ++ digs z 4)) := ho7; have HB7 : Hid (Below w3.heap.size w3 w7) := hb7; clear ho7 hb7) | (at_builtin; refine wpList_append_bytes _ rfl (.tmp 44) (.tmp 45) 25 rfl i0 Tryd.underlying25 hi hi0 hi1 hi2 w3.heap.size _ _ (((([83, 76, 65, 66] ++ digs g 8) ++ digs 0 4) ++ digs a 4) ++ digs z 4) (digs 0 4) rfl rfl (HO7.out.alloc _) (four_bs _) (by simp [digs_length]) w3 (HB7.out.alloc HB7.out.size _) (by have := HB7.out.size; simp; omega) ?_; intro a8 cap8 w8 ho8 hb8 _ _; simp only [List.length_cons, List.length_nil, List.length_append, digs_length, Nat.reduceAdd] at ho8 ⊢; have HO8 : Hid (Own w8 w3.heap.size (.slice a8 28 cap8) ((((([83, 76, 65, 66] ++ digs g 8) ++ digs 0 4) ++ digs a 4) ++ digs z 4) ++ digs 0 4)) := ho8; have HB8 : Hid (Below w3.heap.size w3 w8) := hb8; clear ho8 hb8))
  have HBW8 : Hid (Below w.heap.size w w8) := HBW.out.trans ((HB3.out.trans (HB8.out.mono HB3.out.size)).mono HBW.out.size)
  refine (refSeal_any _ (rootL g a z) w8 HO8.out.bs (by rw [rootL_length]; omega) (rootL_byt g a z)).mono ?_
  rintro e w9 ⟨x9, rfl, ho9, hb9⟩
  obtain ⟨a9, cap9, e9, _, _⟩ := ho9.opened
  rw [sealN_length, rootL_length] at e9
  subst e9
  have HO9 : Hid (Own w9 w8.heap.size (.slice a9 32 cap9) (rootB g a z)) := ho9
  have HB9 : Hid (Below w.heap.size w w9) := HBW8.out.trans (hb9.mono HBW8.out.size)
  clear ho9 hb9
  go_wp2
  go_ret2
  exact ⟨a9, cap9, rfl, HO9.out.mono HBW8.out.size, HB9.out⟩
end Go.Proofs.YtkiccnedmejnaaaDoor
