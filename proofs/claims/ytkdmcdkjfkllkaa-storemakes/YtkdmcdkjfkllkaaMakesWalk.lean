/-
  The walk of StoreMakes: a file is made of any bytes as the document says, or not.
-/
import Derived.Test.YtkdmcdkjfkllkaaRefFile
import Derived.Test.YtkdmcdkjfkllkaaReadsWalk
namespace Go.Proofs.Ytkdmcdkjfkllkaa
open Go.RowKit
set_option linter.unusedVariables false

theorem newM_short (b : List Int) (most : Int) : ∀ x ∈ (newM b most).rs, x.2.length ≤ 140737488355328 := fun x hx => by simp [newM] at hx
theorem newM_few (b : List Int) (most : Int) : (newM b most).rs.length ≤ 1000000000000 := by simp [newM]

set_option maxRecDepth 100000 in
set_option maxHeartbeats 8000000 in
theorem storeMakes_walk (v0 : Value) (l0 : List Int) (a1 : Int) (w : World) (b0 : Bs w v0 l0) (y0 : Byt l0) (z0 : l0.length ≤ 140737488351232) (w1 : (Lit.int .i64 a1).wf = true) :
    Calls Try.prog 3 #[v0, .int .i64 a1] w fun e w' => e = .returned (.bool true) ∧ Below w.heap.size w w' := by
  obtain ⟨i0, hi, hz0, hz1, hz2⟩ := info_parts Try.info5
  have HB0 : Hid (Bs w v0 l0) := b0
  obtain ⟨ao0, cap0, rfl, hc0, _⟩ := b0
  obtain ⟨n, Hn⟩ : ∃ n, Hid (l0.length = n) := ⟨_, rfl⟩
  rw [Hn.out] at HB0 hc0 z0 ⊢
  clear y0
  go_enter Try.func3, Try.ntmps3
  go_wp2_with (first | (at_builtin; refine wpList_append_bytes _ rfl (.tmp 9) (.tmp 10) 22 rfl i0 Try.underlying22 hi hz0 hz1 hz2 w.heap.size _ _ [] l0 rfl rfl (Own.empty _ _ (Nat.le_refl _)) (HB0.out.below ((Below.refl _ w).alloc (Nat.le_refl _) _)) (by rw [Hn.out]; simp; omega) w ((Below.refl _ w).alloc (Nat.le_refl _) _) (by simp) ?_; intro ao1 cap1 w2 ho1 hb1 _ _; simp only [List.length_nil, Nat.zero_add, List.nil_append, Hn.out] at ho1; have HO1 : Hid (Own w2 w.heap.size (.slice ao1 n cap1) l0) := ho1; have HB1 : Hid (Below w.heap.size w w2) := hb1; clear ho1 hb1; simp only [List.length_nil, Nat.zero_add, Hn.out]) | (at_builtin; refine wpList_append_bytes _ rfl (.tmp 11) (.tmp 12) 22 rfl i0 Try.underlying22 hi hz0 hz1 hz2 w.heap.size _ _ l0 [90] rfl rfl (HO1.out.alloc _) (Bs.one _ _) (by rw [Hn.out]; simp; omega) w (HB1.out.alloc HB1.out.size _) (by have := HB1.out.size; simp; omega) ?_; intro ao2 cap2 w3 ho2 hb2 hg2 hc2; simp only [List.length_cons, List.length_nil, Nat.zero_add, Hn.out] at ho2 hg2 hc2; have HO2 : Hid (Own w3 w.heap.size (.slice ao2 (n + 1) cap2) (l0 ++ [90])) := ho2; have HB2 : Hid (Below w.heap.size w w3) := hb2; have HG2 : Hid (0 < n + 1 → ∃ g, ao2 = some ⟨g, 0, none⟩ ∧ w.heap.size ≤ g ∧ g < w3.heap.size) := hg2; clear ho2 hb2 hg2; simp only [List.length_cons, List.length_nil, Nat.zero_add, Hn.out]))
  obtain ⟨g, rfl, hg1, hg2⟩ := HG2.out (by omega)
  have HIN : Hid (Bs w3 (.slice (some ⟨g, 0, none⟩) n cap2) l0) := by
    have := bs_take HO2.out.bs n (by simp [Hn.out])
    rwa [List.take_left' Hn.out] at this
  obtain ⟨z, Hz0⟩ : ∃ z, (l0 ++ [90]).getD 0 0 = z := ⟨_, rfl⟩
  have Hz : Hid ((l0 ++ [90]).getD 0 0 = z) := Hz0
  clear Hz0
  have HZ : Hid (w3.cell? ⟨g, 0, none⟩ = some (.int .u8 z) ∧ w3.frozen? ⟨g, 0, none⟩ = false) := by
    have := HO2.out.at (by simp [Hn.out]) 0 (by omega)
    rwa [Hz.out] at this
  have hsi := txt_of HO2.out.bs
  have hsb := txt_of HB0.out
  unfold Txt at hsi hsb
  have hadd : ∀ w', (Op.stringOp .add (strOfNums l0) ⟨#[90]⟩).run Try.prog w' = .ok (.string (strOfNums (l0 ++ [90]))) w' := fun w' => str_add l0 90 ⟨#[90]⟩ rfl (by rw [Hn.out]; omega) w'
  clear HG2
  by_cases hbad : a1 < 0 ∨ 4194304 < a1
  · have H1 : Hid (a1 < 0 ∨ 4194304 < a1 ∨ a1 < (n : Int)) := by unfold Hid; omega
    have H2 : Hid (a1 < 0 ∨ 4194304 < a1 ∨ a1 < ((0 : Nat) : Int)) := by unfold Hid; omega
    have H3 : Hid (a1 < 0 ∨ 4194304 < a1) := hbad
    have hb3 : Below w3.heap.size w3 w3 := Below.refl _ _
    have hb4 : Below w.heap.size w w3 := HB2.out
    obtain ⟨hz3, hz4⟩ := HZ.out
    clear hbad
    go_wp2_with (first | (go_at_call 9; refine (of_none _ _ _ _ _ H1.out).mono ?_; rintro e w4 ⟨rfl, hw4⟩; obtain rfl := hw4.symm) | (go_at_call 10; refine (refOf_none _ _ _ _ _ (by first | exact H1.out | exact H2.out)).mono ?_; rintro e w5 ⟨rfl, hw5⟩; obtain rfl := hw5.symm) | (go_at_call 11; refine (new_none _ _ H3.out).mono ?_; rintro e w6 ⟨rfl, hw6⟩; obtain rfl := hw6.symm) | (go_at_call 15; refine (lives_any _).mono ?_; rintro e w7 ⟨rfl, hb7⟩))
    go_ret
    exact ⟨rfl, (hb4.setCell (p := ⟨g, 0, none⟩) hg1 _).trans (hb7.mono (by have := hb4.size; simp [World.setCell]; omega))⟩
  · have hm0 : 0 ≤ a1 := by omega
    have hm1 : a1 ≤ 4194304 := by omega
    clear hbad
    by_cases hfit : (n : Int) ≤ a1
    · go_wp2_with fail
      refine (of_some _ l0 a1 w3 HIN.out hm0 hm1 (by rw [Hn.out]; exact hfit)).mono ?_
      rintro e w4 ⟨p, vb4, rfl, hp4, hb4⟩
      have HP4 : Hid (PF w4 w3.heap.size p (newM l0 a1) vb4 (.slice none 0 0) []) := hp4
      have HB4 : Hid (Below w3.heap.size w3 w4) := hb4
      have HBW4 : Hid (Below w.heap.size w w4) := HB2.out.trans (hb4.mono HB2.out.size)
      clear hp4 hb4
      go_wp2_with fail
      refine (refOf_some _ l0 a1 w4 (HB0.out.below HBW4.out) hm0 hm1 (by rw [Hn.out]; exact hfit)).mono ?_
      rintro e w5 ⟨r, rb5, rfl, hr5, hb5⟩
      have HR5 : Hid (RF w5 w4.heap.size r (newM l0 a1) rb5 (.slice none 0 0) []) := hr5
      have HP5 : Hid (PF w5 w3.heap.size p (newM l0 a1) vb4 (.slice none 0 0) []) := HP4.out.below hb5
      have hs4 : w3.heap.size ≤ w4.heap.size := HB4.out.size
      have HB5 : Hid (Below w3.heap.size w3 w5) := HB4.out.trans (hb5.mono HB4.out.size)
      clear hr5 hb5 HP4 HB4
      go_wp2_with fail
      refine (new_some a1 w5 hm0 hm1).mono ?_
      rintro e w6 ⟨q, vb6, rfl, hq6, hb6⟩
      have HQ6 : Hid (PF w6 w5.heap.size q (newM [] a1) vb6 (.slice none 0 0) []) := hq6
      have HR6 : Hid (RF w6 w4.heap.size r (newM l0 a1) rb5 (.slice none 0 0) []) := HR5.out.below hb6
      have HP6 : Hid (PF w6 w3.heap.size p (newM l0 a1) vb4 (.slice none 0 0) []) := HP5.out.below hb6
      have HB6 : Hid (Below w3.heap.size w3 w6) := HB5.out.trans (hb6.mono HB5.out.size)
      have HS5 : Hid (w3.heap.size ≤ w5.heap.size) := HB5.out.size
      clear hq6 hb6 HP5 HR5 HB5
      obtain ⟨hz3, hz4⟩ := HZ.out
      have hz6 : w6.cell? ⟨g, 0, none⟩ = some (.int .u8 z) := cell_later HB6.out hz3
      have hz7 : w6.frozen? ⟨g, 0, none⟩ = false := (HB6.out.frozen (p := ⟨g, 0, none⟩) hg2).trans hz4
      clear hz3 hz4
      go_wp2_with fail
      refine (refOf_some _ [] a1 w6 (Bs.nil _) hm0 hm1 (by simpa using hm0)).mono ?_
      rintro e w7 ⟨r7, rb7, rfl, hr7, hb7⟩
      have c7 : w7.cell? ⟨g, 0, none⟩ = some (.int .u8 z) := cell_later hb7 hz6
      have f7 : w7.frozen? ⟨g, 0, none⟩ = false := (hb7.frozen (p := ⟨g, 0, none⟩) (by have := HB6.out.size; show g < w6.heap.size; omega)).trans hz7
      have hb3 : Below w3.heap.size w3 w7 := HB6.out.trans (hb7.mono HB6.out.size)
      have hbw : Below w.heap.size w w7 := HB2.out.trans (hb3.mono HB2.out.size)
      have HCG : Hid (Chg (fun k => k = g) w7 (w7.setCell ⟨g, 0, none⟩ (.int .u8 ((z + 1) % 256)))) := Chg.cell _ _ _ _
      have HP8 : Hid (PF (w7.setCell ⟨g, 0, none⟩ (.int .u8 ((z + 1) % 256))) w3.heap.size p (newM l0 a1) vb4 (.slice none 0 0) []) :=
        (HP6.out.below hb7).chg HCG.out (fun k hk e => by have e' : k = g := e; have := (HP6.out.hold.foot k hk).1; omega) (fun k ⟨r, hr, _⟩ => by simp at hr)
      have HR8 : Hid (RF (w7.setCell ⟨g, 0, none⟩ (.int .u8 ((z + 1) % 256))) w4.heap.size r (newM l0 a1) rb5 (.slice none 0 0) []) :=
        (HR6.out.below hb7).chg HCG.out (fun k hk e => by have e' : k = g := e; have := (HR6.out.hold.foot k hk).1; omega) (fun k ⟨r, hr, _⟩ => by simp at hr)
      have HQ8 : Hid (PF (w7.setCell ⟨g, 0, none⟩ (.int .u8 ((z + 1) % 256))) w5.heap.size q (newM [] a1) vb6 (.slice none 0 0) []) :=
        (HQ6.out.below hb7).chg HCG.out (fun k hk e => by have e' : k = g := e; have := (HQ6.out.hold.foot k hk).1; have := HS5.out; omega) (fun k ⟨r, hr, _⟩ => by simp at hr)
      have HBS : Hid (Below w.heap.size w (w7.setCell ⟨g, 0, none⟩ (.int .u8 ((z + 1) % 256)))) := hbw.setCell (p := ⟨g, 0, none⟩) hg1 _
      clear hz6 hz7 hr7 hb7 HP6 HR6 HQ6
      go_wp2_with (first | (go_at_call 12; refine (alike_any HP8.out HR8.out (newM_few _ _) (newM_short _ _)).mono ?_; rintro e w9 ⟨rfl, hb9⟩; have HB9 : Hid (Below w.heap.size w w9) := HBS.out.trans (hb9.mono HBS.out.size); have HQ9 : Hid (PF w9 w5.heap.size q (newM [] a1) vb6 (.slice none 0 0) []) := HQ8.out.below hb9; clear hb9) | (go_at_call 13; refine (len_any HQ9.out).mono ?_; rintro e w10 ⟨rfl, hw10⟩; obtain rfl := hw10.symm) | (go_at_call 14; refine (most_any HQ9.out).mono ?_; rintro e w11 ⟨rfl, hw11⟩; obtain rfl := hw11.symm) | (go_at_call 15; refine (lives_any _).mono ?_; rintro e w12 ⟨rfl, hb12⟩))
      go_ret
      exact ⟨rfl, HB9.out.trans (hb12.mono HB9.out.size)⟩
    · have H1 : Hid (a1 < 0 ∨ 4194304 < a1 ∨ a1 < (n : Int)) := by unfold Hid; omega
      go_wp2_with (first | (go_at_call 9; refine (of_none _ _ _ _ _ H1.out).mono ?_; rintro e w4 ⟨rfl, hw4⟩; obtain rfl := hw4.symm) | (go_at_call 10; refine (refOf_none _ _ _ _ _ (by exact H1.out)).mono ?_; rintro e w5 ⟨rfl, hw5⟩; obtain rfl := hw5.symm))
      refine (new_some a1 w3 hm0 hm1).mono ?_
      rintro e w6 ⟨q, vb6, rfl, hq6, hb6⟩
      have HQ6 : Hid (PF w6 w3.heap.size q (newM [] a1) vb6 (.slice none 0 0) []) := hq6
      have HB6 : Hid (Below w3.heap.size w3 w6) := hb6
      obtain ⟨hz3, hz4⟩ := HZ.out
      have hz6 : w6.cell? ⟨g, 0, none⟩ = some (.int .u8 z) := cell_later HB6.out hz3
      have hz7 : w6.frozen? ⟨g, 0, none⟩ = false := (HB6.out.frozen (p := ⟨g, 0, none⟩) hg2).trans hz4
      clear hz3 hz4 hq6 hb6
      go_wp2_with fail
      refine (refOf_some _ [] a1 w6 (Bs.nil _) hm0 hm1 (by simpa using hm0)).mono ?_
      rintro e w7 ⟨r7, rb7, rfl, hr7, hb7⟩
      have c7 : w7.cell? ⟨g, 0, none⟩ = some (.int .u8 z) := cell_later hb7 hz6
      have f7 : w7.frozen? ⟨g, 0, none⟩ = false := (hb7.frozen (p := ⟨g, 0, none⟩) (by have := HB6.out.size; show g < w6.heap.size; omega)).trans hz7
      have hb3 : Below w3.heap.size w3 w7 := HB6.out.trans (hb7.mono HB6.out.size)
      have hbw : Below w.heap.size w w7 := HB2.out.trans (hb3.mono HB2.out.size)
      have HCG : Hid (Chg (fun k => k = g) w7 (w7.setCell ⟨g, 0, none⟩ (.int .u8 ((z + 1) % 256)))) := Chg.cell _ _ _ _
      have HQ8 : Hid (PF (w7.setCell ⟨g, 0, none⟩ (.int .u8 ((z + 1) % 256))) w3.heap.size q (newM [] a1) vb6 (.slice none 0 0) []) :=
        (HQ6.out.below hb7).chg HCG.out (fun k hk e => by have e' : k = g := e; have := (HQ6.out.hold.foot k hk).1; omega) (fun k ⟨r, hr, _⟩ => by simp at hr)
      have HBS : Hid (Below w.heap.size w (w7.setCell ⟨g, 0, none⟩ (.int .u8 ((z + 1) % 256)))) := hbw.setCell (p := ⟨g, 0, none⟩) hg1 _
      clear hz6 hz7 hr7 hb7 HQ6
      go_wp2_with (first | (go_at_call 13; refine (len_any HQ8.out).mono ?_; rintro e w10 ⟨rfl, hw10⟩; obtain rfl := hw10.symm) | (go_at_call 14; refine (most_any HQ8.out).mono ?_; rintro e w11 ⟨rfl, hw11⟩; obtain rfl := hw11.symm) | (go_at_call 15; refine (lives_any _).mono ?_; rintro e w12 ⟨rfl, hb12⟩))
      go_ret
      exact ⟨rfl, HBS.out.trans (hb12.mono HBS.out.size)⟩
end Go.Proofs.Ytkdmcdkjfkllkaa
