/-
  The walk of the law CheckSeals: true for all bytes. Conditions: lengths within the machine's bounds; the table stands as the program's text lays it.
-/
import Derived.Test.YtdpjoldabnkboaaDoorPlace
import Derived.Test.YtdpjoldabnkboaaDoorTold
namespace Go.Proofs.YtdpjoldabnkboaaDoor
open Go.ChangeShapes Go.WideShapes Go.ChangeAt Go.RowKit
set_option linter.unusedVariables false

/-- spoil writes over a slice of the call's own, and over nothing else. -/
theorem spoil_own (B : Nat) (y : Value) (l : List Int) (w : World) (h : Own w B y l) (hl : l.length ≤ 281474976710656) :
    Calls Tryd.prog 22 #[y] w fun e w' => e = .returned (.tuple #[]) ∧ w.grownBy w' y.ownBlock := by
  have h' : w.ownsRow B 5 1 y l.length (bcells l) := h
  obtain ⟨_, ⟨rfl, h0⟩ | ⟨g, cap, cur, rfl, hB, hg, hle, hm, hs, ht⟩⟩ := h'
  · exact (spoil_nil w).mono fun e w' ⟨h1, h2⟩ => ⟨h1, by subst h2; exact World.grownBy.refl _ _⟩
  · obtain ⟨n, hn⟩ : ∃ n, l.length = n := ⟨_, rfl⟩
    have HN : Hid (l.length = n) := hn
    rw [hn] at h hle hl ⊢
    clear hn hg hs ht hm hB
    show Calls _ _ _ _ fun e w' => e = .returned (.tuple #[]) ∧ w.grownBy w' (some g)
    have HO : Hid (Own w B (.slice (some ⟨g, 0, none⟩) n cap) l) := h
    clear h
    go_enter Tryd.func22, Tryd.ntmps22
    go_wp2
    go_loopw [2] (fun i wr => ∃ (k : Nat) (M : List Int), k ≤ n ∧ i = .int .i64 k ∧ Own wr B (.slice (some ⟨g, 0, none⟩) n cap) M ∧ M.length = n ∧ w.grownBy wr (some g)) (fun i _ => n - (intOf i).toNat)
    case atStart => exact ⟨0, l, Nat.zero_le _, rfl, HO.out, HN.out, World.grownBy.refl _ _⟩
    case round =>
      obtain ⟨k, M, hk, rfl, hrr, hM, hgr⟩ := hrel
      have HM : Hid (M.length = n) := hM
      have HRR : Hid (Own wr B (.slice (some ⟨g, 0, none⟩) n cap) M) := hrr
      by_cases hlt : k < n
      · obtain ⟨hc1, hf1⟩ := hrr.cell hM k hlt
        clear hM hrr
        go_wp2
        go_roundw
        case rel => exact ⟨k + 1, M.set k _, by omega, by go_num, (HRR.out.stored HM.out k _).1, by simp [HM.out], grown_set hgr _ _⟩
        case measure => simp [intOf]; omega
      · clear hM hrr
        go_wp2
        go_end0
        exact ⟨rfl, hgr⟩

theorem unList_length (l : List Int) : (unList l).length ≤ l.length := by
  unfold unList; split
  · simp
  · simp

set_option maxHeartbeats 8000000 in
theorem checkSeals_walk (v0 : Value) (l0 : List Int) (w : World) (hT : Tab w) (b0 : Bs w v0 l0) (y0 : Byt l0) (z0 : l0.length ≤ 140737488351232) :
    Calls Tryd.prog 5 #[v0] w fun e w' => e = .returned (.bool true) ∧ Below w.heap.size w w' := by
  have HUL : Hid ((unList l0).length ≤ l0.length) := unList_length l0
  have HT : Hid (Tab w) := hT
  have HB : Hid (Bs w v0 l0) := b0
  clear hT b0
  go_enter Tryd.func5, Tryd.ntmps5
  go_wp2_with fail
  refine (lent_any v0 l0 w HB.out z0).mono ?_
  rintro e w1 ⟨g, cap, rfl, hg1, hg2, hc1, ho1, hb1⟩
  have HL1 : Hid (Bs w1 (.slice (some ⟨g, 0, none⟩) l0.length cap) l0) := lent_bs ho1.bs
  have HO1 : Hid (Bs w1 (.slice (some ⟨g, 0, none⟩) (l0.length + 1) cap) (l0 ++ [90])) := ho1.bs
  have HB1 : Hid (Below w.heap.size w w1) := hb1
  clear ho1 hb1
  go_wp2_with fail
  refine (seal_any _ l0 w1 HL1.out z0 y0 (HT.out.below HB1.out)).mono ?_
  rintro e w2 ⟨rfl, hr2, hb2⟩
  have HR2 : Hid (Row w2 w1.heap.size (sealN l0)) := hr2
  have HB2 : Hid (Below w1.heap.size w1 w2) := hb2
  clear hr2 hb2
  have HW2 : Hid (Below w.heap.size w w2) := HB1.out.trans (HB2.out.mono HB1.out.size)
  go_wp2_with fail
  refine (unseal_any _ l0 w2 (HL1.out.below HB2.out) (by omega) y0 (HT.out.below HW2.out)).mono ?_
  rintro e w3 ⟨y, rfl, hy3, hb3⟩
  have HY3 : Hid (Own w3 w2.heap.size y (unList l0)) := hy3
  have HB3 : Hid (Below w2.heap.size w2 w3) := hb3
  clear hy3 hb3
  have HW3 : Hid (Below w.heap.size w w3) := HW2.out.trans (HB3.out.mono HW2.out.size)
  have HV3 : Hid (Below w1.heap.size w1 w3) := HB2.out.trans (HB3.out.mono HB2.out.size)
  go_wp2_with fail
  refine (unseal_any _ l0 w3 (HL1.out.below HV3.out) (by omega) y0 (HT.out.below HW3.out)).mono ?_
  rintro e w4 ⟨z, rfl, hz4, hb4⟩
  have HZ4 : Hid (Own w4 w3.heap.size z (unList l0)) := hz4
  have HB4 : Hid (Below w3.heap.size w3 w4) := hb4
  clear hz4 hb4
  have HW4 : Hid (Below w.heap.size w w4) := HW3.out.trans (HB4.out.mono HW3.out.size)
  have HV4 : Hid (Below w1.heap.size w1 w4) := HV3.out.trans (HB4.out.mono HV3.out.size)
  go_wp2_with fail
  refine (refUnseal_any _ l0 w4 (HB.out.below HW4.out) z0 y0).mono ?_
  rintro e w5 ⟨u, rfl, hu5, hb5⟩
  have HU5 : Hid (Own w5 w4.heap.size u (unList l0)) := hu5
  have HB5 : Hid (Below w4.heap.size w4 w5) := hb5
  clear hu5 hb5
  have HW5 : Hid (Below w.heap.size w w5) := HW4.out.trans (HB5.out.mono HW4.out.size)
  have HV5 : Hid (Below w1.heap.size w1 w5) := HV4.out.trans (HB5.out.mono HV4.out.size)
  have HS : Hid (∀ w', Below w5.heap.size w5 w' → Sem.run Tryd.prog (convert 22 9 (.slice (some ⟨w1.heap.size, 0, none⟩) (l0.length + 4) (l0.length + 4))) w' = .ok (.string (strOfNums (sealN l0))) w' ∧ Sem.run Tryd.prog (convert 22 9 y) w' = .ok (.string (strOfNums (unList l0))) w' ∧ Sem.run Tryd.prog (convert 22 9 u) w' = .ok (.string (strOfNums (unList l0))) w') := fun w' hw => by
    have h25 : Below w2.heap.size w2 w' := (HB3.out.trans ((HB4.out.trans (HB5.out.mono HB4.out.size)).mono HB3.out.size)).trans (hw.mono (Nat.le_trans HB3.out.size (Nat.le_trans HB4.out.size HB5.out.size)))
    have h35 : Below w3.heap.size w3 w' := (HB4.out.trans (HB5.out.mono HB4.out.size)).trans (hw.mono (Nat.le_trans HB4.out.size HB5.out.size))
    refine ⟨?_, str_run (HY3.out.bs.below h35), str_run (HU5.out.bs.below hw)⟩
    have := HR2.out.whole.below h25
    rw [sealN_length] at this
    exact str_run this
  have HLV : Hid (∀ w', Below w5.heap.size w5 w' → Bs w' v0 l0 ∧ Bs w' (.slice (some ⟨g, 0, none⟩) (l0.length + 1) cap) (l0 ++ [90])) := fun w' hw =>
    ⟨HB.out.below (HW5.out.trans (hw.mono HW5.out.size)), HO1.out.below (HV5.out.trans (hw.mono HV5.out.size))⟩
  go_wp2_with fail
  have hd0 : Below w5.heap.size w5 w5.drew := (Below.refl _ _).drew
  go_region_held (fun w' => Sem.run Tryd.prog (convert 22 9 (.slice (some ⟨w1.heap.size, 0, none⟩) (l0.length + 4) (l0.length + 4))) w' = .ok (.string (strOfNums (sealN l0))) w' ∧ Sem.run Tryd.prog (convert 22 9 y) w' = .ok (.string (strOfNums (unList l0))) w' ∧ Sem.run Tryd.prog (convert 22 9 u) w' = .ok (.string (strOfNums (unList l0))) w' ∧ Below w5.heap.size w5 w') (exact ⟨(HS.out _ (by assumption)).1, (HS.out _ (by assumption)).2.1, (HS.out _ (by assumption)).2.2, by assumption⟩) (first | (go_at_call 21; refine (refSeal_any _ l0 _ (HLV.out _ (by assumption)).1 z0 y0).mono ?_; rintro e w6 ⟨r6, rfl, ho6, hb6⟩; have hs6 := str_run ho6.bs; have hb56 := below_undrew hb6) | (go_at_call 12; refine (kept_any g _ cap v0 l0 _ (HLV.out _ (by assumption)).2 (HLV.out _ (by assumption)).1 hc1 z0).mono ?_; rintro e w7 ⟨rfl, k7, rfl⟩; have hb57 := below_drewN hb56 k7))
  have HB7 : Hid (Below w5.heap.size w5 (w6.drewN k7)) := hb57
  clear hb57 hb56 hb6 ho6 hs6 hd0
  generalize w6.drewN k7 = w7 at *
  have H27 : Hid (Below w2.heap.size w2 w7) := (HB3.out.trans ((HB4.out.trans (HB5.out.mono HB4.out.size)).mono HB3.out.size)).trans (HB7.out.mono (Nat.le_trans HB3.out.size (Nat.le_trans HB4.out.size HB5.out.size)))
  have H37 : Hid (Below w3.heap.size w3 w7) := (HB4.out.trans (HB5.out.mono HB4.out.size)).trans (HB7.out.mono (Nat.le_trans HB4.out.size HB5.out.size))
  have H47 : Hid (Below w4.heap.size w4 w7) := HB5.out.trans (HB7.out.mono HB5.out.size)
  have H17 : Hid (Below w1.heap.size w1 w7) := HB2.out.trans (H27.out.mono HB2.out.size)
  have HG2 : Hid (w1.heap.size < w2.heap.size) := HR2.out.lt
  have HSZ : Hid (w2.heap.size ≤ w3.heap.size ∧ w3.heap.size ≤ w4.heap.size) := ⟨HB3.out.size, HB4.out.size⟩
  have HYL : Hid (∀ k, y.ownBlock = some k → w2.heap.size ≤ k ∧ k < w3.heap.size) := fun k hk => World.ownsRow.lt (show w3.ownsRow _ _ _ _ _ _ from HY3.out) k hk
  go_wp2_with fail
  refine (spoil_row w1.heap.size (l0.length + 4) (sealN l0) w7 (HR2.out.below H27.out HR2.out.lt) (sealN_length l0) (by omega)).mono ?_
  rintro e w8 ⟨rfl, hg8⟩
  have HG8 : Hid (w7.grownBy w8 (some w1.heap.size)) := hg8
  clear hg8
  go_wp2_with fail
  refine (spoil_own w2.heap.size y (unList l0) w8 ((HY3.out.below H37.out).grown HG8.out (fun k hk => by cases hk; exact HG2.out)) (by have := HUL.out; omega)).mono ?_
  rintro e w9 ⟨rfl, hg9⟩
  have HG9 : Hid (w8.grownBy w9 y.ownBlock) := hg9
  clear hg9
  have H19 : Hid (Below w1.heap.size w1 w9) := (H17.out.grown HG8.out H17.out.size (fun k hk => by cases hk; exact Nat.le_refl _)).grown HG9.out (Nat.le_trans H17.out.size HG8.out.size) (fun k hk => by have := (HYL.out k hk).1; have := HG2.out; omega)
  have H09 : Hid (Below w.heap.size w w9) := HB1.out.trans (H19.out.mono HB1.out.size)
  have hzs : Sem.run Tryd.prog (convert 22 9 z) w9 = .ok (.string (strOfNums (unList l0))) w9 :=
    str_run (((((HZ4.out.below H47.out).grown HG8.out (fun k hk => by cases hk; have := HG2.out; have := HSZ.out.1; omega)).grown HG9.out (fun k hk => (HYL.out k hk).2)).bs))
  have hus : Sem.run Tryd.prog (convert 22 9 u) w9 = .ok (.string (strOfNums (unList l0))) w9 :=
    str_run (((((HU5.out.below HB7.out).grown HG8.out (fun k hk => by cases hk; have := HG2.out; have := HSZ.out; omega)).grown HG9.out (fun k hk => by have := (HYL.out k hk).2; have := HSZ.out.2; omega)).bs))
  go_wp2_with (first | (go_at_call 12; refine (kept_any g _ cap v0 l0 _ (HO1.out.below H19.out) (HB.out.below H09.out) hc1 z0).mono ?_; rintro e w10 ⟨rfl, k10, rfl⟩) | (go_at_call 13; refine (lives2_any _ ((HT.out.below H09.out).below (below_drewN (Below.refl _ _) _))).mono ?_; rintro e w11 ⟨rfl, hb11⟩))
  go_ret
  exact ⟨rfl, H09.out.trans ((below_drewN (Below.refl _ _) _).trans (hb11.mono (by have := H09.out.size; simpa using this)))⟩

end Go.Proofs.YtdpjoldabnkboaaDoor
