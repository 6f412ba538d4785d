/-
  The walk of the law HeapLoads. Conditions: the table of check stands; at most 2^20 bytes.
-/
import Derived.Test.YtpkbdpbggmiolaaDoorHRefLoad
import Derived.Test.YtpkbdpbggmiolaaDoorHState
import Derived.Test.YtpkbdpbggmiolaaDoorHLives
namespace Go.Proofs.YtpkbdpbggmiolaaDoor
open Go.RowKit Go.Maps
set_option linter.unusedVariables false
set_option maxRecDepth 100000

theorem bs_preL {w : World} {ao : Option Addr} {n cap : Nat} {l : List Int} (h : Bs w (.slice ao n cap) l) (k : Nat) (hk : k ≤ l.length) : Bs w (.slice ao k cap) (l.take k) := by
  obtain ⟨ao', cap', e, hcap, hnil, hcell⟩ := h
  injection e with e1 e2 e3
  subst e1; subst e3
  have hl : (l.take k).length = k := by simp; omega
  refine ⟨ao, cap, by rw [hl], by rw [hl]; omega, hnil, fun ad ha i hi => ?_⟩
  rw [hl] at hi
  rw [hcell ad ha i (by omega)]
  simp [List.getD, hi]
/-- Both Loads: an error, or two heaps that are alike. -/
theorem loads_any {W w : World} {l : List Int} (hb : Below W.heap.size W w) (u : Value) (hu : Bs w u l) (v : Value) (hv : Bs W v l) (hl : l.length ≤ 1048576) (hy : Byt l) (ht : Tab W) :
    Calls Tryd.prog 13 #[u] w fun e w1 => ∃ (hp er : Value) (k : Int), e = .returned (.tuple #[hp, er]) ∧ er = .int .i64 k ∧ Below w.heap.size w w1 ∧
      Calls Tryd.prog 17 #[v] w1 fun e w2 => Below w1.heap.size w1 w2 ∧ ((hp = .pointer none ∧ e = .returned (.tuple #[.pointer none, er])) ∨
        ∃ p p', hp = .pointer (some ⟨p, 0, none⟩) ∧ e = .returned (.tuple #[.pointer (some ⟨p', 0, none⟩), er]) ∧ ∀ w3, Kp (fun x => x < w.heap.size ∧ W.heap.size ≤ x) w2 w3 → Calls Tryd.prog 15 #[.pointer (some ⟨p, 0, none⟩), .pointer (some ⟨p', 0, none⟩)] w3 fun e w4 => e = .returned (.bool true) ∧ Below w3.heap.size w3 w4) := by
  by_cases hE : unErr l = 0
  · have hyu : Byt (unList l) := by unfold unList; rw [if_pos hE]; exact byt_left hy _
    cases hR : thRes (unList l) with
    | none =>
      refine (hload_none u l w hu (by omega) hy hyu (ht.below hb) hE hR).mono ?_
      rintro e w1 ⟨rfl, hb1⟩
      refine ⟨_, _, 5, rfl, rfl, hb1, (refLoad6_any v l w1 ((hv.below hb).below hb1) hl hy hE).mono ?_⟩
      rintro e w2 ⟨h1, _, h3⟩
      exact ⟨h3, .inl ⟨rfl, h1 hR⟩⟩
    | some s =>
      refine (hload_at u l w hu (by omega) hy hyu (ht.below hb) hE s hR).mono ?_
      rintro e w1 ⟨p, m, N, D, rfl, hN, hp, hb1, hbl⟩
      refine ⟨_, _, 0, rfl, rfl, hb1, (refLoad6_any v l w1 ((hv.below hb).below hb1) hl hy hE).mono ?_⟩
      rintro e w2 ⟨_, h2, h3⟩
      obtain ⟨p', vL, S, B, rfl, hr, hB, hT, hlo, hn, hsg⟩ := h2 s hR
      obtain ⟨N', hN', hN2, _, hc, _⟩ := thRes_facts hyu hR
      refine ⟨h3, .inr ⟨p, p', rfl, rfl, fun w3 hk => ?_⟩⟩
      have hs1 := hb1.size
      have hp3 := (hp.below h3).kp hk (fun h => by have := hp.bp; omega) (fun h => by have := hp.bm; omega) (fun i b v a1 a2 a3 _ g hg h => by have := hbl i b v a1 a3 g hg; omega)
      have hr3 := hr.keep hk (fun h => by have := hr.bp; omega) (fun g hg h => by have := (World.ownsRow.lt hr.row g hg).1; omega) (fun t ht g hg h => by have := hsg t ht g hg; omega)
      rw [← hT] at hp3
      have hbw : Below W.heap.size W w3 := ((hb.trans (hb1.mono hb.size)).trans (h3.mono (Nat.le_trans hb.size hs1))).trans (hk.below (Nat.le_trans hb.size (Nat.le_trans hs1 h3.size)) (fun x h => h.2))
      exact alike6_any hp3 hr3 hlo hc (by rw [hN2] at hN; omega) hn (ht.below hbw)
  · refine (hload_seal u l w hu (by omega) hy (ht.below hb) hE).mono ?_
    rintro e w1 ⟨rfl, hb1⟩
    refine ⟨_, _, _, rfl, rfl, hb1, (refLoad6_seal v l w1 ((hv.below hb).below hb1) hl hy hE).mono ?_⟩
    rintro e w2 ⟨h1, h3⟩
    exact ⟨h3, .inl ⟨rfl, h1⟩⟩

set_option maxHeartbeats 8000000 in
theorem heapLoads_walk (v : Value) (l : List Int) (W : World) (hT : Tab W) (hB : Bs W v l) (hy : Byt l) (hl : l.length ≤ 1048576) :
    Calls Tryd.prog 4 #[v] W fun e W' => e = .returned (.bool true) ∧ Below W.heap.size W W' := by
  obtain ⟨i0, hi, hz0, hz1, hz2⟩ := info_parts Tryd.info5
  have HT : Hid (Tab W) := hT
  have HBS : Hid (Bs W v l) := hB
  have HY : Hid (Byt l) := hy
  obtain ⟨ao, cap, rfl, hcap, _, _⟩ := hB
  have HLL : Hid (l.length ≤ 1048576) := hl
  obtain ⟨m, HM⟩ : ∃ m, Hid (l.length = m) := ⟨_, rfl⟩
  rw [HM.out] at hcap hl HBS ⊢
  have HLV : Hid (∀ w, Below W.heap.size W w → Calls Tryd.prog 16 #[] w fun e w' => e = .returned (.bool true) ∧ Below W.heap.size W w') := fun w hw => (lives6_any w (HT.out.below hw)).mono (fun e w' ⟨h1, h2⟩ => ⟨h1, hw.trans (h2.mono hw.size)⟩)
  clear hT hy
  go_enter Tryd.func4, Tryd.ntmps4
  go_upto_region 2 with (first
    | (at_builtin; refine wpList_append_bytes _ rfl (.tmp 8) (.tmp 9) 29 rfl i0 Tryd.underlying29 hi hz0 hz1 hz2 W.heap.size _ _ [] l rfl rfl (Own.empty _ _ (Nat.le_refl _)) (HBS.out.below ((Below.refl _ W).alloc (Nat.le_refl _) _)) (by rw [HM.out]; simp; omega) W ((Below.refl _ W).alloc (Nat.le_refl _) _) (by simp) ?_; intro aoa capa w2 hoa hba _ _; simp only [List.length_nil, Nat.zero_add, List.nil_append, HM.out] at hoa ⊢; have HOA : Hid (Own w2 W.heap.size (.slice aoa m capa) l) := hoa; have HBA : Hid (Below W.heap.size W w2) := hba; clear hoa hba)
    | (at_builtin; refine wpList_append_bytes _ rfl (.tmp 10) (.tmp 11) 29 rfl i0 Tryd.underlying29 hi hz0 hz1 hz2 W.heap.size _ _ l [90] rfl rfl (HOA.out.alloc _) (Bs.one _ _) (by rw [HM.out]; simp; omega) W (HBA.out.alloc HBA.out.size _) (by have := HBA.out.size; simp; omega) ?_; intro aoi capi w3 hoi hbi hgi hci; simp only [List.length_cons, List.length_nil, Nat.zero_add, HM.out] at hoi hgi hci ⊢; have HOI : Hid (Own w3 W.heap.size (.slice aoi (m + 1) capi) (l ++ [90])) := hoi; have HBI : Hid (Below W.heap.size W w3) := hbi; have HGI : Hid _ := hgi; have hci' := hci; clear hoi hbi hgi hci))
  obtain ⟨gi, rfl, hg1, hg2⟩ := HGI.out (by omega)
  have HG1 : Hid (W.heap.size ≤ gi ∧ gi < w3.heap.size) := ⟨hg1, hg2⟩
  obtain ⟨z, hzz⟩ : ∃ z : Int, (l ++ [90]).getD 0 0 = z := ⟨_, rfl⟩
  have HZ : Hid ((l ++ [90]).getD 0 0 = z) := hzz
  have HIN : Hid (Bs w3 (.slice (some ⟨gi, 0, none⟩) m capi) l) := by
    have := bs_preL HOI.out.bs m (by simp [HM.out])
    rwa [List.take_left' HM.out] at this
  have HLD : Hid _ := loads_any HBI.out _ HIN.out _ HBS.out HLL.out HY.out HT.out
  have hadd : ∀ w', (Op.stringOp .add (strOfNums l) ⟨#[90]⟩).run Tryd.prog w' = .ok (.string (strOfNums (l ++ [90]))) w' := fun w' => str_add l 90 ⟨#[90]⟩ rfl (by rw [HM.out]; omega) w'
  have hmc : (m : Int) ≤ (capi : Int) := by omega
  clear hg1 hg2 HGI HOA HBA hzz
  go_wp2_with fail
  refine Calls.mono HLD.out ?_
  rintro e w4 ⟨hp, er, k, rfl, rfl, hb4, hr4⟩
  have HB4 : Hid (Below w3.heap.size w3 w4) := hb4
  have HR4 : Hid _ := hr4
  clear hb4 hr4 HLD
  go_wp2_with fail
  refine Calls.mono HR4.out ?_
  rintro e w5 ⟨hb5, hc5⟩
  have HB5 : Hid (Below w3.heap.size w3 w5) := HB4.out.trans (hb5.mono HB4.out.size)
  have HO5 : Hid (Own w5 W.heap.size (.slice (some ⟨gi, 0, none⟩) (m + 1) capi) (l ++ [90])) := HOI.out.below HB5.out
  have HBW : Hid (Below W.heap.size W w5) := HBI.out.trans (HB5.out.mono HBI.out.size)
  have hs5 := Bs.str (P := Tryd.prog) HO5.out.bs Tryd.underlying29 Tryd.underlying5 Tryd.underlying9
  have hs6 := Bs.str (P := Tryd.prog) (HBS.out.below HBW.out) Tryd.underlying29 Tryd.underlying5 Tryd.underlying9
  obtain ⟨hcz, hfz⟩ := HO5.out.cell (by simp [HM.out]) 0 (by omega)
  rw [HZ.out] at hcz
  clear hb5 HR4
  rcases hc5 with ⟨rfl, rfl⟩ | ⟨p, p', rfl, rfl, hal⟩
  · go_wp2_with (go_at_call 16; refine (HLV.out _ (HBW.out.setCell HG1.out.1 _)).mono ?_; rintro e w7 ⟨rfl, hb7⟩)
    go_ret
    exact ⟨rfl, by assumption⟩
  · have HAL : Hid _ := hal
    clear hal
    go_wp2_with (first
      | (go_at_call 15; refine (HAL.out _ ((Kp.refl (fun x => x < w3.heap.size ∧ W.heap.size ≤ x) w5).setCell (a := ⟨gi, 0, none⟩) _ (fun _ => ⟨HG1.out.2, HG1.out.1⟩))).mono ?_; rintro e w6 ⟨rfl, hb6⟩; have HB6 : Hid (Below W.heap.size W w6) := Below.trans (HBW.out.setCell HG1.out.1 _) (hb6.mono (HBW.out.setCell (p := ⟨gi, 0, none⟩) HG1.out.1 _).size); clear hb6)
      | (go_at_call 16; refine (HLV.out _ HB6.out).mono ?_; rintro e w7 ⟨rfl, hb7⟩))
    go_ret
    exact ⟨rfl, by assumption⟩
end Go.Proofs.YtpkbdpbggmiolaaDoor
