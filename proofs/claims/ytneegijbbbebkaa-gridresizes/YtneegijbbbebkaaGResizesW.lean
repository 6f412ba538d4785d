/-
  Any data of any extent become those of any other as the document says, or are refused: the law's walk. No conditions.
-/
import Derived.Test.YtneegijbbbebkaaGFd
import Derived.Test.YtneegijbbbebkaaGRefRes
namespace Go.Proofs.Ytneegijbbbebkaa
open Go.RowKit Go.Shelf
set_option linter.unusedVariables false
set_option maxRecDepth 100000

set_option maxHeartbeats 32000000 in
theorem gridResizes_walk (dv : Value) (z : Int) (vd vs vc ov : Value) (data D S C own : List Int) (w : World) (hc : CsOk w dv z vd vs vc ov data D S C own) :
    Calls Try.prog 7 #[caseV dv z vd vs vc ov] w fun e w' => e = .returned (.bool true) ∧ Below w.heap.size w w' := by
  obtain ⟨hda, hdb, hdl, hz, hD, hS, hC, hoa, hob, hol⟩ := hc
  have HDA : Hid (Bs w dv data) := hda
  have HOA : Hid (Bs w ov own) := hoa
  have HD : Hid (Is w vd D) := hD
  have HS : Hid (Is w vs S) := hS
  have HC : Hid (Is w vc C) := hC
  obtain ⟨da, dc, rfl, dl1, dl2, _⟩ := hda
  obtain ⟨oa, oc, rfl, ol1, ol2, _⟩ := hoa
  obtain ⟨a1, m1, c1, rfl, _⟩ := hD.open
  obtain ⟨a2, m2, c2, rfl, _⟩ := hS.open
  obtain ⟨a3, m3, c3, rfl, _⟩ := hC.open
  obtain ⟨dl, HDL⟩ : ∃ dl, Hid (data.length = dl) := ⟨_, rfl⟩
  obtain ⟨ol, HOL⟩ : ∃ ol, Hid (own.length = ol) := ⟨_, rfl⟩
  rw [HDL.out] at HDA hdl dl1 ⊢
  rw [HOL.out] at HOA hol ol1 ⊢
  obtain ⟨hv, HHV⟩ : ∃ hv, Hid (hvB dl ol D S = hv) := ⟨_, rfl⟩
  obtain ⟨w1, hw1, b1, s1, t0, t1, t2, t3, t4, t5⟩ := box_case w (.slice da dl dc) z (.slice a1 m1 c1) (.slice a2 m2 c2) (.slice a3 m3 c3) (.slice oa ol oc)
  have HB1 : Hid (Below w.heap.size w w1) := b1
  have HH1 : Hid (Calls Try.prog 17 #[.agg #[.slice da dl dc, .int .i64 z, .slice a1 m1 c1, .slice a2 m2 c2, .slice a3 m3 c3, .slice oa ol oc]] w1 fun e w' => e = .returned (.bool hv) ∧ Below w1.heap.size w1 w') := by
    have := heavy_any D S da dl dc oa ol oc (.slice a1 m1 c1) (.slice a2 m2 c2) a3 m3 c3 z w1 (HD.out.below b1) (HS.out.below b1)
    rwa [HHV.out] at this
  have HT1 : Hid (Cs6 w1 w.heap.size (.slice da dl dc) (.int .i64 z) (.slice a1 m1 c1) (.slice a2 m2 c2) (.slice a3 m3 c3) (.slice oa ol oc)) := ⟨t0, t1, t2, t3, t4, t5⟩
  unfold caseV
  clear hD hS hC b1 s1
  cases hv with
  | true =>
    go_enter Try.func7, Try.ntmps7
    go_wp2_with (first
      | (have hg := HB2; clear hg; go_at_call 14; refine (lives13_any _).mono ?_; rintro e w3 ⟨rfl, hb3⟩; have HB3 : Hid (Below w.heap.size w w3) := HB2.out.trans (hb3.mono HB2.out.size); clear hb3)
      | (go_at_call 17; refine Calls.mono HH1.out ?_; rintro e w2 ⟨rfl, hb2⟩; have HB2 : Hid (Below w.heap.size w w2) := HB1.out.trans (hb2.mono HB1.out.size); clear hb2))
    go_ret
    exact ⟨rfl, HB3.out⟩
  | false =>
    have hhv := HHV.out
    simp only [hvB, Bool.or_eq_false_iff, decide_eq_false_iff_not] at hhv
    obtain ⟨⟨⟨hh1, hh2⟩, hh3⟩, hh4⟩ := hhv
    obtain ⟨ce, HCE⟩ : ∃ ce, Hid (rsE dl z D S ol = ce) := ⟨_, rfl⟩
    obtain ⟨R, HRR⟩ : ∃ R, Hid ((if ce = 0 then rsR data own D S z.toNat else []) = R) := ⟨_, rfl⟩
    have HRL : Hid (R.length ≤ 281474976710656) := by
      rw [Hid, ← HRR.out]
      split
      · rename_i h0
        have := rs_len (data := data) (own := own) (A := D) (B := S) (z := z) (by rw [HDL.out, HOL.out, HCE.out]; exact h0)
        omega
      · simp
    have HLA : Hid (∀ w2, Below w.heap.size w w2 → Calls Try.prog 18 #[.slice da dl dc] w2 fun e w' => ∃ g cap, e = .returned (.slice (some ⟨g, 0, none⟩) dl cap) ∧ Lt w' g cap data ∧ Below w2.heap.size w2 w') := fun w2 h => lent_lt _ data dl w2 (HDA.out.below h) (by rw [HDL.out]; exact hdl) HDL.out
    have HLO : Hid (∀ w2, Below w.heap.size w w2 → Calls Try.prog 18 #[.slice oa ol oc] w2 fun e w' => ∃ g cap, e = .returned (.slice (some ⟨g, 0, none⟩) ol cap) ∧ Lt w' g cap own ∧ Below w2.heap.size w2 w') := fun w2 h => lent_lt _ own ol w2 (HOA.out.below h) (by rw [HOL.out]; exact hol) HOL.out
    have HCUT : Hid (∀ (gi ci go co : Nat) w2, Below w.heap.size w w2 → Lt w2 gi ci data → Lt w2 go co own → Calls Try.prog 25 #[.slice (some ⟨gi, 0, none⟩) dl ci, .int .i64 z, .slice a1 m1 c1, .slice a2 m2 c2, .slice (some ⟨go, 0, none⟩) ol co] w2 fun e w' => ∃ v, e = .returned (.tuple #[v, .int .i64 ce]) ∧ Fd w' w2.heap.size v R ∧ Below w2.heap.size w2 w') := fun gi ci go co w2 h hi ho => by
      have h1 := hi.bs
      have h2 := ho.bs
      have := resize_any data own D S _ _ _ _ z w2 h1 (by rw [HDL.out]; exact hdl) h2 (by rw [HOL.out]; exact hol) (HD.out.below h) (HS.out.below h) hz
      rw [HDL.out, HOL.out, HCE.out] at this
      refine this.mono fun e w' h9 => ?_
      have := fd_of h9
      rwa [HRR.out] at this
    have HREF : Hid (∀ w2, Below w.heap.size w w2 → Calls Try.prog 26 #[.slice da dl dc, .int .i64 z, .slice a1 m1 c1, .slice a2 m2 c2, .slice oa ol oc] w2 fun e w' => ∃ v, e = .returned (.tuple #[v, .int .i64 ce]) ∧ Bs w' v R ∧ Below w2.heap.size w2 w') := fun w2 h => by
      have := refResize_any data own D S _ _ _ _ z w2 (HDA.out.below h) (by rw [HDL.out]; exact hdl) (HOA.out.below h) (by rw [HOL.out]; exact hol) (HD.out.below h) (HS.out.below h) hz (by omega)
      rw [HDL.out, HOL.out, HCE.out] at this
      refine this.mono fun e w' h9 => ?_
      unfold RfB at h9
      rwa [HRR.out] at h9
    clear hh1 hh2 hh3 hh4
    go_enter Try.func7, Try.ntmps7
    go_wp2_with fail
    clear t0 t1 t2 t3 t4 t5
    refine Calls.mono HH1.out ?_
    rintro e w2 ⟨rfl, hb2⟩
    have HB2 : Hid (Below w.heap.size w w2) := HB1.out.trans (hb2.mono HB1.out.size)
    have HT2 : Hid _ := cs_next hb2 HT1.out
    obtain ⟨t0, t1, t2, t3, t4, t5⟩ := HT2.out
    clear hb2
    have HD2 : Hid (Below w.heap.size w w2.drew) := HB2.out.drew
    go_upto_region 3 with fail
    go_cut [3, 4] (fun x y wc => ∃ gi ci go co, x = .slice (some ⟨gi, 0, none⟩) dl ci ∧ y = .slice (some ⟨go, 0, none⟩) ol co ∧ Hid (Lt wc gi ci data) ∧ Hid (Lt wc go co own) ∧ Hid (Below w.heap.size w wc) ∧ Hid (Cs6 wc w.heap.size (.slice da dl dc) (.int .i64 z) (.slice a1 m1 c1) (.slice a2 m2 c2) (.slice a3 m3 c3) (.slice oa ol oc)))
    case first =>
      go_region_with (first
        | (have hg := HI3; clear hg; go_at_call_of 18 oa; refine Calls.mono (HLO.out _ HB3.out) ?_; rintro e w4 ⟨go, co, rfl, hl4, hb4⟩; have HO4 : Hid (Lt w4 go co own) := hl4; have HI4 : Hid (Lt w4 gi ci data) := HI3.out.below hb4; have HB4 : Hid (Below w.heap.size w w4) := HB3.out.trans (hb4.mono HB3.out.size); have HT4 : Hid _ := cs_next hb4 HT3.out; obtain ⟨s0, s1, s2, s3, s4, s5⟩ := HT4.out; clear hl4 hb4)
        | (have hg := HO3; clear hg; go_at_call_of 18 da; refine Calls.mono (HLA.out _ HB3.out) ?_; rintro e w4 ⟨gi, ci, rfl, hl4, hb4⟩; have HI4 : Hid (Lt w4 gi ci data) := hl4; have HO4 : Hid (Lt w4 go co own) := HO3.out.below hb4; have HB4 : Hid (Below w.heap.size w w4) := HB3.out.trans (hb4.mono HB3.out.size); have HT4 : Hid _ := cs_next hb4 HT3.out; obtain ⟨s0, s1, s2, s3, s4, s5⟩ := HT4.out; clear hl4 hb4)
        | (go_at_call_of 18 da; refine Calls.mono (HLA.out _ HD2.out) ?_; rintro e w3 ⟨gi, ci, rfl, hl3, hb3⟩; have HI3 : Hid (Lt w3 gi ci data) := hl3; have HB3 : Hid (Below w.heap.size w w3) := HD2.out.trans (hb3.mono HD2.out.size); have HT3 : Hid _ := cs_next (below_undrew hb3) HT2.out; obtain ⟨r0, r1, r2, r3, r4, r5⟩ := HT3.out; clear hl3 hb3)
        | (go_at_call_of 18 oa; refine Calls.mono (HLO.out _ HD2.out) ?_; rintro e w3 ⟨go, co, rfl, hl3, hb3⟩; have HO3 : Hid (Lt w3 go co own) := hl3; have HB3 : Hid (Below w.heap.size w w3) := HD2.out.trans (hb3.mono HD2.out.size); have HT3 : Hid _ := cs_next (below_undrew hb3) HT2.out; obtain ⟨r0, r1, r2, r3, r4, r5⟩ := HT3.out; clear hl3 hb3))
      all_goals (go_wp2_with fail; go_meet; exact ⟨_, _, _, _, rfl, rfl, HI4.out, HO4.out, HB4.out, HT4.out⟩)
    case rest =>
      obtain ⟨gi, ci, go, co, rfl, rfl, HI4, HO4, HB4, HT4⟩ := hcut
      clear t0 t1 t2 t3 t4 t5
      obtain ⟨t0, t1, t2, t3, t4, t5⟩ := HT4.out
      have HW4 : Hid (Below wc.heap.size wc wc) := Below.refl _ _
      go_wp2_with fail
      clear t0 t1 t2 t3 t4 t5
      refine Calls.mono (HCUT.out gi ci go co wc HB4.out HI4.out HO4.out) ?_
      rintro e w5 ⟨x5, rfl, hx5, hb5⟩
      have HX5 : Hid (Fd w5 wc.heap.size x5 R) := hx5
      have HN5 : Hid (Below wc.heap.size wc w5) := hb5
      have HT5 : Hid _ := cs_next hb5 HT4.out
      have HB5 : Hid (Below w.heap.size w w5) := HB4.out.trans (hb5.mono HB4.out.size)
      obtain ⟨t0, t1, t2, t3, t4, t5⟩ := HT5.out
      clear hx5 hb5
      go_wp2_with fail
      clear t0 t1 t2 t3 t4 t5
      refine Calls.mono (HREF.out w5 HB5.out) ?_
      rintro e w7 ⟨x7, rfl, hx7, hb7⟩
      have HX7 : Hid (Bs w7 x7 R) := hx7
      have HS7 : Hid (Below w5.heap.size w5 w7) := hb7
      have HN7 : Hid (Below wc.heap.size wc w7) := HN5.out.trans (hb7.mono HN5.out.size)
      have HT7 : Hid _ := cs_next hb7 HT5.out
      have HB7 : Hid (Below w.heap.size w w7) := HB5.out.trans (hb7.mono HB5.out.size)
      have HX57 : Hid (Fd w7 wc.heap.size x5 R) := HX5.out.below HS7.out
      obtain ⟨t0, t1, t2, t3, t4, t5⟩ := HT7.out
      have q5 := Bs.str (P := Try.prog) HX57.out.bs Try.underlying37 Try.underlying5 (dst := 9) Try.underlying9
      have q7 := Bs.str (P := Try.prog) HX7.out Try.underlying37 Try.underlying5 (dst := 9) Try.underlying9
      have HLI : Hid (∀ wz, Below wc.heap.size wc wz → Calls Try.prog 21 #[.slice (some ⟨gi, 0, none⟩) dl ci, .slice da dl dc] wz fun e w' => e = .returned (.bool true) ∧ Below wz.heap.size wz w') := fun wz h => by
        refine (kept_any gi dl ci _ data wz (HI4.out.below h).2 (HDA.out.below (HB4.out.trans (h.mono HB4.out.size))) HI4.out.1 (by rw [HDL.out]; exact hdl)).mono ?_
        rintro e w' ⟨rfl, k, rfl⟩
        exact ⟨rfl, below_drewN (Below.refl _ _) k⟩
      have HLOO : Hid (∀ wz, Below wc.heap.size wc wz → Calls Try.prog 21 #[.slice (some ⟨go, 0, none⟩) ol co, .slice oa ol oc] wz fun e w' => e = .returned (.bool true) ∧ Below wz.heap.size wz w') := fun wz h => by
        refine (kept_any go ol co _ own wz (HO4.out.below h).2 (HOA.out.below (HB4.out.trans (h.mono HB4.out.size))) HO4.out.1 (by rw [HOL.out]; exact hol)).mono ?_
        rintro e w' ⟨rfl, k, rfl⟩
        exact ⟨rfl, below_drewN (Below.refl _ _) k⟩
      clear hx7 hb7
      go_wp2_with (first
        | (have hg := HN8; clear hg; go_at_call 21; refine Calls.mono (HLOO.out _ HN8.out) ?_; rintro e w9 ⟨rfl, hb9⟩; have HN9 : Hid (Below wc.heap.size wc w9) := HN8.out.trans (hb9.mono HN8.out.size); have HS9 : Hid (Below w7.heap.size w7 w9) := HS8.out.trans (hb9.mono HS8.out.size); clear hb9)
        | (go_at_call 21; refine Calls.mono (HLI.out _ HN7.out) ?_; rintro e w8 ⟨rfl, hb8⟩; have HN8 : Hid (Below wc.heap.size wc w8) := HN7.out.trans (hb8.mono HN7.out.size); have HS8 : Hid (Below w7.heap.size w7 w8) := hb8; have HT8 : Hid _ := cs_next hb8 HT7.out; obtain ⟨s0, s1, s2, s3, s4, s5⟩ := HT8.out; clear hb8))
      clear t0 t1 t2 t3 t4 t5 s0 s1 s2 s3 s4 s5 q5 q7
      have HX59 : Hid (Fd w9 wc.heap.size x5 R) := HX57.out.below HS9.out
      refine Calls.mono (spoil_fd wc.heap.size x5 R w9 HX59.out HRL.out) ?_
      rintro e w10 ⟨rfl, hg10⟩
      have HN10 : Hid (Below wc.heap.size wc w10) := HN9.out.grown hg10 HN9.out.size (fun b hb => (HX59.out.lt b hb).1)
      have HB10 : Hid (Below w.heap.size w w10) := HB4.out.trans (HN10.out.mono HB4.out.size)
      have HT10 : Hid _ := cs_next HN10.out HT4.out
      obtain ⟨t0, t1, t2, t3, t4, t5⟩ := HT10.out
      clear hg10
      go_wp2_with (first
        | (have hg := HN11; clear hg; go_at_call 21; refine Calls.mono (HLOO.out _ HN11.out) ?_; rintro e w12 ⟨rfl, hb12⟩; have HN12 : Hid (Below wc.heap.size wc w12) := HN11.out.trans (hb12.mono HN11.out.size); clear hb12)
        | (go_at_call 21; refine Calls.mono (HLI.out _ HN10.out) ?_; rintro e w11 ⟨rfl, hb11⟩; have HN11 : Hid (Below wc.heap.size wc w11) := HN10.out.trans (hb11.mono HN10.out.size); have HT11 : Hid _ := cs_next hb11 HT10.out; obtain ⟨s0, s1, s2, s3, s4, s5⟩ := HT11.out; clear hb11)
        | (go_at_call 14; refine (lives13_any _).mono ?_; rintro e w13 ⟨rfl, hb13⟩; have HBZ : Hid (Below w.heap.size w w13) := (HB4.out.trans (HN12.out.mono HB4.out.size)).trans (hb13.mono (HB4.out.trans (HN12.out.mono HB4.out.size)).size); clear hb13))
      go_ret
      exact ⟨rfl, HBZ.out⟩
end Go.Proofs.Ytneegijbbbebkaa
