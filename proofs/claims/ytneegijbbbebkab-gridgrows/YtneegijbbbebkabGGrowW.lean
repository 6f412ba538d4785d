/-
  Data that grow along some dimensions and shrink again are as they were: the law's walk. No conditions.
-/
import Derived.Test.YtneegijbbbebkabGGrowM
import Derived.Deep.RegionWith
namespace Go.Proofs.Ytneegijbbbebkab
open Go.RowKit Go.Shelf
set_option linter.unusedVariables false
set_option maxRecDepth 100000

theorem wx4 {x : Int} {q : Nat} (h0 : 0 ≤ x) (h1 : x ≤ 1048576) (hq : q ≤ 3) : wrap64 (x + (q : Int)) = x + (q : Int) := by unfold wrap64; omega
theorem w4_ {q : Nat} (hq : q ≤ 3) : wrap64 (q : Int) = (q : Int) := by unfold wrap64; omega
theorem q4 {q : Nat} (hq : q ≤ 3) : (0 : Int) ≤ (q : Int) ∧ (q : Int) ≤ 3 := ⟨by omega, by omega⟩
theorem t4 {u : Int} (h : 0 ≤ u) : ∃ q : Nat, u.tmod 4 = (q : Int) ∧ q ≤ 3 := ⟨(u % 4).toNat, by rw [Int.tmod_eq_emod_of_nonneg h]; omega, by omega⟩
theorem bel_drewG {B : Nat} {w0 w : World} (h : Below B w0 w) : Below B w0 w.drew := ⟨h.os, h.tape, h.output, h.size, h.block⟩
set_option maxHeartbeats 32000000 in
theorem gridGrows_walk (dv : Value) (z : Int) (vd vs vc ov : Value) (data D S C own : List Int) (mv : Value) (more : List Int) (w : World) (hc : CsOk w dv z vd vs vc ov data D S C own) (hm : Us w mv more) :
    Calls Try.prog 4 #[caseV dv z vd vs vc ov, mv] w fun e w' => e = .returned (.bool true) ∧ Below w.heap.size w w' := by
  obtain ⟨hda, hdb, hdl, hz, hD, hS, hC, hoa, hob, hol⟩ := hc
  have HDA : Hid (Bs w dv data) := hda
  have HOA : Hid (Bs w ov own) := hoa
  have HM : Hid (Us w mv more) := hm
  have HD : Hid (Is w vd D) := hD
  have HS : Hid (Is w vs S) := hS
  have HI : Hid (∀ x ∈ D, I64 x) := hD.rng
  obtain ⟨da, dc, rfl, dl1, dl2, _⟩ := hda
  obtain ⟨oa, oc, rfl, ol1, ol2, _⟩ := hoa
  obtain ⟨ma, um, mc, rfl, eM, kM, lM⟩ := hm.open
  obtain ⟨a1, m1, c1, rfl, e1, k1, l1⟩ := hD.open
  obtain ⟨a2, m2, c2, rfl, _⟩ := hS.open
  obtain ⟨a3, m3, c3, rfl, _⟩ := hC.open
  obtain ⟨dl, HDL⟩ : ∃ dl, Hid (data.length = dl) := ⟨_, rfl⟩
  obtain ⟨ol, HOL⟩ : ∃ ol, Hid (own.length = ol) := ⟨_, rfl⟩
  rw [HDL.out] at HDA hdl dl1 ⊢
  rw [HOL.out] at HOA hol ol1 ⊢
  have HE1 : Hid (D.length = m1) := e1
  have HL1 : Hid (m1 ≤ 17592186043904) := l1
  obtain ⟨hv, HHV⟩ : ∃ hv, Hid (hvB dl ol D S = hv) := ⟨_, rfl⟩
  obtain ⟨w1, hw1, b1, s1, t0, t1, t2, t3, t4, t5⟩ := box_case w (.slice da dl dc) z (.slice a1 m1 c1) (.slice a2 m2 c2) (.slice a3 m3 c3) (.slice oa ol oc)
  have HB1 : Hid (Below w.heap.size w w1) := b1
  have HH : Hid (∀ w2, Below w.heap.size w w2 → Calls Try.prog 5 #[.agg #[.slice da dl dc, .int .i64 z, .slice a1 m1 c1, .slice a2 m2 c2, .slice a3 m3 c3, .slice oa ol oc]] w2 fun e w' => e = .returned (.bool hv) ∧ Below w2.heap.size w2 w') := fun w2 h => by
    have := heavy_any D S da dl dc oa ol oc (.slice a1 m1 c1) (.slice a2 m2 c2) a3 m3 c3 z w2 (HD.out.below h) (HS.out.below h)
    rwa [HHV.out] at this
  have HT1 : Hid (Cs6 w1 w.heap.size (.slice da dl dc) (.int .i64 z) (.slice a1 m1 c1) (.slice a2 m2 c2) (.slice a3 m3 c3) (.slice oa ol oc)) := ⟨t0, t1, t2, t3, t4, t5⟩
  have HZ : Hid (I64 z) := hz
  have HDLb : Hid (dl ≤ 140737488351232) := hdl
  have HOLb : Hid (ol ≤ 140737488351232) := hol
  unfold caseV
  clear hD hS hC b1 s1 hm e1 eM hz
  have HH1 : Hid _ := HH.out w1 HB1.out
  cases hv with
  | true =>
    go_enter Try.func4, Try.ntmps4
    go_wp2_with (first
      | (have hg := HB2; clear hg; go_at_call 6; refine (lives13_any _).mono ?_; rintro e w3 ⟨rfl, hb3⟩; have HB3 : Hid (Below w.heap.size w w3) := HB2.out.trans (hb3.mono HB2.out.size); clear hb3)
      | (go_at_call 5; refine Calls.mono HH1.out ?_; rintro e w2 ⟨rfl, hb2⟩; have HB2 : Hid (Below w.heap.size w w2) := HB1.out.trans (hb2.mono HB1.out.size); clear hb2))
    go_ret
    exact ⟨rfl, HB3.out⟩
  | false =>
    go_enter Try.func4, Try.ntmps4
    go_wp2_with fail
    clear t0 t1 t2 t3 t4 t5
    refine Calls.mono HH1.out ?_
    rintro e w2 ⟨rfl, hb2⟩
    have HB2 : Hid (Below w.heap.size w w2) := HB1.out.trans (hb2.mono HB1.out.size)
    have HT2 : Hid _ := cs_next hb2 HT1.out
    clear hb2 HH HH1
    obtain ⟨w3, hw3, b3, s3, g3⟩ := alloc_facts w2 (.cells #[] 3)
    have HB3 : Hid (Below w.heap.size w w3) := HB2.out.trans (b3.mono HB2.out.size)
    have HT3 : Hid _ := cs_next b3 HT2.out
    obtain ⟨ao, cap, w4, hrun, hown, hgr⟩ := run_app_all w3 23 w2.heap.size a1 m1 c1 D (own_empty g3) (HD.out.below HB3.out) HL1.out (by omega)
    have hb4 : Below w2.heap.size w2 w4 := b3.grown hgr (by omega) (fun k hk => by have := Option.some.inj hk; omega)
    have HB4 : Hid (Below w.heap.size w w4) := HB2.out.trans (hb4.mono HB2.out.size)
    have HT4 : Hid _ := cs_next hb4 HT2.out
    have HO4 : Hid (OwnI w4 w2.heap.size (.slice ao m1 cap) D) := by rw [Hid, OwnI, HE1.out]; exact hown
    have HG0 : Hid (Gr D D 0) := Gr.zero HI.out
    obtain ⟨t0, t1, t2, t3, t4, t5⟩ := HT3.out
    have HBW4 : Hid (Below w2.heap.size w2 w4) := hb4
    clear b3 s3 g3 hown hgr hb4
    go_upto_region 4 with (at_builtin; refine wpList_run_append rfl (.tmp 16) (.tmp 18) _ rfl rfl rfl hrun ?_)
    clear t0 t1 t2 t3 t4 t5 hrun
    have HN0 : Hid (Below w2.heap.size w2 w4) := HBW4.out
    go_wp2_with fail
    go_loopw [6] (fun i wr => ∃ (k : Nat) (T : List Int), k ≤ m1 ∧ i = .int .i64 k ∧ Gr D T k ∧ OwnI wr w2.heap.size (.slice ao m1 cap) T ∧ Below w2.heap.size w2 wr) (fun i _ => m1 - (intOf i).toNat)
    case atStart => exact ⟨0, D, Nat.zero_le _, rfl, HG0.out, HO4.out, HN0.out⟩
    case round =>
      obtain ⟨k, T, hk, rfl, hgr, hot, hbq⟩ := hrel
      obtain ⟨wq, rfl⟩ : ∃ wq, wq = wr := ⟨wr, rfl⟩
      by_cases hlt : k < m1
      · by_cases hlu : k < um
        · have hT : T.length = m1 := by rw [hgr.len, HE1.out]
          obtain ⟨g, rfl, hg⟩ : ∃ g, ao = some ⟨g, 0, none⟩ ∧ w2.heap.size ≤ g := by
            rcases ownsRow_shape hot with ⟨e, h0⟩ | ⟨g, c, e, hg, _⟩
            · omega
            · injection e with e1 _ _
              exact ⟨g, e1, hg⟩
          obtain ⟨x, hx, hcx, hfx⟩ := hot.atI hT k hlt
          have hix := hgr.rng x (List.mem_of_getElem? hx)
          have HGR : Hid (Gr D T k) := hgr
          have HBQ : Hid (Below w.heap.size w wq) := HB2.out.trans (hbq.mono HB2.out.size)
          by_cases hx0 : x < 0
          · clear hgr hot hbq
            go_wp2_with (go_at_call 6; refine (lives13_any _).mono ?_; rintro e w11 ⟨rfl, hb11⟩; have HB11 : Hid (Below w.heap.size w w11) := HBQ.out.trans (hb11.mono HBQ.out.size); clear hb11)
            go_ret
            exact ⟨rfl, HB11.out⟩
          · by_cases hx1 : 1048576 < x
            · clear hgr hot hbq
              go_wp2_with (go_at_call 6; refine (lives13_any _).mono ?_; rintro e w11 ⟨rfl, hb11⟩; have HB11 : Hid (Below w.heap.size w w11) := HBQ.out.trans (hb11.mono HBQ.out.size); clear hb11)
              go_ret
              exact ⟨rfl, HB11.out⟩
            · have hx0' : 0 ≤ x := by omega
              have hx1' : x ≤ 1048576 := by omega
              obtain ⟨gm, om, u, rfl, hu, hub, hcu0⟩ := HM.out.at hlu
              have hcu := (HBQ.out.cell (World.block_lt_of_cell? _ _ hcu0)).trans hcu0
              obtain ⟨um4, hum, hm4⟩ : ∃ q : Nat, u.tmod 4 = (q : Int) ∧ q ≤ 3 := t4 hub.1
              have hw4 : wrap64 (um4 : Int) = (um4 : Int) := w4_ hm4
              have hwx : wrap64 (x + (um4 : Int)) = x + (um4 : Int) := wx4 hx0' hx1' hm4
              have HNX : Hid (Gr D (T.set k (x + (um4 : Int))) (k + 1)) := hgr.set hx hx0' hx1' (q4 hm4)
              have HOX : Hid (OwnI (wq.setCell ⟨g, k, none⟩ (.int .i64 (x + (um4 : Int)))) w2.heap.size (.slice (some ⟨g, 0, none⟩) m1 cap) (T.set k (x + (um4 : Int)))) := hot.stored hT k _
              have HNQ : Hid (Below w2.heap.size w2 wq) := hbq
              have HUM : Hid (u.tmod 4 = (um4 : Int) ∧ wrap64 (um4 : Int) = (um4 : Int) ∧ wrap64 (x + (um4 : Int)) = x + (um4 : Int)) := ⟨hum, hw4, hwx⟩
              clear hgr hot hbq hcu0 hu hix hx hum hw4 hwx hub hm4
              go_upto_region 9 with fail
              obtain ⟨hum, hw4, hwx⟩ := HUM.out
              go_region
              go_wp2_with fail
              go_roundw
              case rel => exact ⟨k + 1, _, by omega, by go_num, HNX.out, HOX.out, bel_drewG (Below.setCell (p := ⟨g, k, none⟩) HNQ.out hg _)⟩
              case measure => simp [intOf]; omega
        · have HGR : Hid (Gr D T k) := hgr
          have HOT : Hid (OwnI wq w2.heap.size (.slice ao m1 cap) T) := hot
          have HNQ : Hid (Below w2.heap.size w2 wq) := hbq
          have HBQ : Hid (Below w.heap.size w wq) := HB2.out.trans (hbq.mono HB2.out.size)
          have HIT : Hid (Is wq (.slice ao m1 cap) T) := hot.is (by rw [hgr.len, HE1.out]; exact HL1.out) hgr.rng
          have HTQ : Hid _ := cs_next hbq HT2.out
          have HHT : Hid (rsE dl z D T ol = 0 → ∃ R : List Int, ∃ n : Nat, rsR data own D T z.toNat = R ∧ R.length = n ∧ n ≤ 65536 ∧ (n : Int) = elN T * z ∧ rsE n z T D ol = 0 ∧ rsR R own T D z.toNat = data) := fun h => by
            have := grow_plain (data := data) (own := own) (D := D) (T := T) (z := z) hgr.le (by rw [HDL.out, HOL.out]; exact h)
            rwa [HOL.out] at this
          have HWD : Hid (∃ wd, decide (3000 < elN T) = wd) := ⟨_, rfl⟩
          obtain ⟨wd, hwd⟩ := HWD.out
          have HWI : Hid (Calls Try.prog 9 #[.slice ao m1 cap] wq fun e w' => e = .returned (.bool wd) ∧ Below wq.heap.size wq w') := by
            have := wide_any T _ wq HIT.out
            rwa [hwd] at this
          clear hgr hot hbq hwd HWD
          cases wd with
          | true =>
            go_wp2_with fail
            refine Calls.mono HWI.out ?_
            rintro e w5 ⟨rfl, hb5⟩
            have HB5 : Hid (Below w.heap.size w w5) := HBQ.out.trans (hb5.mono HBQ.out.size)
            clear hb5
            go_wp2_with (go_at_call 6; refine (lives13_any _).mono ?_; rintro e w11 ⟨rfl, hb11⟩; have HB11 : Hid (Below w.heap.size w w11) := HB5.out.trans (hb11.mono HB5.out.size); clear hb11)
            go_ret
            exact ⟨rfl, HB11.out⟩
          | false =>
            go_wp2_with fail
            refine Calls.mono HWI.out ?_
            rintro e w5 ⟨rfl, hb5⟩
            have HB5 : Hid (Below w.heap.size w w5) := HBQ.out.trans (hb5.mono HBQ.out.size)
            have HT5 : Hid _ := cs_next hb5 HTQ.out
            have HI5 : Hid (Is w5 (.slice ao m1 cap) T) := HIT.out.below hb5
            obtain ⟨t0, t1, t2, t3, t4, t5⟩ := HT5.out
            clear hb5
            obtain ⟨ce, HCE⟩ : ∃ ce, Hid (rsE dl z D T ol = ce) := ⟨_, rfl⟩
            have HR0 : Hid (Calls Try.prog 10 #[.slice da dl dc, .int .i64 z, .slice a1 m1 c1, .slice ao m1 cap, .slice oa ol oc] w5 (ByP w5 ce (rsR data own D T z.toNat))) := by
              have := resize_any data own D T _ _ _ _ z w5 (HDA.out.below HB5.out) (by rw [HDL.out]; exact HDLb.out) (HOA.out.below HB5.out) (by rw [HOL.out]; exact HOLb.out) (HD.out.below HB5.out) HI5.out HZ.out
              rwa [HDL.out, HOL.out, HCE.out] at this
            by_cases hce : ce = 0
            · subst hce
              obtain ⟨R, n, hR, hn, hn6, hnz, hre, hrd⟩ := HHT.out HCE.out
              have HR1 : Hid (Calls Try.prog 10 #[.slice da dl dc, .int .i64 z, .slice a1 m1 c1, .slice ao m1 cap, .slice oa ol oc] w5 (OkB w5 n R)) := HR0.out.mono fun e w' h => okB_of (by rw [← hR]; exact h) hn
              have HR2 : Hid (∀ (w6 : World) (v : Value), Below w.heap.size w w6 → Is w6 (.slice ao m1 cap) T → Bs w6 v R → Calls Try.prog 10 #[v, .int .i64 z, .slice ao m1 cap, .slice a1 m1 c1, .slice oa ol oc] w6 (OkB w6 dl data)) := fun w6 v h hT hv => by
                have := resize_any R own T D _ _ _ _ z w6 hv (by rw [hn]; omega) (HOA.out.below h) (by rw [HOL.out]; exact HOLb.out) hT (HD.out.below h) HZ.out
                rw [hn, HOL.out, hre, hrd] at this
                exact this.mono fun e w' h9 => okB_of h9 HDL.out
              have HEL : Hid (∀ (w6 : World), Is w6 (.slice ao m1 cap) T → Calls Try.prog 11 #[.slice ao m1 cap] w6 fun e w' => ∃ ee en, e = .returned (.tuple #[.int .i64 en, .int .i64 ee]) ∧ en * z = (n : Int) ∧ Below w6.heap.size w6 w') := fun w6 hT => by
                refine (refElements_any T _ w6 hT).mono ?_
                rintro e w' ⟨rfl, hb⟩
                exact ⟨_, _, rfl, hnz.symm, hb⟩
              have HN6 : Hid (n ≤ 65536) := hn6
              clear hR hn hn6 hnz hre hrd HR0 HHT
              go_wp2_with fail
              clear t0 t1 t2 t3 t4 t5
              refine Calls.mono HR1.out ?_
              rintro e w6 ⟨g6, cap6, rfl, hx6, hb6⟩
              have HX6 : Hid (Bs w6 (.slice (some ⟨g6, 0, none⟩) n cap6) R) := hx6
              have HB6 : Hid (Below w.heap.size w w6) := HB5.out.trans (hb6.mono HB5.out.size)
              have HT6 : Hid _ := cs_next hb6 HT5.out
              have HI6 : Hid (Is w6 (.slice ao m1 cap) T) := HI5.out.below hb6
              obtain ⟨t0, t1, t2, t3, t4, t5⟩ := HT6.out
              clear hx6 hb6
              go_wp2_with fail
              clear t0 t1 t2 t3 t4 t5
              refine Calls.mono (HR2.out w6 _ HB6.out HI6.out HX6.out) ?_
              rintro e w7 ⟨g7, cap7, rfl, hx7, hb7⟩
              have HX7 : Hid (Bs w7 (.slice (some ⟨g7, 0, none⟩) dl cap7) data) := hx7
              have HB7 : Hid (Below w.heap.size w w7) := HB6.out.trans (hb7.mono HB6.out.size)
              have HT7 : Hid _ := cs_next hb7 HT6.out
              have HI7 : Hid (Is w7 (.slice ao m1 cap) T) := HI6.out.below hb7
              obtain ⟨t0, t1, t2, t3, t4, t5⟩ := HT7.out
              clear hx7 hb7
              go_wp2_with fail
              clear t0 t1 t2 t3 t4 t5
              refine Calls.mono (HEL.out w7 HI7.out) ?_
              rintro e w8 ⟨ee, en, rfl, hen, hb8⟩
              have HB8 : Hid (Below w.heap.size w w8) := HB7.out.trans (hb8.mono HB7.out.size)
              have HT8 : Hid _ := cs_next hb8 HT7.out
              obtain ⟨t0, t1, t2, t3, t4, t5⟩ := HT8.out
              have hwm : IntKind.i64.wrap (en * z) = (n : Int) := by rw [hen]; have := HN6.out; exact wrap_i64_in _ (by omega) (by omega)
              have q1 := Bs.str (P := Try.prog) (HX7.out.below hb8) Try.underlying22 Try.underlying5 (dst := 9) Try.underlying9
              have q2 := Bs.str (P := Try.prog) (HX7.out.below hb8).drew Try.underlying22 Try.underlying5 (dst := 9) Try.underlying9
              have q3 := Bs.str (P := Try.prog) (HDA.out.below HB8.out) Try.underlying22 Try.underlying5 (dst := 9) Try.underlying9
              have q4 := Bs.str (P := Try.prog) (HDA.out.below HB8.out).drew Try.underlying22 Try.underlying5 (dst := 9) Try.underlying9
              clear hb8 hen
              go_wp2_with (go_at_call 6; refine (lives13_any _).mono ?_; rintro e w11 ⟨rfl, hb11⟩; have HB11 : Hid (Below w.heap.size w w11) := HB8.out.trans (hb11.mono HB8.out.size); clear hb11)
              go_ret
              exact ⟨rfl, HB11.out⟩
            · have HCNO : Hid (ce ≠ 0) := hce
              have b2 : (ce != 0) = true := by simpa using hce
              clear hce
              go_wp2_with fail
              clear t0 t1 t2 t3 t4 t5
              refine Calls.mono HR0.out ?_
              rintro e w6 ⟨v, rfl, hb6, hv, _⟩
              obtain rfl := hv HCNO.out
              have HB6 : Hid (Below w.heap.size w w6) := HB5.out.trans (hb6.mono HB5.out.size)
              clear hb6 hv
              go_wp2_with (go_at_call 6; refine (lives13_any _).mono ?_; rintro e w11 ⟨rfl, hb11⟩; have HB11 : Hid (Below w.heap.size w w11) := HB6.out.trans (hb11.mono HB6.out.size); clear hb11)
              go_ret
              exact ⟨rfl, HB11.out⟩
      · have HGR : Hid (Gr D T k) := hgr
        have HOT : Hid (OwnI wq w2.heap.size (.slice ao m1 cap) T) := hot
        have HNQ : Hid (Below w2.heap.size w2 wq) := hbq
        have HBQ : Hid (Below w.heap.size w wq) := HB2.out.trans (hbq.mono HB2.out.size)
        have HIT : Hid (Is wq (.slice ao m1 cap) T) := hot.is (by rw [hgr.len, HE1.out]; exact HL1.out) hgr.rng
        have HTQ : Hid _ := cs_next hbq HT2.out
        have HHT : Hid (rsE dl z D T ol = 0 → ∃ R : List Int, ∃ n : Nat, rsR data own D T z.toNat = R ∧ R.length = n ∧ n ≤ 65536 ∧ (n : Int) = elN T * z ∧ rsE n z T D ol = 0 ∧ rsR R own T D z.toNat = data) := fun h => by
          have := grow_plain (data := data) (own := own) (D := D) (T := T) (z := z) hgr.le (by rw [HDL.out, HOL.out]; exact h)
          rwa [HOL.out] at this
        have HWD : Hid (∃ wd, decide (3000 < elN T) = wd) := ⟨_, rfl⟩
        obtain ⟨wd, hwd⟩ := HWD.out
        have HWI : Hid (Calls Try.prog 9 #[.slice ao m1 cap] wq fun e w' => e = .returned (.bool wd) ∧ Below wq.heap.size wq w') := by
          have := wide_any T _ wq HIT.out
          rwa [hwd] at this
        clear hgr hot hbq hwd HWD
        cases wd with
        | true =>
          go_wp2_with fail
          refine Calls.mono HWI.out ?_
          rintro e w5 ⟨rfl, hb5⟩
          have HB5 : Hid (Below w.heap.size w w5) := HBQ.out.trans (hb5.mono HBQ.out.size)
          clear hb5
          go_wp2_with (go_at_call 6; refine (lives13_any _).mono ?_; rintro e w11 ⟨rfl, hb11⟩; have HB11 : Hid (Below w.heap.size w w11) := HB5.out.trans (hb11.mono HB5.out.size); clear hb11)
          go_ret
          exact ⟨rfl, HB11.out⟩
        | false =>
          go_wp2_with fail
          refine Calls.mono HWI.out ?_
          rintro e w5 ⟨rfl, hb5⟩
          have HB5 : Hid (Below w.heap.size w w5) := HBQ.out.trans (hb5.mono HBQ.out.size)
          have HT5 : Hid _ := cs_next hb5 HTQ.out
          have HI5 : Hid (Is w5 (.slice ao m1 cap) T) := HIT.out.below hb5
          obtain ⟨t0, t1, t2, t3, t4, t5⟩ := HT5.out
          clear hb5
          obtain ⟨ce, HCE⟩ : ∃ ce, Hid (rsE dl z D T ol = ce) := ⟨_, rfl⟩
          have HR0 : Hid (Calls Try.prog 10 #[.slice da dl dc, .int .i64 z, .slice a1 m1 c1, .slice ao m1 cap, .slice oa ol oc] w5 (ByP w5 ce (rsR data own D T z.toNat))) := by
            have := resize_any data own D T _ _ _ _ z w5 (HDA.out.below HB5.out) (by rw [HDL.out]; exact HDLb.out) (HOA.out.below HB5.out) (by rw [HOL.out]; exact HOLb.out) (HD.out.below HB5.out) HI5.out HZ.out
            rwa [HDL.out, HOL.out, HCE.out] at this
          by_cases hce : ce = 0
          · subst hce
            obtain ⟨R, n, hR, hn, hn6, hnz, hre, hrd⟩ := HHT.out HCE.out
            have HR1 : Hid (Calls Try.prog 10 #[.slice da dl dc, .int .i64 z, .slice a1 m1 c1, .slice ao m1 cap, .slice oa ol oc] w5 (OkB w5 n R)) := HR0.out.mono fun e w' h => okB_of (by rw [← hR]; exact h) hn
            have HR2 : Hid (∀ (w6 : World) (v : Value), Below w.heap.size w w6 → Is w6 (.slice ao m1 cap) T → Bs w6 v R → Calls Try.prog 10 #[v, .int .i64 z, .slice ao m1 cap, .slice a1 m1 c1, .slice oa ol oc] w6 (OkB w6 dl data)) := fun w6 v h hT hv => by
              have := resize_any R own T D _ _ _ _ z w6 hv (by rw [hn]; omega) (HOA.out.below h) (by rw [HOL.out]; exact HOLb.out) hT (HD.out.below h) HZ.out
              rw [hn, HOL.out, hre, hrd] at this
              exact this.mono fun e w' h9 => okB_of h9 HDL.out
            have HEL : Hid (∀ (w6 : World), Is w6 (.slice ao m1 cap) T → Calls Try.prog 11 #[.slice ao m1 cap] w6 fun e w' => ∃ ee en, e = .returned (.tuple #[.int .i64 en, .int .i64 ee]) ∧ en * z = (n : Int) ∧ Below w6.heap.size w6 w') := fun w6 hT => by
              refine (refElements_any T _ w6 hT).mono ?_
              rintro e w' ⟨rfl, hb⟩
              exact ⟨_, _, rfl, hnz.symm, hb⟩
            have HN6 : Hid (n ≤ 65536) := hn6
            clear hR hn hn6 hnz hre hrd HR0 HHT
            go_wp2_with fail
            clear t0 t1 t2 t3 t4 t5
            refine Calls.mono HR1.out ?_
            rintro e w6 ⟨g6, cap6, rfl, hx6, hb6⟩
            have HX6 : Hid (Bs w6 (.slice (some ⟨g6, 0, none⟩) n cap6) R) := hx6
            have HB6 : Hid (Below w.heap.size w w6) := HB5.out.trans (hb6.mono HB5.out.size)
            have HT6 : Hid _ := cs_next hb6 HT5.out
            have HI6 : Hid (Is w6 (.slice ao m1 cap) T) := HI5.out.below hb6
            obtain ⟨t0, t1, t2, t3, t4, t5⟩ := HT6.out
            clear hx6 hb6
            go_wp2_with fail
            clear t0 t1 t2 t3 t4 t5
            refine Calls.mono (HR2.out w6 _ HB6.out HI6.out HX6.out) ?_
            rintro e w7 ⟨g7, cap7, rfl, hx7, hb7⟩
            have HX7 : Hid (Bs w7 (.slice (some ⟨g7, 0, none⟩) dl cap7) data) := hx7
            have HB7 : Hid (Below w.heap.size w w7) := HB6.out.trans (hb7.mono HB6.out.size)
            have HT7 : Hid _ := cs_next hb7 HT6.out
            have HI7 : Hid (Is w7 (.slice ao m1 cap) T) := HI6.out.below hb7
            obtain ⟨t0, t1, t2, t3, t4, t5⟩ := HT7.out
            clear hx7 hb7
            go_wp2_with fail
            clear t0 t1 t2 t3 t4 t5
            refine Calls.mono (HEL.out w7 HI7.out) ?_
            rintro e w8 ⟨ee, en, rfl, hen, hb8⟩
            have HB8 : Hid (Below w.heap.size w w8) := HB7.out.trans (hb8.mono HB7.out.size)
            have HT8 : Hid _ := cs_next hb8 HT7.out
            obtain ⟨t0, t1, t2, t3, t4, t5⟩ := HT8.out
            have hwm : IntKind.i64.wrap (en * z) = (n : Int) := by rw [hen]; have := HN6.out; exact wrap_i64_in _ (by omega) (by omega)
            have q1 := Bs.str (P := Try.prog) (HX7.out.below hb8) Try.underlying22 Try.underlying5 (dst := 9) Try.underlying9
            have q2 := Bs.str (P := Try.prog) (HX7.out.below hb8).drew Try.underlying22 Try.underlying5 (dst := 9) Try.underlying9
            have q3 := Bs.str (P := Try.prog) (HDA.out.below HB8.out) Try.underlying22 Try.underlying5 (dst := 9) Try.underlying9
            have q4 := Bs.str (P := Try.prog) (HDA.out.below HB8.out).drew Try.underlying22 Try.underlying5 (dst := 9) Try.underlying9
            clear hb8 hen
            go_wp2_with (go_at_call 6; refine (lives13_any _).mono ?_; rintro e w11 ⟨rfl, hb11⟩; have HB11 : Hid (Below w.heap.size w w11) := HB8.out.trans (hb11.mono HB8.out.size); clear hb11)
            go_ret
            exact ⟨rfl, HB11.out⟩
          · have HCNO : Hid (ce ≠ 0) := hce
            have b2 : (ce != 0) = true := by simpa using hce
            clear hce
            go_wp2_with fail
            clear t0 t1 t2 t3 t4 t5
            refine Calls.mono HR0.out ?_
            rintro e w6 ⟨v, rfl, hb6, hv, _⟩
            obtain rfl := hv HCNO.out
            have HB6 : Hid (Below w.heap.size w w6) := HB5.out.trans (hb6.mono HB5.out.size)
            clear hb6 hv
            go_wp2_with (go_at_call 6; refine (lives13_any _).mono ?_; rintro e w11 ⟨rfl, hb11⟩; have HB11 : Hid (Below w.heap.size w w11) := HB6.out.trans (hb11.mono HB6.out.size); clear hb11)
            go_ret
            exact ⟨rfl, HB11.out⟩
end Go.Proofs.Ytneegijbbbebkab
