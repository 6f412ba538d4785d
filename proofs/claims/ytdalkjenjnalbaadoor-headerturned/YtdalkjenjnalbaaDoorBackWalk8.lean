/-
  The walk of HeaderBack. Conditions: none but what memory bears; the two listed variables stand.
-/
import Derived.Test.YtdalkjenjnalbaaDoorEBack
import Derived.Test.YtdalkjenjnalbaaDoorRLast
namespace Go.Proofs.YtdalkjenjnalbaaDoor
open Go.RowKit
set_option linter.unusedVariables false
set_option maxRecDepth 100000

theorem belTr8 {a b c : World} (h : Below a.heap.size a b) (k : Below b.heap.size b c) : Below a.heap.size a c := h.trans (k.mono h.size)
def HvB (t : Value) : Prop := ∃ b, t = .bool b
/-- A file that is loaded so. -/
def FlQ (x : Ext) (R : Int × List (Int × List Int) × List Ext) (v : Value) (W : World) : Prop := ∃ F, Bs W v F ∧ Byt F ∧ F.length ≤ 5000000 ∧ ldM F x = R
theorem FlQ.below {x : Ext} {R : Int × List (Int × List Int) × List Ext} {v : Value} {W W' : World} (h : FlQ x R v W) (hb : Below W.heap.size W W') : FlQ x R v W' := by
  obtain ⟨F, h1, h2⟩ := h
  exact ⟨F, h1.below hb, h2⟩
/-- What was loaded. -/
def LdQ (R : Int × List (Int × List Int) × List Ext) (vl vu : Value) (W : World) : Prop := ∃ L, L.map plM = R.2.1 ∧ Ms W vl L ∧ Xs W vu R.2.2
theorem LdQ.below {R : Int × List (Int × List Int) × List Ext} {vl vu : Value} {W W' : World} (h : LdQ R vl vu W) (hb : Below W.heap.size W W') : LdQ R vl vu W' := by
  obtain ⟨L, h1, h2, h3⟩ := h
  exact ⟨L, h1, h2.below hb, h3.below hb⟩
theorem load_q (W : World) (vf : Value) (x : Ext) (R : Int × List (Int × List Int) × List Ext) (hF : FlQ x R vf W) (hx : EW x) (hT : Tab W) (hX : NoX W) :
    Calls Tryd.prog 21 #[vf, .agg #[.int .i64 x.1, .int .i64 x.2]] W fun e w' => ∃ vl vu, e = .returned (.tuple #[vl, vu, .int .i64 R.1]) ∧ LdQ R vl vu w' ∧ Below W.heap.size W w' := by
  obtain ⟨F, h1, h2, h3, h4⟩ := hF
  refine (load_any W vf F x h1 (by omega) h2 hx hT hX).mono ?_
  rw [h4]
  rintro e w' ⟨vl, vu, L, he, hl, hm, hu, hb⟩
  exact ⟨vl, vu, he, ⟨L, hl, hm.ms, hu.xs⟩, hb⟩
set_option maxHeartbeats 8000000 in
theorem headerBack_walk (v0 : Value) (l : List Msg) (v1 : Value) (r : List Ext) (w : World) (hT : Tab w ∧ NoX w) (b0 : Ms w v0 l) (y0 : MOk l) (z0 : l.length ≤ 4398046510976) (b1 : Xs w v1 r) (y1 : EWs r) (z1 : r.length ≤ 8796093021952) :
    Calls Tryd.prog 6 #[v0, v1] w fun e w' => e = .returned (.bool true) ∧ Below w.heap.size w w' := by
  have HHV : Hid _ := heavy_any w v0 v1 l r b0 (by omega) b1 (by omega)
  have HLV : Hid (∀ W, Below w.heap.size w W → Calls Tryd.prog 10 #[] W fun e w' => e = .returned (.bool true) ∧ Below w.heap.size w w') := fun W hW => (lives8_any W (hT.1.below hW) (hT.2.below hW)).mono (by rintro e w' ⟨rfl, hb⟩; exact ⟨rfl, hW.trans (hb.mono hW.size)⟩)
  have HLY : Hid (Calls Tryd.prog 15 #[v0, v1] w fun e w' => ∃ v L, e = .returned (.tuple #[v, .int .i64 (layErr l r)]) ∧ L.map plB = layL l r ∧ BkS w' w.heap.size v L ∧ Below w.heap.size w w') := lay_any w v0 v1 l r b0 y0 (by omega) b1 y1 (by omega) hT.1 hT.2
  have HPL : Hid (∀ W, Below w.heap.size w W → Calls Tryd.prog 13 #[v0] W fun e w' => ∃ v', e = .returned v' ∧ Ms w' v' l ∧ Below W.heap.size W w') := fun W hW => plain_any W v0 l (b0.below hW) z0
  have HTW : Hid (∀ W, Below w.heap.size w W → Tab W ∧ NoX W) := fun W hW => ⟨hT.1.below hW, hT.2.below hW⟩
  have HSM : Hid (∀ W va vb (La : List Msg), Ms W va La → Ms W vb l → La.map plM = l.map plM → Calls Tryd.prog 19 #[va, vb] W fun e w' => e = .returned (.bool true) ∧ Below W.heap.size W w') := fun W va vb La h1 h2 h3 => by
    have hlen : La.length = l.length := by have := congrArg List.length h3; simpa using this
    refine sameMs_yes va vb La l W h1 h2 hlen (fun i a b ha hb => ?_) (by omega)
    have k1 : (La.map plM)[i]? = some (plM a) := by rw [List.getElem?_map, ha]; rfl
    have k2 : (l.map plM)[i]? = some (plM b) := by rw [List.getElem?_map, hb]; rfl
    rw [h3, k2] at k1
    injection k1 with k3
    injection k3 with k4 k5
    exact ⟨k4.symm, k5.symm⟩
  have HSY : Hid (Byt (strm l)) := strm_byt y0
  obtain ⟨ao0, cap0, hv0, _⟩ := b0
  obtain ⟨ao1, cap1, hv1, _⟩ := b1
  subst hv0 hv1
  obtain ⟨le, HLE⟩ : ∃ le, Hid (layErr l r = le) := ⟨_, rfl⟩
  obtain ⟨rn, HRN⟩ : ∃ rn, Hid (r.length = rn) := ⟨_, rfl⟩
  obtain ⟨ln, HLN⟩ : ∃ ln, Hid (l.length = ln) := ⟨_, rfl⟩
  rw [HLE.out] at HLY
  have HCS : Hid (le ≠ 0 → layL l r = []) := fun h => by unfold layL; rw [if_neg (by rw [HLE.out]; exact h)]
  have HC0 : Hid (le = 0 → szErr l = 0 ∧ r.length ≤ 65536 ∧ (∀ x ∈ r, Wd x) ∧ (strm l).length ≤ roomOf r ∧ layL l r = blksM r (strm l)) := fun h => by
    have hsl := strm_len l
    rcases lay_cases l r with ⟨c1, c2, c3⟩ | ⟨c1, c2, c3⟩ | ⟨c1, c2, c3, c4, c5, c6⟩ | ⟨c1, c2, c3, c4, c5, c6⟩
    · rw [HLE.out, h] at c2; exact absurd c2.symm c1
    · rw [HLE.out, h] at c2; omega
    · rw [HLE.out, h] at c4; omega
    · exact ⟨c1, c2, c3, by omega, c6⟩
  rw [HRN.out] at HHV HLY z1 ⊢
  rw [HLN.out] at HHV HLY HPL z0 ⊢
  clear hT y0 y1
  go_enter Tryd.func6, Tryd.ntmps6
  go_upto_region 1 with fail
  go_cut [13] (fun t wc => HvB t ∧ Hid (wc = w))
  case first =>
    go_wp2_with (go_at_call 9; refine Calls.mono HHV.out ?_; rintro e w1 ⟨bh, rfl, hw1⟩; obtain rfl := hw1.symm)
    all_goals go_meet
    all_goals exact ⟨⟨_, rfl⟩, rfl⟩
  case rest =>
    obtain ⟨⟨bh, rfl⟩, hwc⟩ := hcut
    obtain rfl := hwc.out.symm
    clear hwc HHV
    cases bh with
    | true =>
      go_wp2_with (go_at_call 10; refine Calls.mono (HLV.out _ (Below.refl _ _)) ?_; rintro e w8 ⟨rfl, hb8⟩; have HB8 : Hid (Below w.heap.size w w8) := hb8; clear hb8)
      go_ret
      exact ⟨rfl, HB8.out⟩
    | false =>
      go_upto_region 4 with (go_at_call 15; refine Calls.mono HLY.out ?_; rintro e w2 ⟨vx, Lx, rfl, hl2, hk2, hb2⟩; have HCX := hk2.cells; obtain ⟨aox, capx, rfl, hcx⟩ := HCX; have HL2 : Hid (Lx.map plB = layL l r) := hl2; have HK2 : Hid (BkS w2 w.heap.size (.slice aox Lx.length capx) Lx) := hk2; have HC2 : Hid _ := hcx; have HB2 : Hid (Below w.heap.size w w2) := hb2; clear hl2 hk2 hb2 hcx)
      clear HLY
      by_cases hle : le = 0
      · subst hle
        obtain ⟨hse, hr6, hwd, hroom, hlay⟩ := HC0.out rfl
        have HP : Hid (Lx.map plB = blksM r (strm l)) := by unfold Hid; rw [HL2.out, hlay]
        have hpos := blks_pos (strm_ne l) hroom
        have hxl : Lx.length = (blksM r (strm l)).length := by rw [← HP.out, List.length_map]
        have hxr := blks_len r (strm l)
        have HBF : Hid (∀ F, Lies Lx Lx.length F → (∀ m ∈ Lx, m.1 + m.2.2.length ≤ (F.length : Int)) → ldM F (r.headD (0, 0)) = (0, l.map plM, r.take Lx.length)) := fun F h1 h2 => back_facts HLE.out hse hwd hroom HP.out h1 h2
        have HEX : Hid (∀ (j : Nat) (m : Blk), Lx[j]? = some m → ∃ x, r[j]? = some x ∧ m.1 = x.1 ∧ (m.2.2.length : Int) = x.2 ∧ Wd x) := fun j m hm => blk_ext hwd HP.out hm
        have HSB := blk_small hwd HP.out
        have HBYX : Hid (∀ m ∈ Lx, Byt m.2.2) := fun m hm => blk_byt r (strm l) HSY.out (plB m) (by rw [← HP.out]; exact List.mem_map.2 ⟨m, hm, rfl⟩)
        have HAP : Hid (Apt Lx) := blk_apt hwd HP.out (lay_apart HLE.out)
        have HMX : Hid (∀ W, Below w2.heap.size w2 W → Ms W (.slice aox Lx.length capx) Lx) := fun W hW => (bks_ms HK2.out).below hW
        have HSL : Hid (Calls Tryd.prog 23 #[.slice aox Lx.length capx] w2 fun e w' => e = .returned (.bool (Lx.all smB)) ∧ w' = w2) := small_any w2 _ Lx (HMX.out w2 (Below.refl _ _)) (by omega) (fun m hm => ⟨(HSB m hm).1, (HSB m hm).2.1⟩) (by omega)
        obtain ⟨q, HQ⟩ : ∃ q, Hid (Lx.all smB = q) := ⟨_, rfl⟩
        obtain ⟨xn, HXN⟩ : ∃ xn, Hid (Lx.length = xn) := ⟨_, rfl⟩
        have hx1 : 1 ≤ xn := by rw [← HXN.out]; omega
        have hx2 : xn ≤ rn := by rw [← HXN.out, ← HRN.out]; omega
        have hr6' : rn ≤ 65536 := by rw [← HRN.out]; exact hr6
        rw [HQ.out] at HSL
        have HFL : Hid (q = true → ∀ W, Below w2.heap.size w2 W → Calls Tryd.prog 24 #[.slice aox Lx.length capx] W fun e w' => FlP W Lx e w') := fun hq W hW => file_any W _ Lx (HMX.out W hW) (by omega) (fun m hm => by
          have h9 : Lx.all smB = true := by rw [HQ.out]; exact hq
          have h8 := List.all_eq_true.1 h9 m hm
          unfold smB at h8
          simp at h8
          have h7 := HSB m hm
          exact ⟨⟨h8.1, h8.2.1⟩, h7.2.2, by omega, HBYX.out m hm⟩) HAP.out
        rw [HXN.out] at HSL HMX HFL HK2 ⊢
        clear HSB hwd hroom hlay hxl hxr hpos hr6 hse
        go_upto_region 6 with fail
        cases q with
        | false =>
          clear HFL
          have hxi : (0 : Int) < (xn : Int) := by omega
          go_wp2_with (first
            | (go_at_call 10; refine Calls.mono (HLV.out _ HB2.out) ?_; rintro e w8 ⟨rfl, hb8⟩; have HB8 : Hid (Below w.heap.size w w8) := hb8; clear hb8)
            | (go_at_call 23; refine Calls.mono HSL.out ?_; rintro e w3 ⟨rfl, hw3⟩; obtain rfl := hw3.symm))
          go_ret
          exact ⟨rfl, HB8.out⟩
        | true =>
          go_upto_region 8 with (go_at_call 23; refine Calls.mono HSL.out ?_; rintro e w3 ⟨rfl, hw3⟩; obtain rfl := hw3.symm)
          obtain ⟨m0, hm0⟩ : ∃ m0, Lx[0]? = some m0 := ⟨Lx[0]'(by rw [HXN.out]; omega), List.getElem?_eq_getElem _⟩
          obtain ⟨x0, hr0, e01, e02, hw0⟩ := HEX.out 0 m0 hm0
          have hhd : r.headD (0, 0) = x0 := by
            cases r with
            | nil => simp at hr0
            | cons y r' => simp at hr0; subst hr0; rfl
          obtain ⟨gx, gb, capb, hao, k1, k2, _⟩ := HC2.out 0 m0 hm0
          subst hao
          rw [e01] at k1
          obtain ⟨n0, HN0⟩ : ∃ n0, Hid (m0.2.2.length = n0) := ⟨_, rfl⟩
          rw [HN0.out] at k2 e02
          simp only [Nat.zero_mul, Nat.zero_add] at k1 k2
          have hx0 : x0 = (x0.1, (n0 : Int)) := by rw [e02]
          have HS : Hid (∀ W, Below w2.heap.size w2 W → W.cell? ⟨gx, 0, none⟩ = some (.int .i64 x0.1) ∧ W.cell? ⟨gx, 1, none⟩ = some (.slice gb n0 capb)) := fun W hW => ⟨(hW.cell (World.block_lt_of_cell? w2 _ k1)).trans k1, (hW.cell (World.block_lt_of_cell? w2 _ k2)).trans k2⟩
          have HFI : Hid (∀ W, Below w2.heap.size w2 W → Calls Tryd.prog 24 #[.slice (some ⟨gx, 0, none⟩) xn capx] W fun e w' => ∃ vf, e = .returned vf ∧ Below w2.heap.size w2 w' ∧ FlQ x0 (0, l.map plM, r.take xn) vf w') := fun W hW => (HFL.out (by first | rfl | trivial) W hW).mono fun e w' ⟨vf, F, h1, h2, h3, h4, h5, h6, h7⟩ => ⟨vf, h1, hW.trans (h7.mono hW.size), F, h2.bs, h3, h4, by have := HBF.out F h6 h5; rw [hhd, HXN.out] at this; exact this⟩
          have HEW0 : Hid (EW x0) := by
            have h1 := hw0.1
            have h2 := hw0.2.1
            have h3 := hw0.2.2
            unfold Hid EW
            omega
          have HLO : Hid (∀ (W : World) (vf : Value), Below w2.heap.size w2 W → FlQ x0 (0, l.map plM, r.take xn) vf W → Calls Tryd.prog 21 #[vf, .agg #[.int .i64 x0.1, .int .i64 (n0 : Int)]] W fun e w' => ∃ vl vu, e = .returned (.tuple #[vl, vu, .int .i64 0]) ∧ Below w2.heap.size w2 w' ∧ LdQ (0, l.map plM, r.take xn) vl vu w') := fun W vf hW hF => by
            have hWw := belTr8 HB2.out hW
            have := load_q W vf x0 _ hF HEW0.out (HTW.out W hWw).1 (HTW.out W hWw).2
            rw [← e02] at this
            exact this.mono fun e w' ⟨vl, vu, h1, h2, h3⟩ => ⟨vl, vu, h1, hW.trans (h3.mono hW.size), h2⟩
          generalize x0.1 = a0 at *
          have hxi : (0 : Int) < (xn : Int) := by omega
          clear hm0 hr0 hhd hx0 hw0 e01 HFL HSL
          go_cut [7, 8, 9] (fun t7 t8 t9 wc => t9 = .int .i64 0 ∧ Hid (Below w2.heap.size w2 wc) ∧ Hid (LdQ (0, l.map plM, r.take xn) t7 t8 wc))
          case first =>
            rename_i r2 r1 Q9 K9 a9 r0 J9 K8 a8 a7
            clear a9 r2 r1 r0 HK2 HMX HC2 HEX HBYX HAP HBF HXN HSM HPL HLV HTW HC0 HCS HP HQ HEW0
            have hx0n : 0 < xn := hx1
            have hDR : Below w2.heap.size w2 w2.drew := (Below.refl _ _).drew
            have e2 := HS.out w2.drew hDR
            refine wp_region_L (S := fun w9 => w9.cell? ⟨gx, 0, none⟩ = some (.int .i64 a0) ∧ w9.cell? ⟨gx, 1, none⟩ = some (.slice gb n0 capb)) 19 (by kernel_rfl) e2 (fun hHeld => ?_)
            refine GoL.takeD (some 39) (i := 0) (v := ?_) rfl rfl (by kernel_rfl) (by kernel_rfl) (by kernel_rfl) (by decide) (fun _ _ _ h => h) (Or.inl ⟨by rfl, ?_⟩) (by assumption) ?_
            rotate_left 1
            · intro w9 hSw
              (try dsimp only at hSw)
              (try obtain ⟨hSa, hSb⟩ := hSw)
              go_simp
              try with_reducible rfl
            try simp only [Act.put, List.setIfInBounds_toArray, List.set_cons_zero, List.set_cons_succ]
            refine GoL.takeD (some 41) (i := 2) (v := ?_) rfl rfl (by kernel_rfl) (by kernel_rfl) (by kernel_rfl) (by decide) (fun _ _ _ h => h) (Or.inl ⟨by rfl, ?_⟩) (by assumption) ?_
            rotate_left 1
            · intro w9 hSw
              (try dsimp only at hSw)
              (try obtain ⟨hSa, hSb⟩ := hSw)
              go_simp
              try with_reducible rfl
            try simp only [Act.put, List.setIfInBounds_toArray, List.set_cons_zero, List.set_cons_succ]
            refine GoL.takeD (some 42) (i := 3) (v := ?_) rfl rfl (by kernel_rfl) (by kernel_rfl) (by kernel_rfl) (by decide) (fun _ _ _ h => h) (Or.inl ⟨by rfl, ?_⟩) (by assumption) ?_
            rotate_left 1
            · intro w9 hSw
              (try dsimp only at hSw)
              (try obtain ⟨hSa, hSb⟩ := hSw)
              go_simp
              try with_reducible rfl
            try simp only [Act.put, List.setIfInBounds_toArray, List.set_cons_zero, List.set_cons_succ]
            refine GoL.takeD (some 43) (i := 4) (v := ?_) rfl rfl (by kernel_rfl) (by kernel_rfl) (by kernel_rfl) (by decide) (fun _ _ _ h => h) (Or.inl ⟨by rfl, ?_⟩) (by assumption) ?_
            rotate_left 1
            · intro w9 hSw
              (try dsimp only at hSw)
              (try obtain ⟨hSa, hSb⟩ := hSw)
              go_simp
              try with_reducible rfl
            try simp only [Act.put, List.setIfInBounds_toArray, List.set_cons_zero, List.set_cons_succ]
            refine GoL.takeD (some 44) (i := 5) (v := ?_) rfl rfl (by kernel_rfl) (by kernel_rfl) (by kernel_rfl) (by decide) (fun _ _ _ h => h) (Or.inl ⟨by rfl, ?_⟩) (by assumption) ?_
            rotate_left 1
            · intro w9 hSw
              (try dsimp only at hSw)
              (try obtain ⟨hSa, hSb⟩ := hSw)
              go_simp
              try with_reducible rfl
            try simp only [Act.put, List.setIfInBounds_toArray, List.set_cons_zero, List.set_cons_succ]
            refine GoL.takeD (some 45) (i := 6) (v := ?_) rfl rfl (by kernel_rfl) (by kernel_rfl) (by kernel_rfl) (by decide) (fun _ _ _ h => h) (Or.inl ⟨by rfl, ?_⟩) (by assumption) ?_
            rotate_left 1
            · intro w9 hSw
              (try dsimp only at hSw)
              (try obtain ⟨hSa, hSb⟩ := hSw)
              go_simp
              try with_reducible rfl
            try simp only [Act.put, List.setIfInBounds_toArray, List.set_cons_zero, List.set_cons_succ]
            refine GoL.takeD (some 46) (i := 7) (v := ?_) rfl rfl (by kernel_rfl) (by kernel_rfl) (by kernel_rfl) (by decide) (fun _ _ _ h => h) (Or.inl ⟨by rfl, ?_⟩) (by assumption) ?_
            rotate_left 1
            · intro w9 hSw
              (try dsimp only at hSw)
              (try obtain ⟨hSa, hSb⟩ := hSw)
              go_simp
              try with_reducible rfl
            try simp only [Act.put, List.setIfInBounds_toArray, List.set_cons_zero, List.set_cons_succ]
            refine GoL.takeD (some 47) (i := 8) (v := ?_) rfl rfl (by kernel_rfl) (by kernel_rfl) (by kernel_rfl) (by decide) (fun _ _ _ h => h) (Or.inl ⟨by rfl, ?_⟩) (by assumption) ?_
            rotate_left 1
            · intro w9 hSw
              (try dsimp only at hSw)
              (try obtain ⟨hSa, hSb⟩ := hSw)
              go_simp
              try with_reducible rfl
            try simp only [Act.put, List.setIfInBounds_toArray, List.set_cons_zero, List.set_cons_succ]
            refine GoL.takeD (some 48) (i := 9) (v := ?_) rfl rfl (by kernel_rfl) (by kernel_rfl) (by kernel_rfl) (by decide) (fun _ _ _ h => h) (Or.inl ⟨by rfl, ?_⟩) (by assumption) ?_
            rotate_left 1
            · intro w9 hSw
              (try dsimp only at hSw)
              (try obtain ⟨hSa, hSb⟩ := hSw)
              go_simp
              try with_reducible rfl
            try simp only [Act.put, List.setIfInBounds_toArray, List.set_cons_zero, List.set_cons_succ]
            refine GoL.takeD (some 49) (i := 10) (v := ?_) rfl rfl (by kernel_rfl) (by kernel_rfl) (by kernel_rfl) (by decide) (fun _ _ _ h => h) (Or.inl ⟨by rfl, ?_⟩) (by assumption) ?_
            rotate_left 1
            · intro w9 hSw
              (try dsimp only at hSw)
              (try obtain ⟨hSa, hSb⟩ := hSw)
              go_simp
              try with_reducible rfl
            try simp only [Act.put, List.setIfInBounds_toArray, List.set_cons_zero, List.set_cons_succ]
            refine GoL.takeD (some 50) (i := 11) (v := ?_) rfl rfl (by kernel_rfl) (by kernel_rfl) (by kernel_rfl) (by decide) (fun _ _ _ h => h) (Or.inl ⟨by rfl, ?_⟩) (by assumption) ?_
            rotate_left 1
            · intro w9 hSw
              (try dsimp only at hSw)
              (try obtain ⟨hSa, hSb⟩ := hSw)
              go_simp
              try with_reducible rfl
            try simp only [Act.put, List.setIfInBounds_toArray, List.set_cons_zero, List.set_cons_succ]
            refine GoL.ready (rs := [1]) (by kernel_rfl) (by simp) (by decide) (AllL.cons rfl (fun K hK => ?_) AllL.nil)
            refine step_call rfl 24 (enters_of Tryd.func24 (by kernel_rfl) rfl) #[.tmp 39] _ rfl _ (by go_simp) (fun v w' => Below w2.heap.size w2 w' ∧ FlQ x0 (0, l.map plM, r.take xn) v w') (Calls.mono (HFI.out _ hDR) (by rintro e w' ⟨vf, rfl, hb3, hq3⟩; exact ⟨vf, rfl, hb3, hq3⟩)) ?_
            rintro vf w3 ⟨hb3, hq3⟩
            have HQ3 : Hid (FlQ x0 (0, l.map plM, r.take xn) vf w3) := hq3
            have HB3 : Hid (Below _ _ w3) := hb3
            have e3 := HS.out w3 hb3
            clear hb3 hq3 hHeld
            refine hK.out _ _ e3 (fun hHeld => ?_)
            clear hK K
            show GoL _ _ _ _ _ _ _ _ (Act.put _ (some 40) vf) _
            simp only [Act.put, List.setIfInBounds_toArray, List.set_cons_zero, List.set_cons_succ]
            refine GoL.ready (rs := [12]) (by kernel_rfl) (by simp) (by decide) (AllL.cons rfl (fun K hK => ?_) AllL.nil)
            refine step_call rfl 21 (enters_of Tryd.func21 (by kernel_rfl) rfl) #[.tmp 40, .tmp 50] _ rfl #[vf, .agg #[.int .i64 a0, .int .i64 (n0 : Int)]] (by go_simp) (fun v w' => ∃ vl vu, v = .tuple #[vl, vu, .int .i64 ((0, l.map plM, r.take xn)).1] ∧ Below w2.heap.size w2 w' ∧ LdQ (0, l.map plM, r.take xn) vl vu w') (Calls.mono (HLO.out w3 vf HB3.out HQ3.out) (by rintro e w' ⟨vl, vu, rfl, hb4, hq4⟩; exact ⟨_, rfl, vl, vu, rfl, hb4, hq4⟩)) ?_
            rintro v4 w4 ⟨vl, vu, rfl, hb4, hq4⟩
            have HQ4 : Hid (LdQ (0, l.map plM, r.take xn) vl vu w4) := hq4
            have HB4 : Hid (Below w2.heap.size w2 w4) := hb4
            have e4 := HS.out w4 hb4
            clear hb4 hq4 hHeld
            refine hK.out _ _ e4 (fun hHeld => ?_)
            clear hK K
            show GoL _ _ _ _ _ _ _ _ (Act.put _ (some 51) (.tuple #[vl, vu, .int .i64 ((0, l.map plM, r.take xn)).1])) _
            simp only [Act.put, List.setIfInBounds_toArray, List.set_cons_zero, List.set_cons_succ]
            refine GoL.takeD (some 38) (i := 13) (v := ?_) rfl rfl (by kernel_rfl) (by kernel_rfl) (by kernel_rfl) (by decide) (fun _ _ _ h => h) (Or.inl ⟨by rfl, ?_⟩) (by assumption) ?_
            rotate_left 1
            · intro w9 hSw
              (try dsimp only at hSw)
              (try obtain ⟨hSa, hSb⟩ := hSw)
              go_simp
              try with_reducible rfl
            try simp only [Act.put, List.setIfInBounds_toArray, List.set_cons_zero, List.set_cons_succ]
            refine GoL.takeD (some 52) (i := 14) (v := ?_) rfl rfl (by kernel_rfl) (by kernel_rfl) (by kernel_rfl) (by decide) (fun _ _ _ h => h) (Or.inl ⟨by rfl, ?_⟩) (by assumption) ?_
            rotate_left 1
            · intro w9 hSw
              (try dsimp only at hSw)
              (try obtain ⟨hSa, hSb⟩ := hSw)
              go_simp
              try with_reducible rfl
            try simp only [Act.put, List.setIfInBounds_toArray, List.set_cons_zero, List.set_cons_succ]
            refine GoL.takeD (some 53) (i := 15) (v := ?_) rfl rfl (by kernel_rfl) (by kernel_rfl) (by kernel_rfl) (by decide) (fun _ _ _ h => h) (Or.inl ⟨by rfl, ?_⟩) (by assumption) ?_
            rotate_left 1
            · intro w9 hSw
              (try dsimp only at hSw)
              (try obtain ⟨hSa, hSb⟩ := hSw)
              go_simp
              try with_reducible rfl
            try simp only [Act.put, List.setIfInBounds_toArray, List.set_cons_zero, List.set_cons_succ]
            refine GoL.takeD (some 54) (i := 16) (v := ?_) rfl rfl (by kernel_rfl) (by kernel_rfl) (by kernel_rfl) (by decide) (fun _ _ _ h => h) (Or.inl ⟨by rfl, ?_⟩) (by assumption) ?_
            rotate_left 1
            · intro w9 hSw
              (try dsimp only at hSw)
              (try obtain ⟨hSa, hSb⟩ := hSw)
              go_simp
              try with_reducible rfl
            try simp only [Act.put, List.setIfInBounds_toArray, List.set_cons_zero, List.set_cons_succ]
            refine GoL.takeD (some 7) (i := 17) (v := ?_) rfl rfl (by kernel_rfl) (by kernel_rfl) (by kernel_rfl) (by decide) (fun _ _ _ h => h) (Or.inl ⟨by rfl, ?_⟩) (by assumption) ?_
            rotate_left 1
            · intro w9 hSw
              (try dsimp only at hSw)
              (try obtain ⟨hSa, hSb⟩ := hSw)
              go_simp
              try with_reducible rfl
            try simp only [Act.put, List.setIfInBounds_toArray, List.set_cons_zero, List.set_cons_succ]
            refine GoL.takeD (some 8) (i := 18) (v := ?_) rfl rfl (by kernel_rfl) (by kernel_rfl) (by kernel_rfl) (by decide) (fun _ _ _ h => h) (Or.inl ⟨by rfl, ?_⟩) (by assumption) ?_
            rotate_left 1
            · intro w9 hSw
              (try dsimp only at hSw)
              (try obtain ⟨hSa, hSb⟩ := hSw)
              go_simp
              try with_reducible rfl
            try simp only [Act.put, List.setIfInBounds_toArray, List.set_cons_zero, List.set_cons_succ]
            refine GoL.last (by kernel_rfl) (by kernel_rfl) rfl (fun K hK => ?_)
            go_simp
            refine hK.out _ _ ?_
            all_goals go_wp2_with fail
            all_goals go_meet
            all_goals exact ⟨rfl, HB4.out, HQ4.out⟩
          case rest =>
            obtain ⟨rfl, HB4, HQ4⟩ := hcut
            obtain ⟨Lm, hlm, hms, hxs⟩ := HQ4.out
            have HLM : Hid (Lm.map plM = l.map plM) := hlm
            have HMS : Hid (Ms wc u7 Lm) := hms
            dsimp only at hxs
            have hul : (r.take xn).length = xn := by rw [List.length_take, HRN.out]; omega
            have HXC : Hid (∀ i, i < xn → ∃ (b off : Nat) (x : Ext) (m : Blk), (∃ n cap, u8 = .slice (some ⟨b, off, none⟩) n cap) ∧ Lx[i]? = some m ∧ m.1 = x.1 ∧ (m.2.2.length : Int) = x.2 ∧ wc.cell? ⟨b, off + i * 2, none⟩ = some (.int .i64 x.1) ∧ wc.cell? ⟨b, off + i * 2 + 1, none⟩ = some (.int .i64 x.2)) := fun i hi => by
              obtain ⟨ao, cap, hv, _, hc⟩ := hxs.opened
              obtain ⟨b, off, rfl, q1, q2, _⟩ := hc i (by rw [hul]; exact hi)
              obtain ⟨m, hm⟩ : ∃ m, Lx[i]? = some m := ⟨Lx[i]'(by rw [HXN.out]; exact hi), List.getElem?_eq_getElem _⟩
              obtain ⟨x, hx, f1, f2, _⟩ := HEX.out i m hm
              have hg : (r.take xn).getD i (0, 0) = x := by simp [List.getD, hi, hx]
              rw [hg] at q1 q2
              exact ⟨b, off, x, m, ⟨_, _, hv⟩, hm, f1, f2, q1, q2⟩
            obtain ⟨aou, capu, hvu, _⟩ := hxs
            rw [hul] at hvu
            subst hvu
            have HB4w : Hid (Below w.heap.size w wc) := belTr8 HB2.out HB4.out
            have HXCELL : Hid (∀ (i : Nat) (b : Blk), Lx[i]? = some b → ∃ gb capb, wc.cell? ⟨gx, i * 2, none⟩ = some (.int .i64 b.1) ∧ wc.cell? ⟨gx, i * 2 + 1, none⟩ = some (.slice gb b.2.2.length capb)) := fun i b hb => by
              obtain ⟨g9, gb, capb, hg9, q1, q2, _⟩ := HC2.out i b hb
              injection hg9 with hg9
              injection hg9 with hg9
              subst hg9
              exact ⟨gb, capb, (HB4.out.cell (World.block_lt_of_cell? w2 _ q1)).trans q1, (HB4.out.cell (World.block_lt_of_cell? w2 _ q2)).trans q2⟩
            clear hlm hms hul HQ4 HLO HFI HS k1 k2
            go_upto_region 11 with (first
              | (go_at_call 19; refine Calls.mono (HSM.out _ _ _ Lm (HMS.out.below HBc5.out) HM5.out HLM.out) ?_; rintro e w6 ⟨rfl, hb6⟩; have HBc6 : Hid (Below wc.heap.size wc w6) := belTr8 HBc5.out hb6; clear hb6)
              | (go_at_call 13; refine Calls.mono (HPL.out _ HB4w.out) ?_; rintro e w5 ⟨v5, rfl, hm5, hb5⟩; have HM5 : Hid (Ms w5 v5 l) := hm5; have HBc5 : Hid (Below wc.heap.size wc w5) := hb5; clear hm5 hb5))
            go_wp2_with fail
            go_loopw [10] (fun x wr => ∃ i : Nat, i ≤ xn ∧ x = .int .i64 (i : Int) ∧ Hid (Below wc.heap.size wc wr)) (fun x _ => xn - (intOf x).toNat)
            case atStart => exact ⟨0, Nat.zero_le _, rfl, HBc6.out⟩
            case round =>
              obtain ⟨i, hix, rfl, HBr⟩ := hrel
              by_cases hi : i < xn
              · obtain ⟨b, off, x, m, ⟨n9, c9, hu8⟩, hm, f1, f2, q1, q2⟩ := HXC.out i hi
                obtain ⟨gb, capb, q3, q4⟩ := HXCELL.out i m hm
                injection hu8 with hu8 _ _
                subst hu8
                obtain ⟨bl, HBl⟩ : ∃ bl, Hid (m.2.2.length = bl) := ⟨_, rfl⟩
                rw [HBl.out] at q4 f2
                rw [f1] at q3
                rw [← f2] at q2
                have p1 := (HBr.out.cell (World.block_lt_of_cell? wc _ q1)).trans q1
                have p2 := (HBr.out.cell (World.block_lt_of_cell? wc _ q2)).trans q2
                have p3 := (HBr.out.cell (World.block_lt_of_cell? wc _ q3)).trans q3
                have p4 := (HBr.out.cell (World.block_lt_of_cell? wc _ q4)).trans q4
                have hki : (i : Int) < (xn : Int) := by omega
                have hne1 : (x.1 != x.1) = false := by simp
                have hne2 : ((bl : Int) != (bl : Int)) = false := by simp
                have HX : Hid (∀ k, Below wc.heap.size wc (wr.drewN k)) := fun k => HBr.out.trans ⟨rfl, rfl, rfl, Nat.le_refl _, fun _ _ => rfl⟩
                clear q1 q2 q3 q4 hm f1 f2
                go_wp2_with fail
                go_quiet (fail)
                go_wp2_with fail
                go_roundw
                case rel => exact ⟨i + 1, by omega, by go_num, HX.out _⟩
                case measure => simp [intOf]; omega
              · have hki : ¬ (i : Int) < (xn : Int) := by omega
                have HBw : Hid (Below w.heap.size w wr) := belTr8 HB4w.out HBr.out
                go_wp2_with (go_at_call 10; refine Calls.mono (HLV.out _ HBw.out) ?_; rintro e w8 ⟨rfl, hb8⟩; have HB8 : Hid (Below w.heap.size w w8) := hb8; clear hb8)
                go_ret
                exact ⟨rfl, HB8.out⟩
      · have hx0 : Lx = [] := by
          have h9 := HL2.out
          rw [HCS.out hle] at h9
          simpa using h9
        subst hx0
        have hle2 : (le != 0) = true := by simpa using hle
        go_wp2_with (go_at_call 10; refine Calls.mono (HLV.out _ HB2.out) ?_; rintro e w8 ⟨rfl, hb8⟩; have HB8 : Hid (Below w.heap.size w w8) := hb8; clear hb8)
        go_ret
        exact ⟨rfl, HB8.out⟩
end Go.Proofs.YtdalkjenjnalbaaDoor
