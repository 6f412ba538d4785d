/-
  The program's arraySize. Conditions: what tells the sizes of the parts has a contract.
-/
import Derived.Test.YtojcokdfplldbaaDComp
namespace Go.Proofs.Ytojcokdfplldbaa
open Go.RowKit Go.Shelf
set_option linter.unusedVariables false
set_option maxRecDepth 100000

theorem wrap_i64_inD (n : Int) (h0 : -9223372036854775808 ≤ n) (h1 : n ≤ 9223372036854775807) : IntKind.i64.wrap n = n := by rw [IntKind.wrap_i64]; omega
theorem one_of {α : Type} {l : List α} (h : l.length = 1) : ∃ t, l = [t] := by
  match l, h with
  | [t], _ => exact ⟨t, rfl⟩
theorem arrSz_no {α : Type} (f : α → Int) (ds : List Int) {bs : List α} (h : bs.length ≠ 1) : arrSz f ds bs = 0 := by
  unfold arrSz
  split
  · exact absurd rfl h
  · rfl
theorem dimF_step {s : Int} {l : List Int} {i : Nat} {d : Int} (hd : l[i]? = some d) : dimF s (l.drop i) = if (1 ≤ d ∧ d ≤ 256) ∧ s * d ≤ 256 then dimF (s * d) (l.drop (i + 1)) else 0 := by
  obtain ⟨hi, rfl⟩ := List.getElem?_eq_some_iff.1 hd
  rw [List.drop_eq_getElem_cons hi, dimF]
set_option maxHeartbeats 16000000 in
theorem arrSz_any {n : Nat} (f : Ty n → Int) (hf : ∀ t, 0 ≤ f t ∧ f t ≤ 256) (pw pd : Nat) (T : TyN (Ty n)) (V : TV) (w : World) (h : TRN (TR n) hd w V T) (hin : Inn f pw pd w) :
    Calls Try.prog 56 #[tyV (T.c, T.w, T.b) V, .func (.func 53) #[] #[.pointer (some ⟨pw, 0, none⟩), .pointer (some ⟨pd, 0, none⟩)]] w fun e w' => e = .returned (.int .i64 (arrSz f T.ds T.bs)) ∧ Below w.heap.size w w' := by
  have eg : ∀ args w, (callFunc 53 args).run Try.prog w = .ok (.enter 53 args) w := enters_of Try.func53 (by kernel_rfl) rfl
  have H : Hid (TRN (TR n) hd w V T) := h
  have HIN : Hid (Inn f pw pd w) := hin
  have HF : Hid (∀ t, 0 ≤ f t ∧ f t ≤ 256) := hf
  obtain ⟨fa, fn, fc, da, dn, dc, ba, bn, bc, na, nn, nc, rfl, -, ⟨f1, f2, f3⟩, ⟨b1, b2, b3⟩, -⟩ := H.out.open
  have HDN : Hid (T.ds.length = dn) := f1
  have HBN : Hid (T.bs.length = bn) := b1
  obtain ⟨c, hc⟩ : ∃ c, T.c = c := ⟨_, rfl⟩
  obtain ⟨wd, hw⟩ : ∃ c, T.w = c := ⟨_, rfl⟩
  obtain ⟨b, hb⟩ : ∃ c, T.b = c := ⟨_, rfl⟩
  show Calls _ _ #[.agg #[.int .i64 T.c, .int .i64 T.w, .bool T.b, _, _, _, _], _] _ _
  rw [hc, hw, hb]
  have HWB : Hid (∀ w', Calls Try.prog 54 #[.int .i64 (dn : Int), .int .i64 1, .int .i64 4] w' fun e w1 => e = .returned (.bool (decide (1 ≤ dn ∧ dn ≤ 4))) ∧ w1 = w') := fun w' => by
    have := within_any (dn : Int) 1 4 w'
    rwa [show decide ((1 : Int) ≤ (dn : Int) ∧ (dn : Int) ≤ 4) = decide (1 ≤ dn ∧ dn ≤ 4) by congr 1; simp; omega] at this
  clear h hin hf hc hw hb f1 b1
  obtain ⟨w1, hw1, hb1, hs1, hx1⟩ := bx_made w c wd b (.slice fa fn fc) (.slice da dn dc) (.slice ba bn bc) (.slice na nn nc)
  have HB1 : Hid (Below w.heap.size w w1) := hb1
  have HX1 : Hid (Bx w1 w.heap.size c wd b (.slice fa fn fc) (.slice da dn dc) (.slice ba bn bc) (.slice na nn nc)) := hx1
  obtain ⟨c0, c1, c2, c3, c4, c5, c6⟩ := hx1
  clear hb1 hs1 c0 c1 c2 c3 c6
  by_cases hb1 : bn = 1
  · subst hb1
    obtain ⟨t, ht⟩ := one_of HBN.out
    have HT : Hid (T.bs = [t]) := ht
    clear ht
    by_cases hr : 1 ≤ dn ∧ dn ≤ 4
    · rw [decide_eq_true hr] at HWB
      have HA : Hid (arrSz f T.ds T.bs = dimF (f t) T.ds) := by rw [Hid, HT.out, arrSz, if_pos (by rw [HDN.out]; exact hr)]
      obtain ⟨g, o, U, q, rfl, hq, hu, k0, k1, k2, k3, k4, k5, k6⟩ := H.out.bs.at (show 0 < 1 by omega)
      rw [HT.out] at hq
      obtain rfl : t = q := by simpa using hq
      simp only [Nat.zero_mul, Nat.add_zero] at k0 k1 k2 k3 k4 k5 k6
      have K : ∀ {p : Addr} {x : Value}, w.cell? p = some x → w1.cell? p = some x := fun h => (HB1.out.cell (World.block_lt_of_cell? w _ h)).trans h
      replace k0 := K k0
      replace k1 := K k1
      replace k2 := K k2
      replace k3 := K k3
      replace k4 := K k4
      replace k5 := K k5
      replace k6 := K k6
      have HCL : Hid (Calls Try.prog 53 #[.agg #[.int .i64 (hd t).1, .int .i64 (hd t).2.1, .bool (hd t).2.2, U.f, U.d, U.b, U.n], .pointer (some ⟨pw, 0, none⟩), .pointer (some ⟨pd, 0, none⟩)] w1 fun e w3 => e = .returned (.int .i64 (f t)) ∧ Below w1.heap.size w1 w3) := HIN.out t U w1 HB1.out (hu.below HB1.out)
      have HFR := HF.out t
      obtain ⟨s0, hs⟩ : ∃ s, f t = s := ⟨_, rfl⟩
      rw [hs] at HCL HFR HA
      obtain ⟨hs1', hs2'⟩ := HFR
      clear K hq hu hs
      generalize (hd t).1 = z2' at *
      generalize (hd t).2.1 = z3 at *
      generalize (hd t).2.2 = z4 at *
      have hdn : ¬ (dn : Int) = 0 := by omega
      go_enter Try.func56, Try.ntmps56
      go_wp2_with (first | (go_at_call 54; refine (HWB.out _).mono ?_; rintro e w5 ⟨rfl, hw5⟩; obtain rfl := hw5.symm) | (go_at_call 53; refine Calls.mono HCL.out ?_; rintro e w5 ⟨rfl, hb5⟩; have HB5 : Hid (Below w.heap.size w w5) := bel_next HB1.out hb5; obtain ⟨e0, e1, e2, e3, e4, e5, e6⟩ := HX1.out.below hb5; have HX5 : Hid _ := HX1.out.below hb5; clear hb5))
      clear e0 e1 e2 e3 e4 e5 e6 k0 k1 k2 k3 k4 k5 k6
      go_loopw [5, 28] (fun x y wr => ∃ (i : Nat) (z : Int), i ≤ dn ∧ x = .int .i64 z ∧ y = .int .i64 (i : Int) ∧ 0 ≤ z ∧ z ≤ 256 ∧ Hid (arrSz f T.ds T.bs = dimF z (T.ds.drop i)) ∧ Hid (Below w5.heap.size w5 wr)) (fun _ y _ => dn - (intOf y).toNat)
      case atStart => exact ⟨0, s0, Nat.zero_le _, rfl, by simp, hs1', hs2', by rw [List.drop_zero]; exact HA.out, Below.refl _ _⟩
      case round =>
        obtain ⟨i, z, hin, rfl, rfl, hz1, hz2, HP, HB⟩ := hrel
        have HBB : Hid (Below w.heap.size w wr) := bel_next HB5.out HB.out
        by_cases hlt : i < dn
        · obtain ⟨gd, od, d, rfl, hd, hdr, kd⟩ := H.out.ds.at hlt
          have HST : Hid _ := dimF_step (s := z) hd
          have kd' : wr.cell? ⟨gd, od + i, none⟩ = some (.int .i64 d) := (HBB.out.cell (World.block_lt_of_cell? w _ kd)).trans kd
          have HWI : Hid (∀ w', Calls Try.prog 54 #[.int .i64 d, .int .i64 1, .int .i64 256] w' fun e w1 => e = .returned (.bool (decide (1 ≤ d ∧ d ≤ 256))) ∧ w1 = w') := fun w' => within_any d 1 256 w'
          clear kd hd hdr
          by_cases hd1 : 1 ≤ d ∧ d ≤ 256
          · rw [decide_eq_true hd1] at HWI
            have hm1 : 0 ≤ z * d := Int.mul_nonneg hz1 (by omega)
            have hm2 : z * d ≤ 65536 := by
              have := Int.mul_le_mul hz2 hd1.2 (by omega) (by omega)
              omega
            have hwm : IntKind.i64.wrap (z * d) = z * d := wrap_i64_inD _ (by omega) (by omega)
            obtain ⟨zd, hzd⟩ : ∃ x, z * d = x := ⟨_, rfl⟩
            rw [hzd] at hwm hm1 hm2 HST
            by_cases hle : zd ≤ 256
            · have hle' : ¬ 256 < zd := by omega
              have HN : Hid (arrSz f T.ds T.bs = dimF zd (T.ds.drop (i + 1))) := by rw [Hid, HP.out, HST.out, if_pos ⟨hd1, hle⟩]
              clear HST
              go_wp2_with (go_at_call 54; refine (HWI.out _).mono ?_; rintro e w7 ⟨rfl, hw7⟩; obtain rfl := hw7.symm)
              go_roundw
              case rel => exact ⟨i + 1, zd, by omega, rfl, by go_num, hm1, hle, HN.out, HB.out⟩
              case measure => simp [intOf]; omega
            · have hle' : 256 < zd := by omega
              have HE : Hid (arrSz f T.ds T.bs = 0) := by rw [Hid, HP.out, HST.out, if_neg (fun h => hle h.2)]
              clear HST
              go_wp2_with (go_at_call 54; refine (HWI.out _).mono ?_; rintro e w7 ⟨rfl, hw7⟩; obtain rfl := hw7.symm)
              go_ret
              exact ⟨by rw [HE.out]; rfl, HBB.out⟩
          · rw [decide_eq_false hd1] at HWI
            have HE : Hid (arrSz f T.ds T.bs = 0) := by rw [Hid, HP.out, HST.out, if_neg (fun h => hd1 h.1)]
            clear HST
            go_wp2_with (go_at_call 54; refine (HWI.out _).mono ?_; rintro e w7 ⟨rfl, hw7⟩; obtain rfl := hw7.symm)
            go_ret
            exact ⟨by rw [HE.out]; rfl, HBB.out⟩
        · obtain rfl : i = dn := by omega
          have HE : Hid (arrSz f T.ds T.bs = z) := by rw [Hid, HP.out, List.drop_of_length_le (by rw [HDN.out]; exact Nat.le_refl _)]; rfl
          go_wp2_with fail
          go_ret
          exact ⟨by rw [HE.out]; rfl, HBB.out⟩
    · rw [decide_eq_false hr] at HWB
      have HE : Hid (arrSz f T.ds T.bs = 0) := by rw [Hid, HT.out, arrSz, if_neg (by rw [HDN.out]; exact hr)]
      go_enter Try.func56, Try.ntmps56
      go_wp2_with (go_at_call 54; refine (HWB.out _).mono ?_; rintro e w5 ⟨rfl, hw5⟩; obtain rfl := hw5.symm)
      go_ret
      exact ⟨by rw [HE.out]; rfl, HB1.out⟩
  · have hb1' : ¬ (bn : Int) = 1 := by omega
    have HE : Hid (arrSz f T.ds T.bs = 0) := arrSz_no f T.ds (by rw [HBN.out]; exact hb1)
    go_enter Try.func56, Try.ntmps56
    go_wp2_with fail
    go_ret
    exact ⟨by rw [HE.out]; rfl, HB1.out⟩
end Go.Proofs.Ytojcokdfplldbaa
