/-
  The program's compoundSize. Conditions: what tells the sizes of the parts has a contract.
-/
import Derived.Test.YtojcokdfplldbaaDSz
namespace Go.Proofs.Ytojcokdfplldbaa
open Go.RowKit Go.Shelf
set_option linter.unusedVariables false
set_option maxRecDepth 100000

/-- What tells the size of a part. -/
def Inn {n : Nat} (f : Ty n → Int) (pw pd : Nat) (w : World) : Prop := ∀ (t : Ty n) (U : TV) (w' : World), Below w.heap.size w w' → TR n w' U t → Calls Try.prog 53 #[tyV (hd t) U, .pointer (some ⟨pw, 0, none⟩), .pointer (some ⟨pd, 0, none⟩)] w' fun e w2 => e = .returned (.int .i64 (f t)) ∧ Below w'.heap.size w' w2
theorem Inn.below {n : Nat} {f : Ty n → Int} {pw pd : Nat} {w w' : World} (h : Inn f pw pd w) (hb : Below w.heap.size w w') : Inn f pw pd w' := fun t U w2 hb2 ht => h t U w2 (bel_next hb hb2) ht
theorem endF_step {α : Type} (sz : α → Int) (wd e : Int) {l : List (ByteArray × Int × α)} {i : Nat} {q : ByteArray × Int × α} (hq : l[i]? = some q) : endF sz wd e (l.drop i) = if sz q.2.2 = 0 ∨ ¬ (e ≤ q.2.1 ∧ q.2.1 ≤ wd - sz q.2.2) then none else endF sz wd (q.2.1 + sz q.2.2) (l.drop (i + 1)) := by
  obtain ⟨hi, rfl⟩ := List.getElem?_eq_some_iff.1 hq
  rw [List.drop_eq_getElem_cons hi, endF]
set_option maxHeartbeats 16000000 in
theorem compSz_any {n : Nat} (f : Ty n → Int) (hf : ∀ t, 0 ≤ f t ∧ f t ≤ 256) (pw pd : Nat) (T : TyN (Ty n)) (V : TV) (w : World) (h : TRN (TR n) hd w V T) (hin : Inn f pw pd w) :
    Calls Try.prog 55 #[tyV (T.c, T.w, T.b) V, .func (.func 53) #[] #[.pointer (some ⟨pw, 0, none⟩), .pointer (some ⟨pd, 0, none⟩)]] w fun e w' => e = .returned (.int .i64 (cmpSz f T.w T.fs)) ∧ Below w.heap.size w w' := by
  have eg : ∀ args w, (callFunc 53 args).run Try.prog w = .ok (.enter 53 args) w := enters_of Try.func53 (by kernel_rfl) rfl
  have H : Hid (TRN (TR n) hd w V T) := h
  have HIN : Hid (Inn f pw pd w) := hin
  have HF : Hid (∀ t, 0 ≤ f t ∧ f t ≤ 256) := hf
  obtain ⟨fa, fn, fc, da, dn, dc, ba, bn, bc, na, nn, nc, rfl, ⟨f1, f2, f3⟩, -, -, -⟩ := H.out.open
  have HFN : Hid (T.fs.length = fn) := f1
  obtain ⟨c, hc⟩ : ∃ c, T.c = c := ⟨_, rfl⟩
  obtain ⟨wd, hw⟩ : ∃ c, T.w = c := ⟨_, rfl⟩
  obtain ⟨b, hb⟩ : ∃ c, T.b = c := ⟨_, rfl⟩
  show Calls _ _ #[.agg #[.int .i64 T.c, .int .i64 T.w, .bool T.b, _, _, _, _], _] _ _
  rw [hc, hw, hb]
  have HWB : Hid (∀ w', Calls Try.prog 54 #[.int .i64 wd, .int .i64 1, .int .i64 256] w' fun e w1 => e = .returned (.bool (decide (1 ≤ wd ∧ wd ≤ 256))) ∧ w1 = w') := fun w' => within_any wd 1 256 w'
  have HNA : Hid _ := fun (w' : World) (hb : Below w.heap.size w w') => fNamed_any (.slice fa fn fc) T.fs w' ((H.out.fs.mono (fun V t r => r.sl)).belowT hb)
  have HCM : Hid (cmpSz f wd T.fs = if (1 ≤ wd ∧ wd ≤ 256) ∧ namesB (T.fs.map (·.1)) = true then (match endF f wd 0 T.fs with | some _ => wd | none => 0) else 0) := rfl
  clear h hin hf hc hw hb f1
  obtain ⟨w1, hw1, hb1, hs1, hx1⟩ := bx_made w c wd b (.slice fa fn fc) (.slice da dn dc) (.slice ba bn bc) (.slice na nn nc)
  have HB1 : Hid (Below w.heap.size w w1) := hb1
  have HX1 : Hid (Bx w1 w.heap.size c wd b (.slice fa fn fc) (.slice da dn dc) (.slice ba bn bc) (.slice na nn nc)) := hx1
  obtain ⟨c0, c1, c2, c3, c4, c5, c6⟩ := hx1
  clear hb1 hs1 c0 c2 c4 c5 c6
  by_cases hr : 1 ≤ wd ∧ wd ≤ 256
  · have d1 : decide (1 ≤ wd ∧ wd ≤ 256) = true := decide_eq_true hr
    rw [d1] at HWB
    obtain ⟨hr1, hr2⟩ := id hr
    obtain ⟨bn', hbn⟩ : ∃ b, namesB (T.fs.map (·.1)) = b := ⟨_, rfl⟩
    rw [hbn] at HNA HCM
    clear d1
    cases bn' with
    | false =>
      have HE : Hid (cmpSz f wd T.fs = 0) := by rw [Hid, HCM.out, if_neg (fun h => by cases h.2)]
      clear HCM
      go_enter Try.func55, Try.ntmps55
      go_wp2_with (first | (go_at_call 54; refine (HWB.out _).mono ?_; rintro e w5 ⟨rfl, hw5⟩; obtain rfl := hw5.symm) | (go_at_call 73; refine Calls.mono (HNA.out _ HB1.out) ?_; rintro e w5 ⟨rfl, hb5⟩; have HB5 : Hid (Below w.heap.size w w5) := bel_next HB1.out hb5; clear hb5))
      go_ret
      exact ⟨by rw [HE.out]; rfl, HB5.out⟩
    | true =>
      have HE0 : Hid (cmpSz f wd T.fs = match endF f wd 0 T.fs with | some _ => wd | none => 0) := by rw [Hid, HCM.out, if_pos ⟨hr, rfl⟩]
      clear HCM
      go_enter Try.func55, Try.ntmps55
      go_wp2_with (first | (go_at_call 54; refine (HWB.out _).mono ?_; rintro e w5 ⟨rfl, hw5⟩; obtain rfl := hw5.symm) | (go_at_call 73; refine Calls.mono (HNA.out _ HB1.out) ?_; rintro e w5 ⟨rfl, hb5⟩; have HB5 : Hid (Below w.heap.size w w5) := bel_next HB1.out hb5; obtain ⟨e0, e1, e2, e3, e4, e5, e6⟩ := HX1.out.below hb5; have HX5 : Hid _ := HX1.out.below hb5; clear hb5))
      clear e0 e2 e3 e4 e5 e6 e1
      go_loopw [5, 22] (fun x y wr => ∃ (i : Nat) (z : Int), i ≤ fn ∧ x = .int .i64 z ∧ y = .int .i64 (i : Int) ∧ 0 ≤ z ∧ z ≤ 256 ∧ Hid (endF f wd 0 T.fs = endF f wd z (T.fs.drop i)) ∧ Hid (Below w5.heap.size w5 wr)) (fun _ y _ => fn - (intOf y).toNat)
      case atStart => exact ⟨0, 0, Nat.zero_le _, rfl, by simp, by omega, by omega, by rw [List.drop_zero]; rfl, Below.refl _ _⟩
      case round =>
        obtain ⟨i, z, hin, rfl, rfl, hz1, hz2, HP, HB⟩ := hrel
        obtain ⟨c0, c1, c2, c3, c4, c5, c6⟩ := HX5.out.below HB.out
        have HBB : Hid (Below w.heap.size w wr) := bel_next HB5.out HB.out
        clear c0 c2 c3 c4 c5 c6
        by_cases hlt : i < fn
        · obtain ⟨g, o, U, q, rfl, hq, hqr, hu, k0, k1, k2, k3, k4, k5, k6, k7, k8⟩ := H.out.fs.at hlt
          have HST : Hid _ := endF_step f wd z hq
          obtain ⟨ga, gn, gc, xa, xn, xc, ya, yn, yc, za, zn, zc, rfl⟩ := hu.sl
          simp only [] at k5 k6 k7 k8
          have K : ∀ {p : Addr} {x : Value}, w.cell? p = some x → wr.cell? p = some x := fun h => (HBB.out.cell (World.block_lt_of_cell? w _ h)).trans h
          replace k0 := K k0
          replace k1 := K k1
          replace k2 := K k2
          replace k3 := K k3
          replace k4 := K k4
          replace k5 := K k5
          replace k6 := K k6
          replace k7 := K k7
          replace k8 := K k8
          clear K hq
          obtain ⟨w2, hw2, hb2, hs2, h2⟩ := fc_made wr q.1 q.2.1 (hd q.2.2).1 (hd q.2.2).2.1 (hd q.2.2).2.2 (.slice ga gn gc) (.slice xa xn xc) (.slice ya yn yc) (.slice za zn zc)
          have HB2 : Hid (Below w5.heap.size w5 w2) := bel_next HB.out hb2
          have HBB2 : Hid (Below w.heap.size w w2) := bel_next HB5.out HB2.out
          have HC2 : Hid (∀ w', Below w2.heap.size w2 w' → FC w' wr.heap.size q.1 q.2.1 (hd q.2.2).1 (hd q.2.2).2.1 (hd q.2.2).2.2 (.slice ga gn gc) (.slice xa xn xc) (.slice ya yn yc) (.slice za zn zc) ∧ Bx w' w.heap.size c wd b (.slice (some ⟨g, o, none⟩) fn fc) (.slice da dn dc) (.slice ba bn bc) (.slice na nn nc)) := fun w' hb => ⟨h2.below hb, HX5.out.below (bel_next HB2.out hb)⟩
          have HCL : Hid (Calls Try.prog 53 #[.agg #[.int .i64 (hd q.2.2).1, .int .i64 (hd q.2.2).2.1, .bool (hd q.2.2).2.2, .slice ga gn gc, .slice xa xn xc, .slice ya yn yc, .slice za zn zc], .pointer (some ⟨pw, 0, none⟩), .pointer (some ⟨pd, 0, none⟩)] w2 fun e w3 => e = .returned (.int .i64 (f q.2.2)) ∧ Below w2.heap.size w2 w3) := HIN.out q.2.2 ⟨.slice ga gn gc, .slice xa xn xc, .slice ya yn yc, .slice za zn zc⟩ w2 HBB2.out (hu.below HBB2.out)
          obtain ⟨d0, d1, d2, d3, d4, d5, d6, d7, d8⟩ := h2
          have HFR := HF.out q.2.2
          obtain ⟨s, hs⟩ : ∃ s, f q.2.2 = s := ⟨_, rfl⟩
          obtain ⟨at', hat⟩ : ∃ s, q.2.1 = s := ⟨_, rfl⟩
          rw [hs] at HCL HST HFR
          rw [hat] at HST k1 hw2 HC2 d1 hqr
          obtain ⟨hs1', hs2'⟩ := HFR
          obtain ⟨ha1, ha2⟩ := hqr
          clear hu hb2 hs2 hs hat
          generalize q.1 = z0 at *
          generalize (hd q.2.2).1 = z2' at *
          generalize (hd q.2.2).2.1 = z3 at *
          generalize (hd q.2.2).2.2 = z4 at *
          have hw3 : IntKind.i64.wrap (wd - s) = wd - s := by rw [IntKind.wrap_i64]; omega
          have HWI : Hid (∀ w', Calls Try.prog 54 #[.int .i64 at', .int .i64 z, .int .i64 (wd - s)] w' fun e w1 => e = .returned (.bool (decide (z ≤ at' ∧ at' ≤ wd - s))) ∧ w1 = w') := fun w' => within_any at' z (wd - s) w'
          by_cases hs0 : s = 0
          · have HE : Hid (cmpSz f wd T.fs = 0) := by rw [Hid, HE0.out, HP.out, HST.out, if_pos (.inl hs0)]
            subst hs0
            clear HST HWI
            go_wp2_with (go_at_call 53; refine Calls.mono HCL.out ?_; rintro e w6 ⟨rfl, hb6⟩; have HB6 : Hid (Below w.heap.size w w6) := bel_next HBB2.out hb6; clear hb6)
            go_ret
            exact ⟨by rw [HE.out]; rfl, HB6.out⟩
          · have hs0' : ¬ s = 0 := hs0
            by_cases hfit : z ≤ at' ∧ at' ≤ wd - s
            · have HN : Hid (endF f wd z (T.fs.drop i) = endF f wd (at' + s) (T.fs.drop (i + 1))) := by rw [Hid, HST.out, if_neg (fun h => h.elim hs0 (fun h => h hfit))]
              rw [decide_eq_true hfit] at HWI
              obtain ⟨hf1, hf2⟩ := hfit
              have hw4 : IntKind.i64.wrap (at' + s) = at' + s := by rw [IntKind.wrap_i64]; omega
              clear HST
              go_wp2_with (first | (go_at_call 53; refine Calls.mono HCL.out ?_; rintro e w6 ⟨rfl, hb6⟩; have HB6 : Hid (Below w2.heap.size w2 w6) := hb6; obtain ⟨⟨g0, g1, g2, g3, g4, g5, g6, g7, g8⟩, ⟨m0, m1, m2, m3, m4, m5, m6⟩⟩ := HC2.out w6 hb6; clear hb6 g0 g2 g3 g4 g5 g6 g7 g8 m0 m2 m3 m4 m5 m6) | (go_at_call 54; refine (HWI.out _).mono ?_; rintro e w7 ⟨rfl, hw7⟩; obtain rfl := hw7.symm))
              go_roundw
              case rel => exact ⟨i + 1, at' + s, by omega, rfl, by go_num, by omega, by omega, by rw [Hid, HP.out, HN.out], bel_next HB2.out HB6.out⟩
              case measure => simp [intOf]; omega
            · have HE : Hid (cmpSz f wd T.fs = 0) := by rw [Hid, HE0.out, HP.out, HST.out, if_pos (.inr hfit)]
              rw [decide_eq_false hfit] at HWI
              clear HST
              go_wp2_with (first | (go_at_call 53; refine Calls.mono HCL.out ?_; rintro e w6 ⟨rfl, hb6⟩; have HB6 : Hid (Below w2.heap.size w2 w6) := hb6; obtain ⟨⟨g0, g1, g2, g3, g4, g5, g6, g7, g8⟩, ⟨m0, m1, m2, m3, m4, m5, m6⟩⟩ := HC2.out w6 hb6; clear hb6 g0 g2 g3 g4 g5 g6 g7 g8 m0 m2 m3 m4 m5 m6) | (go_at_call 54; refine (HWI.out _).mono ?_; rintro e w7 ⟨rfl, hw7⟩; obtain rfl := hw7.symm))
              go_ret
              exact ⟨by rw [HE.out]; rfl, bel_next HBB2.out HB6.out⟩
        · obtain rfl : i = fn := by omega
          have HE : Hid (cmpSz f wd T.fs = wd) := by rw [Hid, HE0.out, HP.out, List.drop_of_length_le (by rw [HFN.out]; exact Nat.le_refl _)]; rfl
          go_wp2_with fail
          go_ret
          exact ⟨by rw [HE.out]; rfl, HBB.out⟩
  · have d1 : decide (1 ≤ wd ∧ wd ≤ 256) = false := decide_eq_false hr
    rw [d1] at HWB
    have HE : Hid (cmpSz f wd T.fs = 0) := by rw [Hid, HCM.out, if_neg (fun h => hr h.1)]
    clear d1 HCM
    go_enter Try.func55, Try.ntmps55
    go_wp2_with (go_at_call 54; refine (HWB.out _).mono ?_; rintro e w5 ⟨rfl, hw5⟩; obtain rfl := hw5.symm)
    go_ret
    exact ⟨by rw [HE.out]; rfl, HB1.out⟩
end Go.Proofs.Ytojcokdfplldbaa
