/-
  The program's enumSize, all of it. Conditions: what tells the sizes of the parts has a contract.
-/
import Derived.Test.YtojcokdfplldbaaDEnum
namespace Go.Proofs.Ytojcokdfplldbaa
open Go.RowKit Go.Shelf
set_option linter.unusedVariables false
set_option maxRecDepth 100000

theorem valsTo_succ {c wd : Int} {L : List Int} {i : Nat} {v : Int} (hi : L[i]? = some v) : valsTo c wd L (i + 1) = (valsTo c wd L i && (!(L.take i).any (fun x => x == v) && fitV c wd v)) := by rw [valsTo, hi]
theorem valsTo_no {c wd : Int} {L : List Int} {i : Nat} (h : valsTo c wd L i = false) : ∀ k, i ≤ k → valsTo c wd L k = false
  | 0, hk => by rw [show i = 0 by omega] at h; exact h
  | k + 1, hk => by
    by_cases e : i = k + 1
    · rw [← e]; exact h
    · rw [valsTo, valsTo_no h k (by omega)]; rfl
theorem enSz_no {α : Type} (f : α → Int) (h : α → Int × Int × Bool) {bs : List α} (ns : List (ByteArray × Int)) (hb : bs.length ≠ 1) : enSz f h bs ns = 0 := by
  unfold enSz
  split
  · exact absurd rfl hb
  · rfl
set_option maxHeartbeats 16000000 in
theorem enSz_any {n : Nat} (f : Ty n → Int) (hf : ∀ t, 0 ≤ f t ∧ f t ≤ 256) (hfw : ∀ t, f t ≠ 0 → (hd t).1 = 1 ∨ (hd t).1 = 2 → 1 ≤ (hd t).2.1 ∧ (hd t).2.1 ≤ 8) (pw pd : Nat) (T : TyN (Ty n)) (V : TV) (w : World) (h : TRN (TR n) hd w V T) (hin : Inn f pw pd w) :
    Calls Try.prog 57 #[tyV (T.c, T.w, T.b) V, .func (.func 53) #[] #[.pointer (some ⟨pw, 0, none⟩), .pointer (some ⟨pd, 0, none⟩)]] w fun e w' => e = .returned (.int .i64 (enSz f hd T.bs T.ns)) ∧ Below w.heap.size w w' := by
  have eg : ∀ args w, (callFunc 53 args).run Try.prog w = .ok (.enter 53 args) w := enters_of Try.func53 (by kernel_rfl) rfl
  have H : Hid (TRN (TR n) hd w V T) := h
  have HIN : Hid (Inn f pw pd w) := hin
  have HF : Hid (∀ t, 0 ≤ f t ∧ f t ≤ 256) := hf
  have HFW : Hid _ := hfw
  obtain ⟨fa, fn, fc, da, dn, dc, ba, bn, bc, na, nn, nc, rfl, -, -, ⟨b1, b2, b3⟩, ⟨f1, f2, f3⟩⟩ := H.out.open
  have HNN : Hid (T.ns.length = nn) := f1
  have HBN : Hid (T.bs.length = bn) := b1
  obtain ⟨c, hc⟩ : ∃ c, T.c = c := ⟨_, rfl⟩
  obtain ⟨wd, hw⟩ : ∃ c, T.w = c := ⟨_, rfl⟩
  obtain ⟨b, hb⟩ : ∃ c, T.b = c := ⟨_, rfl⟩
  show Calls _ _ #[.agg #[.int .i64 T.c, .int .i64 T.w, .bool T.b, _, _, _, _], _] _ _
  rw [hc, hw, hb]
  have HNA : Hid (∀ w', Below w.heap.size w w' → Calls Try.prog 75 #[.slice na nn nc, .func (.func 76) #[] #[]] w' fun e w2 => e = .returned (.bool (namesB (T.ns.map (·.1)))) ∧ Below w'.heap.size w' w2) := fun w' hb => mNamed_any (.slice na nn nc) T.ns w' (H.out.ns.below hb)
  obtain ⟨NV, hNV⟩ : ∃ NV, T.ns.map (·.2) = NV := ⟨_, rfl⟩
  have HNV : Hid (∀ i q, T.ns[i]? = some q → NV[i]? = some q.2 ∧ (NV.take i).any (fun x => x == q.2) = (T.ns.take i).any (fun t => t.2 == q.2)) := fun i q hq => by
    rw [← hNV, List.getElem?_map, hq, ← List.map_take, List.any_map]
    exact ⟨rfl, rfl⟩
  clear h hin hf hc hw hb f1 b1 hfw
  obtain ⟨w1, hw1, hb1, hs1, hx1⟩ := bx_made w c wd b (.slice fa fn fc) (.slice da dn dc) (.slice ba bn bc) (.slice na nn nc)
  have HB1 : Hid (Below w.heap.size w w1) := hb1
  have HX1 : Hid (Bx w1 w.heap.size c wd b (.slice fa fn fc) (.slice da dn dc) (.slice ba bn bc) (.slice na nn nc)) := hx1
  obtain ⟨c0, c1, c2, c3, c4, c5, c6⟩ := hx1
  clear hb1 hs1 c0 c1 c2 c3 c4
  by_cases hb1 : bn = 1
  · subst hb1
    obtain ⟨t, ht⟩ := one_of HBN.out
    have HT : Hid (T.bs = [t]) := ht
    clear ht
    have HEN : Hid (enSz f hd T.bs T.ns = if namesB (T.ns.map (·.1)) = true ∧ f t ≠ 0 ∧ ((hd t).1 = 1 ∨ (hd t).1 = 2) ∧ valsTo (hd t).1 (hd t).2.1 NV T.ns.length = true then f t else 0) := by rw [Hid, HT.out, enSz, hNV]
    clear hNV
    obtain ⟨bn', hbn⟩ : ∃ b, namesB (T.ns.map (·.1)) = b := ⟨_, rfl⟩
    rw [hbn] at HNA HEN
    clear hbn
    cases bn' with
    | false =>
      have HE : Hid (enSz f hd T.bs T.ns = 0) := by rw [Hid, HEN.out, if_neg (fun h => by cases h.1)]
      clear HEN
      go_enter Try.func57, Try.ntmps57
      go_wp2_with (go_at_call 75; refine Calls.mono (HNA.out _ HB1.out) ?_; rintro e w5 ⟨rfl, hb5⟩; have HB5 : Hid (Below w.heap.size w w5) := bel_next HB1.out hb5; clear hb5)
      go_ret
      exact ⟨by rw [HE.out]; rfl, HB5.out⟩
    | true =>
      obtain ⟨g, o, U, q, rfl, hq, hu, k0, k1, k2, k3, k4, k5, k6⟩ := H.out.bs.at (show 0 < 1 by omega)
      rw [HT.out] at hq
      obtain rfl : t = q := by simpa using hq
      simp only [Nat.zero_mul, Nat.add_zero] at k0 k1 k2 k3 k4 k5 k6
      obtain ⟨ga, gn, gc, xa, xn, xc, ya, yn, yc, za, zn, zc, rfl⟩ := hu.sl
      simp only [] at k3 k4 k5 k6
      have HK : Hid (∀ w', Below w.heap.size w w' → w'.cell? ⟨g, o, none⟩ = some (.int .i64 (hd t).1) ∧ w'.cell? ⟨g, o + 1, none⟩ = some (.int .i64 (hd t).2.1) ∧ w'.cell? ⟨g, o + 2, none⟩ = some (.bool (hd t).2.2) ∧ w'.cell? ⟨g, o + 3, none⟩ = some (.slice ga gn gc) ∧ w'.cell? ⟨g, o + 4, none⟩ = some (.slice xa xn xc) ∧ w'.cell? ⟨g, o + 5, none⟩ = some (.slice ya yn yc) ∧ w'.cell? ⟨g, o + 6, none⟩ = some (.slice za zn zc)) := fun w' hb => by
        have K : ∀ {p : Addr} {x : Value}, w.cell? p = some x → w'.cell? p = some x := fun h => (hb.cell (World.block_lt_of_cell? w _ h)).trans h
        exact ⟨K k0, K k1, K k2, K k3, K k4, K k5, K k6⟩
      have HCL : Hid (∀ w', Below w.heap.size w w' → Calls Try.prog 53 #[.agg #[.int .i64 (hd t).1, .int .i64 (hd t).2.1, .bool (hd t).2.2, .slice ga gn gc, .slice xa xn xc, .slice ya yn yc, .slice za zn zc], .pointer (some ⟨pw, 0, none⟩), .pointer (some ⟨pd, 0, none⟩)] w' fun e w3 => e = .returned (.int .i64 (f t)) ∧ Below w'.heap.size w' w3) := fun w' hb => HIN.out t ⟨.slice ga gn gc, .slice xa xn xc, .slice ya yn yc, .slice za zn zc⟩ w' hb (hu.below hb)
      have HFR := HF.out t
      have HFW2 : Hid (f t ≠ 0 → (hd t).1 = 1 ∨ (hd t).1 = 2 → 1 ≤ (hd t).2.1 ∧ (hd t).2.1 ≤ 8) := HFW.out t
      obtain ⟨s0, hs⟩ : ∃ s, f t = s := ⟨_, rfl⟩
      rw [hs] at HCL HFR HEN HFW2
      obtain ⟨hs1', hs2'⟩ := HFR
      clear hq hu hs k0 k1 k2 k3 k4 k5 k6
      generalize (hd t).1 = z2' at *
      generalize (hd t).2.1 = z3 at *
      generalize (hd t).2.2 = z4 at *
      by_cases hs0 : s0 = 0
      · subst hs0
        have HE : Hid (enSz f hd T.bs T.ns = 0) := by rw [Hid, HEN.out, if_neg (fun h => h.2.1 rfl)]
        clear HEN HFW2
        go_enter Try.func57, Try.ntmps57
        go_wp2_with (first | (go_at_call 75; refine Calls.mono (HNA.out _ HB1.out) ?_; rintro e w5 ⟨rfl, hb5⟩; have HB5 : Hid (Below w.heap.size w w5) := bel_next HB1.out hb5; have HX5 : Hid (Bx w5 w.heap.size c wd b (.slice fa fn fc) (.slice da dn dc) (.slice (some ⟨g, o, none⟩) 1 bc) (.slice na nn nc)) := HX1.out.below hb5; obtain ⟨m0, m1, m2, m3, m4, m5, m6⟩ := HX5.out; obtain ⟨k0, k1, k2, k3, k4, k5, k6⟩ := HK.out w5 HB5.out; obtain ⟨w6, hw6, hb6, hs6, hx6⟩ := bx_made w5 z2' z3 z4 (.slice ga gn gc) (.slice xa xn xc) (.slice ya yn yc) (.slice za zn zc); have HX6 : Hid (Bx w6 w5.heap.size z2' z3 z4 (.slice ga gn gc) (.slice xa xn xc) (.slice ya yn yc) (.slice za zn zc)) := hx6; obtain ⟨x0, x1, x2, x3, x4, x5, x6⟩ := hx6; have HB6 : Hid (Below w5.heap.size w5 w6) := hb6; clear hb5 hb6 hs6 m0 m1 m2 m3 m4) | (go_at_call 53; refine Calls.mono (HCL.out _ (bel_next HB5.out HB6.out)) ?_; rintro e w7 ⟨rfl, hb7⟩; have HB7 : Hid (Below w.heap.size w w7) := bel_next (bel_next HB5.out HB6.out) hb7; have HX7 : Hid (Bx w7 w5.heap.size z2' z3 z4 (.slice ga gn gc) (.slice xa xn xc) (.slice ya yn yc) (.slice za zn zc)) := HX6.out.below hb7; have HM7 : Hid (Bx w7 w.heap.size c wd b (.slice fa fn fc) (.slice da dn dc) (.slice (some ⟨g, o, none⟩) 1 bc) (.slice na nn nc)) := HX5.out.below (bel_next HB6.out hb7); obtain ⟨y0, y1, y2, y3, y4, y5, y6⟩ := HX7.out; obtain ⟨n0, n1, n2, n3, n4, n5, n6⟩ := HM7.out; clear hb7 y1 y2 y3 y4 y5 y6 n0 n1 n2 n3 n4 n5 m5 m6 k0 k1 k2 k3 k4 k5 k6 x0 x1 x2 x3 x4 x5 x6))
        go_ret
        exact ⟨by rw [HE.out]; rfl, HB7.out⟩
      · by_cases hcl : z2' = 1 ∨ z2' = 2
        · obtain ⟨hw1', hw2'⟩ := HFW2.out hs0 hcl
          have HE1 : Hid (enSz f hd T.bs T.ns = if valsTo z2' z3 NV T.ns.length = true then s0 else 0) := by
            rw [Hid, HEN.out]
            by_cases hv : valsTo z2' z3 NV T.ns.length = true
            · rw [if_pos ⟨rfl, hs0, hcl, hv⟩, if_pos hv]
            · rw [if_neg (fun h => hv h.2.2.2), if_neg hv]
          have HIS : Hid (∀ v w', I64 v → Calls Try.prog 79 #[.agg #[.int .i64 z2', .int .i64 z3, .bool z4, .slice ga gn gc, .slice xa xn xc, .slice ya yn yc, .slice za zn zc], .int .i64 v] w' fun e w2 => e = .returned (.bool (fitV z2' z3 v)) ∧ Below w'.heap.size w' w2) := fun v w' hv => isNum_any z2' z3 z4 ga gn gc xa xn xc ya yn yc za zn zc v w' hv hw1' hw2'
          have q1 : (s0 == 0) = false := beq_eq_false_iff_ne.2 hs0
          have hcd : (z2' != 1) = false ∨ ((z2' != 1) = true ∧ (z2' != 2) = false) := by
            rcases hcl with h | h
            · exact .inl (by rw [h]; rfl)
            · exact .inr ⟨by rw [h]; rfl, by rw [h]; rfl⟩
          clear HEN HFW2 hw1' hw2' hcl
          rcases hcd with q2 | ⟨q2, q3⟩
          all_goals
            go_enter Try.func57, Try.ntmps57
            go_wp2_with (first | (go_at_call 75; refine Calls.mono (HNA.out _ HB1.out) ?_; rintro e w5 ⟨rfl, hb5⟩; have HB5 : Hid (Below w.heap.size w w5) := bel_next HB1.out hb5; have HX5 : Hid (Bx w5 w.heap.size c wd b (.slice fa fn fc) (.slice da dn dc) (.slice (some ⟨g, o, none⟩) 1 bc) (.slice na nn nc)) := HX1.out.below hb5; obtain ⟨m0, m1, m2, m3, m4, m5, m6⟩ := HX5.out; obtain ⟨k0, k1, k2, k3, k4, k5, k6⟩ := HK.out w5 HB5.out; obtain ⟨w6, hw6, hb6, hs6, hx6⟩ := bx_made w5 z2' z3 z4 (.slice ga gn gc) (.slice xa xn xc) (.slice ya yn yc) (.slice za zn zc); have HX6 : Hid (Bx w6 w5.heap.size z2' z3 z4 (.slice ga gn gc) (.slice xa xn xc) (.slice ya yn yc) (.slice za zn zc)) := hx6; obtain ⟨x0, x1, x2, x3, x4, x5, x6⟩ := hx6; have HB6 : Hid (Below w5.heap.size w5 w6) := hb6; clear hb5 hb6 hs6 m0 m1 m2 m3 m4) | (go_at_call 53; refine Calls.mono (HCL.out _ (bel_next HB5.out HB6.out)) ?_; rintro e w7 ⟨rfl, hb7⟩; have HB7 : Hid (Below w.heap.size w w7) := bel_next (bel_next HB5.out HB6.out) hb7; have HX7 : Hid (Bx w7 w5.heap.size z2' z3 z4 (.slice ga gn gc) (.slice xa xn xc) (.slice ya yn yc) (.slice za zn zc)) := HX6.out.below hb7; have HM7 : Hid (Bx w7 w.heap.size c wd b (.slice fa fn fc) (.slice da dn dc) (.slice (some ⟨g, o, none⟩) 1 bc) (.slice na nn nc)) := HX5.out.below (bel_next HB6.out hb7); obtain ⟨y0, y1, y2, y3, y4, y5, y6⟩ := HX7.out; obtain ⟨n0, n1, n2, n3, n4, n5, n6⟩ := HM7.out; clear hb7 y1 y2 y3 y4 y5 y6 n0 n1 n2 n3 n4 n5 m5 m6 k0 k1 k2 k3 k4 k5 k6 x0 x1 x2 x3 x4 x5 x6))
            clear y0 n6
            go_loopw [42] (fun y wr => ∃ i : Nat, i ≤ nn ∧ y = .int .i64 (i : Int) ∧ Hid (valsTo z2' z3 NV i = true) ∧ Hid (Below w7.heap.size w7 wr)) (fun y _ => nn - (intOf y).toNat)
            case atStart => exact ⟨0, Nat.zero_le _, by simp, rfl, Below.refl _ _⟩
            case round =>
              obtain ⟨i, hin, rfl, HP, HB⟩ := hrel
              have HBB : Hid (Below w.heap.size w wr) := bel_next HB7.out HB.out
              obtain ⟨y0, y1, y2, y3, y4, y5, y6⟩ := HX7.out.below HB.out
              obtain ⟨n0, n1, n2, n3, n4, n5, n6⟩ := HM7.out.below HB.out
              clear y0 y1 y2 y3 y4 y5 y6 n0 n1 n2 n3 n4 n5
              by_cases hlt : i < nn
              · obtain ⟨gm, om, q, rfl, hq, hqr, k0, k1⟩ := H.out.ns.at hlt
                obtain ⟨hn1, hn2⟩ := HNV.out i q hq
                have HNO : Hid ((!(T.ns.take i).any (fun t => t.2 == q.2) && fitV z2' z3 q.2) = false → enSz f hd T.bs T.ns = 0) := fun h => by
                  rw [HE1.out, if_neg]
                  rw [valsTo_no (i := i + 1) (by rw [valsTo_succ hn1, hn2, h, Bool.and_false]) _ (by rw [HNN.out]; omega)]
                  simp
                have HSU : Hid ((!(T.ns.take i).any (fun t => t.2 == q.2) && fitV z2' z3 q.2) = true → valsTo z2' z3 NV (i + 1) = true) := fun h => by rw [valsTo_succ hn1, HP.out, hn2, h]; rfl
                have K : ∀ {p : Addr} {x : Value}, w.cell? p = some x → wr.cell? p = some x := fun h => (HBB.out.cell (World.block_lt_of_cell? w _ h)).trans h
                replace k0 := K k0
                replace k1 := K k1
                clear K hq hn1 hn2
                obtain ⟨w8, hw8, hb8, hs8, h8⟩ := mc_made wr q.1 q.2
                have HB8 : Hid (Below w7.heap.size w7 w8) := bel_next HB.out hb8
                have HBB8 : Hid (Below w.heap.size w w8) := bel_next HB7.out HB8.out
                have HCT : Hid (Calls Try.prog 77 #[.slice (some ⟨gm, om, none⟩) i nc, .func (.func 78) #[] #[.pointer (some ⟨wr.heap.size, 0, none⟩)]] w8 fun e w' => e = .returned (.bool ((T.ns.take i).any (fun t => t.2 == q.2))) ∧ Below w8.heap.size w8 w') := vContains_any _ (T.ns.take i) q.2 wr.heap.size w8 ((H.out.ns.take hin).below HBB8.out) h8.c1
                have HIS2 : Hid _ := fun w' => HIS.out q.2 w' hqr
                have HC2 : Hid (∀ w', Below w8.heap.size w8 w' → MC w' wr.heap.size q.1 q.2 ∧ Bx w' w5.heap.size z2' z3 z4 (.slice ga gn gc) (.slice xa xn xc) (.slice ya yn yc) (.slice za zn zc)) := fun w' hb => ⟨h8.below hb, HX7.out.below (bel_next HB8.out hb)⟩
                obtain ⟨b1, hb1⟩ : ∃ b, (T.ns.take i).any (fun t => t.2 == q.2) = b := ⟨_, rfl⟩
                obtain ⟨b2, hb2'⟩ : ∃ b, fitV z2' z3 q.2 = b := ⟨_, rfl⟩
                have n6' := (HM7.out.below HB8.out).c6
                obtain ⟨l0, l1⟩ := h8
                rw [hb1] at HCT HNO HSU
                rw [hb2'] at HIS2 HNO HSU
                clear hb1 hb2' hb8 hs8 hqr
                generalize q.1 = u0 at *
                generalize q.2 = u1 at *
                cases b1 with
                | true =>
                  have HE : Hid (enSz f hd T.bs T.ns = 0) := HNO.out (by simp)
                  clear HNO HSU
                  go_wp2_with (go_at_call 77; refine Calls.mono HCT.out ?_; rintro e w9 ⟨rfl, hb9⟩; have HB9 : Hid (Below w8.heap.size w8 w9) := hb9; clear hb9)
                  go_ret
                  exact ⟨by rw [HE.out]; rfl, bel_next HBB8.out HB9.out⟩
                | false =>
                  cases b2 with
                  | true =>
                    have HS2 : Hid (valsTo z2' z3 NV (i + 1) = true) := HSU.out (by simp)
                    clear HNO HSU
                    go_wp2_with (first | (go_at_call 77; refine Calls.mono HCT.out ?_; rintro e w9 ⟨rfl, hb9⟩; have HB9 : Hid (Below w8.heap.size w8 w9) := hb9; obtain ⟨⟨e0, e1⟩, ⟨p0, p1, p2, p3, p4, p5, p6⟩⟩ := HC2.out w9 hb9; clear hb9) | (go_at_call 79; refine Calls.mono (HIS2.out _) ?_; rintro e wA ⟨rfl, hbA⟩; have HBA : Hid (Below w8.heap.size w8 wA) := bel_next HB9.out hbA; clear hbA))
                    go_roundw
                    case rel => exact ⟨i + 1, by omega, by go_num, HS2.out, bel_next HB8.out HBA.out⟩
                    case measure => simp [intOf]; omega
                  | false =>
                    have HE : Hid (enSz f hd T.bs T.ns = 0) := HNO.out (by simp)
                    clear HNO HSU
                    go_wp2_with (first | (go_at_call 77; refine Calls.mono HCT.out ?_; rintro e w9 ⟨rfl, hb9⟩; have HB9 : Hid (Below w8.heap.size w8 w9) := hb9; obtain ⟨⟨e0, e1⟩, ⟨p0, p1, p2, p3, p4, p5, p6⟩⟩ := HC2.out w9 hb9; clear hb9) | (go_at_call 79; refine Calls.mono (HIS2.out _) ?_; rintro e wA ⟨rfl, hbA⟩; have HBA : Hid (Below w8.heap.size w8 wA) := bel_next HB9.out hbA; clear hbA))
                    go_ret
                    exact ⟨by rw [HE.out]; rfl, bel_next HBB8.out HBA.out⟩
              · obtain rfl : i = nn := by omega
                have HE : Hid (enSz f hd T.bs T.ns = s0) := by rw [Hid, HE1.out, HNN.out, if_pos HP.out]
                go_wp2_with fail
                go_ret
                exact ⟨by rw [HE.out]; rfl, HBB.out⟩
        · have HE : Hid (enSz f hd T.bs T.ns = 0) := by rw [Hid, HEN.out, if_neg (fun h => hcl h.2.2.1)]
          have hc1 : ¬ z2' = 1 := fun h => hcl (.inl h)
          have hc2 : ¬ z2' = 2 := fun h => hcl (.inr h)
          have q1 : (s0 == 0) = false := beq_eq_false_iff_ne.2 hs0
          have q2 : (z2' != 1) = true := bne_iff_ne.2 hc1
          have q3 : (z2' != 2) = true := bne_iff_ne.2 hc2
          clear HEN HFW2 hcl
          go_enter Try.func57, Try.ntmps57
          go_wp2_with (first | (go_at_call 75; refine Calls.mono (HNA.out _ HB1.out) ?_; rintro e w5 ⟨rfl, hb5⟩; have HB5 : Hid (Below w.heap.size w w5) := bel_next HB1.out hb5; have HX5 : Hid (Bx w5 w.heap.size c wd b (.slice fa fn fc) (.slice da dn dc) (.slice (some ⟨g, o, none⟩) 1 bc) (.slice na nn nc)) := HX1.out.below hb5; obtain ⟨m0, m1, m2, m3, m4, m5, m6⟩ := HX5.out; obtain ⟨k0, k1, k2, k3, k4, k5, k6⟩ := HK.out w5 HB5.out; obtain ⟨w6, hw6, hb6, hs6, hx6⟩ := bx_made w5 z2' z3 z4 (.slice ga gn gc) (.slice xa xn xc) (.slice ya yn yc) (.slice za zn zc); have HX6 : Hid (Bx w6 w5.heap.size z2' z3 z4 (.slice ga gn gc) (.slice xa xn xc) (.slice ya yn yc) (.slice za zn zc)) := hx6; obtain ⟨x0, x1, x2, x3, x4, x5, x6⟩ := hx6; have HB6 : Hid (Below w5.heap.size w5 w6) := hb6; clear hb5 hb6 hs6 m0 m1 m2 m3 m4) | (go_at_call 53; refine Calls.mono (HCL.out _ (bel_next HB5.out HB6.out)) ?_; rintro e w7 ⟨rfl, hb7⟩; have HB7 : Hid (Below w.heap.size w w7) := bel_next (bel_next HB5.out HB6.out) hb7; have HX7 : Hid (Bx w7 w5.heap.size z2' z3 z4 (.slice ga gn gc) (.slice xa xn xc) (.slice ya yn yc) (.slice za zn zc)) := HX6.out.below hb7; have HM7 : Hid (Bx w7 w.heap.size c wd b (.slice fa fn fc) (.slice da dn dc) (.slice (some ⟨g, o, none⟩) 1 bc) (.slice na nn nc)) := HX5.out.below (bel_next HB6.out hb7); obtain ⟨y0, y1, y2, y3, y4, y5, y6⟩ := HX7.out; obtain ⟨n0, n1, n2, n3, n4, n5, n6⟩ := HM7.out; clear hb7 y1 y2 y3 y4 y5 y6 n0 n1 n2 n3 n4 n5 m5 m6 k0 k1 k2 k3 k4 k5 k6 x0 x1 x2 x3 x4 x5 x6))
          go_ret
          exact ⟨by rw [HE.out]; rfl, HB7.out⟩
  · have hb1' : ¬ (bn : Int) = 1 := by omega
    have HE : Hid (enSz f hd T.bs T.ns = 0) := enSz_no f hd T.ns (by rw [HBN.out]; exact hb1)
    go_enter Try.func57, Try.ntmps57
    go_wp2_with fail
    go_ret
    exact ⟨by rw [HE.out]; rfl, HB1.out⟩
end Go.Proofs.Ytojcokdfplldbaa
