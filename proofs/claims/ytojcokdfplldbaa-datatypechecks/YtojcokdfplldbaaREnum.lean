/-
  The document's enum, all of it. No conditions.
-/
import Derived.Test.YtojcokdfplldbaaRArr
import Derived.Test.YtojcokdfplldbaaDEnumS
namespace Go.Proofs.Ytojcokdfplldbaa
open Go.RowKit Go.Shelf
set_option linter.unusedVariables false
set_option maxRecDepth 100000

/-- An integer's size: its width, where it may be. -/
theorem sz_int {n : Nat} {t : Ty n} {w : World} {fa : Option Addr} {fn fc : Nat} {da : Option Addr} {dn dc : Nat} {ba : Option Addr} {bn bc : Nat} {na : Option Addr} {nn nc : Nat} (hu : TR n w ⟨.slice fa fn fc, .slice da dn dc, .slice ba bn bc, .slice na nn nc⟩ t) (hc : (hd t).1 = 1 ∨ (hd t).1 = 2) {d : Nat} (hd4 : d ≤ 3) : sz n t (d + 1) = if numB (hd t).1 (hd t).2.1 fn dn bn nn = true then (hd t).2.1 else 0 := by
  cases n with
  | zero => exact hu.elim
  | succ n =>
    obtain ⟨fa', fn', fc', da', dn', dc', ba', bn', bc', na', nn', nc', e, ⟨f1, -, -⟩, ⟨d1, -, -⟩, ⟨b1, -, -⟩, ⟨n1, -, -⟩⟩ := TRN.open hu
    injection e with e1 e2 e3 e4
    injection e1 with _ e1 _
    injection e2 with _ e2 _
    injection e3 with _ e3 _
    injection e4 with _ e4 _
    subst e1 e2 e3 e4
    show sz (n + 1) t (d + 1) = if numB (TyN.c t) (TyN.w t) fn dn bn nn = true then TyN.w t else 0
    have hc' : TyN.c t = 1 ∨ TyN.c t = 2 := hc
    rw [sz, f1, d1, b1, n1, numB]
    generalize TyN.c t = c at *
    generalize TyN.w t = wd at *
    have h5 : ¬ c = 5 := by omega
    have h6 : ¬ c = 6 := by omega
    have h7 : ¬ c = 7 := by omega
    have h34 : ¬ (c = 3 ∨ c = 4) := by omega
    rw [if_neg h5, if_neg h6, if_neg h7, numSz, if_pos hc', ownB, if_pos (show c = 1 ∨ c = 2 ∨ c = 3 ∨ c = 4 by omega)]
    by_cases h0 : fn = 0 ∧ dn = 0 ∧ bn = 0 ∧ nn = 0
    · obtain ⟨rfl, rfl, rfl, rfl⟩ := h0
      by_cases hw : 1 ≤ wd ∧ wd ≤ 8
      · simp [hc', hw]; omega
      · simp [hc', hw, h34]
    · rw [decide_eq_false h0, if_pos (.inr rfl)]; simp
theorem sz_deep {n : Nat} {t : Ty n} {d : Nat} (h : 4 < d) : sz n t d = 0 := by
  cases n with
  | zero => rfl
  | succ n => rw [sz, if_pos (.inl h)]
theorem tr_lens {n : Nat} {t : Ty n} {w : World} {fa : Option Addr} {fn fc : Nat} {da : Option Addr} {dn dc : Nat} {ba : Option Addr} {bn bc : Nat} {na : Option Addr} {nn nc : Nat} (hu : TR n w ⟨.slice fa fn fc, .slice da dn dc, .slice ba bn bc, .slice na nn nc⟩ t) : fn ≤ 17592186043904 ∧ dn ≤ 17592186043904 ∧ bn ≤ 17592186043904 ∧ nn ≤ 17592186043904 := by
  cases n with
  | zero => exact hu.elim
  | succ n =>
    obtain ⟨fa', fn', fc', da', dn', dc', ba', bn', bc', na', nn', nc', e, ⟨-, -, f1⟩, ⟨-, -, d1⟩, ⟨-, -, b1⟩, ⟨-, -, n1⟩⟩ := TRN.open hu
    injection e with e1 e2 e3 e4
    injection e1 with _ e1 _
    injection e2 with _ e2 _
    injection e3 with _ e3 _
    injection e4 with _ e4 _
    omega
theorem enSz_one {α : Type} (f : α → Int) (h : α → Int × Int × Bool) (t : α) (ns : List (ByteArray × Int)) : enSz f h [t] ns = if namesB (ns.map (·.1)) = true ∧ f t ≠ 0 ∧ ((h t).1 = 1 ∨ (h t).1 = 2) ∧ valsTo (h t).1 (h t).2.1 (ns.map (·.2)) ns.length = true then f t else 0 := rfl
set_option maxHeartbeats 32000000 in
theorem refEnum_any {n : Nat} (d : Nat) (hd4 : d ≤ 4) (T : TyN (Ty n)) (V : TV) (w : World) (h : TRN (TR n) hd w V T) :
    Calls Try.prog 60 #[tyV (T.c, T.w, T.b) V, .int .i64 (5 - (d : Int))] w fun e w' => e = .returned (.int .i64 (if T.w = 0 ∧ T.b = false ∧ T.fs.length = 0 ∧ T.ds.length = 0 then enSz (fun t => sz n t (d + 1)) hd T.bs T.ns else 0)) ∧ Below w.heap.size w w' := by
  have H : Hid (TRN (TR n) hd w V T) := h
  obtain ⟨fa, fn, fc, da, dn, dc, ba, bn, bc, na, nn, nc, rfl, ⟨f1, f2, f3⟩, ⟨d1, d2, d3⟩, ⟨b1, b2, b3⟩, ⟨n1, n2, n3⟩⟩ := H.out.open
  have HNN : Hid (T.ns.length = nn) := n1
  have HBN : Hid (T.bs.length = bn) := b1
  obtain ⟨c, hc⟩ : ∃ c, T.c = c := ⟨_, rfl⟩
  obtain ⟨wd, hw⟩ : ∃ c, T.w = c := ⟨_, rfl⟩
  obtain ⟨b, hb⟩ : ∃ c, T.b = c := ⟨_, rfl⟩
  show Calls _ _ #[.agg #[.int .i64 T.c, .int .i64 T.w, .bool T.b, _, _, _, _], _] _ _
  rw [hc, hw, hb, f1, d1]
  obtain ⟨k, hk⟩ : ∃ k, fn + dn = k := ⟨_, rfl⟩
  have s1 : IntKind.i64.wrap ((fn : Int) + (dn : Int)) = (k : Int) := by rw [← Int.natCast_add, hk]; exact wrap_i64_inD _ (by omega) (by omega)
  obtain ⟨X, hX⟩ : ∃ X, (if wd = 0 ∧ b = false ∧ fn = 0 ∧ dn = 0 then enSz (fun t => sz n t (d + 1)) hd T.bs T.ns else 0) = X := ⟨_, rfl⟩
  have HX : Hid ((if wd = 0 ∧ b = false ∧ fn = 0 ∧ dn = 0 then enSz (fun t => sz n t (d + 1)) hd T.bs T.ns else 0) = X) := hX
  rw [hX]
  clear hX
  obtain ⟨D, hD⟩ : ∃ D, 5 - (d : Int) = D := ⟨_, rfl⟩
  rw [hD]
  obtain ⟨w1, hw1, hb1, hs1, hx1⟩ := bx_made w c wd b (.slice fa fn fc) (.slice da dn dc) (.slice ba bn bc) (.slice na nn nc)
  have HB1 : Hid (Below w.heap.size w w1) := hb1
  have HX1 : Hid (Bx w1 w.heap.size c wd b (.slice fa fn fc) (.slice da dn dc) (.slice ba bn bc) (.slice na nn nc)) := hx1
  obtain ⟨c0, c1, c2, c3, c4, c5, c6⟩ := hx1
  clear h hc hw hb f1 d1 b1 n1 hb1 hs1 c0
  by_cases hok : b = false ∧ wd = 0 ∧ k = 0 ∧ bn = 1 ∧ 1 ≤ nn ∧ nn ≤ 16 ∧ d ≤ 3
  · obtain ⟨rfl, rfl, hk0, rfl, hn1, hn2, hd3⟩ := hok
    obtain rfl : fn = 0 := by omega
    obtain rfl : dn = 0 := by omega
    subst hk0
    obtain ⟨t, ht⟩ := one_of HBN.out
    obtain ⟨g, o, U, q, rfl, hq, hu, k0, k1, k2, k3, k4, k5, k6⟩ := H.out.bs.at (show 0 < 1 by omega)
    rw [ht] at hq
    obtain rfl : t = q := by simpa using hq
    obtain ⟨ga, gn, gc, xa, xn, xc, ya, yn, yc, za, zn, zc, rfl⟩ := hu.sl
    simp only [Nat.zero_mul, Nat.add_zero] at k0 k1 k2 k3 k4 k5 k6
    have HL : Hid (gn ≤ 17592186043904 ∧ xn ≤ 17592186043904 ∧ yn ≤ 17592186043904 ∧ zn ≤ 17592186043904) := by
      rw [Hid]
      exact tr_lens hu
    have HSZ : Hid ((hd t).1 = 1 ∨ (hd t).1 = 2 → sz n t (d + 1) = if numB (hd t).1 (hd t).2.1 gn xn yn zn = true then (hd t).2.1 else 0) := fun h => sz_int hu h hd3
    obtain ⟨NS, hNS⟩ : ∃ NS, T.ns.map (·.1) = NS := ⟨_, rfl⟩
    obtain ⟨NV, hNV⟩ : ∃ NV, T.ns.map (·.2) = NV := ⟨_, rfl⟩
    have HNL : Hid (NS.length = nn) := by rw [Hid, ← hNS, List.length_map]; exact HNN.out
    have HA : Hid ((if namesB NS = true ∧ sz n t (d + 1) ≠ 0 ∧ ((hd t).1 = 1 ∨ (hd t).1 = 2) ∧ valsTo (hd t).1 (hd t).2.1 NV nn = true then sz n t (d + 1) else 0) = X) := by
      refine Eq.trans ?_ HX.out
      rw [if_pos (show (0 : Int) = 0 ∧ (false : Bool) = false ∧ (0 : Nat) = 0 ∧ (0 : Nat) = 0 from ⟨rfl, rfl, rfl, rfl⟩), ht, enSz_one, hNS, hNV, HNN.out]
    have HNM : Hid (∀ i q, T.ns[i]? = some q → NS[i]? = some q.1 ∧ (NS.take i).any (fun t => t.toList == q.1.toList) = (T.ns.take i).any (fun t => t.1.toList == q.1.toList)) := fun i q hq => by
      rw [← hNS, List.getElem?_map, hq, ← List.map_take, List.any_map]
      exact ⟨rfl, rfl⟩
    have HNV : Hid (∀ i q, T.ns[i]? = some q → NV[i]? = some q.2 ∧ (NV.take i).any (fun x => x == q.2) = (T.ns.take i).any (fun t => t.2 == q.2)) := fun i q hq => by
      rw [← hNV, List.getElem?_map, hq, ← List.map_take, List.any_map]
      exact ⟨rfl, rfl⟩
    clear hNS hNV
    have K : ∀ {p : Addr} {x : Value}, w.cell? p = some x → w1.cell? p = some x := fun h => (HB1.out.cell (World.block_lt_of_cell? w _ h)).trans h
    replace k0 := K k0
    replace k1 := K k1
    replace k2 := K k2
    replace k3 := K k3
    replace k4 := K k4
    replace k5 := K k5
    replace k6 := K k6
    obtain ⟨sT, hsT⟩ : ∃ s, sz n t (d + 1) = s := ⟨_, rfl⟩
    rw [hsT] at HSZ HA
    clear K hq hu ht HX hsT
    generalize (hd t).1 = z2' at *
    generalize (hd t).2.1 = z3 at *
    generalize (hd t).2.2 = z4 at *
    have g1 : ¬ (nn : Int) < 1 := by omega
    have g2 : ¬ 16 < (nn : Int) := by omega
    have g3 : ¬ D < 2 := by omega
    obtain ⟨w2, hw2, hb2, hs2, hx2⟩ := bx_made w1 z2' z3 z4 (.slice ga gn gc) (.slice xa xn xc) (.slice ya yn yc) (.slice za zn zc)
    have HB2 : Hid (Below w.heap.size w w2) := bel_next HB1.out hb2
    have HX2 : Hid (Bx w2 w1.heap.size z2' z3 z4 (.slice ga gn gc) (.slice xa xn xc) (.slice ya yn yc) (.slice za zn zc)) := hx2
    have HX1' : Hid (Bx w2 w.heap.size c 0 false (.slice fa 0 fc) (.slice da 0 dc) (.slice (some ⟨g, o, none⟩) 1 bc) (.slice na nn nc)) := HX1.out.below hb2
    obtain ⟨x0, x1, x2, x3, x4, x5, x6⟩ := hx2
    clear hb2 hs2
    by_cases hcl : z2' = 1 ∨ z2' = 2
    · have HS := HSZ.out hcl
      have HNU : Hid (∀ w', Calls Try.prog 61 #[.agg #[.int .i64 z2', .int .i64 z3, .bool z4, .slice ga gn gc, .slice xa xn xc, .slice ya yn yc, .slice za zn zc]] w' fun e w2 => e = .returned (.bool (numB z2' z3 gn xn yn zn)) ∧ Below w'.heap.size w' w2) := fun w' => refNumber_any z2' z3 z4 ga gn gc xa xn xc ya yn yc za zn zc w' HL.out.1 HL.out.2.1 HL.out.2.2.1 HL.out.2.2.2
      have HWI : Hid (numB z2' z3 gn xn yn zn = true → 1 ≤ z3 ∧ z3 ≤ 8) := fun h => by
        rw [numB, Bool.and_eq_true, decide_eq_true_iff, decide_eq_true_iff] at h
        have := h.2
        omega
      obtain ⟨bn', hbn⟩ : ∃ b, numB z2' z3 gn xn yn zn = b := ⟨_, rfl⟩
      rw [hbn] at HNU HWI HS
      have HCL : Hid (z2' = 1 ∨ z2' = 2) := hcl
      have hcd : (z2' != 1) = false ∨ ((z2' != 1) = true ∧ (z2' != 2) = false) := by
        rcases hcl with h | h
        · exact .inl (by rw [h]; rfl)
        · exact .inr ⟨by rw [h]; rfl, by rw [h]; rfl⟩
      clear hbn hcl HSZ
      cases bn' with
      | false =>
        have HE : Hid (X = 0) := by rw [Hid, ← HA.out, HS]; simp
        clear HS HWI
        rcases hcd with q2 | ⟨q2, q3⟩
        all_goals
          go_enter Try.func60, Try.ntmps60
          go_wp2_with (go_at_call 61; refine Calls.mono (HNU.out _) ?_; rintro e w5 ⟨rfl, hb5⟩; have HB5 : Hid (Below w.heap.size w w5) := bel_next HB2.out hb5; clear hb5)
          go_ret
          exact ⟨by rw [HE.out]; rfl, HB5.out⟩
      | true =>
        obtain ⟨hz1, hz2⟩ := HWI.out rfl
        have HE1 : Hid (X = if namesTo NS nn = true ∧ valsTo z2' z3 NV nn = true then z3 else 0) := by
          rw [Hid, ← HA.out, HS, if_pos rfl, namesB, HNL.out, decide_eq_true ⟨hn1, hn2⟩, Bool.true_and]
          by_cases h1 : namesTo NS nn = true
          · by_cases h2 : valsTo z2' z3 NV nn = true
            · rw [if_pos ⟨h1, by omega, HCL.out, h2⟩, if_pos ⟨h1, h2⟩]
            · rw [if_neg (fun h => h2 h.2.2.2), if_neg (fun h => h2 h.2)]
          · rw [if_neg (fun h => h1 h.1), if_neg (fun h => h1 h.1)]
        have HFI : Hid (∀ v w', I64 v → Calls Try.prog 81 #[.int .i64 v, .agg #[.int .i64 z2', .int .i64 z3, .bool z4, .slice ga gn gc, .slice xa xn xc, .slice ya yn yc, .slice za zn zc]] w' fun e w2 => e = .returned (.bool (fitV z2' z3 v)) ∧ Below w'.heap.size w' w2) := fun v w' hv => reffits_any v z2' z3 z4 ga gn gc xa xn xc ya yn yc za zn zc w' hv hz1 hz2
        clear HS HWI HA hz1 hz2
        rcases hcd with q2 | ⟨q2, q3⟩
        all_goals
          go_enter Try.func60, Try.ntmps60
          go_wp2_with (go_at_call 61; refine Calls.mono (HNU.out _) ?_; rintro e w5 ⟨rfl, hb5⟩; have HB5 : Hid (Below w2.heap.size w2 w5) := hb5; have HX5 : Hid (Bx w5 w1.heap.size z2' z3 z4 (.slice ga gn gc) (.slice xa xn xc) (.slice ya yn yc) (.slice za zn zc)) := HX2.out.below hb5; have HM5 : Hid (Bx w5 w.heap.size c 0 false (.slice fa 0 fc) (.slice da 0 dc) (.slice (some ⟨g, o, none⟩) 1 bc) (.slice na nn nc)) := HX1'.out.below hb5; clear hb5)
          clear c1 c2 c3 c4 c5 c6 k0 k1 k2 k3 k4 k5 k6 x0 x1 x2 x3 x4 x5 x6
          go_loopw [6] (fun y wr => ∃ i : Nat, i ≤ nn ∧ y = .int .i64 (i : Int) ∧ Hid (namesTo NS i = true) ∧ Hid (valsTo z2' z3 NV i = true) ∧ Hid (Below w5.heap.size w5 wr)) (fun y _ => nn - (intOf y).toNat)
          case atStart => exact ⟨0, Nat.zero_le _, by simp, rfl, rfl, Below.refl _ _⟩
          case round =>
            obtain ⟨i, hin, rfl, HPN, HPV, HB⟩ := hrel
            have HBB : Hid (Below w.heap.size w wr) := bel_next HB2.out (bel_next HB5.out HB.out)
            obtain ⟨y0, y1, y2, y3, y4, y5, y6⟩ := HX5.out.below HB.out
            obtain ⟨n0, n1, n2, n3, n4, n5, n6⟩ := HM5.out.below HB.out
            clear n0 n1 n2 n3 n4 n5
            by_cases hlt : i < nn
            · obtain ⟨gm, om, q, rfl, hq, hqr, l0, l1⟩ := H.out.ns.at hlt
              obtain ⟨hm1, hm2⟩ := HNM.out i q hq
              obtain ⟨hv1, hv2⟩ := HNV.out i q hq
              have HNO1 : Hid ((nameB q.1 && !(T.ns.take i).any (fun t => t.1.toList == q.1.toList)) = false → X = 0) := fun h => by
                rw [HE1.out, if_neg]
                rw [namesTo_no (i := i + 1) (by rw [namesTo_succ hm1, hm2, h, Bool.and_false]) _ (by omega)]
                simp
              have HSU1 : Hid ((nameB q.1 && !(T.ns.take i).any (fun t => t.1.toList == q.1.toList)) = true → namesTo NS (i + 1) = true) := fun h => by rw [namesTo_succ hm1, HPN.out, hm2, h]; rfl
              have HNO2 : Hid ((!(T.ns.take i).any (fun t => t.2 == q.2) && fitV z2' z3 q.2) = false → X = 0) := fun h => by
                rw [HE1.out, if_neg]
                rw [valsTo_no (i := i + 1) (by rw [valsTo_succ hv1, hv2, h, Bool.and_false]) _ (by omega)]
                simp
              have HSU2 : Hid ((!(T.ns.take i).any (fun t => t.2 == q.2) && fitV z2' z3 q.2) = true → valsTo z2' z3 NV (i + 1) = true) := fun h => by rw [valsTo_succ hv1, HPV.out, hv2, h]; rfl
              have K : ∀ {p : Addr} {x : Value}, w.cell? p = some x → wr.cell? p = some x := fun h => (HBB.out.cell (World.block_lt_of_cell? w _ h)).trans h
              replace l0 := K l0
              replace l1 := K l1
              clear K hq hm1 hm2 hv1 hv2
              obtain ⟨w8, hw8, hb8, hs8, h8⟩ := mc_made wr q.1 q.2
              have HB8 : Hid (Below w5.heap.size w5 w8) := bel_next HB.out hb8
              have HBB8 : Hid (Below w.heap.size w w8) := bel_next HBB.out hb8
              have HC2 : Hid (∀ w', Below w8.heap.size w8 w' → MC w' wr.heap.size q.1 q.2 ∧ Bx w' w.heap.size c 0 false (.slice fa 0 fc) (.slice da 0 dc) (.slice (some ⟨g, o, none⟩) 1 bc) (.slice (some ⟨gm, om, none⟩) nn nc)) := fun w' hb => ⟨h8.below hb, HM5.out.below (bel_next HB8.out hb)⟩
              have HNC : Hid (∀ w', Calls Try.prog 80 #[.string q.1] w' fun e w1 => e = .returned (.bool (nameB q.1)) ∧ w1 = w') := fun w' => refName_any q.1 w'
              have HF2 : Hid (∀ w', Calls Try.prog 81 #[.int .i64 q.2, .agg #[.int .i64 z2', .int .i64 z3, .bool z4, .slice ga gn gc, .slice xa xn xc, .slice ya yn yc, .slice za zn zc]] w' fun e w2 => e = .returned (.bool (fitV z2' z3 q.2)) ∧ Below w'.heap.size w' w2) := fun w' => HFI.out q.2 w' hqr
              have HX8 := HX5.out.below HB8.out
              obtain ⟨y0, y1, y2, y3, y4, y5, y6⟩ := HX8
              have n6' := (HM5.out.below HB8.out).c6
              obtain ⟨m0, m1⟩ := h8
              obtain ⟨b1, hb1'⟩ : ∃ b, nameB q.1 = b := ⟨_, rfl⟩
              obtain ⟨b2, hb2'⟩ : ∃ b, fitV z2' z3 q.2 = b := ⟨_, rfl⟩
              rw [hb1'] at HNC HNO1 HSU1
              rw [hb2'] at HF2 HNO2 HSU2
              clear hb1' hb2' hb8 hs8 hqr
              generalize q.1 = u0 at *
              generalize q.2 = u1 at *
              cases b1 with
              | false =>
                have HE : Hid (X = 0) := HNO1.out rfl
                clear HNO1 HNO2 HSU1 HSU2
                go_wp2_with (go_at_call 80; refine (HNC.out _).mono ?_; rintro e' w7 ⟨rfl, hw7⟩; obtain rfl := hw7.symm)
                go_ret
                exact ⟨by rw [HE.out]; rfl, HBB8.out⟩
              | true =>
                cases b2 with
                | false =>
                  have HE : Hid (X = 0) := HNO2.out (by simp)
                  clear HNO1 HNO2 HSU1 HSU2
                  go_wp2_with (first | (go_at_call 80; refine (HNC.out _).mono ?_; rintro e' w7 ⟨rfl, hw7⟩; obtain rfl := hw7.symm) | (go_at_call 81; refine Calls.mono (HF2.out _) ?_; rintro e wA ⟨rfl, hbA⟩; have HBA : Hid (Below w.heap.size w wA) := bel_next HBB8.out hbA; clear hbA))
                  go_ret
                  exact ⟨by rw [HE.out]; rfl, HBA.out⟩
                | true =>
                  go_wp2_with (first | (go_at_call 80; refine (HNC.out _).mono ?_; rintro e' w7 ⟨rfl, hw7⟩; obtain rfl := hw7.symm) | (go_at_call 81; refine Calls.mono (HF2.out _) ?_; rintro e wA ⟨rfl, hbA⟩; have HBA : Hid (Below w8.heap.size w8 wA) := hbA; clear hbA))
                  clear y0 y1 y2 y3 y4 y5 y6 n6' m0 m1 l0 l1
                  go_loopw [8] (fun y wq => ∃ k : Nat, k ≤ i ∧ y = .int .i64 (k : Int) ∧ Hid ((T.ns.take k).any (fun t => t.1.toList == u0.toList) = false) ∧ Hid ((T.ns.take k).any (fun t => t.2 == u1) = false) ∧ Hid (Below wA.heap.size wA wq)) (fun y _ => i - (intOf y).toNat)
                  case atStart => exact ⟨0, Nat.zero_le _, by simp, by simp [Hid], by simp [Hid], Below.refl _ _⟩
                  case round =>
                    obtain ⟨k, hki, rfl, HAN, HAV, HBK⟩ := hrel
                    have HBk : Hid (Below w8.heap.size w8 wr) := bel_next HBA.out HBK.out
                    obtain ⟨⟨e0, e1⟩, ⟨p0, p1, p2, p3, p4, p5, p6⟩⟩ := HC2.out wr HBk.out
                    clear p0 p1 p2 p3 p4 p5
                    by_cases hlk : k < i
                    · have hlf : k < nn := by omega
                      obtain ⟨gp, op, p, hgo, hp, _, j0, j1⟩ := H.out.ns.at hlf
                      injection hgo with hgo
                      injection hgo with hg1 hg2 _
                      subst hg1 hg2
                      have j0' : wr.cell? ⟨gm, om + k * 2, none⟩ = some (.string p.1) := ((bel_next HBB8.out HBk.out).cell (World.block_lt_of_cell? w _ j0)).trans j0
                      have j1' : wr.cell? ⟨gm, om + k * 2 + 1, none⟩ = some (.int .i64 p.2) := ((bel_next HBB8.out HBk.out).cell (World.block_lt_of_cell? w _ j1)).trans j1
                      obtain ⟨b1, hb1⟩ : ∃ b, (p.1.toList == u0.toList) = b := ⟨_, rfl⟩
                      have HAN2 : Hid ((T.ns.take (k + 1)).any (fun t => t.1.toList == u0.toList) = b1) := by rw [Hid, List.take_add_one, hp, List.any_append, HAN.out]; simp [hb1]
                      have HAV2 : Hid ((T.ns.take (k + 1)).any (fun t => t.2 == u1) = (p.2 == u1)) := by rw [Hid, List.take_add_one, hp, List.any_append, HAV.out]; simp
                      have HAB1 : Hid (b1 = true → (T.ns.take i).any (fun t => t.1.toList == u0.toList) = true) := fun h => by
                        rw [h] at hb1
                        refine List.any_eq_true.2 ⟨p, ?_, hb1⟩
                        exact List.mem_of_getElem? (i := k) (by rw [List.getElem?_take_of_lt hlk]; exact hp)
                      have HAB2 : Hid (p.2 = u1 → (T.ns.take i).any (fun t => t.2 == u1) = true) := fun h => by
                        refine List.any_eq_true.2 ⟨p, ?_, by simp [h]⟩
                        exact List.mem_of_getElem? (i := k) (by rw [List.getElem?_take_of_lt hlk]; exact hp)
                      clear j0 j1 hp
                      generalize p.1 = pn at *
                      generalize p.2 = pv at *
                      cases b1 with
                      | true =>
                        have HE : Hid (X = 0) := HNO1.out (by rw [HAB1.out rfl]; rfl)
                        clear HNO1 HNO2 HSU1 HSU2
                        go_wp2_with fail
                        go_quiet (fail)
                        go_wp2_with fail
                        go_ret
                        exact ⟨by rw [HE.out]; rfl, below_dN (bel_next HBB8.out HBk.out) _⟩
                      | false =>
                        by_cases hv : pv = u1
                        · have HE : Hid (X = 0) := HNO2.out (by rw [HAB2.out hv]; rfl)
                          clear HNO1 HNO2 HSU1 HSU2
                          go_wp2_with fail
                          go_quiet (fail)
                          go_wp2_with fail
                          go_ret
                          exact ⟨by rw [HE.out]; rfl, below_dN (bel_next HBB8.out HBk.out) _⟩
                        · have HAV3 : Hid ((T.ns.take (k + 1)).any (fun t => t.2 == u1) = false) := by rw [Hid, HAV2.out]; exact beq_eq_false_iff_ne.2 hv
                          go_wp2_with fail
                          go_quiet (fail)
                          go_wp2_with fail
                          go_roundw
                          case rel => exact ⟨k + 1, hlk, by go_num, HAN2.out, HAV3.out, below_dN HBK.out _⟩
                          case measure => simp [intOf]; omega
                    · obtain rfl : k = i := by omega
                      have HS1 : Hid (namesTo NS (k + 1) = true) := HSU1.out (by rw [HAN.out]; rfl)
                      have HS2 : Hid (valsTo z2' z3 NV (k + 1) = true) := HSU2.out (by rw [HAV.out]; rfl)
                      clear HNO1 HNO2 HSU1 HSU2
                      go_wp2_with fail
                      go_roundw
                      case rel => exact ⟨k + 1, by omega, by go_num, HS1.out, HS2.out, bel_next HB8.out HBk.out⟩
                      case measure => simp [intOf]; omega
            · obtain rfl : i = nn := by omega
              have HE : Hid (X = z3) := by rw [Hid, HE1.out, if_pos ⟨HPN.out, HPV.out⟩]
              go_wp2_with fail
              go_ret
              exact ⟨by rw [HE.out]; rfl, HBB.out⟩
    · have HE : Hid (X = 0) := by rw [Hid, ← HA.out, if_neg (fun h => hcl h.2.2.1)]
      have q2 : (z2' != 1) = true := bne_iff_ne.2 (fun h => hcl (.inl h))
      have q3 : (z2' != 2) = true := bne_iff_ne.2 (fun h => hcl (.inr h))
      clear HSZ HA hcl
      go_enter Try.func60, Try.ntmps60
      go_wp2_with fail
      go_ret
      exact ⟨by rw [HE.out]; rfl, HB2.out⟩
  · have HE : Hid (X = 0) := by
      rw [Hid, ← HX.out]
      by_cases h1 : wd = 0 ∧ b = false ∧ fn = 0 ∧ dn = 0
      · rw [if_pos h1]
        by_cases h2 : bn = 1
        · obtain ⟨t, ht⟩ := one_of (HBN.out.trans h2)
          rw [ht, enSz_one, if_neg]
          rintro ⟨h3, h4, h5, h6⟩
          rw [namesB, List.length_map, HNN.out, Bool.and_eq_true, decide_eq_true_iff] at h3
          refine hok ⟨h1.2.1, h1.1, by omega, h2, h3.1.1, h3.1.2, ?_⟩
          refine Decidable.byContradiction fun h7 => h4 ?_
          exact sz_deep (by omega)
        · exact enSz_no _ _ _ (by rw [HBN.out]; exact h2)
      · rw [if_neg h1]
    have hok' : b = true ∨ (b = false ∧ ((wd != 0) = true)) ∨ (b = false ∧ ((wd != 0) = false) ∧ 0 < (k : Int)) ∨ (b = false ∧ ((wd != 0) = false) ∧ ¬ 0 < (k : Int) ∧ ¬ (bn : Int) = 1) ∨ (b = false ∧ ((wd != 0) = false) ∧ ¬ 0 < (k : Int) ∧ bn = 1 ∧ (nn : Int) < 1) ∨ (b = false ∧ ((wd != 0) = false) ∧ ¬ 0 < (k : Int) ∧ bn = 1 ∧ ¬ (nn : Int) < 1 ∧ 16 < (nn : Int)) ∨ (b = false ∧ ((wd != 0) = false) ∧ ¬ 0 < (k : Int) ∧ bn = 1 ∧ ¬ (nn : Int) < 1 ∧ ¬ 16 < (nn : Int) ∧ D < 2) := by
      cases b with
      | true => exact .inl rfl
      | false =>
        right
        by_cases e1 : wd = 0
        · right
          have e1' : (wd != 0) = false := by rw [e1]; rfl
          by_cases e2 : k = 0
          · right
            by_cases e3 : bn = 1
            · right
              by_cases e4 : nn < 1
              · exact .inl ⟨rfl, e1', by omega, e3, by omega⟩
              · right
                by_cases e5 : 16 < nn
                · exact .inl ⟨rfl, e1', by omega, e3, by omega, by omega⟩
                · exact .inr ⟨rfl, e1', by omega, e3, by omega, by omega, by have : ¬ d ≤ 3 := fun h => hok ⟨rfl, e1, e2, e3, by omega, by omega, h⟩; omega⟩
            · exact .inl ⟨rfl, e1', by omega, by omega⟩
          · exact .inl ⟨rfl, e1', by omega⟩
        · exact .inl ⟨rfl, bne_iff_ne.2 e1⟩
    clear hok HX hD hd4
    rcases hok' with rfl | ⟨rfl, t1⟩ | ⟨rfl, t1, t2⟩ | ⟨rfl, t1, t2, t3⟩ | ⟨rfl, t1, t2, rfl, t4⟩ | ⟨rfl, t1, t2, rfl, t4, t5⟩ | ⟨rfl, t1, t2, rfl, t4, t5, t6⟩
    all_goals
      go_enter Try.func60, Try.ntmps60
      go_wp2_with fail
      go_ret
      exact ⟨by rw [HE.out]; rfl, HB1.out⟩
end Go.Proofs.Ytojcokdfplldbaa
