/-
  The program's Places: the closure at arrays and enums, and at whatever type; and Places itself. Conditions: the type lies in memory.
-/
import Derived.Test.YtojcokdfplldbaaDPlR
namespace Go.Proofs.Ytojcokdfplldbaa
open Go.RowKit Go.Shelf
set_option linter.unusedVariables false
set_option maxRecDepth 100000

set_option maxHeartbeats 16000000 in
theorem walkPl_arr {w0 : World} {pw pp B n : Nat} (hpw : pw < B) (hne : pw ≠ pp) (h0 : w0.heap.size ≤ pp) (ih : WalkPl w0 pw pp B n) (T : Ty (n + 1)) (t : Ty n) (V : TV) (p : Int) (d k : Nat) (v : Value) (L : List Pl) (w : World) (h : TR (n + 1) w0 V T) (hb0 : Below w0.heap.size w0 w) (hB : B ≤ w.heap.size) (hW : PlC w pw pp) (hs : PS w pp B v L) (hd1 : 1 ≤ d) (hL : (L.length : Int) ≤ p) (hc : TyN.c T = 6 ∨ TyN.c T = 7) (ht : TyN.bs T = [t]) (hp : 0 ≤ p ∧ p + (k : Int) * sz n t 1 ≤ 256) (hs0 : sz n t 1 ≠ 0) (hsd : sz n t (d + 1) = sz n t 1) (hk : sz (n + 1) T 1 = (k : Int) * sz n t 1) :
    Calls Try.prog 32 #[tyV (hd T) V, .int .i64 p, .pointer (some ⟨pw, 0, none⟩), .pointer (some ⟨pp, 0, none⟩)] w (PlP w pp B v (L ++ plF (n + 1) T p)) := by
  have eg : ∀ args w, (callFunc 32 args).run Try.prog w = .ok (.enter 32 args) w := enters_of Try.func32 (by kernel_rfl) rfl
  have H : Hid (TRN (TR n) hd w0 V T) := h
  obtain ⟨fa, fn, fc, da, dn, dc, ba, bn, bc, na, nn, nc, rfl, -, -, ⟨b1, b2, b3⟩, -⟩ := H.out.open
  obtain rfl : 1 = bn := by rw [← b1, ht]; rfl
  obtain ⟨s, hss⟩ : ∃ s, sz n t 1 = s := ⟨_, rfl⟩
  have HPF : Hid (plF (n + 1) T p = (List.range k).flatMap (fun (i : Nat) => plF n t (p + (i : Int) * s))) := by
    rw [Hid, plF, if_neg (by omega), if_neg (by omega), if_pos hc, ht]
    simp only []
    rw [hk, Int.mul_ediv_cancel _ hs0, hss, Int.toNat_natCast]
  rw [hss] at hs0 hsd hp hk
  have hrg := sz_rng n t 1
  rw [hss] at hrg
  obtain ⟨S, hSS⟩ : ∃ S, sz (n + 1) T 1 = S := ⟨_, rfl⟩
  have HB0 : Hid (Below w0.heap.size w0 w) := hb0
  have HC1 : Hid (∀ w', Below w0.heap.size w0 w' → Calls Try.prog 30 #[.agg #[.int .i64 (TyN.c T), .int .i64 (TyN.w T), .bool (TyN.b T), .slice fa fn fc, .slice da dn dc, .slice ba 1 bc, .slice na nn nc]] w' fun e w2 => e = .returned (.int .i64 S) ∧ Below w'.heap.size w' w2) := fun w' hb => by
    rw [← hSS]; exact sizeOf_any (n + 1) T ⟨.slice fa fn fc, .slice da dn dc, .slice ba 1 bc, .slice na nn nc⟩ w' (TR.below (n := n + 1) H.out hb)
  rw [hSS] at hk
  obtain ⟨g, o, U, q, rfl, hq, hu, k0, k1, k2, k3, k4, k5, k6⟩ := H.out.bs.at (show 0 < 1 by omega)
  rw [ht] at hq
  obtain rfl : t = q := by simpa using hq
  simp only [Nat.zero_mul, Nat.add_zero] at k0 k1 k2 k3 k4 k5 k6
  obtain ⟨ga, gn, gc, xa, xn, xc, ya, yn, yc, za, zn, zc, rfl⟩ := hu.sl
  simp only [] at k3 k4 k5 k6
  have HC2 : Hid (∀ w', Below w0.heap.size w0 w' → Calls Try.prog 30 #[.agg #[.int .i64 (hd t).1, .int .i64 (hd t).2.1, .bool (hd t).2.2, .slice ga gn gc, .slice xa xn xc, .slice ya yn yc, .slice za zn zc]] w' fun e w2 => e = .returned (.int .i64 s) ∧ Below w'.heap.size w' w2) := fun w' hb => by
    rw [← hss]; exact sizeOf_any n t ⟨.slice ga gn gc, .slice xa xn xc, .slice ya yn yc, .slice za zn zc⟩ w' (hu.below hb)
  have HIH : Hid (∀ (i : Nat) (vi : Value) (Li : List Pl) (w' : World), i < k → Below w0.heap.size w0 w' → B ≤ w'.heap.size → PlC w' pw pp → PS w' pp B vi Li → (Li.length : Int) ≤ p + (i : Int) * s → 0 ≤ (i : Int) * s ∧ p + (i : Int) * s + s ≤ 256 → Calls Try.prog 32 #[.agg #[.int .i64 (hd t).1, .int .i64 (hd t).2.1, .bool (hd t).2.2, .slice ga gn gc, .slice xa xn xc, .slice ya yn yc, .slice za zn zc], .int .i64 (p + (i : Int) * s), .pointer (some ⟨pw, 0, none⟩), .pointer (some ⟨pp, 0, none⟩)] w' (PlP w' pp B vi (Li ++ plF n t (p + (i : Int) * s)))) := fun i vi Li w' hi hb hB hW hS hL hr =>
    ih t ⟨.slice ga gn gc, .slice xa xn xc, .slice ya yn yc, .slice za zn zc⟩ (p + (i : Int) * s) (d + 1) vi Li w' hu hb hB hW hS (by omega) (by rw [hsd]; exact hs0) (by omega) (by rw [hsd]; exact hr.2) hL
  have HLN : Hid (∀ i : Nat, ((plF n t (p + (i : Int) * s)).length : Int) ≤ s) := fun i => by
    have := ord_len (plF_ord n t (d + 1) (p + (i : Int) * s) (by omega) (by rw [hsd]; exact hs0)).1
    rw [hsd] at this
    omega
  have HK : Hid (∀ w', Below w0.heap.size w0 w' → w'.cell? ⟨g, o, none⟩ = some (.int .i64 (hd t).1) ∧ w'.cell? ⟨g, o + 1, none⟩ = some (.int .i64 (hd t).2.1) ∧ w'.cell? ⟨g, o + 2, none⟩ = some (.bool (hd t).2.2) ∧ w'.cell? ⟨g, o + 3, none⟩ = some (.slice ga gn gc) ∧ w'.cell? ⟨g, o + 4, none⟩ = some (.slice xa xn xc) ∧ w'.cell? ⟨g, o + 5, none⟩ = some (.slice ya yn yc) ∧ w'.cell? ⟨g, o + 6, none⟩ = some (.slice za zn zc)) := fun w' hb => by
    have K : ∀ {p : Addr} {x : Value}, w0.cell? p = some x → w'.cell? p = some x := fun h => (hb.cell (World.block_lt_of_cell? w0 _ h)).trans h
    exact ⟨K k0, K k1, K k2, K k3, K k4, K k5, K k6⟩
  have HND : Hid (pw < B ∧ pw ≠ pp ∧ w0.heap.size ≤ pp ∧ 1 ≤ d) := ⟨hpw, hne, h0, hd1⟩
  have hquo : S.tdiv s = (k : Int) := quo_k hk hs0
  have HKS : Hid (S = (k : Int) * s ∧ p + (k : Int) * s ≤ 256 ∧ 0 ≤ p) := ⟨hk, hp.2, hp.1⟩
  have hk256 : k ≤ 256 := by
    have h1 : (1 : Int) ≤ s := by omega
    have h2 : (k : Int) * 1 ≤ (k : Int) * s := Int.mul_le_mul_of_nonneg_left h1 (by omega)
    omega
  have hs1' : 1 ≤ s := by omega
  have hs2' : s ≤ 256 := hrg.2
  show Calls _ _ #[.agg #[.int .i64 (TyN.c T), .int .i64 (TyN.w T), .bool (TyN.b T), _, _, _, _], _, _, _] _ _
  obtain ⟨c, hcc⟩ : ∃ c, TyN.c T = c := ⟨_, rfl⟩
  obtain ⟨wd, hwd⟩ : ∃ c, TyN.w T = c := ⟨_, rfl⟩
  obtain ⟨b, hb⟩ : ∃ c, TyN.b T = c := ⟨_, rfl⟩
  rw [hcc, hwd, hb] at HC1
  rw [hcc] at hc
  rw [hcc, hwd, hb]
  obtain ⟨hp1, hp2⟩ := hp
  clear h hcc hwd hb ih hb0 b1 hpw hne h0 hd1 hSS hss hsd hq hu k0 k1 k2 k3 k4 k5 k6 ht hrg hk hp2
  generalize (hd t).1 = z2' at *
  generalize (hd t).2.1 = z3 at *
  generalize (hd t).2.2 = z4 at *
  obtain ⟨w1, hw1, hb1, hs1, hx1⟩ := bx_made w c wd b (.slice fa fn fc) (.slice da dn dc) (.slice (some ⟨g, o, none⟩) 1 bc) (.slice na nn nc)
  have HB1 : Hid (Below w.heap.size w w1) := hb1
  have HX1 : Hid (Bx w1 w.heap.size c wd b (.slice fa fn fc) (.slice da dn dc) (.slice (some ⟨g, o, none⟩) 1 bc) (.slice na nn nc)) := hx1
  have HS1 : Hid (PS w1 pp B v L) := hs.below hb1
  have HW1 : Hid (PlC w1 pw pp) := hW.below hb1
  have HV : Hid (∀ g, v.ownBlock = some g → g ≠ w.heap.size) := fun g hg => by have := (hs.lts g hg).2; omega
  have HPP : Hid (w.heap.size ≠ pp) := by have : pp < w.heap.size := World.block_lt_of_cell? w _ hs.cell; rw [Hid]; omega
  have HBS : Hid (B ≤ w1.heap.size ∧ Below w0.heap.size w0 w1 ∧ w.heap.size < w1.heap.size) := ⟨Nat.le_trans hB hb1.size, HB0.out.trans (hb1.mono HB0.out.size), by omega⟩
  obtain ⟨c0, c1, c2, c3, c4, c5, c6⟩ := hx1
  have c0' := c0
  obtain ⟨j0, j1, j2, j3, j4, j5, j6⟩ := HK.out w1 HBS.out.2.1
  replace c0 := cell_regrown c0
  replace c1 := cell_regrown c1
  replace c2 := cell_regrown c2
  replace c3 := cell_regrown c3
  replace c4 := cell_regrown c4
  replace c5 := cell_regrown c5
  replace c6 := cell_regrown c6
  replace j0 := cell_regrown j0
  replace j1 := cell_regrown j1
  replace j2 := cell_regrown j2
  replace j3 := cell_regrown j3
  replace j4 := cell_regrown j4
  replace j5 := cell_regrown j5
  replace j6 := cell_regrown j6
  have HC1' : Hid (∀ d os, Calls Try.prog 30 #[.agg #[.int .i64 c, .int .i64 wd, .bool b, .slice fa fn fc, .slice da dn dc, .slice (some ⟨g, o, none⟩) 1 bc, .slice na nn nc]] (Sort.grow (redrawn w1 d) os) fun e w2 => e = .returned (.int .i64 S) ∧ Below (Sort.grow (redrawn w1 d) os).heap.size (Sort.grow (redrawn w1 d) os) w2) := fun d os => HC1.out _ (HBS.out.2.1.trans ((below_regrown w1 d os).mono HBS.out.2.1.size))
  have HC2' : Hid (∀ d os, Calls Try.prog 30 #[.agg #[.int .i64 z2', .int .i64 z3, .bool z4, .slice ga gn gc, .slice xa xn xc, .slice ya yn yc, .slice za zn zc]] (Sort.grow (redrawn w1 d) os) fun e w2 => e = .returned (.int .i64 s) ∧ Below (Sort.grow (redrawn w1 d) os).heap.size (Sort.grow (redrawn w1 d) os) w2) := fun d os => HC2.out _ (HBS.out.2.1.trans ((below_regrown w1 d os).mono HBS.out.2.1.size))
  clear hb1 hs1 hs hW hB
  rcases hc with rfl | rfl
  all_goals
    go_enter Try.func32, Try.ntmps32
    go_upto_region 18 with fail
    refine wp_region_quiet_below (by kernel_rfl) (by kernel_rfl) ?_
    repeat (go_big_quiet_step ((go_at_call 30; first | exact Calls.regrown_of (HC1'.out _ _) | exact Calls.regrown_of (HC2'.out _ _))))
    refine wpQuiet_nil ?_
    intro w4 hw4
    have HB4 : Hid (Below w1.heap.size w1 w4) := by obtain ⟨p, e⟩ := hw4; rw [e]; exact below_regrown w1 p.d p.os
    clear hw4 c0 c1 c2 c3 c4 c5 c6 j0 j1 j2 j3 j4 j5 j6 c0'
    go_wp2_with fail
    go_loopw [70] (fun y wr => ∃ (i : Nat) (vi : Value) (Li : List Pl), i ≤ k ∧ y = .int .i64 (i : Int) ∧ Hid (Li = L ++ (List.range i).flatMap (fun (i : Nat) => plF n t (p + (i : Int) * s))) ∧ Hid ((Li.length : Int) ≤ p + (i : Int) * s) ∧ Hid (PS wr pp B vi Li) ∧ Hid (Mv w1 wr pp v vi)) (fun y _ => k - (intOf y).toNat)
    case atStart => exact ⟨0, v, L, Nat.zero_le _, by simp, by simp [Hid], by rw [Hid]; simp; exact hL, HS1.out.below HB4.out, Mv.of HB4.out⟩
    case round =>
      obtain ⟨i, vi, Li, hin, rfl, HLi, HLe, HSi, HMi⟩ := hrel
      have HB0r : Hid (Below w0.heap.size w0 wr) := HMi.out.below0 HS1.out HBS.out.2.1 HND.out.2.2.1
      by_cases hlt : i < k
      · have his : ∃ x, (i : Int) * s = x := ⟨_, rfl⟩
        obtain ⟨is', his⟩ := his
        have hi0 : 0 ≤ (i : Int) * s := Int.mul_nonneg (by omega) (by omega)
        have hi1 : (i : Int) * s + s ≤ (k : Int) * s := by
          have h1 : ((i : Int) + 1) * s ≤ (k : Int) * s := Int.mul_le_mul_of_nonneg_right (by omega) (by omega)
          rw [Int.add_mul] at h1
          omega
        have HCL : Hid (∀ w', Below w0.heap.size w0 w' → B ≤ w'.heap.size → PlC w' pw pp → PS w' pp B vi Li → Calls Try.prog 32 #[.agg #[.int .i64 z2', .int .i64 z3, .bool z4, .slice ga gn gc, .slice xa xn xc, .slice ya yn yc, .slice za zn zc], .int .i64 (p + is'), .pointer (some ⟨pw, 0, none⟩), .pointer (some ⟨pp, 0, none⟩)] w' (PlP w' pp B vi (Li ++ plF n t (p + is')))) := fun w' a1 a2 a3 a4 => by
          rw [← his]; exact HIH.out i vi Li w' hlt a1 a2 a3 a4 HLe.out ⟨hi0, by have := HKS.out.2.1; omega⟩
        have HTK : Hid (Li ++ plF n t (p + is') = L ++ (List.range (i + 1)).flatMap (fun (i : Nat) => plF n t (p + (i : Int) * s))) := by
          rw [Hid, HLi.out, List.range_succ, List.flatMap_append, ← his]
          simp
        have HLL : Hid (((Li ++ plF n t (p + is')).length : Int) ≤ p + ((i + 1 : Nat) : Int) * s) := by
          have h1 := HLN.out i
          rw [his] at h1
          rw [Hid, List.length_append, Int.natCast_add (i) 1, Int.add_mul]
          have := HLe.out
          simp
          omega
        have hb256 : p + is' + s ≤ 256 := by have := HKS.out.2.1; omega
        rw [his] at hi0 hi1
        have hwm : IntKind.i64.wrap ((i : Int) * s) = is' := by rw [his]; exact wrap_i64_inD _ (by omega) (by omega)
        have hwr : IntKind.i64.wrap (p + is') = p + is' := wrap_i64_inD _ (by omega) (by omega)
        have hbx := HX1.out.mv (L := L) (B := B) HMi.out HPP.out HV.out
        have k5 := hbx.c5
        obtain ⟨j0, j1, j2, j3, j4, j5, j6⟩ := HK.out wr HB0r.out
        have hW2 : PlC wr pw pp := HW1.out.mv HMi.out HS1.out HND.out.2.1 HND.out.1
        have kw : wr.cell? ⟨pw, 0, none⟩ = some (.func (.func 32) #[] #[.pointer (some ⟨pw, 0, none⟩), .pointer (some ⟨pp, 0, none⟩)]) := hW2
        have HW2 : Hid (PlC wr pw pp) := hW2
        clear his hbx hW2
        generalize plF n t (p + is') = PQ at *
        go_upto_region 22 with fail
        refine wp_region_quiet_tail (C := fun w' => ∃ n, w' = wr.drewN n) 10 (by kernel_rfl) (by kernel_rfl) ⟨1, rfl⟩ ?_
        simp only [List.take_succ_cons, List.take_zero, List.drop_succ_cons, List.drop_zero]
        repeat (go_big_quiet_step (fail))
        refine wpQuiet_nil ?_
        intro w5 hw5
        have HB5 : Hid (Below wr.heap.size wr w5) := by obtain ⟨n2, hw5⟩ := hw5; rw [hw5]; exact below_dN (Below.refl _ _) n2
        clear hw5 j0 j1 j2 j3 j4 j5 j6 k5 kw
        go_wp2_with (go_at_call 32; refine Calls.mono (HCL.out _ (bel_next HB0r.out HB5.out) (Nat.le_trans HBS.out.1 (Nat.le_trans HMi.out.kp.size HB5.out.size)) (HW2.out.below HB5.out) (HSi.out.below HB5.out)) ?_; rintro e' w6 ⟨rfl, v6, hs6, hm6⟩; have HS6 : Hid _ := hs6; have HM6 : Hid (Mv w1 w6 pp v v6) := (HMi.out.trans (Mv.of HB5.out)).trans hm6; clear hs6 hm6)
        go_roundw
        case rel => exact ⟨i + 1, v6, _, by omega, by go_num, HTK.out, HLL.out, HS6.out, HM6.out⟩
        case measure => simp [intOf]; omega
      · obtain rfl : i = k := by omega
        have HE : Hid (Li = L ++ plF (n + 1) T p) := by rw [Hid, HLi.out, HPF.out]
        go_wp2_with fail
        go_end0
        exact ⟨rfl, _, by rw [← HE.out]; exact HSi.out, (Mv.of HB1.out).trans HMi.out⟩
/-- The closure at whatever type. -/
theorem walkPl_any (w0 : World) (pw pp B : Nat) (hpw : pw < B) (hne : pw ≠ pp) (h0 : w0.heap.size ≤ pp) : ∀ n, WalkPl w0 pw pp B n
  | 0 => fun T V p d v L w h => h.elim
  | n + 1 => fun T V p d v L w h hb0 hB hW hs hd1 hsz hp1 hp2 hL => by
    have ih := walkPl_any w0 pw pp B hpw hne h0 n
    rcases sz_open hsz with ⟨h5, hw, hnm, hs5, e, he⟩ | ⟨h67, t, ht, hst, k, hk, hsk⟩ | ⟨hc, hw1, hw2, hsc⟩ | ⟨hc, hw1, hw2, hsc⟩
    · exact walkPl_cmp hpw hne h0 ih T V p d v L w h hb0 hB hW hs hd1 hL h5 ⟨hp1, by rw [hs5] at hp2; exact hp2⟩ hw e he
    · obtain ⟨h1, h2, h3⟩ := sz_count hsz hst hd1 hsk
      exact walkPl_arr hpw hne h0 ih T t V p d k v L w h hb0 hB hW hs hd1 hL h67 ht ⟨hp1, by rw [hsk, ← h2] at hp2; exact hp2⟩ (by rw [h2]; exact hst) h2.symm (by rw [h3, hsk, h2])
    · exact walkPl_num T V p v L w h hB hs (by omega) hc
    · exact walkPl_cpx hpw hne T V p v L w h hB hW hs (by omega) hc ⟨hp1, by omega⟩ ⟨hw1, hw2⟩
end Go.Proofs.Ytojcokdfplldbaa
