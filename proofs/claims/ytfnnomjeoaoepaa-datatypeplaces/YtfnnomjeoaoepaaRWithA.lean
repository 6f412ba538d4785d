/-
  The document's within, at arrays and enums, and at whatever type. Conditions: what is told of the parts has a contract.
-/
import Derived.Test.YtfnnomjeoaoepaaRWithC
namespace Go.Proofs.Ytfnnomjeoaoepaa
open Go.RowKit Go.Shelf
set_option linter.unusedVariables false
set_option maxRecDepth 100000

set_option maxHeartbeats 32000000 in
theorem with_arr {w0 : World} {n : Nat} (ih : WithR w0 n) (T : Ty (n + 1)) (t : Ty n) (V : TV) (p : Int) (d k : Nat) (S s : Int) (w : World) (h : TR (n + 1) w0 V T) (hb0 : Below w0.heap.size w0 w) (hd1 : 1 ≤ d) (hc : TyN.c T = 6) (ht : TyN.bs T = [t]) (hs0 : s ≠ 0) (hs1 : sz n t 1 = s) (hsd : sz n t (d + 1) = s) (hS : dimF s (TyN.ds T) = S) (hS0 : S ≠ 0) (hST : sz (n + 1) T 1 = S) (hk : S = (k : Int) * s) (hp : 0 ≤ p ∧ p + S ≤ 256) :
    Calls Try.prog 28 #[tyV (hd T) V, .int .i64 p] w (WtP w (plF (n + 1) T p)) := by
  obtain ⟨i0, hi, hz, hsz, hby⟩ := Try.infoRp
  have H : Hid (TRN (TR n) hd w0 V T) := h
  obtain ⟨fa, fn, fc, da, dn, dc, ba, bn, bc, na, nn, nc, rfl, -, ⟨d1, d2, d3⟩, ⟨b1, b2, b3⟩, -⟩ := H.out.open
  obtain rfl : 1 = bn := by rw [← b1, ht]; rfl
  have HDN : Hid ((TyN.ds T).length = dn) := d1
  have hrg := sz_rng n t 1
  rw [hs1] at hrg
  obtain ⟨hr1, hr2⟩ := hrg
  have hs1' : 1 ≤ s := by omega
  have HPF : Hid (plF (n + 1) T p = (List.range k).flatMap (fun (i : Nat) => plF n t (p + (i : Int) * s))) := by
    rw [Hid, plF, if_neg (by omega), if_neg (by omega), if_pos (.inl hc), ht]
    simp only []
    rw [hST, hs1, hk, Int.mul_ediv_cancel _ hs0, Int.toNat_natCast]
  obtain ⟨g, o, U, q, rfl, hq, hu, k0, k1, k2, k3, k4, k5, k6⟩ := H.out.bs.at (show 0 < 1 by omega)
  rw [ht] at hq
  obtain rfl : t = q := by simpa using hq
  simp only [Nat.zero_mul, Nat.add_zero] at k0 k1 k2 k3 k4 k5 k6
  obtain ⟨ga, gn, gk, xa, xn, xc, ya, yn, yc, za, zn, zc, rfl⟩ := hu.sl
  simp only [] at k3 k4 k5 k6
  have HSD : Hid (∀ w', Below w0.heap.size w0 w' → Calls Try.prog 26 #[.agg #[.int .i64 (hd t).1, .int .i64 (hd t).2.1, .bool (hd t).2.2, .slice ga gn gk, .slice xa xn xc, .slice ya yn yc, .slice za zn zc], .int .i64 4] w' fun e w2 => e = .returned (.int .i64 s) ∧ Below w'.heap.size w' w2) := fun w' hb => by
    rw [← hs1]; exact refSized_any n 1 (by omega) t ⟨.slice ga gn gk, .slice xa xn xc, .slice ya yn yc, .slice za zn zc⟩ w' (hu.below hb)
  have HCL : Hid (∀ (i : Nat) (w' : World), i < k → Below w0.heap.size w0 w' → 0 ≤ (i : Int) * s ∧ p + (i : Int) * s + s ≤ 256 → Calls Try.prog 28 #[.agg #[.int .i64 (hd t).1, .int .i64 (hd t).2.1, .bool (hd t).2.2, .slice ga gn gk, .slice xa xn xc, .slice ya yn yc, .slice za zn zc], .int .i64 (p + (i : Int) * s)] w' (WtP w' (plF n t (p + (i : Int) * s)))) := fun i w' hik hb hr =>
    ih t ⟨.slice ga gn gk, .slice xa xn xc, .slice ya yn yc, .slice za zn zc⟩ (p + (i : Int) * s) (d + 1) w' hu hb (by omega) (by rw [hsd]; exact hs0) (by omega) (by rw [hsd]; exact hr.2)
  have HOR : Hid (∀ i : Nat, ((plF n t (p + (i : Int) * s)).length : Int) ≤ s ∧ plF n t (p + (i : Int) * s) ≠ []) := fun i => by
    have h1 := plF_ord n t (d + 1) (p + (i : Int) * s) (by omega) (by rw [hsd]; exact hs0)
    have := ord_len h1.1
    rw [hsd] at this
    exact ⟨by omega, h1.2⟩
  have HB0 : Hid (Below w0.heap.size w0 w) := hb0
  have HKS : Hid (S = (k : Int) * s ∧ p + S ≤ 256 ∧ 0 ≤ p) := ⟨hk, hp.2, hp.1⟩
  have HDF : Hid (dimF s (TyN.ds T) = S) := hS
  have hSr : 0 ≤ S ∧ S ≤ 256 := by have := sz_rng (n + 1) T 1; omega
  obtain ⟨hS1, hS2⟩ := hSr
  obtain ⟨hp1, hp2⟩ := hp
  show Calls _ _ #[.agg #[.int .i64 (TyN.c T), .int .i64 (TyN.w T), .bool (TyN.b T), _, _, _, _], _] _ _
  rw [hc]
  obtain ⟨wd, hwd⟩ : ∃ c, TyN.w T = c := ⟨_, rfl⟩
  obtain ⟨b, hb⟩ : ∃ c, TyN.b T = c := ⟨_, rfl⟩
  rw [hwd, hb]
  obtain ⟨w1, hw1, hb1, hs1x, hx1⟩ := bx_made w 6 wd b (.slice fa fn fc) (.slice da dn dc) (.slice (some ⟨g, o, none⟩) 1 bc) (.slice na nn nc)
  have HB1 : Hid (Below w.heap.size w w1) := hb1
  have HX1 : Hid (Bx w1 w.heap.size 6 wd b (.slice fa fn fc) (.slice da dn dc) (.slice (some ⟨g, o, none⟩) 1 bc) (.slice na nn nc)) := hx1
  have HSZ : Hid (w1.heap.size = w.heap.size + 1) := hs1x
  have HSS : Hid (∀ wz, Below w1.heap.size w1 wz → wz.cell? ⟨w.heap.size, 5, none⟩ = some (.slice (some ⟨g, o, none⟩) 1 bc) ∧ wz.cell? ⟨g, o, none⟩ = some (.int .i64 (hd t).1) ∧ wz.cell? ⟨g, o + 1, none⟩ = some (.int .i64 (hd t).2.1) ∧ wz.cell? ⟨g, o + 2, none⟩ = some (.bool (hd t).2.2) ∧ wz.cell? ⟨g, o + 3, none⟩ = some (.slice ga gn gk) ∧ wz.cell? ⟨g, o + 4, none⟩ = some (.slice xa xn xc) ∧ wz.cell? ⟨g, o + 5, none⟩ = some (.slice ya yn yc) ∧ wz.cell? ⟨g, o + 6, none⟩ = some (.slice za zn zc)) := fun wz hb => by
    have hbz := bel_next HB0.out (bel_next HB1.out hb)
    have K : ∀ {p : Addr} {x : Value}, w0.cell? p = some x → wz.cell? p = some x := fun h => (hbz.cell (World.block_lt_of_cell? w0 _ h)).trans h
    exact ⟨(HX1.out.below hb).c5, K k0, K k1, K k2, K k3, K k4, K k5, K k6⟩
  obtain ⟨c0, c1, c2, c3, c4, c5, c6⟩ := hx1
  have HND : Hid (1 ≤ d ∧ s ≠ 0 ∧ S ≠ 0) := ⟨hd1, hs0, hS0⟩
  clear h hc hwd hb ih hb0 d1 hb1 hs1x hu hq ht hs1 hsd hS hST hk k0 k1 k2 k3 k4 k5 k6 b1 d2 b2 b3 hd1 hs0 hS0
  generalize (hd t).1 = z2' at *
  generalize (hd t).2.1 = z3 at *
  generalize (hd t).2.2 = z4 at *
  go_enter Try.func28, Try.ntmps28
  go_wp2_with fail
  clear c0 c1 c2 c3 c4 c5 c6
  go_loopw [7, 8] (fun x y wr => ∃ (i : Nat) (z : Int), i ≤ dn ∧ x = .int .i64 z ∧ y = .int .i64 (i : Int) ∧ 1 ≤ z ∧ z ≤ 256 ∧ Hid (z * s ≤ 256 ∧ dimF (z * s) ((TyN.ds T).drop i) = S) ∧ Hid (Below w1.heap.size w1 wr)) (fun _ y _ => dn - (intOf y).toNat)
  case atStart => exact ⟨0, 1, Nat.zero_le _, rfl, by simp, by omega, by omega, by rw [Hid, Int.one_mul, List.drop_zero]; exact ⟨hr2, HDF.out⟩, Below.refl _ _⟩
  case round =>
    obtain ⟨i, z, hin, rfl, rfl, hz1, hz2, HZ, HBi⟩ := hrel
    have HBw : Hid (Below w.heap.size w wr) := bel_next HB1.out HBi.out
    have HB0r : Hid (Below w0.heap.size w0 wr) := bel_next HB0.out HBw.out
    obtain ⟨c0, c1, c2, c3, c4, c5, c6⟩ := HX1.out.below HBi.out
    clear c0 c1 c2 c3 c6
    by_cases hlt : i < dn
    · obtain ⟨gd, od, dd, rfl, hd, hdr, kd⟩ := H.out.ds.at hlt
      have kd' : wr.cell? ⟨gd, od + i, none⟩ = some (.int .i64 dd) := (HB0r.out.cell (World.block_lt_of_cell? w0 _ kd)).trans kd
      have hst := dimF_step (s := z * s) hd
      rw [HZ.out.2] at hst
      have hcon : (1 ≤ dd ∧ dd ≤ 256) ∧ z * s * dd ≤ 256 := by
        refine Classical.not_not.1 (fun h => ?_)
        rw [if_neg h] at hst
        exact HND.out.2.2 hst
      rw [if_pos hcon] at hst
      obtain ⟨⟨hd3, hd4⟩, hd5⟩ := hcon
      have e1 : z * dd * s = z * s * dd := by rw [Int.mul_assoc, Int.mul_comm dd s, ← Int.mul_assoc]
      have hm1 : z * 1 ≤ z * dd := Int.mul_le_mul_of_nonneg_left hd3 (by omega)
      have hm2 : z * dd * 1 ≤ z * dd * s := Int.mul_le_mul_of_nonneg_left hs1' (by omega)
      have HN : Hid (z * dd * s ≤ 256 ∧ dimF (z * dd * s) ((TyN.ds T).drop (i + 1)) = S) := by rw [Hid, e1]; exact ⟨hd5, hst.symm⟩
      obtain ⟨zd, hzd⟩ : ∃ x, z * dd = x := ⟨_, rfl⟩
      have hwm : IntKind.i64.wrap (z * dd) = zd := by rw [hzd]; exact wrap_i64_inD _ (by omega) (by omega)
      rw [hzd] at HN hm1 hm2 e1
      have hzr : 1 ≤ zd ∧ zd ≤ 256 := by omega
      obtain ⟨hzr1, hzr2⟩ := hzr
      clear kd hd hdr hst hd5 e1 hm1 hm2 hzd c5
      go_wp2_with fail
      go_roundw
      case rel => exact ⟨i + 1, zd, by omega, rfl, by go_num, hzr1, hzr2, HN.out, HBi.out⟩
      case measure => simp [intOf]; omega
    · obtain rfl : i = dn := by omega
      have HE : Hid (z = (k : Int)) := by
        have h1 := HZ.out.2
        rw [List.drop_of_length_le (by rw [HDN.out]; exact Nat.le_refl _)] at h1
        have h2 : z * s = (k : Int) * s := h1.trans HKS.out.1
        exact Int.eq_of_mul_eq_mul_right HND.out.2.1 h2
      obtain rfl := HE.out
      obtain ⟨s0, s1, s2, s3, s4, s5, s6, s7⟩ := HSS.out wr HBi.out
      go_wp2_with (go_at_call 26; refine Calls.mono (HSD.out _ HB0r.out) ?_; rintro e w5 ⟨rfl, hb5⟩; have HB5 : Hid (Below w1.heap.size w1 w5) := bel_next HBi.out hb5; clear hb5)
      clear s0 s1 s2 s3 s4 s5 s6 s7 c4 c5
      go_loopw [5, 10] (fun x y wr => ∃ (i : Nat) (vi : Value) (Li : List Pl), i ≤ k ∧ x = vi ∧ y = .int .i64 (i : Int) ∧ Hid (Li = (List.range i).flatMap (fun (i : Nat) => plF n t (p + (i : Int) * s))) ∧ Hid ((Li.length : Int) ≤ (i : Int) * s) ∧ Hid (OwnRp wr w1.heap.size vi Li) ∧ Hid (Below w1.heap.size w1 wr)) (fun _ y _ => k - (intOf y).toNat)
      case atStart => exact ⟨0, .slice none 0 0, [], Nat.zero_le _, rfl, by simp, rfl, by simp [Hid], ⟨rfl, .inl ⟨rfl, rfl⟩⟩, HB5.out⟩
      case round =>
        obtain ⟨j, vi, Li, hjn, rfl, rfl, HLi, HLe, HOj, HBj⟩ := hrel
        have HBwj : Hid (Below w.heap.size w wr) := bel_next HB1.out HBj.out
        have HB0j : Hid (Below w0.heap.size w0 wr) := bel_next HB0.out HBwj.out
        by_cases hlj : j < k
        · have hjs : 0 ≤ (j : Int) * s := Int.mul_nonneg (by omega) (by omega)
          have hjs2 : ((j : Int) + 1) * s ≤ (k : Int) * s := Int.mul_le_mul_of_nonneg_right (by omega) (by omega)
          rw [Int.add_mul, Int.one_mul] at hjs2
          have hks := HKS.out.1
          have HTK : Hid (Li ++ plF n t (p + (j : Int) * s) = (List.range (j + 1)).flatMap (fun (i : Nat) => plF n t (p + (i : Int) * s))) := by
            rw [Hid, HLi.out, List.range_succ, List.flatMap_append]; simp
          have HLL : Hid (((Li ++ plF n t (p + (j : Int) * s)).length : Int) ≤ ((j + 1 : Nat) : Int) * s) := by
            rw [Hid, List.length_append, show ((j + 1 : Nat) : Int) * s = (j : Int) * s + s by rw [Int.natCast_add, Int.add_mul]; simp]
            have := HLe.out
            have := (HOR.out j).1
            omega
          have HNE : Hid (plF n t (p + (j : Int) * s) ≠ []) := (HOR.out j).2
          have hCL := HCL.out j
          have hLn : Li.length + (plF n t (p + (j : Int) * s)).length ≤ 256 := by
            have := HLe.out
            have := (HOR.out j).1
            omega
          have HC2 : Hid (∀ w', Below w0.heap.size w0 w' → Calls Try.prog 28 #[.agg #[.int .i64 z2', .int .i64 z3, .bool z4, .slice ga gn gk, .slice xa xn xc, .slice ya yn yc, .slice za zn zc], .int .i64 (p + (j : Int) * s)] w' (WtP w' (plF n t (p + (j : Int) * s)))) := fun w' hb => HCL.out j w' hlj hb ⟨hjs, by omega⟩
          obtain ⟨js, hjse⟩ : ∃ x, (j : Int) * s = x := ⟨_, rfl⟩
          have hw3 : IntKind.i64.wrap ((j : Int) * s) = js := by rw [hjse]; exact wrap_i64_inD _ (by omega) (by omega)
          have hw4 : IntKind.i64.wrap (p + js) = p + js := wrap_i64_inD _ (by omega) (by omega)
          rw [hjse] at HC2 HNE hLn HLL HTK
          have HDR : Hid (Below wr.heap.size wr wr.drew) := (Below.refl _ _).drew
          have HBD : Hid (Below w1.heap.size w1 wr.drew) := HBj.out.drew
          have HOD : Hid (OwnRp wr.drew w1.heap.size u5 Li) := HOj.out.below HDR.out
          have HB0d : Hid (Below w0.heap.size w0 wr.drew) := HB0j.out.drew
          clear hCL hjse hjs hjs2 hks
          generalize plF n t (p + js) = PQ at *
          obtain ⟨s0, s1, s2, s3, s4, s5, s6, s7⟩ := HSS.out wr HBj.out
          clear HDR HBD HOD HB0d
          go_wp2_with (first | (go_at_call 28; refine Calls.mono (HC2.out _ HB0j.out) ?_; rintro e' w6 ⟨v6, rfl, ho6, hb6⟩; obtain ⟨g6, cap6, rfl, hn6, hm6⟩ := rp_open ho6 HNE.out; have HN6 : Hid (∀ j u, (gc encP PQ)[j]? = some u → w6.cell? ((⟨g6, 0, none⟩ : Addr).add j) = some u) := hn6; have HO6 : Hid (OwnRp w6 w1.heap.size u5 Li) := HOj.out.below hb6; have HB6 : Hid (Below w1.heap.size w1 w6) := bel_next HBj.out hb6; have HP6 : Hid (1 ≤ PQ.length) := hm6; clear hn6 hb6 ho6 hm6) | (at_builtin; refine wpList_append_G w6 rfl (.tmp 74) (.tmp 84) 42 rfl 48 i0 Try.underlying42 hi _ hz 4 32 hsz hby rfl (by omega) w1.heap.size u5 Li.length (gc encP Li) ⟨g6, 0, none⟩ PQ.length cap6 (gc encP PQ) rfl rfl HO6.out (gcP_len PQ) HN6.out (gcP_one PQ) (by omega) (by omega) HP6.out HB6.out.size ?_; intro g3 cap3 w3 ho3 hg3 _; have HO3 : Hid (OwnRp w3 w1.heap.size (.slice (some ⟨g3, 0, none⟩) (Li.length + PQ.length) cap3) (Li ++ PQ)) := (by unfold Hid OwnRp; rw [List.length_append, gc_append]; exact ho3); have HB3 : Hid (Below w1.heap.size w1 w3) := bel_own HB6.out HO6.out (Nat.le_refl _) hg3; clear ho3 hg3))
          go_roundw
          case rel => exact ⟨j + 1, _, Li ++ PQ, by omega, rfl, by go_num, HTK.out, HLL.out, HO3.out, HB3.out⟩
          case measure => simp [intOf]; omega
        · obtain rfl : j = k := by omega
          have HE : Hid (Li = plF (n + 1) T p) := by rw [Hid, HLi.out, HPF.out]
          go_wp2_with fail
          go_ret
          exact ⟨_, rfl, by rw [← HE.out]; exact HOj.out.mono (by have := HSZ.out; omega), HBwj.out⟩
end Go.Proofs.Ytfnnomjeoaoepaa
