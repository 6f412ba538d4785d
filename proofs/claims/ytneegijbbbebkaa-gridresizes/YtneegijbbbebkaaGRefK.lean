/-
  The document's Clip. Conditions: lengths are such as memory bears.
-/
import Derived.Test.YtneegijbbbebkaaGRefC
import Derived.Deep.RegionHeldLaw
namespace Go.Proofs.Ytneegijbbbebkaa
open Go.RowKit Go.Shelf
set_option linter.unusedVariables false
set_option maxRecDepth 100000

theorem clip_ref {n s c : Int} (hn : 0 ≤ n) (hs : 1 ≤ s) (hc : 0 ≤ c) : (if c ≤ n / s then c * s else n) = (if c ≤ n ∧ c * s < n then c * s else n) := by
  have h1 : c ≤ n / s ↔ c * s ≤ n := Int.le_ediv_iff_mul_le (by omega)
  have h2 := Int.mul_le_mul_of_nonneg_left hs hc
  by_cases h : c ≤ n / s
  · have h3 := h1.1 h
    rw [if_pos h]
    by_cases h4 : c * s < n
    · rw [if_pos ⟨by omega, h4⟩]
    · rw [if_neg (by omega)]; omega
  · have h3 : ¬ c * s ≤ n := fun e => h (h1.2 e)
    rw [if_neg h, if_neg (by omega)]
theorem take_snoc {α : Type} {l : List α} {i : Nat} {x : α} (h : l[i]? = some x) : l.take (i + 1) = l.take i ++ [x] := by
  rw [List.take_add_one, h]; rfl
set_option maxHeartbeats 16000000 in
theorem refClip_any (D S C : List Int) (vd vs vc : Value) (w : World) (hD : Is w vd D) (hS : Is w vs S) (hC : Is w vc C) : Calls Try.prog 16 #[vd, vs, vc] w (CpP w D S C) := by
  have HFI : Hid _ := refFit_any D S vd vs w hD hS
  have HD : Hid (Is w vd D) := hD
  have HS : Hid (Is w vs S) := hS
  have HC : Hid (Is w vc C) := hC
  obtain ⟨a1, m1, c1, rfl, e1, k1, l1⟩ := hD.open
  obtain ⟨a2, m2, c2, rfl, e2, k2, l2⟩ := hS.open
  obtain ⟨a3, m3, c3, rfl, e3, k3, l3⟩ := hC.open
  obtain ⟨fe, HFE⟩ : ∃ fe, Hid (fitE D S = fe) := ⟨_, rfl⟩
  rw [HFE.out] at HFI
  by_cases h1 : fe = 0
  · subst h1
    obtain ⟨f1, f2, f3⟩ := fitE_zero HFE.out
    obtain ⟨s1, s2⟩ := shB_iff.1 f2
    have hd4 : m1 ≤ 4 := by have := (dims_of (elE_ok f1).1).1; omega
    obtain ⟨ok, HOK⟩ : ∃ ok, Hid (okB m1 C = ok) := ⟨_, rfl⟩
    have HIT : Hid (∀ w1, Below w.heap.size w w1 → Calls Try.prog 36 #[.slice a3 m3 c3, .int .i64 (m1 : Int)] w1 fun e w' => e = .returned (.bool ok) ∧ Below w1.heap.size w1 w') := fun w1 h => by
      have := refRight_any C _ m1 w1 (HC.out.below h) hd4
      rwa [HOK.out] at this
    cases ok with
    | false =>
      have HCP : Hid (cpE D S C = 2) := by rw [Hid, cpE, HFE.out, if_neg (by simp), e1, HOK.out]; rfl
      have HRET : Hid (∀ w', Below w.heap.size w w' → CpP w D S C (.returned (.tuple #[.slice none 0 0, .slice none 0 0, .int .i64 2])) w') := fun w' h => ⟨_, _, by rw [HCP.out], by rw [HCP.out]; exact is_nil _, by rw [HCP.out]; exact is_nil _, h⟩
      clear hD hS hC e1 e2 e3 f1 f2 f3 s1 s2
      go_enter Try.func16, Try.ntmps16
      go_wp2_with (first
        | (go_at_call 32; refine Calls.mono HFI.out ?_; rintro e w1 ⟨rfl, hb1⟩; have HB1 : Hid (Below w.heap.size w w1) := hb1; clear hb1)
        | (go_at_call 36; refine Calls.mono (HIT.out _ HB1.out) ?_; rintro e w2 ⟨rfl, hb2⟩; have HB2 : Hid (Below w.heap.size w w2) := HB1.out.trans (hb2.mono HB1.out.size); clear hb2))
      go_ret3
      exact HRET.out _ HB2.out
    | true =>
      obtain ⟨o1, o2⟩ := okB_iff.1 HOK.out
      have HCP : Hid (cpE D S C = 0) := by rw [Hid, cpE, HFE.out, if_neg (by simp), e1, HOK.out]; rfl
      have HLS : Hid ((clS D S C).length = m1) := by rw [Hid, clS_length D S C (by omega) (by omega), e1]
      have HLB : Hid ((clB D S C).length = m1) := by rw [Hid, clB_length D S C (by omega) (by omega), e1]
      have HAT : Hid (∀ (i : Nat) x y z, D[i]? = some x → S[i]? = some y → C[i]? = some z → (clS D S C)[i]? = some (if z ≤ x ∧ z * y < x then z * y else x) ∧ (clB D S C)[i]? = some (min y (x - (if z ≤ x ∧ z * y < x then z * y else x))) ∧ 0 ≤ x ∧ x ≤ 1048576 ∧ 1 ≤ y ∧ y ≤ 1048576 ∧ 0 ≤ z) := fun i x y z g1 g2 g3 => by
        have p1 := (dims_of (elE_ok f1).1).2 x (List.mem_of_getElem? g1)
        have p2 := s2 y (List.mem_of_getElem? g2)
        have p3 := o2 z (List.mem_of_getElem? g3)
        have q1 := clS_at D S C i x y z g1 g2 g3
        have q2 := clB_at D S C i x y z g1 g2 g3
        rw [clip_ref p1.1 p2.1 p3] at q1 q2
        exact ⟨q1, q2, p1.1, p1.2, p2.1, p2.2, p3⟩
      have HRET : Hid (∀ w' u1 v1 c1 u2 c2, v1 = m1 → Below w.heap.size w w' → OwnI w' w.heap.size (.slice u1 v1 c1) (clS D S C) → OwnI w' w.heap.size (.slice u2 v1 c2) (clB D S C) → CpP w D S C (.returned (.tuple #[.slice u1 v1 c1, .slice u2 v1 c2, .int .i64 0])) w') := fun w' u1 v1 c1 u2 c2 hv h r1 r2 => by
        obtain ⟨i1, i2⟩ := clip_i64 (fun x hx => (dims_of (elE_ok f1).1).2 x hx) (by omega) (by omega : C.length = D.length) (fun x hx => (s2 x hx).1) o2
        exact ⟨_, _, by rw [HCP.out], by rw [HCP.out, if_pos rfl]; exact r1.is (by rw [HLS.out]; omega) (fun x hx => (i1 x hx).1), by rw [HCP.out, if_pos rfl]; exact r2.is (by rw [HLB.out]; omega) (fun x hx => (i2 x hx).1), h⟩
      have hm2 : m1 = m2 := by omega
      have hm3 : m1 = m3 := by omega
      subst hm2 hm3
      clear hD hS hC e1 e2 e3 f1 f2 f3 s1 s2 o1 o2
      go_enter Try.func16, Try.ntmps16
      go_wp2_with (first
        | (go_at_call 32; refine Calls.mono HFI.out ?_; rintro e w1 ⟨rfl, hb1⟩; have HB1 : Hid (Below w.heap.size w w1) := hb1; clear hb1)
        | (go_at_call 36; refine Calls.mono (HIT.out _ HB1.out) ?_; rintro e w2 ⟨rfl, hb2⟩; have HB2 : Hid (Below w.heap.size w w2) := HB1.out.trans (hb2.mono HB1.out.size); clear hb2))
      go_loopw [12, 10, 11] (fun x y z wr => ∃ (i : Nat) (ua : Option Addr) (uc : Nat) (va : Option Addr) (vc : Nat), i ≤ m1 ∧ x = .int .i64 (i : Int) ∧ y = .slice ua i uc ∧ z = .slice va i vc ∧ Hid (Two wr w.heap.size (.slice ua i uc) ((clS D S C).take i) (.slice va i vc) ((clB D S C).take i)) ∧ Hid (Below w.heap.size w wr)) (fun x _ _ _ => m1 - (intOf x).toNat)
      case atStart => exact ⟨0, none, 0, none, 0, Nat.zero_le _, rfl, rfl, rfl, Two.nil _ _, HB2.out⟩
      case round =>
        obtain ⟨i, ua, uc, va, vc, hin, rfl, rfl, rfl, HTW, HB⟩ := hrel
        rename World => w6
        by_cases hlt : i < m1
        · have hili : (i : Int) < (m1 : Int) := by omega
          have hi0 : (0 : Int) ≤ (i : Int) := by omega
          obtain ⟨b1, p1, x, rfl, hx, _, cx⟩ := (HD.out.below HB.out).at hlt
          obtain ⟨b2, p2, y, rfl, hy, _, cy⟩ := (HS.out.below HB.out).at hlt
          obtain ⟨b3, p3, z, rfl, hz, _, cz⟩ := (HC.out.below HB.out).at hlt
          obtain ⟨hs1, hs2, x0, x1, y1, y2, z0⟩ := HAT.out i x y z hx hy hz
          have HCE : Hid (∀ w9, Below w6.heap.size w6 w9 → w9.cell? ⟨b1, p1 + i, none⟩ = some (.int .i64 x) ∧ w9.cell? ⟨b2, p2 + i, none⟩ = some (.int .i64 y)) := fun w9 h9 => ⟨(h9.cell (World.block_lt_of_cell? w6 _ cx)).trans cx, (h9.cell (World.block_lt_of_cell? w6 _ cy)).trans cy⟩
          have HXY : Hid (b1 < w.heap.size ∧ b2 < w.heap.size) := by
            obtain ⟨b, o, x', e, _, _, c⟩ := HD.out.at hlt
            injection e with e; injection e with e e'; subst e
            obtain ⟨b', o', y', e2, _, _, c2⟩ := HS.out.at hlt
            injection e2 with e2; injection e2 with e2 e2'; subst e2
            exact ⟨World.block_lt_of_cell? w _ c, World.block_lt_of_cell? w _ c2⟩
          -- the number along this dimension, either way
          obtain ⟨st, HSTD⟩ : ∃ st, Hid ((if z ≤ x ∧ z * y < x then z * y else x) = st) := ⟨_, rfl⟩
          rw [HSTD.out] at hs1 hs2
          have hst0 : 0 ≤ st ∧ st ≤ x := by
            have h9 := HSTD.out
            have h8 := Int.mul_nonneg z0 (show 0 ≤ y by omega)
            split at h9 <;> omega
          obtain ⟨bx, hbx⟩ : ∃ bx, min y (x - st) = bx := ⟨_, rfl⟩
          rw [hbx] at hs2
          have HT1 : Hid ((clS D S C).take (i + 1) = (clS D S C).take i ++ [st]) := take_snoc hs1
          have HT2 : Hid ((clB D S C).take (i + 1) = (clB D S C).take i ++ [bx]) := take_snoc hs2
          have HL1 : Hid (((clS D S C).take i).length = i) := by rw [Hid, List.length_take, HLS.out]; omega
          have HL2 : Hid (((clB D S C).take i).length = i) := by rw [Hid, List.length_take, HLB.out]; omega
          have hwm : IntKind.i64.wrap (x - st) = x - st := wrap_i64_in _ (by omega) (by omega)
          clear hx hy hz hs1 hs2
          by_cases h2 : z ≤ x
          · have d2 : decide (z ≤ x) = true := by simpa using h2
            obtain ⟨zy, hzy⟩ : ∃ zy, z * y = zy := ⟨_, rfl⟩
            have hzb : z * y ≤ 1048576 * 1048576 := Int.mul_le_mul (by omega) y2 (by omega) (by omega)
            have hz0' := Int.mul_nonneg z0 (show 0 ≤ y by omega)
            rw [hzy] at hzb hz0'
            have hwz : IntKind.i64.wrap (z * y) = zy := by rw [hzy]; exact wrap_i64_in _ (by omega) (by omega)
            by_cases h3 : zy < x
            · have d3 : decide (zy < x) = true := by simpa using h3
              have hst : st = zy := by rw [← HSTD.out, hzy, if_pos ⟨h2, h3⟩]
              subst hst
              clear hzy
              go_wp2_with fail
              go_quiet (fail)
              go_wp2_with fail
              obtain ⟨w6b, HW6b⟩ : ∃ w6b, Hid (w6.drewN nq = w6b) := ⟨_, rfl⟩
              have HB6b : Hid (Below w6.heap.size w6 w6b) := by rw [← HW6b.out]; exact below_dN (Below.refl _ _) (Nat.le_refl _) _
              rw [HW6b.out]
              have ex := (HB6b.out.cell (World.block_lt_of_cell? w6 _ cx)).trans cx
              have ey := (HB6b.out.cell (World.block_lt_of_cell? w6 _ cy)).trans cy
              have ez := (HB6b.out.cell (World.block_lt_of_cell? w6 _ cz)).trans cz
              clear cx cy cz
              go_quiet (fail)
              obtain ⟨w7, HW7⟩ : ∃ w7, Hid (w6b.drewN nq = w7) := ⟨_, rfl⟩
              have HB7 : Hid (Below w6.heap.size w6 w7) := by rw [← HW7.out]; exact below_dN HB6b.out HB6b.out.size _
              rw [HW7.out]
              clear ex ey ez
              obtain ⟨w8, hw8, b8, s8, g8⟩ := alloc_facts w7 (.cells #[.int .i64 st] 3)
              have HB8 : Hid (Below w6.heap.size w6 w8) := HB7.out.trans (b8.mono HB7.out.size)
              have HG8 : Hid (w8.heap[w7.heap.size]? = some (.cells #[.int .i64 st] 3 (0, 0))) := g8
              clear b8 s8 g8
              go_wp2_with (at_builtin; refine wpList_push_int (w := w8) rfl (.tmp 69) (.tmp 71) rfl w.heap.size (.slice ua i uc) ((clS D S C).take i) i HL1.out w7.heap.size st (by rfl) (by rfl) (HTW.out.below HB8.out).a HG8.out (by omega) (HB.out.trans (HB8.out.mono HB.out.size)).size ?_; rintro g9 c9 w9 hO9 hg9 hat9; have HT9 : Hid (Two w9 w.heap.size (.slice (some ⟨g9, 0, none⟩) (i + 1) c9) ((clS D S C).take (i + 1)) (.slice va i vc) ((clB D S C).take i)) := (by rw [Hid, HT1.out]; exact (HTW.out.below HB8.out).push hO9 hg9 hat9 rfl); have HB9 : Hid (Below w.heap.size w w9) := bel_grown (HB.out.trans (HB8.out.mono HB.out.size)) (HTW.out.below HB8.out).a (Nat.le_refl _) hg9; clear hO9 hg9 hat9)
              obtain ⟨wA, hwA, bA, sA, gA⟩ := alloc_facts w9.drew (.cells #[.int .i64 bx] 3)
              have HBA9 : Hid (Below w9.heap.size w9 wA) := (Below.refl _ w9).drew.trans (bA.mono (Nat.le_refl _))
              have HGA : Hid (wA.heap[w9.heap.size]? = some (.cells #[.int .i64 bx] 3 (0, 0))) := gA
              have HBA : Hid (Below w.heap.size w wA) := HB9.out.trans (HBA9.out.mono HB9.out.size)
              have HSK : Hid (∀ wz, Below w.heap.size w wz → wz.cell? ⟨b2, p2 + i, none⟩ = some (.int .i64 y) ∧ wz.cell? ⟨b1, p1 + i, none⟩ = some (.int .i64 x)) := fun wz hz => by
                obtain ⟨q1, q2⟩ := HCE.out w6 (Below.refl _ _)
                have e1 : w.cell? ⟨b1, p1 + i, none⟩ = some (.int .i64 x) := by rw [← q1]; exact (HB.out.cell (p := ⟨b1, p1 + i, none⟩) HXY.out.1).symm
                have e2 : w.cell? ⟨b2, p2 + i, none⟩ = some (.int .i64 y) := by rw [← q2]; exact (HB.out.cell (p := ⟨b2, p2 + i, none⟩) HXY.out.2).symm
                exact ⟨(hz.cell (World.block_lt_of_cell? w _ e2)).trans e2, (hz.cell (World.block_lt_of_cell? w _ e1)).trans e1⟩
              clear bA sA gA
              go_region_held_law (fun wz => wz.cell? ⟨b2, p2 + i, none⟩ = some (.int .i64 y) ∧ wz.cell? ⟨b1, p1 + i, none⟩ = some (.int .i64 x)) (first | exact HSK.out _ HBD.out | exact HSK.out _ HBA.out | exact HSK.out _ HB9.out.drew)
                ((refine step_push_int (w := wA) rfl (.tmp 73) (.tmp 85) rfl w.heap.size (.slice va i vc) ((clB D S C).take i) i HL2.out w9.heap.size bx (by rfl) (by rfl) (HT9.out.below HBA9.out).b HGA.out (by omega) HBA.out.size ?_; rintro gD cD wD hOD hgD hatD; have HTD : Hid (Two wD w.heap.size (.slice (some ⟨g9, 0, none⟩) (i + 1) c9) ((clS D S C).take (i + 1)) (.slice (some ⟨gD, 0, none⟩) (i + 1) cD) ((clB D S C).take (i + 1))) := (by rw [Hid, HT2.out]; exact ((HT9.out.below HBA9.out).swap.push hOD hgD hatD rfl).swap); have HBD : Hid (Below w.heap.size w wD) := bel_grown HBA.out (HT9.out.below HBA9.out).b (Nat.le_refl _) hgD; clear hOD hgD hatD))
              go_wp2_with fail
              go_roundw
              case rel => exact ⟨i + 1, _, _, _, _, by omega, by simp, rfl, rfl, HTD.out, HBD.out⟩
              case measure => simp [intOf]; omega
            · have d3 : decide (zy < x) = false := by simpa using h3
              have hst : x = st := by rw [← HSTD.out, hzy, if_neg (by omega)]
              have hb0 : bx = 0 := by omega
              have hm0 : min y (0 : Int) = 0 := by omega
              have hw0 : IntKind.i64.wrap 0 = 0 := wrap_i64_in _ (by omega) (by omega)
              subst hst hb0
              clear hbx hwm
              clear hzy
              go_wp2_with fail
              go_quiet (fail)
              obtain ⟨w7, HW7⟩ : ∃ w7, Hid (w6.drewN nq = w7) := ⟨_, rfl⟩
              have HB7 : Hid (Below w6.heap.size w6 w7) := by rw [← HW7.out]; exact below_dN (Below.refl _ _) (Nat.le_refl _) _
              rw [HW7.out]
              clear cx cy cz
              obtain ⟨w8, hw8, b8, s8, g8⟩ := alloc_facts w7 (.cells #[.int .i64 x] 3)
              have HB8 : Hid (Below w6.heap.size w6 w8) := HB7.out.trans (b8.mono HB7.out.size)
              have HG8 : Hid (w8.heap[w7.heap.size]? = some (.cells #[.int .i64 x] 3 (0, 0))) := g8
              clear b8 s8 g8
              go_wp2_with (at_builtin; refine wpList_push_int (w := w8) rfl (.tmp 69) (.tmp 71) rfl w.heap.size (.slice ua i uc) ((clS D S C).take i) i HL1.out w7.heap.size x (by rfl) (by rfl) (HTW.out.below HB8.out).a HG8.out (by omega) (HB.out.trans (HB8.out.mono HB.out.size)).size ?_; rintro g9 c9 w9 hO9 hg9 hat9; have HT9 : Hid (Two w9 w.heap.size (.slice (some ⟨g9, 0, none⟩) (i + 1) c9) ((clS D S C).take (i + 1)) (.slice va i vc) ((clB D S C).take i)) := (by rw [Hid, HT1.out]; exact (HTW.out.below HB8.out).push hO9 hg9 hat9 rfl); have HB9 : Hid (Below w.heap.size w w9) := bel_grown (HB.out.trans (HB8.out.mono HB.out.size)) (HTW.out.below HB8.out).a (Nat.le_refl _) hg9; clear hO9 hg9 hat9)
              obtain ⟨wA, hwA, bA, sA, gA⟩ := alloc_facts w9.drew (.cells #[.int .i64 0] 3)
              have HBA9 : Hid (Below w9.heap.size w9 wA) := (Below.refl _ w9).drew.trans (bA.mono (Nat.le_refl _))
              have HGA : Hid (wA.heap[w9.heap.size]? = some (.cells #[.int .i64 0] 3 (0, 0))) := gA
              have HBA : Hid (Below w.heap.size w wA) := HB9.out.trans (HBA9.out.mono HB9.out.size)
              have HSK : Hid (∀ wz, Below w.heap.size w wz → wz.cell? ⟨b2, p2 + i, none⟩ = some (.int .i64 y) ∧ wz.cell? ⟨b1, p1 + i, none⟩ = some (.int .i64 x)) := fun wz hz => by
                obtain ⟨q1, q2⟩ := HCE.out w6 (Below.refl _ _)
                have e1 : w.cell? ⟨b1, p1 + i, none⟩ = some (.int .i64 x) := by rw [← q1]; exact (HB.out.cell (p := ⟨b1, p1 + i, none⟩) HXY.out.1).symm
                have e2 : w.cell? ⟨b2, p2 + i, none⟩ = some (.int .i64 y) := by rw [← q2]; exact (HB.out.cell (p := ⟨b2, p2 + i, none⟩) HXY.out.2).symm
                exact ⟨(hz.cell (World.block_lt_of_cell? w _ e2)).trans e2, (hz.cell (World.block_lt_of_cell? w _ e1)).trans e1⟩
              clear bA sA gA
              go_region_held_law (fun wz => wz.cell? ⟨b2, p2 + i, none⟩ = some (.int .i64 y) ∧ wz.cell? ⟨b1, p1 + i, none⟩ = some (.int .i64 x)) (first | exact HSK.out _ HBD.out | exact HSK.out _ HBA.out | exact HSK.out _ HB9.out.drew)
                ((refine step_push_int (w := wA) rfl (.tmp 73) (.tmp 85) rfl w.heap.size (.slice va i vc) ((clB D S C).take i) i HL2.out w9.heap.size 0 (by rfl) (by rfl) (HT9.out.below HBA9.out).b HGA.out (by omega) HBA.out.size ?_; rintro gD cD wD hOD hgD hatD; have HTD : Hid (Two wD w.heap.size (.slice (some ⟨g9, 0, none⟩) (i + 1) c9) ((clS D S C).take (i + 1)) (.slice (some ⟨gD, 0, none⟩) (i + 1) cD) ((clB D S C).take (i + 1))) := (by rw [Hid, HT2.out]; exact ((HT9.out.below HBA9.out).swap.push hOD hgD hatD rfl).swap); have HBD : Hid (Below w.heap.size w wD) := bel_grown HBA.out (HT9.out.below HBA9.out).b (Nat.le_refl _) hgD; clear hOD hgD hatD))
              go_wp2_with fail
              go_roundw
              case rel => exact ⟨i + 1, _, _, _, _, by omega, by simp, rfl, rfl, HTD.out, HBD.out⟩
              case measure => simp [intOf]; omega
          · have d2 : decide (z ≤ x) = false := by simpa using h2
            have hst : x = st := by rw [← HSTD.out, if_neg (by omega)]
            have hb0 : bx = 0 := by omega
            have hm0 : min y (0 : Int) = 0 := by omega
            have hw0 : IntKind.i64.wrap 0 = 0 := wrap_i64_in _ (by omega) (by omega)
            subst hst hb0
            clear hbx hwm
            go_wp2_with fail
            go_quiet (fail)
            obtain ⟨w7, HW7⟩ : ∃ w7, Hid (w6.drewN nq = w7) := ⟨_, rfl⟩
            have HB7 : Hid (Below w6.heap.size w6 w7) := by rw [← HW7.out]; exact below_dN (Below.refl _ _) (Nat.le_refl _) _
            rw [HW7.out]
            clear cx cy cz
            obtain ⟨w8, hw8, b8, s8, g8⟩ := alloc_facts w7 (.cells #[.int .i64 x] 3)
            have HB8 : Hid (Below w6.heap.size w6 w8) := HB7.out.trans (b8.mono HB7.out.size)
            have HG8 : Hid (w8.heap[w7.heap.size]? = some (.cells #[.int .i64 x] 3 (0, 0))) := g8
            clear b8 s8 g8
            go_wp2_with (at_builtin; refine wpList_push_int (w := w8) rfl (.tmp 69) (.tmp 71) rfl w.heap.size (.slice ua i uc) ((clS D S C).take i) i HL1.out w7.heap.size x (by rfl) (by rfl) (HTW.out.below HB8.out).a HG8.out (by omega) (HB.out.trans (HB8.out.mono HB.out.size)).size ?_; rintro g9 c9 w9 hO9 hg9 hat9; have HT9 : Hid (Two w9 w.heap.size (.slice (some ⟨g9, 0, none⟩) (i + 1) c9) ((clS D S C).take (i + 1)) (.slice va i vc) ((clB D S C).take i)) := (by rw [Hid, HT1.out]; exact (HTW.out.below HB8.out).push hO9 hg9 hat9 rfl); have HB9 : Hid (Below w.heap.size w w9) := bel_grown (HB.out.trans (HB8.out.mono HB.out.size)) (HTW.out.below HB8.out).a (Nat.le_refl _) hg9; clear hO9 hg9 hat9)
            obtain ⟨wA, hwA, bA, sA, gA⟩ := alloc_facts w9.drew (.cells #[.int .i64 0] 3)
            have HBA9 : Hid (Below w9.heap.size w9 wA) := (Below.refl _ w9).drew.trans (bA.mono (Nat.le_refl _))
            have HGA : Hid (wA.heap[w9.heap.size]? = some (.cells #[.int .i64 0] 3 (0, 0))) := gA
            have HBA : Hid (Below w.heap.size w wA) := HB9.out.trans (HBA9.out.mono HB9.out.size)
            have HSK : Hid (∀ wz, Below w.heap.size w wz → wz.cell? ⟨b2, p2 + i, none⟩ = some (.int .i64 y) ∧ wz.cell? ⟨b1, p1 + i, none⟩ = some (.int .i64 x)) := fun wz hz => by
              obtain ⟨q1, q2⟩ := HCE.out w6 (Below.refl _ _)
              have e1 : w.cell? ⟨b1, p1 + i, none⟩ = some (.int .i64 x) := by rw [← q1]; exact (HB.out.cell (p := ⟨b1, p1 + i, none⟩) HXY.out.1).symm
              have e2 : w.cell? ⟨b2, p2 + i, none⟩ = some (.int .i64 y) := by rw [← q2]; exact (HB.out.cell (p := ⟨b2, p2 + i, none⟩) HXY.out.2).symm
              exact ⟨(hz.cell (World.block_lt_of_cell? w _ e2)).trans e2, (hz.cell (World.block_lt_of_cell? w _ e1)).trans e1⟩
            clear bA sA gA
            go_region_held_law (fun wz => wz.cell? ⟨b2, p2 + i, none⟩ = some (.int .i64 y) ∧ wz.cell? ⟨b1, p1 + i, none⟩ = some (.int .i64 x)) (first | exact HSK.out _ HBD.out | exact HSK.out _ HBA.out | exact HSK.out _ HB9.out.drew)
              ((refine step_push_int (w := wA) rfl (.tmp 73) (.tmp 85) rfl w.heap.size (.slice va i vc) ((clB D S C).take i) i HL2.out w9.heap.size 0 (by rfl) (by rfl) (HT9.out.below HBA9.out).b HGA.out (by omega) HBA.out.size ?_; rintro gD cD wD hOD hgD hatD; have HTD : Hid (Two wD w.heap.size (.slice (some ⟨g9, 0, none⟩) (i + 1) c9) ((clS D S C).take (i + 1)) (.slice (some ⟨gD, 0, none⟩) (i + 1) cD) ((clB D S C).take (i + 1))) := (by rw [Hid, HT2.out]; exact ((HT9.out.below HBA9.out).swap.push hOD hgD hatD rfl).swap); have HBD : Hid (Below w.heap.size w wD) := bel_grown HBA.out (HT9.out.below HBA9.out).b (Nat.le_refl _) hgD; clear hOD hgD hatD))
            go_wp2_with fail
            go_roundw
            case rel => exact ⟨i + 1, _, _, _, _, by omega, by simp, rfl, rfl, HTD.out, HBD.out⟩
            case measure => simp [intOf]; omega
        · obtain rfl : i = m1 := by omega
          have HV : Hid (CpP w D S C (.returned (.tuple #[.slice ua i uc, .slice va i vc, .int .i64 0])) w6) := HRET.out w6 ua i uc va vc rfl HB.out (by have h9 := HTW.out.a; rwa [List.take_of_length_le (by rw [HLS.out]; exact Nat.le_refl _)] at h9) (by have h9 := HTW.out.b; rwa [List.take_of_length_le (by rw [HLB.out]; exact Nat.le_refl _)] at h9)
          clear HRET
          go_wp2_with fail
          go_ret3
          exact HV.out
  · have HCP : Hid (cpE D S C = fe) := by rw [Hid, cpE, HFE.out, if_pos h1]
    have b2 : (fe != 0) = true := by simpa using h1
    have HRET : Hid (∀ w', Below w.heap.size w w' → CpP w D S C (.returned (.tuple #[.slice none 0 0, .slice none 0 0, .int .i64 fe])) w') := fun w' h => ⟨_, _, by rw [HCP.out], by rw [HCP.out, if_neg h1]; exact is_nil _, by rw [HCP.out, if_neg h1]; exact is_nil _, h⟩
    clear hD hS hC e1 e2 e3
    go_enter Try.func16, Try.ntmps16
    go_wp2_with (go_at_call 32; refine Calls.mono HFI.out ?_; rintro e w1 ⟨rfl, hb1⟩; have HB1 : Hid (Below w.heap.size w w1) := hb1; clear hb1)
    go_ret3
    exact HRET.out _ HB1.out
end Go.Proofs.Ytneegijbbbebkaa
