/-
  The document's place of a tuple, and where a tuple of a chunk lies in the extent. Conditions: the lists fit.
-/
import Derived.Test.YtneegijbbbebkaaGBoxT
import Derived.Test.YtneegijbbbebkaaGRefO
namespace Go.Proofs.Ytneegijbbbebkaa
open Go.RowKit Go.Shelf
set_option linter.unusedVariables false
set_option maxRecDepth 100000

set_option maxHeartbeats 4000000 in
theorem refPlace_any (D t : List Int) (vd vt : Value) (w : World) (hD : Is w vd D) (hT : Is w vt t) (hi : Ins2 D t) (hp : prd D ≤ 1048576) : Calls Try.prog 44 #[vd, vt] w fun e w' => e = .returned (.int .i64 (plc D t)) ∧ Below w.heap.size w w' := by
  have HI : Hid (Is w vd D) := hD
  have HJ : Hid (Is w vt t) := hT
  have HIN : Hid (Ins2 D t) := hi
  have HPT : Hid (∀ i, 1 ≤ prd (D.take i) ∧ prd (D.take i) ≤ prd D) := prd_take_le (ins_pos hi)
  obtain ⟨ao, n, cap, rfl, hn, hc, hb⟩ := hD.open
  obtain ⟨bo, m, dap, rfl, hm, hdc, hb2⟩ := hT.open
  obtain rfl : n = m := by have := hi.1; omega
  have HN : Hid _ := hn
  have HM : Hid _ := hm
  have HP : Hid (prd D ≤ 1048576) := hp
  clear hD hT hi hn hm hp
  go_enter Try.func44, Try.ntmps44
  go_wp2_with fail
  go_loopw [6, 5] (fun x y wr => ∃ (i : Nat) (p : Int), i ≤ n ∧ x = .int .i64 (i : Int) ∧ y = .int .i64 p ∧ 0 ≤ p ∧ Hid (p < prd (D.take i)) ∧ Hid (plc D t = placeZ (D.drop i) (t.drop i) p) ∧ Hid (Below w.heap.size w wr)) (fun x _ _ => n - (intOf x).toNat)
  case atStart => exact ⟨0, 0, Nat.zero_le _, rfl, rfl, by omega, by rw [Hid, List.take_zero]; simp [prd], rfl, Below.refl _ _⟩
  case round =>
    obtain ⟨i, p, hin, rfl, rfl, hp0, HP1, HPL, HB⟩ := hrel
    by_cases hlt : i < n
    · obtain ⟨g, o, a, rfl, hma, _, c0⟩ := (HI.out.below HB.out).at hlt
      obtain ⟨g2, o2, x, rfl, hmx, _, c1⟩ := (HJ.out.below HB.out).at hlt
      have hx := HIN.out.2 i x a hmx hma
      have hili : (i : Int) < (n : Int) := by omega
      have HPN : Hid (plc D t = placeZ (D.drop (i + 1)) (t.drop (i + 1)) (p * a + x)) := by rw [Hid, HPL.out, plc_step hmx hma]
      have hst : prd (D.take (i + 1)) = prd (D.take i) * a := by rw [List.take_add_one, hma, prd_append]; simp [prd]
      have h1 := HPT.out (i + 1)
      have h2 := HP.out
      have h3 : (p + 1) * a ≤ prd (D.take i) * a := Int.mul_le_mul_of_nonneg_right (by have := HP1.out; omega) (by omega)
      have h4 : (p + 1) * a = p * a + a := by rw [Int.add_mul, Int.one_mul]
      have h5 : 0 ≤ p * a := Int.mul_nonneg hp0 (by omega)
      have HP2 : Hid (p * a + x < prd (D.take (i + 1))) := by rw [Hid, hst]; omega
      have hb1 : p * a ≤ 1048576 := by omega
      have hb3 : p * a + x ≤ 1048576 := by omega
      have hw1 : IntKind.i64.wrap (p * a) = p * a := wrap_i64_in _ (by omega) (by omega)
      have hw2 : IntKind.i64.wrap (p * a + x) = p * a + x := wrap_i64_in _ (by omega) (by omega)
      have hge : 0 ≤ p * a + x := by omega
      clear hma hmx hst h1 h2 h3 h4
      go_wp2_with fail
      go_quiet (fail)
      go_wp2_with fail
      go_roundw
      case rel => exact ⟨i + 1, p * a + x, by omega, by simp, rfl, hge, HP2.out, HPN.out, below_dN HB.out HB.out.size _⟩
      case measure => simp [intOf]; omega
    · have HE : Hid (plc D t = p) := by rw [Hid, HPL.out, List.drop_of_length_le (by rw [HN.out]; omega)]; rfl
      go_wp2_with fail
      go_ret
      exact ⟨by rw [HE.out]; rfl, HB.out⟩
/-- What where tells: the tuple in the extent, or that it lies beyond. -/
def WhP (w : World) (b : Bool) (T : List Int) (e : Ending) (w' : World) : Prop := Below w.heap.size w w' ∧ (b = false → e = .returned (.tuple #[.slice none 0 0, .bool false])) ∧ (b = true → ∃ v, e = .returned (.tuple #[v, .bool true]) ∧ OwnI w' w.heap.size v T)
set_option maxHeartbeats 16000000 in
theorem refWhere_any (D S C t : List Int) (vd vs vc vt : Value) (r : Nat) (w : World) (hDm : Is w vd D) (hSm : Is w vs S) (hCm : Is w vc C) (hTm : Is w vt t) (h4 : r ≤ 4) (ld : D.length = r) (ls : S.length = r) (lc : C.length = r) (ht : Ins2 S t)
    (hD : ∀ x ∈ D, 0 ≤ x ∧ x ≤ 1048576) (hS : ∀ x ∈ S, 1 ≤ x ∧ x ≤ 1048576) (hC : ∀ x ∈ C, 0 ≤ x) :
    Calls Try.prog 43 #[vd, vs, vc, vt] w (WhP w (inbB (clB D S C) t) (addL (clS D S C) t)) := by
  have HD : Hid (Is w vd D) := hDm
  have HS : Hid (Is w vs S) := hSm
  have HC : Hid (Is w vc C) := hCm
  have HTM : Hid (Is w vt t) := hTm
  have HIC : Hid _ := in_clip ld ls lc ht (fun x hx => (hD x hx).1) (fun x hx => (hS x hx).1) hC
  have lt : t.length = r := by rw [ht.1, ls]
  have lB : (clB D S C).length = r := by rw [clB_length D S C (by omega) (by omega), ld]
  have lS : (clS D S C).length = r := by rw [clS_length D S C (by omega) (by omega), ld]
  have HNO : Hid (∀ (i : Nat) b x, t[i]? = some x → (clB D S C)[i]? = some b → ¬ x < b → inbB (clB D S C) t = false) := fun i b x hx hb hn => by
    cases h : inbB (clB D S C) t with
    | false => rfl
    | true => exact absurd ((inbB_iff (by omega)).1 h i x b hx hb).2 hn
  have HYES : Hid ((∀ (i : Nat) b x, t[i]? = some x → (clB D S C)[i]? = some b → x < b) → inbB (clB D S C) t = true) := fun h => (inbB_iff (by omega)).2 (fun i x b hx hb => ⟨by
    have hil := (List.getElem?_eq_some_iff.1 hx).1
    exact (ht.2 i x _ hx (List.getElem?_eq_getElem (by omega))).1, h i b x hx hb⟩)
  obtain ⟨T, HT⟩ : ∃ T, Hid (addL (clS D S C) t = T) := ⟨_, rfl⟩
  have HTL : Hid (T.length = r) := by rw [Hid, ← HT.out]; exact addL_length lS lt
  have HTI : Hid (∀ (i : Nat) p x, (clS D S C)[i]? = some p → t[i]? = some x → T[i]? = some (p + x)) := fun i p x hp hx => by rw [← HT.out]; exact addL_at hp hx
  obtain ⟨b, HBB⟩ : ∃ b, Hid (inbB (clB D S C) t = b) := ⟨_, rfl⟩
  rw [HBB.out] at HNO HYES ⊢
  rw [HT.out]
  have HDB : Hid (∀ x ∈ D, 0 ≤ x ∧ x ≤ 1048576) := hD
  have HSB : Hid (∀ x ∈ S, 1 ≤ x ∧ x ≤ 1048576) := hS
  have HCB : Hid (∀ x ∈ C, 0 ≤ x) := hC
  have HTB : Hid (Ins2 S t) := ht
  obtain ⟨a1, m1, c1, rfl, e1, k1, l1⟩ := hDm.open
  obtain ⟨a2, m2, c2, rfl, e2, k2, l2⟩ := hSm.open
  obtain ⟨a3, m3, c3, rfl, e3, k3, l3⟩ := hCm.open
  obtain ⟨a5, m5, c5, rfl, e5, k5, l5⟩ := hTm.open
  obtain rfl : m1 = r := by omega
  obtain rfl : m1 = m2 := by omega
  obtain rfl : m1 = m3 := by omega
  obtain rfl : m1 = m5 := by omega
  have HLT : Hid (t.length = m1) := lt
  clear hDm hSm hCm hTm ht hD hS hC e1 e2 e3 e5 ld ls lc lt lB lS
  go_enter Try.func43, Try.ntmps43
  go_wp2_with fail
  go_loopw [11, 10] (fun x y wr => ∃ (i : Nat) (ua : Option Addr) (uc : Nat), i ≤ m1 ∧ x = .int .i64 (i : Int) ∧ y = .slice ua i uc ∧ Hid (OwnI wr w.heap.size (.slice ua i uc) (T.take i)) ∧ Hid (∀ (j : Nat) b x, j < i → t[j]? = some x → (clB D S C)[j]? = some b → x < b) ∧ Hid (Below w.heap.size w wr)) (fun x _ _ => m1 - (intOf x).toNat)
  case atStart => exact ⟨0, none, 0, Nat.zero_le _, rfl, rfl, by rw [Hid, List.take_zero]; exact OwnI.nil _ _, fun j b x h => by omega, Below.refl _ _⟩
  case round =>
    obtain ⟨i, ua, uc, hin, rfl, rfl, HTW, HJ, HB⟩ := hrel
    rename World => w6
    by_cases hlt : i < m1
    · have hili : (i : Int) < (m1 : Int) := by omega
      have hi0 : (0 : Int) ≤ (i : Int) := by omega
      obtain ⟨b1, p1, n, rfl, hn, _, cn⟩ := (HD.out.below HB.out).at hlt
      obtain ⟨b2, p2, s, rfl, hs, _, cs⟩ := (HS.out.below HB.out).at hlt
      obtain ⟨b3, p3, c, rfl, hc, hc64, cc⟩ := (HC.out.below HB.out).at hlt
      obtain ⟨b5, p5, x, rfl, hx, _, cx⟩ := (HTM.out.below HB.out).at hlt
      have HXX : Hid (D[i]? = some n ∧ S[i]? = some s ∧ C[i]? = some c ∧ t[i]? = some x) := ⟨hn, hs, hc, hx⟩
      have hn1 := HDB.out n (List.mem_of_getElem? hn)
      have hs1 := HSB.out s (List.mem_of_getElem? hs)
      have hc1 := HCB.out c (List.mem_of_getElem? hc)
      have hx1 := HTB.out.2 i x s hx hs
      have HCI : Hid _ := HIC.out i n s c x hn hs hc hx
      have hx3 : x < 1048576 := by omega
      have hx0 : 0 ≤ x := hx1.1
      have hs2 : s ≤ 1048576 := hs1.2
      have hs0 : 1 ≤ s := hs1.1
      have hn2 : n ≤ 1048576 := hn1.2
      have hn0 : 0 ≤ n := hn1.1
      clear hn hs hc hx hn1 hs1 hx1
      by_cases q1 : n < c
      · have d1 : decide (n < c) = true := by simpa using q1
        have HO : Hid (b = false) := by
          obtain ⟨bb, hbb, hlt'⟩ := HCI.out.2 (by omega)
          exact HNO.out i bb x HXX.out.2.2.2 hbb hlt'
        clear q1
        go_wp2_with fail
        go_quiet (fail)
        go_wp2_with fail
        go_ret2
        exact ⟨below_dN HB.out HB.out.size _, fun _ => rfl, fun e => by rw [HO.out] at e; cases e⟩
      · have d1 : decide (n < c) = false := by simpa using q1
        obtain ⟨p, hp⟩ : ∃ p, c * s = p := ⟨_, rfl⟩
        have hp0 : 0 ≤ p := by rw [← hp]; exact Int.mul_nonneg hc1 (by omega)
        have hp1 : p ≤ 1048576 * 1048576 := by rw [← hp]; exact Int.mul_le_mul (by omega) hs2 (by omega) (by omega)
        have hw1 : IntKind.i64.wrap (c * s) = p := by rw [hp]; exact wrap_i64_in _ (by omega) (by omega)
        have hw2 : IntKind.i64.wrap (p + x) = p + x := wrap_i64_in _ (by omega) (by omega)
        rw [hp] at HCI
        by_cases q2 : n ≤ p + x
        · have d2 : decide (n ≤ p + x) = true := by simpa using q2
          have HO : Hid (b = false) := by
            obtain ⟨bb, hbb, hlt'⟩ := HCI.out.2 (by omega)
            exact HNO.out i bb x HXX.out.2.2.2 hbb hlt'
          clear q1 q2 hp
          go_wp2_with fail
          go_quiet (fail)
          go_wp2_with fail
          go_ret2
          exact ⟨below_dN HB.out HB.out.size _, fun _ => rfl, fun e => by rw [HO.out] at e; cases e⟩
        · have d2 : decide (n ≤ p + x) = false := by simpa using q2
          have HIB : Hid (∃ bb, (clB D S C)[i]? = some bb ∧ x < bb ∧ (clS D S C)[i]? = some p) := (HCI.out.1 (by omega)).2
          have HTS : Hid (T.take (i + 1) = T.take i ++ [p + x]) := take_snoc (by
            obtain ⟨bb, _, _, h3⟩ := HIB.out
            exact HTI.out i p x h3 HXX.out.2.2.2)
          have HTKL : Hid ((T.take i).length = i) := by rw [Hid, List.length_take, HTL.out]; omega
          have HSK : Hid (∀ wz, Below w.heap.size w wz → wz.cell? ⟨b2, p2 + i, none⟩ = some (.int .i64 s) ∧ wz.cell? ⟨b3, p3 + i, none⟩ = some (.int .i64 c) ∧ wz.cell? ⟨b5, p5 + i, none⟩ = some (.int .i64 x)) := fun wz hz => by
            obtain ⟨g, o, y, e, hy, _, k⟩ := HS.out.at hlt
            injection e with e; injection e with e e'; subst e e'
            obtain ⟨g', o', y', e, hy', _, k'⟩ := HC.out.at hlt
            injection e with e; injection e with e e'; subst e e'
            obtain ⟨g'', o'', y'', e, hy'', _, k''⟩ := HTM.out.at hlt
            injection e with e; injection e with e e'; subst e e'
            rw [HXX.out.2.1] at hy
            rw [HXX.out.2.2.1] at hy'
            rw [HXX.out.2.2.2] at hy''
            obtain rfl := Option.some.inj hy
            obtain rfl := Option.some.inj hy'
            obtain rfl := Option.some.inj hy''
            exact ⟨(hz.cell (World.block_lt_of_cell? w _ k)).trans k, (hz.cell (World.block_lt_of_cell? w _ k')).trans k', (hz.cell (World.block_lt_of_cell? w _ k'')).trans k''⟩
          clear q1 q2 hp
          go_wp2_with fail
          go_quiet (fail)
          obtain ⟨w7, hw7⟩ : ∃ w7, w6.drewN nq = w7 := ⟨_, rfl⟩
          have HB67 : Hid (Below w6.heap.size w6 w7) := by rw [Hid, ← hw7]; exact below_dN (Below.refl _ _) (Nat.le_refl _) _
          rw [hw7]
          have HB7 : Hid (Below w.heap.size w w7) := HB.out.trans (HB67.out.mono HB.out.size)
          have HTW7 : Hid (OwnI w7 w.heap.size (.slice ua i uc) (T.take i)) := HTW.out.below HB67.out
          have HTP : Hid (p + x = p + x) := rfl
          clear hw7 cn
          obtain ⟨cs7, cc7, cx7⟩ := HSK.out w7 HB7.out
          obtain ⟨wA, hwA, bA, sA, gA⟩ := alloc_facts w7.drew (.cells #[.int .i64 (p + x)] 3)
          have HBA6 : Hid (Below w7.heap.size w7 wA) := (Below.refl _ w7).drew.trans (bA.mono (Nat.le_refl _))
          have HGA : Hid (wA.heap[w7.heap.size]? = some (.cells #[.int .i64 (p + x)] 3 (0, 0))) := gA
          have HBA : Hid (Below w.heap.size w wA) := HB7.out.trans (HBA6.out.mono HB7.out.size)
          clear bA sA gA cs cc cx
          go_wp2_with fail
          clear cs7 cc7 cx7
          go_region_held_law (fun wz => wz.cell? ⟨b2, p2 + i, none⟩ = some (.int .i64 s) ∧ wz.cell? ⟨b3, p3 + i, none⟩ = some (.int .i64 c) ∧ wz.cell? ⟨b5, p5 + i, none⟩ = some (.int .i64 x)) (first | exact HSK.out _ HBD.out | exact HSK.out _ HBA.out | exact HSK.out _ HB7.out.drew)
            ((refine step_push_intD 64 (w := wA) rfl rfl (.tmp 48) (.tmp 63) rfl w.heap.size (.slice ua i uc) (T.take i) i HTKL.out w7.heap.size (p + x) (by rfl) (by rfl) (HTW7.out.below HBA6.out) HGA.out (by omega) HBA.out.size ?_; rintro gD cD wD hOD hgD hatD; have HTD : Hid (OwnI wD w.heap.size (.slice (some ⟨gD, 0, none⟩) (i + 1) cD) (T.take (i + 1))) := (by rw [Hid, HTS.out]; exact hOD); have HBD : Hid (Below w.heap.size w wD) := bel_grown HBA.out (HTW7.out.below HBA6.out) (Nat.le_refl _) hgD; clear hOD hgD hatD))
          go_wp2_with fail
          go_roundw
          case rel =>
            refine ⟨i + 1, _, _, by omega, by simp, rfl, HTD.out, fun j bb y hj hy hbb => ?_, HBD.out⟩
            by_cases hji : j = i
            · subst hji
              obtain ⟨b9, h91, h92, _⟩ := HIB.out
              rw [HXX.out.2.2.2] at hy
              rw [h91] at hbb
              obtain rfl := Option.some.inj hy
              obtain rfl := Option.some.inj hbb
              exact h92
            · exact HJ.out j bb y (by omega) hy hbb
          case measure => simp [intOf]; omega
    · obtain rfl : i = m1 := by omega
      have HO : Hid (b = true) := HYES.out (fun j bb x hx hbb => HJ.out j bb x (by have := (List.getElem?_eq_some_iff.1 hx).1; have := HLT.out; omega) hx hbb)
      have HTA : Hid (OwnI w6 w.heap.size (.slice ua i uc) T) := by
        have h9 := HTW.out
        rwa [List.take_of_length_le (by rw [HTL.out]; exact Nat.le_refl _)] at h9
      have HV : Hid (WhP w b T (.returned (.tuple #[.slice ua i uc, .bool true])) w6) := ⟨HB.out, fun e => absurd (HO.out.symm.trans e) (by simp), fun _ => ⟨_, rfl, HTA.out⟩⟩
      go_wp2_with fail
      go_ret2
      exact HV.out
end Go.Proofs.Ytneegijbbbebkaa
