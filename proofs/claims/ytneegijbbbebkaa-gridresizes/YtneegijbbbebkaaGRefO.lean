/-
  The document's Of and Chunks. Conditions: lengths are such as memory bears.
-/
import Derived.Test.YtneegijbbbebkaaGOf
namespace Go.Proofs.Ytneegijbbbebkaa
open Go.RowKit Go.Shelf
set_option linter.unusedVariables false
set_option maxRecDepth 100000

theorem step_push_intD (d : Nat) {ops : Array Oper} {o : Oper} {a : Act} {w : World} {K : Act → World → Prop} {Q : Exit → Act → World → Prop} {E : Prop}
    (hd : o.dst = some d) (hgd : o.guard = none) (s x : Operand) (hop : o.op = Op.call { callee := Callee.builtin Builtin.append, args := #[s, x], argTypes := #[22, 22] })
    (B : Nat) (v : Value) (l : List Int) (n : Nat) (hn : l.length = n) (g : Nat) (y : Int) (hs : a.eval s = v) (hx : a.eval x = .slice (some ⟨g, 0, none⟩) 1 1) (h : OwnI w B v l) (hg : w.heap[g]? = some (.cells #[.int .i64 y] 3 (0, 0))) (hb : n ≤ 1000000000) (hB : B ≤ w.heap.size)
    (hK : ∀ g' cap w', OwnI w' B (.slice (some ⟨g', 0, none⟩) (n + 1) cap) (l ++ [y]) → w.grownBy w' v.ownBlock → (v.ownBlock = some g' ∨ g' = w.heap.size) → K (a.put (some d) (.slice (some ⟨g', 0, none⟩) (n + 1) cap)) w') :
    if Region.wanted o (yielded ops a.tmps) = true then Oper.wp Try.prog o a w K Q else E := by
  refine step_push_int hgd s x hop B v l n hn g y hs hx h hg hb hB ?_
  rw [hd]
  exact hK
theorem prd_le_pow {b : Int} (hb : 1 ≤ b) : ∀ {l : List Int}, (∀ x ∈ l, 0 ≤ x ∧ x ≤ b) → 0 ≤ prd l ∧ prd l ≤ b ^ l.length
  | [], _ => by simp [prd]
  | x :: l, h => by
    have hx := h x (by simp)
    obtain ⟨h1, h2⟩ := prd_le_pow hb (l := l) (fun y hy => h y (by simp [hy]))
    rw [prd, List.length_cons, Int.pow_succ, Int.mul_comm (b ^ l.length)]
    exact ⟨Int.mul_nonneg hx.1 h1, Int.mul_le_mul hx.2 h2 h1 (by omega)⟩
theorem cntL_bd {D S : List Int} (hl : D.length ≤ 4) (he : elE D = 0) (hsl : S.length = D.length) (hs : ∀ x ∈ S, 1 ≤ x) (i : Nat) : 0 ≤ prd ((cntL D S).take i) ∧ prd ((cntL D S).take i) ≤ 1152921504606846976 := by
  have hd := (dims_of (elE_ok he).1).2
  by_cases h0 : (0 : Int) ∈ D
  · have hel : ∀ x ∈ cntL D S, 0 ≤ x ∧ x ≤ 1048576 := fun x hx => by
      obtain ⟨j, hj⟩ := List.getElem?_of_mem hx
      rw [cntL, List.getElem?_zipWith] at hj
      cases h1 : D[j]? with
      | none => rw [h1] at hj; simp at hj
      | some a =>
        cases h2 : S[j]? with
        | none => rw [h1, h2] at hj; simp at hj
        | some s =>
          rw [h1, h2] at hj
          have p1 := hd a (List.mem_of_getElem? h1)
          have p2 := hs s (List.mem_of_getElem? h2)
          have := cnt_le (n := a) (s := s) p1.1 p2
          simp only [Option.some.injEq] at hj
          omega
    by_cases hi : i ≤ 3
    · have h1 := prd_le_pow (b := 1048576) (by omega) (l := (cntL D S).take i) (fun x hx => hel x (List.mem_of_mem_take hx))
      have h2 : ((cntL D S).take i).length ≤ 3 := by rw [List.length_take]; omega
      refine ⟨h1.1, ?_⟩
      have h3 : ∀ k : Nat, k ≤ 3 → (1048576 : Int) ^ k ≤ 1152921504606846976 := fun k hk => by
        match k, hk with
        | 0, _ => decide
        | 1, _ => decide
        | 2, _ => decide
        | 3, _ => decide
      have := h3 _ h2
      omega
    · have h1 : (cntL D S).length ≤ i := by rw [cntL, List.length_zipWith]; omega
      rw [List.take_of_length_le h1, cntL_zero hsl hs h0]
      omega
  · have h1 := cntL_take_le (D := D) (S := S) (fun x hx => by have := hd x hx; have : x ≠ 0 := fun e => h0 (e ▸ hx); omega) hs i
    have h2 := prd_take_le (D := D) (fun x hx => by have := hd x hx; have : x ≠ 0 := fun e => h0 (e ▸ hx); omega) i
    have h3 := (elE_ok he).2
    omega
set_option maxHeartbeats 8000000 in
theorem refChunks_any (D S : List Int) (vd vs : Value) (w : World) (hD : Is w vd D) (hS : Is w vs S) : Calls Try.prog 10 #[vd, vs] w fun e w' => e = .returned (.tuple #[.int .i64 (chN D S), .int .i64 (fitE D S)]) ∧ Below w.heap.size w w' := by
  have HFI : Hid _ := refFit_any D S vd vs w hD hS
  have HD : Hid (Is w vd D) := hD
  have HS : Hid (Is w vs S) := hS
  obtain ⟨a1, n, c1, rfl, e1, k1, l1⟩ := hD.open
  obtain ⟨a2, m2, c2, rfl, e2, k2, l2⟩ := hS.open
  obtain ⟨fe, HFE⟩ : ∃ fe, Hid (fitE D S = fe) := ⟨_, rfl⟩
  rw [HFE.out] at HFI ⊢
  by_cases h1 : fe = 0
  · subst h1
    obtain ⟨f1, f2, f3⟩ := fitE_zero HFE.out
    obtain ⟨s1, s2⟩ := shB_iff.1 f2
    have hm2 : n = m2 := by omega
    have HTK : Hid (∀ i, 0 ≤ prd ((cntL D S).take i) ∧ prd ((cntL D S).take i) ≤ 1152921504606846976) := fun i => cntL_bd (dims_of (elE_ok f1).1).1 f1 s1 (fun x hx => (s2 x hx).1) i
    have HDD : Hid (∀ x ∈ D, 0 ≤ x ∧ x ≤ 1048576) := (dims_of (elE_ok f1).1).2
    have HSP : Hid (∀ x ∈ S, 1 ≤ x ∧ x ≤ 1048576) := s2
    have HV : Hid (chN D S = prd (cntL D S)) := by rw [Hid, chN, HFE.out, if_pos rfl]
    have HCL : Hid ((cntL D S).length = n) := by rw [Hid, cntL, List.length_zipWith]; omega
    rw [HV.out]
    subst hm2
    clear hD hS e1 e2 f1 f2 f3 s1 s2
    go_enter Try.func10, Try.ntmps10
    go_wp2_with (go_at_call 32; refine Calls.mono HFI.out ?_; rintro e w1 ⟨rfl, hb1⟩; have HB1 : Hid (Below w.heap.size w w1) := hb1; clear hb1)
    go_loopw [8, 7] (fun x y wr => ∃ (i : Nat) (p : Int), i ≤ n ∧ x = .int .i64 (i : Int) ∧ y = .int .i64 p ∧ Hid (p = prd ((cntL D S).take i)) ∧ 0 ≤ p ∧ p ≤ 1152921504606846976 ∧ Hid (Below w.heap.size w wr)) (fun x _ _ => n - (intOf x).toNat)
    case atStart => exact ⟨0, 1, Nat.zero_le _, rfl, rfl, by simp [Hid, prd], by omega, by omega, HB1.out⟩
    case round =>
      obtain ⟨i, p, hin, rfl, rfl, HP, hpp1, hpp2, HB⟩ := hrel
      by_cases hlt : i < n
      · obtain ⟨g1, o1, a, rfl, ha, _, ca⟩ := (HD.out.below HB.out).at hlt
        obtain ⟨g2, o2, s, rfl, hs, _, cs⟩ := (HS.out.below HB.out).at hlt
        have hili : (i : Int) < (n : Int) := by omega
        have ha1 := HDD.out a (List.mem_of_getElem? ha)
        have hs1 := HSP.out s (List.mem_of_getElem? hs)
        have hst : prd ((cntL D S).take (i + 1)) = p * ((a + s - 1) / s) := by
          rw [List.take_add_one, cntL_at ha hs, prd_append, ← HP.out]; simp [prd]
        have hbd := HTK.out (i + 1)
        obtain ⟨q, hq⟩ : ∃ q, (a + s - 1) / s = q := ⟨_, rfl⟩
        rw [hq] at hst
        have hq0 : 0 ≤ q := by rw [← hq]; exact Int.ediv_nonneg (by omega) (by omega)
        have hq1 : q ≤ 2097152 := by rw [← hq]; have := Int.ediv_le_self s (show 0 ≤ a + s - 1 by omega); omega
        have hw0 : IntKind.i64.wrap (a + s) = a + s := wrap_i64_in _ (by omega) (by omega)
        have hw0' : IntKind.i64.wrap (a + s - 1) = a + s - 1 := wrap_i64_in _ (by omega) (by omega)
        have htd : (a + s - 1).tdiv s = q := by rw [Int.tdiv_eq_ediv_of_nonneg (by omega), hq]
        have hw1 : IntKind.i64.wrap q = q := wrap_i64_in _ (by omega) (by omega)
        have hsz : (s == 0) = false := by simpa using (by omega : s ≠ 0)
        have hsn : s ≠ 0 := by omega
        have hsm : s ≠ -1 := by omega
        obtain ⟨pq, hpq⟩ : ∃ pq, p * q = pq := ⟨_, rfl⟩
        rw [hpq] at hst
        have HST : Hid (pq = prd ((cntL D S).take (i + 1))) := hst.symm
        rw [← HST.out] at hbd
        have hw3 : IntKind.i64.wrap (p * q) = pq := by rw [hpq]; exact wrap_i64_in _ (by omega) (by omega)
        clear ha hs hst hpq
        go_wp2_with fail
        go_quiet (fail)
        go_wp2_with fail
        go_roundw
        case rel => exact ⟨i + 1, pq, by omega, by simp, rfl, HST.out, hbd.1, hbd.2, below_dN HB.out HB.out.size _⟩
        case measure => simp [intOf]; omega
      · have HE : Hid (prd (cntL D S) = p) := by have h9 := HP.out; rw [List.take_of_length_le (by rw [HCL.out]; omega)] at h9; exact h9.symm
        go_wp2_with fail
        go_ret2
        exact ⟨by rw [HE.out]; rfl, HB.out⟩
  · have HV : Hid (chN D S = 0) := by rw [Hid, chN, HFE.out, if_neg h1]
    have b2 : (fe != 0) = true := by simpa using h1
    rw [HV.out]
    clear hD hS e1 e2
    go_enter Try.func10, Try.ntmps10
    go_wp2_with (go_at_call 32; refine Calls.mono HFI.out ?_; rintro e w1 ⟨rfl, hb1⟩; have HB1 : Hid (Below w.heap.size w w1) := hb1; clear hb1)
    go_ret2
    exact ⟨rfl, HB1.out⟩
set_option maxHeartbeats 16000000 in
theorem refOf_any (A S : List Int) (va vs : Value) (w : World) (hA : Is w va A) (hS : Is w vs S) : Calls Try.prog 12 #[va, vs] w (OfP w A S) := by
  have HA : Hid (Is w va A) := hA
  have HS : Hid (Is w vs S) := hS
  obtain ⟨a1, n, c1, rfl, e1, k1, l1⟩ := hA.open
  obtain ⟨a2, m2, c2, rfl, e2, k2, l2⟩ := hS.open
  have HN : Hid (A.length = n) := e1
  have HM : Hid (S.length = m2) := e2
  by_cases hn4 : n ≤ 4
  · have d4 : decide (4 < (n : Int)) = false := by simp; omega
    by_cases hnm : n = m2
    · have HBAD : Hid (∀ (i : Nat) x y, A[i]? = some x → S[i]? = some y → (x < 0 ∨ y < 1 ∨ 1048576 < y) → ofE A S = 2) := fun i x y hx hy hb => by
        rw [ofE, if_neg]
        rintro ⟨_, h2, h3⟩
        have p1 := (okB_iff.1 h2).2 x (List.mem_of_getElem? hx)
        have p2 := (shB_iff.1 h3).2 y (List.mem_of_getElem? hy)
        omega
      have HGOOD : Hid ((∀ (i : Nat) x y, A[i]? = some x → S[i]? = some y → 0 ≤ x ∧ 1 ≤ y ∧ y ≤ 1048576) → ofE A S = 0 ∧ (∀ x ∈ divL A S, I64 x) ∧ ∀ x ∈ modL A S, I64 x) := fun h => by
        have q1 : ∀ x ∈ A, 0 ≤ x := fun x hx => by
          obtain ⟨i, hi⟩ := List.getElem?_of_mem hx
          have hil := (List.getElem?_eq_some_iff.1 hi).1
          exact (h i x _ hi (List.getElem?_eq_getElem (by omega))).1
        have q2 : ∀ y ∈ S, 1 ≤ y ∧ y ≤ 1048576 := fun y hy => by
          obtain ⟨i, hi⟩ := List.getElem?_of_mem hy
          have hil := (List.getElem?_eq_some_iff.1 hi).1
          exact (h i _ y (List.getElem?_eq_getElem (by omega)) hi).2
        refine ⟨?_, of_i64 (fun x hx => ⟨q1 x hx, (HA.out.rng x hx).2⟩) q2⟩
        rw [ofE, if_pos ⟨by omega, okB_iff.2 ⟨rfl, q1⟩, shB_iff.2 ⟨by omega, q2⟩⟩]
      have HLD : Hid ((divL A S).length = n) := divL_length e1 (by omega)
      have HLM : Hid ((modL A S).length = n) := modL_length e1 (by omega)
      have HRNG : Hid (∀ (i : Nat) x, A[i]? = some x → x ≤ 9223372036854775807) := fun i x hx => (HA.out.rng x (List.mem_of_getElem? hx)).2
      subst hnm
      clear hA hS e1 e2
      go_enter Try.func12, Try.ntmps12
      go_wp2_with fail
      go_loopw [9, 7, 8] (fun x y z wr => ∃ (i : Nat) (ua : Option Addr) (uc : Nat) (va : Option Addr) (vc : Nat), i ≤ n ∧ x = .int .i64 (i : Int) ∧ y = .slice ua i uc ∧ z = .slice va i vc ∧ Hid (Two wr w.heap.size (.slice ua i uc) ((divL A S).take i) (.slice va i vc) ((modL A S).take i)) ∧ Hid (∀ (j : Nat) x y, j < i → A[j]? = some x → S[j]? = some y → 0 ≤ x ∧ 1 ≤ y ∧ y ≤ 1048576) ∧ Hid (Below w.heap.size w wr)) (fun x _ _ _ => n - (intOf x).toNat)
      case atStart => exact ⟨0, none, 0, none, 0, Nat.zero_le _, rfl, rfl, rfl, Two.nil _ _, fun j x y h => by omega, Below.refl _ _⟩
      case round =>
        obtain ⟨i, ua, uc, va, vc, hin, rfl, rfl, rfl, HTW, HJ, HB⟩ := hrel
        rename World => w6
        by_cases hlt : i < n
        · have hili : (i : Int) < (n : Int) := by omega
          have hi0 : (0 : Int) ≤ (i : Int) := by omega
          obtain ⟨b1, p1, x, rfl, hx, _, cx⟩ := (HA.out.below HB.out).at hlt
          obtain ⟨b2, p2, y, rfl, hy, _, cy⟩ := (HS.out.below HB.out).at hlt
          have HXX : Hid (A[i]? = some x ∧ S[i]? = some y) := ⟨hx, hy⟩
          have hx64 := HRNG.out i x hx
          clear hx hy
          by_cases h1 : x < 0
          · have d1 : decide (x < 0) = true := by simpa using h1
            have HO : Hid (ofE A S = 2) := HBAD.out i x y HXX.out.1 HXX.out.2 (.inl h1)
            go_wp2_with fail
            go_ret3
            exact ofP_no HO.out HB.out
          · have d1 : decide (x < 0) = false := by simpa using h1
            by_cases h2 : y < 1
            · have d2 : decide (y < 1) = true := by simpa using h2
              have HO : Hid (ofE A S = 2) := HBAD.out i x y HXX.out.1 HXX.out.2 (.inr (.inl h2))
              go_wp2_with fail
              go_ret3
              exact ofP_no HO.out HB.out
            · have d2 : decide (y < 1) = false := by simpa using h2
              by_cases h3 : 1048576 < y
              · have d3 : decide (1048576 < y) = true := by simpa using h3
                have HO : Hid (ofE A S = 2) := HBAD.out i x y HXX.out.1 HXX.out.2 (.inr (.inr h3))
                go_wp2_with fail
                go_ret3
                exact ofP_no HO.out HB.out
              · have d3 : decide (1048576 < y) = false := by simpa using h3
                have HSK : Hid (∀ wz, Below w.heap.size w wz → wz.cell? ⟨b1, p1 + i, none⟩ = some (.int .i64 x) ∧ wz.cell? ⟨b2, p2 + i, none⟩ = some (.int .i64 y)) := fun wz hz => by
                  obtain ⟨b, o, x', e, hxx, _, c⟩ := HA.out.at hlt
                  injection e with e; injection e with e e'; subst e e'
                  obtain ⟨b', o', y', e2, hyy, _, c2⟩ := HS.out.at hlt
                  injection e2 with e2; injection e2 with e2 e2'; subst e2 e2'
                  rw [HXX.out.1] at hxx
                  rw [HXX.out.2] at hyy
                  obtain rfl := Option.some.inj hxx
                  obtain rfl := Option.some.inj hyy
                  exact ⟨(hz.cell (World.block_lt_of_cell? w _ c)).trans c, (hz.cell (World.block_lt_of_cell? w _ c2)).trans c2⟩
                obtain ⟨q, hq⟩ : ∃ q, x / y = q := ⟨_, rfl⟩
                obtain ⟨r, hr⟩ : ∃ r, x % y = r := ⟨_, rfl⟩
                have HT1 : Hid ((divL A S).take (i + 1) = (divL A S).take i ++ [q]) := take_snoc (by rw [divL_at HXX.out.1 HXX.out.2, hq])
                have HT2 : Hid ((modL A S).take (i + 1) = (modL A S).take i ++ [r]) := take_snoc (by rw [modL_at HXX.out.1 HXX.out.2, hr])
                have HL1 : Hid (((divL A S).take i).length = i) := by rw [Hid, List.length_take, HLD.out]; omega
                have HL2 : Hid (((modL A S).take i).length = i) := by rw [Hid, List.length_take, HLM.out]; omega
                have hq0 : 0 ≤ q := by rw [← hq]; exact Int.ediv_nonneg (by omega) (by omega)
                have hq1 : q ≤ x := by rw [← hq]; exact Int.ediv_le_self _ (by omega)
                have htd : x.tdiv y = q := by rw [Int.tdiv_eq_ediv_of_nonneg (by omega), hq]
                have htm : x.tmod y = r := by rw [Int.tmod_eq_emod_of_nonneg (by omega), hr]
                have hwq : IntKind.i64.wrap q = q := wrap_i64_in _ (by omega) (by omega)
                have hr0 : 0 ≤ r := by rw [← hr]; exact Int.emod_nonneg x (by omega)
                have hr1 : r < y := by rw [← hr]; exact Int.emod_lt_of_pos x (by omega)
                have hwr : IntKind.i64.wrap r = r := wrap_i64_in _ (by omega) (by omega)
                have hyz : (y == 0) = false := by simpa using (by omega : y ≠ 0)
                have hyn : y ≠ 0 := by omega
                have hym : y ≠ -1 := by omega
                obtain ⟨wA, hwA, bA, sA, gA⟩ := alloc_facts w6.drew (.cells #[.int .i64 q] 3)
                have HBA6 : Hid (Below w6.heap.size w6 wA) := (Below.refl _ w6).drew.trans (bA.mono (Nat.le_refl _))
                have HGA : Hid (wA.heap[w6.heap.size]? = some (.cells #[.int .i64 q] 3 (0, 0))) := gA
                have HBA : Hid (Below w.heap.size w wA) := HB.out.trans (HBA6.out.mono HB.out.size)
                clear bA sA gA
                go_wp2_with fail
                clear cx cy
                go_region_held_law (fun wz => wz.cell? ⟨b1, p1 + i, none⟩ = some (.int .i64 x) ∧ wz.cell? ⟨b2, p2 + i, none⟩ = some (.int .i64 y)) (first | exact HSK.out _ HBD.out | exact HSK.out _ HBA.out | exact HSK.out _ HB.out.drew)
                  ((refine step_push_intD 56 (w := wA) rfl rfl (.tmp 45) (.tmp 55) rfl w.heap.size (.slice ua i uc) ((divL A S).take i) i HL1.out w6.heap.size q (by rfl) (by rfl) (HTW.out.below HBA6.out).a HGA.out (by omega) HBA.out.size ?_; rintro gD cD wD hOD hgD hatD; have HTD : Hid (Two wD w.heap.size (.slice (some ⟨gD, 0, none⟩) (i + 1) cD) ((divL A S).take (i + 1)) (.slice va i vc) ((modL A S).take i)) := (by rw [Hid, HT1.out]; exact (HTW.out.below HBA6.out).push hOD hgD hatD rfl); have HBD : Hid (Below w.heap.size w wD) := bel_grown HBA.out (HTW.out.below HBA6.out).a (Nat.le_refl _) hgD; clear hOD hgD hatD))
                obtain ⟨wE, hwE, bE, sE, gE⟩ := alloc_facts wD.drew (.cells #[.int .i64 r] 3)
                have HBED : Hid (Below wD.heap.size wD wE) := (Below.refl _ wD).drew.trans (bE.mono (Nat.le_refl _))
                have HGE : Hid (wE.heap[wD.heap.size]? = some (.cells #[.int .i64 r] 3 (0, 0))) := gE
                have HBE : Hid (Below w.heap.size w wE) := HBD.out.trans (HBED.out.mono HBD.out.size)
                clear bE sE gE
                go_wp2_with fail
                go_region_held_law (fun wz => wz.cell? ⟨b1, p1 + i, none⟩ = some (.int .i64 x) ∧ wz.cell? ⟨b2, p2 + i, none⟩ = some (.int .i64 y)) (first | exact HSK.out _ HBF.out | exact HSK.out _ HBE.out | exact HSK.out _ HBD.out.drew)
                  ((refine step_push_intD 68 (w := wE) rfl rfl (.tmp 57) (.tmp 67) rfl w.heap.size (.slice va i vc) ((modL A S).take i) i HL2.out wD.heap.size r (by rfl) (by rfl) (HTD.out.below HBED.out).b HGE.out (by omega) HBE.out.size ?_; rintro gF cF wF hOF hgF hatF; have HTF : Hid (Two wF w.heap.size (.slice (some ⟨gD, 0, none⟩) (i + 1) cD) ((divL A S).take (i + 1)) (.slice (some ⟨gF, 0, none⟩) (i + 1) cF) ((modL A S).take (i + 1))) := (by rw [Hid, HT2.out]; exact ((HTD.out.below HBED.out).swap.push hOF hgF hatF rfl).swap); have HBF : Hid (Below w.heap.size w wF) := bel_grown HBE.out (HTD.out.below HBED.out).b (Nat.le_refl _) hgF; clear hOF hgF hatF))
                go_wp2_with fail
                go_roundw
                case rel =>
                  refine ⟨i + 1, _, _, _, _, by omega, by simp, rfl, rfl, HTF.out, fun j x' y' hj hx' hy' => ?_, HBF.out⟩
                  by_cases hji : j = i
                  · subst hji
                    rw [HXX.out.1] at hx'
                    rw [HXX.out.2] at hy'
                    obtain rfl := Option.some.inj hx'
                    obtain rfl := Option.some.inj hy'
                    omega
                  · exact HJ.out j x' y' (by omega) hx' hy'
                case measure => simp [intOf]; omega
        · obtain rfl : i = n := by omega
          have HV : Hid (OfP w A S (.returned (.tuple #[.slice ua i uc, .slice va i vc, .int .i64 0])) w6) := by
            obtain ⟨h1, h2, h3⟩ := HGOOD.out (fun j x y hx hy => HJ.out j x y (by have := (List.getElem?_eq_some_iff.1 hx).1; have := HN.out; omega) hx hy)
            refine ⟨_, _, by rw [h1], ?_, ?_, HB.out⟩
            · rw [h1, if_pos rfl]
              have h9 := HTW.out.a
              rw [List.take_of_length_le (by rw [HLD.out]; exact Nat.le_refl _)] at h9
              exact h9.is (by rw [HLD.out]; omega) h2
            · rw [h1, if_pos rfl]
              have h9 := HTW.out.b
              rw [List.take_of_length_le (by rw [HLM.out]; exact Nat.le_refl _)] at h9
              exact h9.is (by rw [HLM.out]; omega) h3
          go_wp2_with fail
          go_ret3
          exact HV.out
    · have HO : Hid (ofE A S = 2) := by
        rw [Hid, ofE, if_neg]
        rintro ⟨_, _, h3⟩
        have := (shB_iff.1 h3).1
        omega
      have b2 : ((n : Int) != (m2 : Int)) = true := by simp; omega
      clear hA hS e1 e2
      go_enter Try.func12, Try.ntmps12
      go_wp2_with fail
      go_ret3
      exact ofP_no HO.out (Below.refl _ _)
  · have d4 : decide (4 < (n : Int)) = true := by simp; omega
    have HO : Hid (ofE A S = 2) := by rw [Hid, ofE, e1, if_neg (fun h => hn4 h.1)]
    clear hA hS e1 e2
    go_enter Try.func12, Try.ntmps12
    go_wp2_with fail
    go_ret3
    exact ofP_no HO.out (Below.refl _ _)
end Go.Proofs.Ytneegijbbbebkaa
