/-
  Of: in which chunk a tuple lies, and where. Conditions: lengths are such as memory bears.
-/
import Derived.Test.YtneegijbbbebkaaGRefK
namespace Go.Proofs.Ytneegijbbbebkaa
open Go.RowKit Go.Shelf
set_option linter.unusedVariables false
set_option maxRecDepth 100000

def divL (a b : List Int) : List Int := List.zipWith (· / ·) a b
def modL (a b : List Int) : List Int := List.zipWith (· % ·) a b
theorem divL_at {a b : List Int} {i : Nat} {x y : Int} (hx : a[i]? = some x) (hy : b[i]? = some y) : (divL a b)[i]? = some (x / y) := by rw [divL, List.getElem?_zipWith, hx, hy]
theorem modL_at {a b : List Int} {i : Nat} {x y : Int} (hx : a[i]? = some x) (hy : b[i]? = some y) : (modL a b)[i]? = some (x % y) := by rw [modL, List.getElem?_zipWith, hx, hy]
theorem divL_length {a b : List Int} {n : Nat} (ha : a.length = n) (hb : b.length = n) : (divL a b).length = n := by rw [divL, List.length_zipWith]; omega
theorem modL_length {a b : List Int} {n : Nat} (ha : a.length = n) (hb : b.length = n) : (modL a b).length = n := by rw [modL, List.length_zipWith]; omega
def ofE (A S : List Int) : Int := if A.length ≤ 4 ∧ okB A.length A = true ∧ shB A.length S = true then 0 else 2
def OfP (w : World) (A S : List Int) (e : Ending) (w' : World) : Prop := ∃ u v, e = .returned (.tuple #[u, v, .int .i64 (ofE A S)]) ∧ Is w' u (if ofE A S = 0 then divL A S else []) ∧ Is w' v (if ofE A S = 0 then modL A S else []) ∧ Below w.heap.size w w'
theorem ofP_no {w w' : World} {A S : List Int} (h : ofE A S = 2) (hb : Below w.heap.size w w') : OfP w A S (.returned (.tuple #[.slice none 0 0, .slice none 0 0, .int .i64 2])) w' := ⟨_, _, by rw [h], by rw [h]; exact is_nil _, by rw [h]; exact is_nil _, hb⟩
theorem of_i64 {A S : List Int} (ha : ∀ x ∈ A, 0 ≤ x ∧ x ≤ 9223372036854775807) (hs : ∀ x ∈ S, 1 ≤ x ∧ x ≤ 1048576) : (∀ x ∈ divL A S, I64 x) ∧ ∀ x ∈ modL A S, I64 x := by
  refine ⟨fun x hx => ?_, fun x hx => ?_⟩
  all_goals
    obtain ⟨i, hi⟩ := List.getElem?_of_mem hx
    first | rw [divL, List.getElem?_zipWith] at hi | rw [modL, List.getElem?_zipWith] at hi
    cases h1 : A[i]? with
    | none => rw [h1] at hi; simp at hi
    | some a =>
      cases h2 : S[i]? with
      | none => rw [h1, h2] at hi; simp at hi
      | some s =>
        rw [h1, h2] at hi
        have p1 := ha a (List.mem_of_getElem? h1)
        have p2 := hs s (List.mem_of_getElem? h2)
        have q0 := Int.ediv_nonneg (show 0 ≤ a by omega) (show 0 ≤ s by omega)
        have q1 := Int.ediv_le_self s (show 0 ≤ a by omega)
        have q2 := Int.emod_nonneg a (show s ≠ 0 by omega)
        have q3 := Int.emod_lt_of_pos a (show 0 < s by omega)
        simp only [Option.some.injEq] at hi
        exact ⟨by omega, by omega⟩
set_option maxHeartbeats 16000000 in
theorem of_any (A S : List Int) (va vs : Value) (w : World) (hA : Is w va A) (hS : Is w vs S) : Calls Try.prog 11 #[va, vs] w (OfP w A S) := by
  have HA : Hid (Is w va A) := hA
  have HS : Hid (Is w vs S) := hS
  obtain ⟨a1, n, c1, rfl, e1, k1, l1⟩ := hA.open
  obtain ⟨a2, m2, c2, rfl, e2, k2, l2⟩ := hS.open
  by_cases hn4 : n ≤ 4
  · have d4 : decide (4 < (n : Int)) = false := by simp; omega
    obtain ⟨ok, HOK⟩ : ∃ ok, Hid (okB n A = ok) := ⟨_, rfl⟩
    obtain ⟨sh, HSH⟩ : ∃ sh, Hid (shB n S = sh) := ⟨_, rfl⟩
    have HOF : Hid (ofE A S = if ok = true ∧ sh = true then 0 else 2) := by
      rw [Hid, ofE, e1, HOK.out, HSH.out]
      by_cases h : ok = true ∧ sh = true
      · rw [if_pos h, if_pos ⟨hn4, h⟩]
      · rw [if_neg h, if_neg (fun e => h e.2)]
    have HIT : Hid (Calls Try.prog 33 #[.slice a1 n c1, .int .i64 (n : Int)] w fun e w' => e = .returned (.bool ok) ∧ Below w.heap.size w w') := by
      have := isTuple_any w _ A n l1 hA
      rwa [HOK.out] at this
    have HIS : Hid (∀ w1, Below w.heap.size w w1 → Calls Try.prog 34 #[.slice a2 m2 c2, .int .i64 (n : Int)] w1 fun e w' => e = .returned (.bool sh) ∧ Below w1.heap.size w1 w') := fun w1 h => by
      have := isShape_any w1 _ S n l1 (HS.out.below h)
      rwa [HSH.out] at this
    cases ok with
    | false =>
      have HO : Hid (ofE A S = 2) := by rw [Hid, HOF.out]; rfl
      clear hA hS e1 e2
      go_enter Try.func11, Try.ntmps11
      go_wp2_with (go_at_call 33; refine Calls.mono HIT.out ?_; rintro e w1 ⟨rfl, hb1⟩; have HB1 : Hid (Below w.heap.size w w1) := hb1; clear hb1)
      go_ret3
      exact ofP_no HO.out HB1.out
    | true =>
      cases sh with
      | false =>
        have HO : Hid (ofE A S = 2) := by rw [Hid, HOF.out]; rfl
        clear hA hS e1 e2
        go_enter Try.func11, Try.ntmps11
        go_wp2_with (first
          | (go_at_call 33; refine Calls.mono HIT.out ?_; rintro e w1 ⟨rfl, hb1⟩; have HB1 : Hid (Below w.heap.size w w1) := hb1; clear hb1)
          | (go_at_call 34; refine Calls.mono (HIS.out _ HB1.out) ?_; rintro e w2 ⟨rfl, hb2⟩; have HB2 : Hid (Below w.heap.size w w2) := HB1.out.trans (hb2.mono HB1.out.size); clear hb2))
        go_ret3
        exact ofP_no HO.out HB2.out
      | true =>
        have HO : Hid (ofE A S = 0) := by rw [Hid, HOF.out]; rfl
        obtain ⟨o1, o2⟩ := okB_iff.1 HOK.out
        obtain ⟨s1, s2⟩ := shB_iff.1 HSH.out
        obtain ⟨Z, hZ, hmk⟩ := make_rule n hn4
        have HZ : Hid _ := hZ
        have HLD : Hid ((divL A S).length = n) := divL_length o1 s1
        have HLM : Hid ((modL A S).length = n) := modL_length o1 s1
        have HAT : Hid (∀ (i : Nat) x y, A[i]? = some x → S[i]? = some y → (divL A S)[i]? = some (x / y) ∧ (modL A S)[i]? = some (x % y) ∧ 0 ≤ x ∧ x ≤ 9223372036854775807 ∧ 1 ≤ y ∧ y ≤ 1048576) := fun i x y g1 g2 =>
          ⟨divL_at g1 g2, modL_at g1 g2, o2 x (List.mem_of_getElem? g1), (HA.out.rng x (List.mem_of_getElem? g1)).2, (s2 y (List.mem_of_getElem? g2)).1, (s2 y (List.mem_of_getElem? g2)).2⟩
        have HRET : Hid (∀ w' g1 g2, Below w.heap.size w w' → RI w' g1 (divL A S) → RI w' g2 (modL A S) → OfP w A S (.returned (.tuple #[.slice (some ⟨g1, 0, none⟩) n n, .slice (some ⟨g2, 0, none⟩) n n, .int .i64 0])) w') := fun w' g1 g2 h r1 r2 => by
          obtain ⟨i1, i2⟩ := of_i64 (A := A) (S := S) (fun x hx => ⟨o2 x hx, (HA.out.rng x hx).2⟩) s2
          refine ⟨_, _, by rw [HO.out], ?_, ?_, h⟩
          · rw [HO.out, if_pos rfl]
            have := r1.is (by rw [HLD.out]; omega) i1
            rwa [HLD.out] at this
          · rw [HO.out, if_pos rfl]
            have := r2.is (by rw [HLM.out]; omega) i2
            rwa [HLM.out] at this
        have hm2 : n = m2 := by omega
        subst hm2
        have hn0 : (n : Int) ≤ 4 := by omega
        clear hA hS e1 e2 o1 o2 s1 s2 hZ
        go_enter Try.func11, Try.ntmps11
        go_upto_region 4 with (first
          | (go_at_call 33; refine Calls.mono HIT.out ?_; rintro e w1 ⟨rfl, hb1⟩; have HB1 : Hid (Below w.heap.size w w1) := hb1; clear hb1)
          | (go_at_call 34; refine Calls.mono (HIS.out _ HB1.out) ?_; rintro e w2 ⟨rfl, hb2⟩; have HB2 : Hid (Below w.heap.size w w2) := HB1.out.trans (hb2.mono HB1.out.size); clear hb2))
        go_cut [4, 5] (fun x y wx => ∃ g1 g2, x = .slice (some ⟨g1, 0, none⟩) n n ∧ y = .slice (some ⟨g2, 0, none⟩) n n ∧ Hid (wx.heap[g1]? = some (.cells Z 3 (0, 0)) ∧ wx.heap[g2]? = some (.cells Z 3 (0, 0)) ∧ g1 ≠ g2 ∧ w2.heap.size ≤ g1 ∧ w2.heap.size ≤ g2 ∧ Below w2.heap.size w2 wx))
        case first =>
          obtain ⟨wa, hwa, hba, hsa, hga⟩ := alloc_facts w2.drew (.cells Z 3)
          obtain ⟨wb, hwb, hbb, hsb, hgb⟩ := alloc_facts wa (.cells Z 3)
          have hq : w2.drew.heap.size = w2.heap.size := rfl
          have HGA : Hid (wb.heap[w2.heap.size]? = some (.cells Z 3 (0, 0)) ∧ wb.heap[w2.heap.size + 1]? = some (.cells Z 3 (0, 0)) ∧ Below w2.heap.size w2 wb) := by
            rw [hq] at hga hsa
            refine ⟨(hbb.block _ (by omega)).trans hga, by rw [← hsa]; exact hgb, ?_⟩
            have h1 : Below w2.heap.size w2 wa := (Below.refl _ w2).drew.trans (hba.mono (Nat.le_refl _))
            exact h1.trans (hbb.mono h1.size)
          clear hba hbb hga hgb hsb hq
          go_region
          all_goals
            go_wp2_with fail
            go_meet
            first
              | exact ⟨w2.heap.size, w2.heap.size + 1, rfl, rfl, HGA.out.1, HGA.out.2.1, by omega, by omega, by omega, HGA.out.2.2⟩
              | exact ⟨w2.heap.size + 1, w2.heap.size, rfl, rfl, HGA.out.2.1, HGA.out.1, by omega, by omega, by omega, HGA.out.2.2⟩
        case rest =>
          obtain ⟨g1, g2, rfl, rfl, HGG⟩ := hcut
          clear hmk
          have HNE : Hid (g1 ≠ g2) := HGG.out.2.2.1
          have HGW : Hid (w.heap.size ≤ g1 ∧ w.heap.size ≤ g2) := ⟨Nat.le_trans HB2.out.size HGG.out.2.2.2.1, Nat.le_trans HB2.out.size HGG.out.2.2.2.2.1⟩
          go_wp2_with fail
          go_loopw [30] (fun x wr => ∃ i : Nat, i ≤ n ∧ x = .int .i64 (i : Int) ∧ Hid (RI wr g1 (fillI n i (divL A S))) ∧ Hid (RI wr g2 (fillI n i (modL A S))) ∧ Hid (Below w.heap.size w wr)) (fun x _ => n - (intOf x).toNat)
          case atStart => exact ⟨0, Nat.zero_le _, rfl, by rw [Hid, fillI_zero, RI, ← HZ.out]; exact HGG.out.1, by rw [Hid, fillI_zero, RI, ← HZ.out]; exact HGG.out.2.1, HB2.out.trans (HGG.out.2.2.2.2.2.mono HB2.out.size)⟩
          case round =>
            obtain ⟨i, hin, rfl, H1, H2, HB⟩ := hrel
            rename World => w6
            by_cases hlt : i < n
            · have hili : (i : Int) < (n : Int) := by omega
              have hi0 : (0 : Int) ≤ (i : Int) := by omega
              obtain ⟨b1, p1, x, rfl, hx, _, cx⟩ := (HA.out.below HB.out).at hlt
              obtain ⟨b2, p2, y, rfl, hy, _, cy⟩ := (HS.out.below HB.out).at hlt
              obtain ⟨hs1, hs2, x0, x1, y1, y2⟩ := HAT.out i x y hx hy
              have n1 : b1 ≠ g1 ∧ b1 ≠ g2 := by
                obtain ⟨b, o, x', e, _, _, c⟩ := HA.out.at hlt
                injection e with e; injection e with e e'; subst e
                have := World.block_lt_of_cell? w _ c
                have h8 := HGW.out
                simp only [] at this
                omega
              have n2 : b2 ≠ g1 ∧ b2 ≠ g2 := by
                obtain ⟨b, o, x', e, _, _, c⟩ := HS.out.at hlt
                injection e with e; injection e with e e'; subst e
                have := World.block_lt_of_cell? w _ c
                have h8 := HGW.out
                simp only [] at this
                omega
              obtain ⟨q, hq⟩ : ∃ q, x / y = q := ⟨_, rfl⟩
              obtain ⟨r, hr⟩ : ∃ r, x % y = r := ⟨_, rfl⟩
              rw [hq] at hs1
              rw [hr] at hs2
              have hq0 : 0 ≤ q := by rw [← hq]; exact Int.ediv_nonneg (by omega) (by omega)
              have hq1 : q ≤ x := by rw [← hq]; exact Int.ediv_le_self _ (by omega)
              have htd : x.tdiv y = q := by rw [Int.tdiv_eq_ediv_of_nonneg (by omega), hq]
              have htm : x.tmod y = r := by rw [Int.tmod_eq_emod_of_nonneg (by omega), hr]
              have hwq : IntKind.i64.wrap q = q := wrap_i64_in _ (by omega) (by omega)
              have hr0 : 0 ≤ r := by rw [← hr]; exact Int.emod_nonneg x (by omega)
              have hr1 : r < y := by rw [← hr]; exact Int.emod_lt_of_pos x (by omega)
              have hwr : IntKind.i64.wrap r = r := wrap_i64_in _ (by omega) (by omega)
              have hyz : (y == 0) = false := by simpa using (by omega : y ≠ 0)
              have hyn : y ≠ 0 := by omega
              have hym : y ≠ -1 := by omega
              obtain ⟨w7, hw7⟩ : ∃ w7, w6.drew.setCell ⟨g1, i, none⟩ (.int .i64 q) = w7 := ⟨_, rfl⟩
              obtain ⟨w8, hw8⟩ : ∃ w8, w7.setCell ⟨g2, i, none⟩ (.int .i64 r) = w8 := ⟨_, rfl⟩
              have f1 := H1.out.free i
              have q1 := H1.out.cell (fillI_at HLD.out hlt)
              have f2 := H2.out.free i
              have q2 := H2.out.cell (fillI_at HLM.out hlt)
              have hR7 : RI w7 g1 (fillI n (i + 1) (divL A S)) := by
                rw [← hw7, ← fillI_set HLD.out hlt hs1]
                exact (show RI w6.drew g1 _ from H1.out).set i q
              have hR72 : RI w7 g2 (fillI n i (modL A S)) := by
                rw [← hw7]
                exact H2.out.of_block (Below.heap_setCell _ _ _ _ (show g2 ≠ g1 from fun e => HNE.out e.symm))
              have f7 := hR72.free i
              have q7 := hR72.cell (fillI_at HLM.out hlt)
              have HR81 : Hid (RI w8 g1 (fillI n (i + 1) (divL A S))) := by
                rw [← hw8]
                exact hR7.of_block (Below.heap_setCell _ _ _ _ (show g1 ≠ g2 from HNE.out))
              have HR82 : Hid (RI w8 g2 (fillI n (i + 1) (modL A S))) := by
                rw [← hw8, Hid, ← fillI_set HLM.out hlt hs2]
                exact hR72.set i r
              have HB8 : Hid (Below w.heap.size w w8) := by
                rw [← hw8, ← hw7]
                exact (HB.out.drew.setCell HGW.out.1 _).setCell HGW.out.2 _
              have hne1 : g1 ≠ g2 := HNE.out
              have hne2 : g2 ≠ g1 := fun e => HNE.out e.symm
              clear hx hy hs1 hs2 hR7 hR72 hq hr
              go_wp2_with fail
              go_region
              all_goals
                go_wp2_with fail
                go_roundw
                case rel => exact ⟨i + 1, by omega, by simp, HR81.out, HR82.out, HB8.out⟩
                case measure => simp [intOf]; omega
            · obtain rfl : i = n := by omega
              have HV : Hid (OfP w A S (.returned (.tuple #[.slice (some ⟨g1, 0, none⟩) i i, .slice (some ⟨g2, 0, none⟩) i i, .int .i64 0])) w6) := HRET.out w6 g1 g2 HB.out (by have h9 := H1.out; rwa [fillI_all HLD.out] at h9) (by have h9 := H2.out; rwa [fillI_all HLM.out] at h9)
              clear HRET
              go_wp2_with fail
              go_ret3
              exact HV.out
  · have d4 : decide (4 < (n : Int)) = true := by simp; omega
    have HO : Hid (ofE A S = 2) := by rw [Hid, ofE, e1, if_neg (fun h => hn4 h.1)]
    clear hA hS e1 e2
    go_enter Try.func11, Try.ntmps11
    go_wp2_with fail
    go_ret3
    exact ofP_no HO.out (Below.refl _ _)
end Go.Proofs.Ytneegijbbbebkaa
