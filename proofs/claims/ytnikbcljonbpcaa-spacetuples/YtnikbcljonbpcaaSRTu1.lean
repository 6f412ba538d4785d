/-
  The document's Tuples of all elements and of a hyperslab. Conditions: the selection may be, and selects something.
-/
import Derived.Test.YtnikbcljonbpcaaSRTm
import Derived.Test.YtnikbcljonbpcaaSRw
import Derived.Test.YtnikbcljonbpcaaSRefC
import Derived.Deep.RegionHeldLaw
namespace Go.Proofs.Ytnikbcljonbpcaa
open Go.RowKit Go.Shelf
set_option linter.unusedVariables false
set_option maxRecDepth 100000

/-- What the document's Tuples tells. -/
def TtP (w : World) (D : List Int) (s : Sel) (e : Ending) (w' : World) : Prop := ∃ v, e = .returned (.tuple #[v, .int .i64 (slE D s)]) ∧ RwP w' w.heap.size v (if slE D s = 0 then tups D s else []) ∧ Below w.heap.size w w'
theorem row_one {w : World} {B p q : Nat} (hp : w.heap[p]? = some (.cells #[] 3 (0, 0))) (hq : w.heap[q]? = some (.cells #[.slice (some ⟨p, 0, none⟩) 0 0] 22 (0, 0))) (h1 : B ≤ p) (h2 : B ≤ q) : RwP w B (.slice (some ⟨q, 0, none⟩) 1 1) [[]] := by
  refine ⟨[.slice (some ⟨p, 0, none⟩) 0 0], ⟨rfl, .inr ⟨q, 1, _, rfl, h2, hq, Nat.le_refl _, by unfold maxLen; omega, rfl, rfl⟩⟩, fun i u t hu ht => ?_⟩
  have hi : i = 0 := by have := (List.getElem?_eq_some_iff.1 hu).1; simp at this; omega
  subst hi
  obtain rfl : Value.slice (some ⟨p, 0, none⟩) 0 0 = u := by simpa using hu
  obtain rfl : [] = t := by simpa using ht
  exact ⟨OwnI.mono (own_empty hp) h1, by simp, by simp⟩
theorem own_lt2 {w : World} {g : Nat} {o : Obj} (h : w.heap[g]? = some o) : g < w.heap.size := (Array.getElem?_eq_some_iff.1 h).1
set_option maxHeartbeats 16000000 in
theorem refTuples_k1 (D : List Int) (s : Sel) (vd : Value) (V : SV) (w : World) (hD : Is w vd D) (hS : Ss w V s) (hE : slE D s = 0) (hk : s.kind = 1) (hz : slN D s ≠ 0) : Calls Try.prog 19 #[vd, selV s.kind V] w (TtP w D s) := by
  have HI : Hid (Is w vd D) := hD
  have HS : Hid (Ss w V s) := hS
  obtain ⟨ao, n, cap, rfl, hn, hc, hb⟩ := hD.open
  have HN : Hid (D.length = n) := hn
  obtain ⟨a0, n0, c0, a1, n1, c1, a2, n2, c2, a3, n3, c3, a4, n4, c4, e, hV⟩ := selV_open hS
  obtain ⟨W1, hW1, hb1, hz1, b0, b1, b2, b3, b4, b5⟩ := box_sel w s.kind (.slice a0 n0 c0) (.slice a1 n1 c1) (.slice a2 n2 c2) (.slice a3 n3 c3) (.slice a4 n4 c4)
  have HB1 : Hid (Below w.heap.size w W1) := hb1
  obtain ⟨hd1, hd2, _, hd4⟩ := sel_ok hS hE
  obtain ⟨hA1, hA2, hA3⟩ := hd4 (by omega)
  have hz' : prd (cnts (axA D s)) ≠ 0 := by rw [slN, if_neg (by omega)] at hz; exact hz
  have hag := (ax_good hd1 hA1 hA2 hA3 hz').1
  have hpn := prdN_cnts hA2
  have hp4 : prdN ((axA D s).map lenA) ≤ 4096 := by
    have h9 := (tups_ok hS hE).2.1
    rw [tups, if_neg (by omega), List.length_map, List.length_range] at h9
    exact h9
  have hn4 : n ≤ 4 := by have := (dims_of hd1).1; omega
  have hEL : elE D = 0 := by rw [elE, if_pos hd1, if_pos hd2]
  have hM : mayS D.length s = true := by
    cases hm : mayS D.length s with
    | true => rfl
    | false => have := chk_no hEL hm; omega
  obtain ⟨A, HA⟩ : ∃ A, Hid (axA D s = A) := ⟨_, rfl⟩
  rw [HA.out] at hA1 hA2 hag hp4 hz' hpn
  have HAL : Hid (A.length = n) := by rw [Hid, hA1, hn]
  have HAG : Hid (∀ (i : Nat) a, A[i]? = some a → AxG a) := fun i a h => hag a (List.mem_of_getElem? h)
  have HPT : Hid (∀ d, prdN ((A.take d).map lenA) ≤ 4096 ∧ 0 < prdN ((A.take d).map lenA)) := fun d => by
    have := prdN_take_le (L := A.map lenA) (fun x hx => by obtain ⟨a, ha, rfl⟩ := List.mem_map.1 hx; exact (hag a ha).len.2.1) d
    rw [← List.map_take] at this
    exact ⟨by omega, this.2⟩
  have HI64 : Hid (∀ (d : Nat) t x, t ∈ outT A d → x ∈ t → I64 x) := fun d t x ht hx => by
    rw [outT, List.mem_map] at ht
    obtain ⟨K, hK, rfl⟩ := ht
    rw [tupA, List.mem_map] at hx
    obtain ⟨⟨a, m⟩, hm, rfl⟩ := hx
    obtain ⟨i, hi⟩ := List.getElem?_of_mem hm
    rw [List.getElem?_zip_eq_some] at hi
    have ha : a ∈ A := List.mem_of_mem_take (List.mem_of_getElem? hi.1)
    have hlt := dig_lt _ _ (fun y hy => by obtain ⟨b, hb, rfl⟩ := List.mem_map.1 hy; exact (hag b (List.mem_of_mem_take hb)).len.2.1) (List.mem_range.1 hK) i m (lenA a) hi.2 (by rw [List.getElem?_map, hi.1]; rfl)
    have := atA_i64 (hag a ha) hlt
    exact ⟨by simp only []; omega, by simp only []; omega⟩
  have HTU : Hid (tups D s = outT A n) := by rw [Hid, tups, if_neg (by omega), HA.out, outT_all (by rw [HAL.out]; exact Nat.le_refl _)]
  obtain ⟨m, HMM⟩ : ∃ m, Hid (min (slN D s) 4097 = m) := ⟨_, rfl⟩
  have hm0 : m ≠ 0 := by have := slN_nonneg hS hEL hM; have := HMM.out; omega
  have hm1 : (m == 0) = false := by simpa using hm0
  rw [hk] at e b0 hW1
  have HCH : Hid (∀ w2, Below W1.heap.size W1 w2 → Calls Try.prog 15 #[.slice ao n cap, .agg #[.int .i64 1, .slice a0 n0 c0, .slice a1 n1 c1, .slice a2 n2 c2, .slice a3 n3 c3, .slice a4 n4 c4]] w2 fun e w' => e = .returned (.int .i64 0) ∧ Below w2.heap.size w2 w') := fun w2 hb2 => by
    have hw2 := hb1.trans (hb2.mono hb1.size)
    have := refCheck_any D s _ V w2 (HI.out.below hw2) (HS.out.below hw2)
    rwa [hk, e, hE] at this
  have HSL : Hid (∀ w2, Below W1.heap.size W1 w2 → Calls Try.prog 28 #[.slice ao n cap, .agg #[.int .i64 1, .slice a0 n0 c0, .slice a1 n1 c1, .slice a2 n2 c2, .slice a3 n3 c3, .slice a4 n4 c4]] w2 fun e w' => e = .returned (.int .i64 m) ∧ Below w2.heap.size w2 w') := fun w2 hb2 => by
    have hw2 := hb1.trans (hb2.mono hb1.size)
    have := refSelected_any D s _ V w2 (HI.out.below hw2) (HS.out.below hw2) hEL hM
    rwa [hk, e, HMM.out] at this
  have HPB : Hid (∀ w2, Below W1.heap.size W1 w2 → w2.cell? ⟨w.heap.size, 0, none⟩ = some (.int .i64 1) ∧ w2.cell? ⟨w.heap.size, 1, none⟩ = some (.slice a0 n0 c0) ∧ w2.cell? ⟨w.heap.size, 2, none⟩ = some (.slice a1 n1 c1) ∧ w2.cell? ⟨w.heap.size, 3, none⟩ = some (.slice a2 n2 c2) ∧ w2.cell? ⟨w.heap.size, 4, none⟩ = some (.slice a3 n3 c3) ∧ w2.cell? ⟨w.heap.size, 5, none⟩ = some (.slice a4 n4 c4)) := fun w2 hb2 =>
    ⟨(hb2.cell (World.block_lt_of_cell? W1 _ b0)).trans b0, (hb2.cell (World.block_lt_of_cell? W1 _ b1)).trans b1, (hb2.cell (World.block_lt_of_cell? W1 _ b2)).trans b2, (hb2.cell (World.block_lt_of_cell? W1 _ b3)).trans b3, (hb2.cell (World.block_lt_of_cell? W1 _ b4)).trans b4, (hb2.cell (World.block_lt_of_cell? W1 _ b5)).trans b5⟩
  have HAX : Hid (∀ (i : Nat) y a, D[i]? = some y → A[i]? = some a → a = ⟨0, 1, y, 1⟩) := fun i y a hy ha => by
    rw [← HA.out, axA, if_pos hk, wholeA, List.getElem?_map, hy] at ha
    exact (Option.some.inj ha).symm
  have HRET : Hid (∀ v w', RwP w' W1.heap.size v (outT A n) → Below W1.heap.size W1 w' → TtP w D s (.returned (.tuple #[v, .int .i64 0])) w') := fun v w' h1 h2 => ⟨v, by rw [hE], by rw [hE, if_pos rfl, HTU.out]; exact h1.mono hb1.size, hb1.trans (h2.mono hb1.size)⟩
  rw [hk, e]
  clear hD hS hE hn hb1 e hV hd1 hd2 hA1 hA2 hA3 hag hp4 hz' hz hpn hEL hM hk
  go_enter Try.func19, Try.ntmps19
  go_wp2_with (first
    | (go_at_call 15; refine Calls.mono (HCH.out _ (Below.refl _ _)) ?_; rintro e w2 ⟨rfl, hb2⟩; have HB2 : Hid (Below W1.heap.size W1 w2) := hb2; obtain ⟨d0, d1, d2, d3, d4, d5⟩ := HPB.out w2 hb2; clear hb2)
    | (go_at_call 28; refine Calls.mono (HSL.out _ HB2.out) ?_; rintro e w4 ⟨rfl, hb4⟩; have HB4 : Hid (Below W1.heap.size W1 w4) := HB2.out.trans (hb4.mono HB2.out.size); clear hb4; obtain ⟨wa, hwa, hba, hsa, hga⟩ := alloc_facts w4 (.cells #[] 3); obtain ⟨wb, hwb, hbb, hsb, hgb⟩ := alloc_facts wa (.cells #[.slice (some ⟨w4.heap.size, 0, none⟩) 0 0] 22); have HB5 : Hid (Below W1.heap.size W1 wb) := (HB4.out.trans (hba.mono HB4.out.size)).trans (hbb.mono (Nat.le_trans HB4.out.size hba.size)); have HR5 : Hid (RwP wb W1.heap.size (.slice (some ⟨wa.heap.size, 0, none⟩) 1 1) [[]]) := row_one ((hbb.block _ (by omega)).trans hga) hgb HB4.out.size (Nat.le_trans HB4.out.size hba.size); clear hba hsa hga hbb hsb hgb))
  clear d0 d1 d2 d3 d4 d5
  go_loopw [9, 7] (fun x y wr => ∃ (d : Nat) (vo : Option Addr) (P vc : Nat), d ≤ n ∧ x = .int .i64 (d : Int) ∧ y = .slice vo P vc ∧ Hid (P = prdN ((A.take d).map lenA)) ∧ P ≤ 4096 ∧ Hid (RwP wr W1.heap.size (.slice vo P vc) (outT A d)) ∧ Hid (Below W1.heap.size W1 wr)) (fun x _ _ => n - (intOf x).toNat)
  case atStart => exact ⟨0, _, 1, 1, Nat.zero_le _, rfl, rfl, rfl, by omega, by rw [Hid, outT_zero]; exact HR5.out, HB5.out⟩
  case round =>
    obtain ⟨d, vo, P, vc, hdn, rfl, rfl, HP, hP4, HRW, HB⟩ := hrel
    rename World => w6
    obtain ⟨d0, d1, d2, d3, d4, d5⟩ := HPB.out w6 HB.out
    by_cases hlt : d < n
    · have hili : (d : Int) < (n : Int) := by omega
      obtain ⟨gd, od, y, rfl, hy, _, cd⟩ := ((HI.out.below HB1.out).below HB.out).at hlt
      obtain ⟨a, ha⟩ : ∃ a, A[d]? = some a := ⟨A[d]'(by rw [HAL.out]; exact hlt), List.getElem?_eq_getElem _⟩
      have HAA : Hid (A[d]? = some a) := ha
      have hg := HAG.out d a ha
      have HG : Hid (AxG a) := hg
      obtain ⟨q, HQ⟩ : ∃ q, Hid (lenA a = q) := ⟨_, rfl⟩
      have hq4 : q ≤ 4096 := by have := hg.len.2.2; rw [HQ.out] at this; exact this
      have HPQ : Hid (P * q ≤ 4096) := by
        have h9 := (HPT.out (d + 1)).1
        rw [outT_succ_len ha, HQ.out, ← HP.out] at h9
        exact h9
      have hax := HAX.out d y a hy ha
      have HAY : Hid (a = ⟨0, 1, y, 1⟩) := hax
      have hyq : y = (q : Int) := by
        have h9 := hg.len.1
        rw [HQ.out, hax] at h9
        simp only [Int.mul_one] at h9
        exact h9.symm
      subst hyq
      have HAT : Hid (∀ j : Nat, atA a j = (j : Int)) := fun j => by rw [hax]; simp [atA]
      clear hax ha hy hg
      go_wp2_with fail
      go_loopw [11, 10] (fun x y wr => ∃ (j : Nat) (lo : Option Addr) (lc : Nat), j ≤ q ∧ x = .int .i64 (j : Int) ∧ y = .slice lo j lc ∧ Hid (OwnI wr w6.heap.size (.slice lo j lc) (lineT a j)) ∧ Hid (Below w6.heap.size w6 wr)) (fun x _ _ => q - (intOf x).toNat)
      case atStart => exact ⟨0, none, 0, Nat.zero_le _, rfl, rfl, OwnI.nil _ _, Below.refl _ _⟩
      case round =>
        obtain ⟨j, lo, lc, hjq, rfl, rfl, HOL, HB7⟩ := hrel
        rename World => w7
        have e7 := (HB7.out.cell (World.block_lt_of_cell? w6 _ cd)).trans cd
        by_cases hlt2 : j < q
        · have hjl : (j : Int) < (q : Int) := by omega
          obtain ⟨wa, hwa, hba, hsa, hga⟩ := alloc_facts w7 (.cells #[.int .i64 (j : Int)] 3)
          have HBA : Hid (Below w6.heap.size w6 wa) := HB7.out.trans (hba.mono HB7.out.size)
          have HOA : Hid (OwnI wa w6.heap.size (.slice lo j lc) (lineT a j)) := HOL.out.below hba
          have HGA : Hid (wa.heap[w7.heap.size]? = some (.cells #[.int .i64 (j : Int)] 3 (0, 0))) := hga
          clear hba hsa hga
          go_wp2_with (at_builtin; refine wpList_push_int rfl (.tmp 67) (.tmp 69) rfl w6.heap.size (.slice lo j lc) (lineT a j) j (lineT_len a j) w7.heap.size (j : Int) (by rfl) (by rfl) HOA.out HGA.out (by omega) HBA.out.size ?_; rintro g8 c8 w8 hO8 hg8; have HO8 : Hid (OwnI w8 w6.heap.size (.slice (some ⟨g8, 0, none⟩) (j + 1) c8) (lineT a (j + 1))) := (by rw [Hid, lineT_step, HAT.out]; exact hO8); have HB8 : Hid (Below w6.heap.size w6 w8) := bel_grown HBA.out HOA.out (Nat.le_refl _) hg8; clear hO8 hg8)
          go_roundw
          case rel => exact ⟨j + 1, _, _, by omega, by simp, rfl, HO8.out, HB8.out⟩
          case measure => simp [intOf]; omega
        · obtain rfl : j = q := by omega
          have HLN : Hid (Is w7 (.slice lo j lc) (lineA a)) := by
            have h9 := HOL.out
            rw [← HQ.out, lineT_all] at h9
            rw [← HQ.out]
            refine h9.is (by rw [lineA_len, HQ.out]; omega) (fun x hx => ?_)
            rw [lineA, List.mem_map] at hx
            obtain ⟨K, hK, rfl⟩ := hx
            have := atA_i64 HG.out (List.mem_range.1 hK)
            exact ⟨by omega, by omega⟩
          clear HOL
          have HISS : Hid (Iss w7 (.slice vo P vc) (outT A d)) := ((HRW.out.below HB7.out).iss (by rw [outT_len, ← HP.out]; omega))
          have HBW : Hid (Below W1.heap.size W1 w7) := HB.out.trans (HB7.out.mono HB.out.size)
          go_wp2_with fail
          go_loopw [15, 14] (fun x y wr => ∃ (i : Nat) (mo : Option Addr) (J mc : Nat), i ≤ P ∧ x = .int .i64 (i : Int) ∧ y = .slice mo J mc ∧ Hid (J = i * j) ∧ Hid (RwP wr w7.heap.size (.slice mo J mc) (moreT A d J)) ∧ Hid (Below w7.heap.size w7 wr)) (fun x _ _ => P - (intOf x).toNat)
          case atStart => exact ⟨0, none, 0, 0, Nat.zero_le _, rfl, rfl, by rw [Hid, Nat.zero_mul], RwP.nil _ _, Below.refl _ _⟩
          case round =>
            obtain ⟨i, mo, J, mc, hiP, rfl, rfl, HJ, HMO, HB8⟩ := hrel
            rename World => w8
            by_cases hlt3 : i < P
            · have hil : (i : Int) < (P : Int) := by omega
              go_wp2_with fail
              go_loopw [16, 14] (fun x y wr => ∃ (k : Nat) (mo : Option Addr) (J mc : Nat), k ≤ j ∧ x = .int .i64 (k : Int) ∧ y = .slice mo J mc ∧ Hid (J = i * j + k) ∧ Hid (RwP wr w7.heap.size (.slice mo J mc) (moreT A d J)) ∧ Hid (Below w7.heap.size w7 wr)) (fun x _ _ => j - (intOf x).toNat)
              case atStart => exact ⟨0, mo, J, mc, Nat.zero_le _, rfl, rfl, HJ.out, HMO.out, HB8.out⟩
              case round =>
                clear HJ HMO HB8
                obtain ⟨k, mo, J, mc, hkq, rfl, rfl, HJ, HMO, HB8⟩ := hrel
                rename World => w9
                by_cases hlt4 : k < j
                · have hkl : (k : Int) < (j : Int) := by omega
                  obtain ⟨go, oo, t, ua, un, uc, rfl, ht, htl, _, _, hcu, hiu⟩ := HISS.out.at hlt3
                  obtain ⟨gl, ol, x, rfl, hx, hx64, hcx⟩ := HLN.out.at hlt4
                  have hun : un = d := by rw [← htl]; exact outT_tlen (by rw [HAL.out]; omega) (List.mem_of_getElem? ht)
                  have hun4 : un ≤ 4 := by omega
                  have HT64 : Hid ((t ++ [x]).length ≤ 17592186043904 ∧ ∀ z ∈ t ++ [x], I64 z) := ⟨by rw [List.length_append, htl]; simp; omega, fun z hz => by
                    rcases List.mem_append.1 hz with h9 | h9
                    · exact HI64.out d t z (List.mem_of_getElem? ht) h9
                    · obtain rfl : z = x := by simpa using h9
                      exact hx64⟩
                  have HTL : Hid (t.length = un) := htl
                  have HMS : Hid (moreT A d (J + 1) = moreT A d J ++ [t ++ [x]]) := by
                    have h9 := moreT_step HAA.out (k := k) (i := i) ht hx
                    rw [HQ.out] at h9
                    rw [Hid, HJ.out]
                    exact h9
                  have hJb : J ≤ 100000000 := by
                    have h8 : i * j ≤ P * j := Nat.mul_le_mul_right _ hiP
                    have := HJ.out
                    have := HPQ.out
                    omega
                  have HCL : Hid (∀ wz, Below w7.heap.size w7 wz → wz.cell? ⟨go, oo + i, none⟩ = some (.slice ua un uc) ∧ wz.cell? ⟨gl, ol + k, none⟩ = some (.int .i64 x)) := fun wz hz => ⟨(hz.cell (World.block_lt_of_cell? w7 _ hcu)).trans hcu, (hz.cell (World.block_lt_of_cell? w7 _ hcx)).trans hcx⟩
                  have HIU : Hid (Is w7 (.slice ua un uc) t) := hiu
                  clear hcu hiu hcx ht hx htl hun
                  obtain ⟨wA, hwA, hbA, hsA, hgA⟩ := alloc_facts w9.drew (.cells #[] 3)
                  obtain ⟨wAB, hwAB, hbAB, hsAB, hgAB⟩ := alloc_facts wA (.cells #[.int .i64 x] 3)
                  obtain ⟨wB, hwB, hbB, hsB, hgB⟩ := alloc_facts w9.drew (.cells #[.int .i64 x] 3)
                  obtain ⟨wBA, hwBA, hbBA, hsBA, hgBA⟩ := alloc_facts wB (.cells #[] 3)
                  have hdr : Below w9.heap.size w9 w9.drew := (Below.refl _ _).drew
                  have HA9 : Hid (Below w9.heap.size w9 wA) := hdr.trans hbA
                  have HAB9 : Hid (Below w9.heap.size w9 wAB) := (hdr.trans hbA).trans (hbAB.mono (hdr.trans hbA).size)
                  have HB99 : Hid (Below w9.heap.size w9 wB) := hdr.trans hbB
                  have HBA9 : Hid (Below w9.heap.size w9 wBA) := (hdr.trans hbB).trans (hbBA.mono (hdr.trans hbB).size)
                  have HgA : Hid (wA.heap[w9.heap.size]? = some (.cells #[] 3 (0, 0))) := hgA
                  have HgAB : Hid (wAB.heap[w9.heap.size]? = some (.cells #[] 3 (0, 0)) ∧ wAB.heap[wA.heap.size]? = some (.cells #[.int .i64 x] 3 (0, 0)) ∧ wA.heap.size ≠ w9.heap.size ∧ wA.heap.size < wAB.heap.size) := ⟨(hbAB.block _ (by rw [hsA]; exact Nat.lt_succ_self _)).trans hgA, hgAB, by rw [hsA]; exact Nat.succ_ne_self _, by rw [hsAB]; exact Nat.lt_succ_self _⟩
                  have HgBA : Hid (wBA.heap[wB.heap.size]? = some (.cells #[] 3 (0, 0)) ∧ wBA.heap[w9.heap.size]? = some (.cells #[.int .i64 x] 3 (0, 0)) ∧ w9.heap.size ≠ wB.heap.size ∧ w9.heap.size < wBA.heap.size) := ⟨hgBA, (hbBA.block _ (by rw [hsB]; exact Nat.lt_succ_self _)).trans hgB, by rw [hsB]; exact (Nat.succ_ne_self _).symm, by rw [hsBA, hsB]; have : w9.drew.heap.size = w9.heap.size := rfl; omega⟩
                  have HS9 : Hid (∀ wz, Below w9.heap.size w9 wz → Below w7.heap.size w7 wz) := fun wz hz => HB8.out.trans (hz.mono HB8.out.size)
                  have HAD9 : Hid (w9.heap.size ≤ wA.heap.size ∧ w9.heap.size ≤ wB.heap.size) := ⟨HA9.out.size, HB99.out.size⟩
                  have hk0 : (0 : Int) ≤ (k : Int) := by omega
                  have hi0 : (0 : Int) ≤ (i : Int) := by omega
                  clear hbA hsA hgA hbAB hsAB hgAB hbB hsB hgB hbBA hsBA hgBA hdr
                  go_wp2_with fail
                  go_region_held_law (fun wz => wz.cell? ⟨go, oo + i, none⟩ = some (.slice ua un uc) ∧ wz.cell? ⟨gl, ol + k, none⟩ = some (.int .i64 x)) (first | exact HCL.out _ HB13.out | exact HCL.out _ (HS9.out _ HB12.out) | exact HCL.out _ (HS9.out _ HB11.out) | exact HCL.out _ (HS9.out _ HB10b.out) | exact HCL.out _ (HS9.out _ HB10.out) | exact HCL.out _ (HS9.out _ HAB9.out) | exact HCL.out _ (HS9.out _ HBA9.out) | exact HCL.out _ (HS9.out _ HA9.out) | exact HCL.out _ (HS9.out _ HB99.out) | exact HCL.out _ HB8.out.drew)
                    (first
                      | (have hg := HO10; clear hg; have hg2 := HO11; clear hg2; refine step_push_row (w := w12) rfl (.tmp 119) (.tmp 132) rfl w7.heap.size (.slice mo J mc) (moreT A d J) J (moreT_len A d J) w11.heap.size (some ⟨g11, 0, none⟩) (un + 1) c11 (t ++ [x]) (by rfl) (by rfl) (HMO.out.below HB12.out) HO12.out HT64.out.1 HT64.out.2 HG12.out (by omega) (HS9.out _ HB12.out).size ?_; rintro g13 c13 w13 hR13 hg13; have HR13 : Hid (RwP w13 w7.heap.size (.slice (some ⟨g13, 0, none⟩) (J + 1) c13) (moreT A d (J + 1))) := (by rw [Hid, HMS.out]; exact hR13); have HB13 : Hid (Below w7.heap.size w7 w13) := bel_grown (HS9.out _ HB12.out) (HMO.out.below HB12.out).choose_spec.own (Nat.le_refl _) hg13; clear hR13 hg13)
                      | (have hg := HO10; clear hg; refine step_push_int (w := w10b) rfl (.tmp 125) (.tmp 130) rfl w7.heap.size (.slice a10 un c10) t un HTL.out w10.heap.size x (by rfl) (by rfl) HO10b.out HG10b.out (by omega) (HS9.out _ HB10b.out).size ?_; rintro g11 c11 w11 hO11 hg11; have HO11 : Hid (OwnI w11 w7.heap.size (.slice (some ⟨g11, 0, none⟩) (un + 1) c11) (t ++ [x])) := hO11; have HB11 : Hid (Below w9.heap.size w9 w11) := bel_grown HB10b.out HO10X.out (Nat.le_refl _) hg11; obtain ⟨w12, hw12, hb12, hs12, hg12⟩ := alloc_facts w11 (.cells #[.slice (some ⟨g11, 0, none⟩) (un + 1) c11] 22); have HB12 : Hid (Below w9.heap.size w9 w12) := HB11.out.trans (hb12.mono HB11.out.size); have HO12 : Hid (OwnI w12 w7.heap.size (.slice (some ⟨g11, 0, none⟩) (un + 1) c11) (t ++ [x])) := hO11.below hb12; have HG12 : Hid (w12.heap[w11.heap.size]? = some (.cells #[.slice (some ⟨g11, 0, none⟩) (un + 1) c11] 22 (0, 0))) := hg12; clear hO11 hg11 hb12 hs12 hg12)
                      | (have hg := HO10; clear hg; refine step_push_int (w := w10) rfl (.tmp 125) (.tmp 130) rfl w7.heap.size (.slice a10 un c10) t un HTL.out wA.heap.size x (by rfl) (by rfl) HO10c.out HG10.out (by omega) (HS9.out _ HB10.out).size ?_; rintro g11 c11 w11 hO11 hg11; have HO11 : Hid (OwnI w11 w7.heap.size (.slice (some ⟨g11, 0, none⟩) (un + 1) c11) (t ++ [x])) := hO11; have HB11 : Hid (Below w9.heap.size w9 w11) := bel_grown HB10.out HO10X.out (Nat.le_refl _) hg11; obtain ⟨w12, hw12, hb12, hs12, hg12⟩ := alloc_facts w11 (.cells #[.slice (some ⟨g11, 0, none⟩) (un + 1) c11] 22); have HB12 : Hid (Below w9.heap.size w9 w12) := HB11.out.trans (hb12.mono HB11.out.size); have HO12 : Hid (OwnI w12 w7.heap.size (.slice (some ⟨g11, 0, none⟩) (un + 1) c11) (t ++ [x])) := hO11.below hb12; have HG12 : Hid (w12.heap[w11.heap.size]? = some (.cells #[.slice (some ⟨g11, 0, none⟩) (un + 1) c11] 22 (0, 0))) := hg12; clear hO11 hg11 hb12 hs12 hg12)
                      | (have hg := HO10; clear hg; refine step_push_int (w := w10) rfl (.tmp 125) (.tmp 130) rfl w7.heap.size (.slice a10 un c10) t un HTL.out w9.heap.size x (by rfl) (by rfl) HO10c.out HG10.out (by omega) (HS9.out _ HB10.out).size ?_; rintro g11 c11 w11 hO11 hg11; have HO11 : Hid (OwnI w11 w7.heap.size (.slice (some ⟨g11, 0, none⟩) (un + 1) c11) (t ++ [x])) := hO11; have HB11 : Hid (Below w9.heap.size w9 w11) := bel_grown HB10.out HO10X.out (Nat.le_refl _) hg11; obtain ⟨w12, hw12, hb12, hs12, hg12⟩ := alloc_facts w11 (.cells #[.slice (some ⟨g11, 0, none⟩) (un + 1) c11] 22); have HB12 : Hid (Below w9.heap.size w9 w12) := HB11.out.trans (hb12.mono HB11.out.size); have HO12 : Hid (OwnI w12 w7.heap.size (.slice (some ⟨g11, 0, none⟩) (un + 1) c11) (t ++ [x])) := hO11.below hb12; have HG12 : Hid (w12.heap[w11.heap.size]? = some (.cells #[.slice (some ⟨g11, 0, none⟩) (un + 1) c11] 22 (0, 0))) := hg12; clear hO11 hg11 hb12 hs12 hg12)
                      | (refine step_app_is (w := wA) rfl (.tmp 120) (.tmp 124) rfl w9.heap.size ua un uc t (by rfl) (by rfl) (own_empty HgA.out) (HIU.out.below (HS9.out _ HA9.out)) hun4 (HA9.out.size) ?_; rintro a10 c10 w10 hO10 hg10; have HO10 : Hid (OwnI w10 w9.heap.size (.slice a10 un c10) t) := (by rw [Hid, OwnI, HTL.out]; exact hO10); have HB10 : Hid (Below w9.heap.size w9 w10) := bel_grown HA9.out (own_empty HgA.out) (Nat.le_refl _) hg10; obtain ⟨w10b, hw10b, hb10b, hs10b, hg10b⟩ := alloc_facts w10 (.cells #[.int .i64 x] 3); have HB10b : Hid (Below w9.heap.size w9 w10b) := HB10.out.trans (hb10b.mono HB10.out.size); have HO10b : Hid (OwnI w10b w7.heap.size (.slice a10 un c10) t) := (HO10.out.below hb10b).mono HB8.out.size; have HG10b : Hid (w10b.heap[w10.heap.size]? = some (.cells #[.int .i64 x] 3 (0, 0))) := hg10b; clear hb10b hs10b hg10b; have HO10X : Hid (OwnI w10b w9.heap.size (.slice a10 un c10) t) := (HO10.out.mono (Nat.le_refl _)).below (by rw [← hw10b]; exact (Below.refl _ _).alloc (Nat.le_refl _) _); clear hO10 hg10)
                      | (refine step_app_is (w := wAB) rfl (.tmp 120) (.tmp 124) rfl w9.heap.size ua un uc t (by rfl) (by rfl) (own_empty HgAB.out.1) (HIU.out.below (HS9.out _ HAB9.out)) hun4 (HAB9.out.size) ?_; rintro a10 c10 w10 hO10 hg10; have HO10 : Hid (OwnI w10 w9.heap.size (.slice a10 un c10) t) := (by rw [Hid, OwnI, HTL.out]; exact hO10); have HB10 : Hid (Below w9.heap.size w9 w10) := bel_grown HAB9.out (own_empty HgAB.out.1) (Nat.le_refl _) hg10; have HG10 : Hid (w10.heap[wA.heap.size]? = some (.cells #[.int .i64 x] 3 (0, 0))) := (hg10.block _ HgAB.out.2.2.2 (fun e => HgAB.out.2.2.1 (Option.some.inj e))).trans HgAB.out.2.1; have HO10c : Hid (OwnI w10 w7.heap.size (.slice a10 un c10) t) := HO10.out.mono HB8.out.size; have HO10X : Hid (OwnI w10 w9.heap.size (.slice a10 un c10) t) := HO10.out.mono (Nat.le_refl _); clear hO10 hg10)
                      | (refine step_app_is (w := wBA) rfl (.tmp 120) (.tmp 124) rfl wB.heap.size ua un uc t (by rfl) (by rfl) (own_empty HgBA.out.1) (HIU.out.below (HS9.out _ HBA9.out)) hun4 (Nat.le_of_lt (own_lt2 HgBA.out.1)) ?_; rintro a10 c10 w10 hO10 hg10; have HO10 : Hid (OwnI w10 wB.heap.size (.slice a10 un c10) t) := (by rw [Hid, OwnI, HTL.out]; exact hO10); have HB10 : Hid (Below w9.heap.size w9 w10) := bel_grown HBA9.out (own_empty HgBA.out.1) HAD9.out.2 hg10; have HG10 : Hid (w10.heap[w9.heap.size]? = some (.cells #[.int .i64 x] 3 (0, 0))) := (hg10.block _ HgBA.out.2.2.2 (fun e => HgBA.out.2.2.1 (Option.some.inj e))).trans HgBA.out.2.1; have HO10c : Hid (OwnI w10 w7.heap.size (.slice a10 un c10) t) := HO10.out.mono (Nat.le_trans HB8.out.size HAD9.out.2); have HO10X : Hid (OwnI w10 w9.heap.size (.slice a10 un c10) t) := HO10.out.mono HAD9.out.2; clear hO10 hg10))
                  all_goals
                    go_wp2_with fail
                    go_roundw
                    case rel => exact ⟨k + 1, _, _, _, by omega, by simp, rfl, by rw [Hid, HJ.out]; rfl, HR13.out, HB13.out⟩
                    case measure => simp [intOf]; omega
                · have HJ2 : Hid (J = (i + 1) * j) := by
                    rw [Hid, HJ.out, Nat.succ_mul]; omega
                  go_wp2_with fail
                  go_roundw
                  case rel => exact ⟨i + 1, _, _, _, by omega, by simp, rfl, HJ2.out, HMO.out, HB8.out⟩
                  case measure => simp [intOf]; omega
            · obtain rfl : i = P := by omega
              have HFIN : Hid (RwP w8 W1.heap.size (.slice mo J mc) (outT A (d + 1)) ∧ J = prdN ((A.take (d + 1)).map lenA)) := by
                have h9 := moreT_all HAA.out
                rw [HQ.out, ← HP.out, ← HJ.out] at h9
                refine ⟨?_, ?_⟩
                · rw [← h9]; exact HMO.out.mono HBW.out.size
                · rw [outT_succ_len HAA.out, HQ.out, ← HP.out]; exact HJ.out
              have hJ4 : J ≤ 4096 := by rw [HFIN.out.2]; exact (HPT.out (d + 1)).1
              go_wp2_with fail
              go_roundw
              case rel => exact ⟨d + 1, _, _, _, by omega, by simp, rfl, HFIN.out.2, hJ4, HFIN.out.1, HBW.out.trans (HB8.out.mono HBW.out.size)⟩
              case measure => simp [intOf]; omega
    · obtain rfl : d = n := by omega
      have HV : Hid (TtP w D s (.returned (.tuple #[.slice vo P vc, .int .i64 0])) w6) := HRET.out _ _ HRW.out HB.out
      clear HRET
      go_wp2_with fail
      go_ret2
      exact HV.out
end Go.Proofs.Ytnikbcljonbpcaa
