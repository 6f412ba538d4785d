/-
  The document's list of all tuples of an extent. Conditions: no dimension is 0, and there are at most 4096 tuples.
-/
import Derived.Test.YtneegijbbbebkaaGTup
import Derived.Test.YtneegijbbbebkaaGRw
namespace Go.Proofs.Ytneegijbbbebkaa
open Go.RowKit Go.Shelf
set_option linter.unusedVariables false
set_option maxRecDepth 100000

set_option maxHeartbeats 16000000 in
theorem refTuples_any (D : List Int) (vd : Value) (w : World) (hD : Is w vd D) (hd4 : D.length ≤ 4) (hp : ∀ x ∈ D, 1 ≤ x ∧ x ≤ 1048576) (hN : prdN (dN D) ≤ 4096) :
    Calls Try.prog 42 #[vd] w fun e w' => ∃ v, e = .returned v ∧ RwP w' w.heap.size v (outG D D.length) ∧ Below w.heap.size w w' := by
  have HI : Hid (Is w vd D) := hD
  obtain ⟨ao, n, cap, rfl, hn, hc, hb⟩ := hD.open
  have HN : Hid (D.length = n) := hn
  have hn4 : n ≤ 4 := by omega
  have HP0 : Hid (∀ d, prdN (dN (D.take d)) ≤ 4096 ∧ 0 < prdN (dN (D.take d))) := fun d => by
    have := dN_take_le (fun x hx => (hp x hx).1) d
    omega
  have HI64 : Hid (∀ (d : Nat) t x, t ∈ outG D d → x ∈ t → I64 x) := fun d t x ht hx => by
    have := outG_bd (fun x hx => ⟨by have := hp x hx; omega, (hp x hx).2⟩) ht hx
    exact ⟨by omega, by omega⟩
  have HDP : Hid (∀ x ∈ D, 1 ≤ x ∧ x ≤ 1048576) := hp
  rw [HN.out]
  obtain ⟨wa, hwa, hba, hsa, hga⟩ := alloc_facts w (.cells #[] 3)
  obtain ⟨wb, hwb, hbb, hsb, hgb⟩ := alloc_facts wa (.cells #[.slice (some ⟨w.heap.size, 0, none⟩) 0 0] 22)
  have HB5 : Hid (Below w.heap.size w wb) := hba.trans (hbb.mono hba.size)
  have HR5 : Hid (RwP wb w.heap.size (.slice (some ⟨wa.heap.size, 0, none⟩) 1 1) [[]]) := row_one ((hbb.block _ (by omega)).trans hga) hgb (Nat.le_refl _) hba.size
  clear hD hn hd4 hp hN hba hsa hga hbb hsb hgb
  go_enter Try.func42, Try.ntmps42
  go_wp2_with fail
  go_loopw [4, 3] (fun x y wr => ∃ (d : Nat) (vo : Option Addr) (P vc : Nat), d ≤ n ∧ x = .int .i64 (d : Int) ∧ y = .slice vo P vc ∧ Hid (P = prdN (dN (D.take d))) ∧ P ≤ 4096 ∧ Hid (RwP wr w.heap.size (.slice vo P vc) (outG D d)) ∧ Hid (Below w.heap.size w wr)) (fun x _ _ => n - (intOf x).toNat)
  case atStart => exact ⟨0, _, 1, 1, Nat.zero_le _, rfl, rfl, rfl, by omega, by rw [Hid, outG_zero]; exact HR5.out, HB5.out⟩
  case round =>
    obtain ⟨d, vo, P, vc, hdn, rfl, rfl, HP, hP4, HRW, HB⟩ := hrel
    rename World => w6
    by_cases hlt : d < n
    · have hili : (d : Int) < (n : Int) := by omega
      obtain ⟨gd, od, y, rfl, hy, _, cd⟩ := (HI.out.below HB.out).at hlt
      have HDY : Hid (D[d]? = some y) := hy
      obtain ⟨q, rfl⟩ : ∃ q : Nat, y = (q : Int) := ⟨y.toNat, by have := HDP.out y (List.mem_of_getElem? hy); omega⟩
      have HPQ : Hid (P * q = prdN (dN (D.take (d + 1)))) := by rw [Hid, outG_succ_len HDY.out, ← HP.out]; rfl
      have hPQ4 : P * q ≤ 4096 := by rw [HPQ.out]; exact (HP0.out _).1
      have HISS : Hid (Iss w6 (.slice vo P vc) (outG D d)) := HRW.out.iss (by rw [outG_len, ← HP.out]; omega)
      have hq6 : (q : Int) ≤ 1048576 := (HDP.out _ (List.mem_of_getElem? HDY.out)).2
      have HCD : Hid (w6.cell? ⟨gd, od + d, none⟩ = some (.int .i64 (q : Int))) := cd
      clear hy cd
      go_wp2_with fail
      go_loopw [6, 5] (fun x y wr => ∃ (i : Nat) (mo : Option Addr) (J mc : Nat), i ≤ P ∧ x = .int .i64 (i : Int) ∧ y = .slice mo J mc ∧ Hid (J = i * q) ∧ Hid (RwP wr w6.heap.size (.slice mo J mc) (moreG D d J)) ∧ Hid (Below w6.heap.size w6 wr)) (fun x _ _ => P - (intOf x).toNat)
      case atStart => exact ⟨0, none, 0, 0, Nat.zero_le _, rfl, rfl, by rw [Hid, Nat.zero_mul], RwP.nil _ _, Below.refl _ _⟩
      case round =>
        obtain ⟨i, mo, J, mc, hiP, rfl, rfl, HJ, HMO, HB8⟩ := hrel
        rename World => w8
        by_cases hlt3 : i < P
        · have hil : (i : Int) < (P : Int) := by omega
          go_wp2_with fail
          go_loopw [7, 5] (fun x y wr => ∃ (k : Nat) (mo : Option Addr) (J mc : Nat), k ≤ q ∧ x = .int .i64 (k : Int) ∧ y = .slice mo J mc ∧ Hid (J = i * q + k) ∧ Hid (RwP wr w6.heap.size (.slice mo J mc) (moreG D d J)) ∧ Hid (Below w6.heap.size w6 wr)) (fun x _ _ => q - (intOf x).toNat)
          case atStart => exact ⟨0, mo, J, mc, Nat.zero_le _, rfl, rfl, HJ.out, HMO.out, HB8.out⟩
          case round =>
            clear HJ HMO HB8
            obtain ⟨k, mo, J, mc, hkq, rfl, rfl, HJ, HMO, HB8⟩ := hrel
            rename World => w9
            have cd := (HB8.out.cell (World.block_lt_of_cell? w6 _ HCD.out)).trans HCD.out
            by_cases hlt4 : k < q
            · have hkl : (k : Int) < (q : Int) := by omega
              obtain ⟨go, oo, t, ua, un, uc, rfl, ht, htl, _, _, hcu, hiu⟩ := HISS.out.at hlt3
              have hun : un = d := by rw [← htl]; exact outG_tlen (by rw [HN.out]; omega) (List.mem_of_getElem? ht)
              have hun4 : un ≤ 4 := by omega
              have HT64 : Hid ((t ++ [(k : Int)]).length ≤ 17592186043904 ∧ ∀ z ∈ t ++ [(k : Int)], I64 z) := ⟨by rw [List.length_append, htl]; simp; omega, fun z hz => by
                rcases List.mem_append.1 hz with h9 | h9
                · exact HI64.out d t z (List.mem_of_getElem? ht) h9
                · obtain rfl : z = (k : Int) := by simpa using h9
                  have := HDP.out (q : Int) (List.mem_of_getElem? HDY.out)
                  exact ⟨by omega, by omega⟩⟩
              have HTL : Hid (t.length = un) := htl
              have HMS : Hid (moreG D d (J + 1) = moreG D d J ++ [t ++ [(k : Int)]]) := by
                have h9 := moreG_step HDY.out (k := k) (i := i) ht (by omega)
                rw [show ((q : Int)).toNat = q from rfl] at h9
                rw [Hid, HJ.out]
                exact h9
              have hJb : J ≤ 100000000 := by
                have h8 : i * q ≤ P * q := Nat.mul_le_mul_right _ hiP
                have h9 := HJ.out
                have h10 := HDP.out (q : Int) (List.mem_of_getElem? HDY.out)
                omega
              have hcu9 := (HB8.out.cell (World.block_lt_of_cell? w6 _ hcu)).trans hcu
              have HIU : Hid (Is w6 (.slice ua un uc) t) := hiu
              clear hcu hiu ht htl hun
              obtain ⟨wA, hwA, hbA, hsA, hgA⟩ := alloc_facts w9 (.cells #[] 3)
              have HA9 : Hid (Below w9.heap.size w9 wA) := hbA
              have HGA : Hid (wA.heap[w9.heap.size]? = some (.cells #[] 3 (0, 0))) := hgA
              have hcuA := (hbA.cell (World.block_lt_of_cell? w9 _ hcu9)).trans hcu9
              have HS9 : Hid (∀ wz, Below w9.heap.size w9 wz → Below w6.heap.size w6 wz) := fun wz hz => HB8.out.trans (hz.mono HB8.out.size)
              clear hbA hsA hgA
              go_wp2_with (first
                | (have hg := HO12; clear hg; at_builtin; refine wpList_push_row (w := w12) rfl (.tmp 30) (.tmp 40) rfl w6.heap.size (.slice mo J mc) (moreG D d J) J (moreG_len D d J) w11.heap.size (some ⟨g11, 0, none⟩) (un + 1) c11 (t ++ [(k : Int)]) (by rfl) (by rfl) (HMO.out.below HB12.out) HO12.out HT64.out.1 HT64.out.2 HG12.out (by omega) (HS9.out _ HB12.out).size ?_; rintro g13 c13 w13 hR13 hg13; have HR13 : Hid (RwP w13 w6.heap.size (.slice (some ⟨g13, 0, none⟩) (J + 1) c13) (moreG D d (J + 1))) := (by rw [Hid, HMS.out]; exact hR13); have HB13 : Hid (Below w6.heap.size w6 w13) := bel_grown (HS9.out _ HB12.out) (HMO.out.below HB12.out).choose_spec.own (Nat.le_refl _) hg13; clear hR13 hg13)
                | (have hg := HO10; clear hg; at_builtin; refine wpList_push_int (w := w10b) rfl (.tmp 36) (.tmp 38) rfl w6.heap.size (.slice a10 un c10) t un HTL.out w10.heap.size (k : Int) (by rfl) (by rfl) HO10.out HG10.out (by omega) (HS9.out _ HB10.out).size ?_; rintro g11 c11 w11 hO11 hg11 hat11; have HO11 : Hid (OwnI w11 w6.heap.size (.slice (some ⟨g11, 0, none⟩) (un + 1) c11) (t ++ [(k : Int)])) := hO11; have HB11 : Hid (Below w9.heap.size w9 w11) := bel_grown HB10.out HO10X.out (Nat.le_refl _) hg11; obtain ⟨w12, hw12, hb12, hs12, hg12⟩ := alloc_facts w11 (.cells #[.slice (some ⟨g11, 0, none⟩) (un + 1) c11] 22); have HB12 : Hid (Below w9.heap.size w9 w12) := HB11.out.trans (hb12.mono HB11.out.size); have HO12 : Hid (OwnI w12 w6.heap.size (.slice (some ⟨g11, 0, none⟩) (un + 1) c11) (t ++ [(k : Int)])) := hO11.below hb12; have HG12 : Hid (w12.heap[w11.heap.size]? = some (.cells #[.slice (some ⟨g11, 0, none⟩) (un + 1) c11] 22 (0, 0))) := hg12; clear hO11 hg11 hat11 hb12 hs12 hg12)
                | (at_builtin; refine wpList_app_is (w := wA) rfl (.tmp 31) (.tmp 35) rfl w9.heap.size ua un uc t (by rfl) (by rfl) (own_empty HGA.out) (HIU.out.below (HS9.out _ HA9.out)) hun4 (HA9.out.size) ?_; rintro a10 c10 w10 hO10 hg10; have HOa : Hid (OwnI w10 w9.heap.size (.slice a10 un c10) t) := (by rw [Hid, OwnI, HTL.out]; exact hO10); have HBa : Hid (Below w9.heap.size w9 w10) := bel_grown HA9.out (own_empty HGA.out) (Nat.le_refl _) hg10; obtain ⟨w10b, hw10b, hb10b, hs10b, hg10b⟩ := alloc_facts w10 (.cells #[.int .i64 (k : Int)] 3); have HB10 : Hid (Below w9.heap.size w9 w10b) := HBa.out.trans (hb10b.mono HBa.out.size); have HO10X : Hid (OwnI w10b w9.heap.size (.slice a10 un c10) t) := HOa.out.below hb10b; have HO10 : Hid (OwnI w10b w6.heap.size (.slice a10 un c10) t) := HO10X.out.mono HB8.out.size; have HG10 : Hid (w10b.heap[w10.heap.size]? = some (.cells #[.int .i64 (k : Int)] 3 (0, 0))) := hg10b; clear hb10b hs10b hg10b hO10 hg10))
              go_roundw
              case rel => exact ⟨k + 1, _, _, _, by omega, by simp, rfl, by rw [Hid, HJ.out]; rfl, HR13.out, HB13.out⟩
              case measure => simp [intOf]; omega
            · obtain rfl : k = q := by omega
              have HJ2 : Hid (J = (i + 1) * k) := by
                rw [Hid, HJ.out, Nat.succ_mul]
              go_wp2_with fail
              go_roundw
              case rel => exact ⟨i + 1, _, _, _, by omega, by simp, rfl, HJ2.out, HMO.out, HB8.out⟩
              case measure => simp [intOf]; omega
        · obtain rfl : i = P := by omega
          have HFIN : Hid (RwP w8 w.heap.size (.slice mo J mc) (outG D (d + 1)) ∧ J = prdN (dN (D.take (d + 1)))) := by
            have h9 := moreG_all HDY.out
            rw [show ((q : Int)).toNat = q from rfl, ← HP.out, ← HJ.out] at h9
            refine ⟨?_, ?_⟩
            · rw [← h9]; exact HMO.out.mono HB.out.size
            · rw [HJ.out]; exact HPQ.out
          have hJ4 : J ≤ 4096 := by rw [HFIN.out.2]; exact (HP0.out (d + 1)).1
          go_wp2_with fail
          go_roundw
          case rel => exact ⟨d + 1, _, _, _, by omega, by simp, rfl, HFIN.out.2, hJ4, HFIN.out.1, HB.out.trans (HB8.out.mono HB.out.size)⟩
          case measure => simp [intOf]; omega
    · obtain rfl : d = n := by omega
      go_wp2_with fail
      go_ret
      exact ⟨_, rfl, HRW.out, HB.out⟩
end Go.Proofs.Ytneegijbbbebkaa
