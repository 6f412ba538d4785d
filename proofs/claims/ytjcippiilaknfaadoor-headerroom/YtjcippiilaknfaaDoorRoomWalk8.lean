/-
  The walk of HeaderRoom. Conditions: none but what memory bears; the two listed variables stand.
-/
import Derived.Test.YtjcippiilaknfaaDoorRoomM
namespace Go.Proofs.YtjcippiilaknfaaDoor
open Go.RowKit
set_option linter.unusedVariables false
set_option maxRecDepth 100000

/-- It is true or false. -/
def HvT (t : Value) : Prop := ∃ b, t = .bool b
set_option maxHeartbeats 8000000 in
theorem headerRoom_walk (v0 : Value) (l : List Msg) (v1 : Value) (r : List Ext) (w : World) (hT : Tab w ∧ NoX w) (b0 : Ms w v0 l) (y0 : MOk l) (z0 : l.length ≤ 4398046510976) (b1 : Xs w v1 r) (y1 : EWs r) (z1 : r.length ≤ 8796093021952) :
    Calls Tryd.prog 8 #[v0, v1] w fun e w' => e = .returned (.bool true) ∧ Below w.heap.size w w' := by
  have HHV : Hid _ := heavy_any w v0 v1 l r b0 (by omega) b1 (by omega)
  have HSZ : Hid _ := size_any w v0 l b0 (by omega)
  have HLY : Hid (∀ W, Below w.heap.size w W → Calls Tryd.prog 15 #[v0, v1] W fun e w' => ∃ v L, e = .returned (.tuple #[v, .int .i64 (layErr l r)]) ∧ L.map plB = layL l r ∧ BkS w' W.heap.size v L ∧ Below W.heap.size W w') := fun W hW => lay_any W v0 v1 l r (b0.below hW) y0 (by omega) (b1.below hW) y1 (by omega) (hT.1.below hW) (hT.2.below hW)
  have HLV : Hid (∀ W, Below w.heap.size w W → Calls Tryd.prog 10 #[] W fun e w' => e = .returned (.bool true) ∧ Below w.heap.size w w') := fun W hW => (lives8_any W (hT.1.below hW) (hT.2.below hW)).mono (by rintro e w' ⟨rfl, hb⟩; exact ⟨rfl, hW.trans (hb.mono hW.size)⟩)
  have HRS : Hid (∀ i, i < r.length → ∃ b off, (∃ n cap, v1 = .slice (some ⟨b, off, none⟩) n cap) ∧ w.cell? ⟨b, off + i * 2, none⟩ = some (.int .i64 (r.getD i (0, 0)).1) ∧ w.cell? ⟨b, off + i * 2 + 1, none⟩ = some (.int .i64 (r.getD i (0, 0)).2)) := by
    obtain ⟨ao, cap, rfl, _, hc⟩ := b1.opened
    intro i hi
    obtain ⟨b, off, rfl, c1, c2, _⟩ := hc i hi
    exact ⟨b, off, ⟨_, _, rfl⟩, c1, c2⟩
  obtain ⟨ao0, cap0, hv0, _⟩ := b0
  obtain ⟨ao1, cap1, hv1, _⟩ := b1
  subst hv0 hv1
  obtain ⟨se, HSE⟩ : ∃ se, Hid (szErr l = se) := ⟨_, rfl⟩
  obtain ⟨sn, HSN⟩ : ∃ sn, Hid (szN l = sn) := ⟨_, rfl⟩
  obtain ⟨le, HLE⟩ : ∃ le, Hid (layErr l r = le) := ⟨_, rfl⟩
  obtain ⟨rn, HRN⟩ : ∃ rn, Hid (r.length = rn) := ⟨_, rfl⟩
  obtain ⟨ln, HLN⟩ : ∃ ln, Hid (l.length = ln) := ⟨_, rfl⟩
  rw [HSE.out, HSN.out] at HSZ
  rw [HLE.out] at HLY
  have hcs := lay_cases l r
  rw [HSE.out, HLE.out, HRN.out] at hcs
  rw [HRN.out] at HHV HLY HRS z1 ⊢
  rw [HLN.out] at HHV HSZ HLY z0 ⊢
  have HZ : Hid (se = 0 → sn = szOf l ∧ 0 ≤ szOf l ∧ szOf l ≤ 5000000000) := fun h => by
    have := szOf_bd (l := l) (by rw [HSE.out]; exact h)
    rw [HSN.out] at this
    exact this
  have HSL : Hid (((strm l).length : Int) = szOf l) := strm_len l
  clear hT y0 y1
  have HSZB : Hid (∀ W, W = w → Calls Tryd.prog 11 #[.slice ao0 ln cap0] W fun e w' => e = .returned (.tuple #[.int .i64 sn, .int .i64 se]) ∧ Below w.heap.size w w') := fun W h => by subst h; exact HSZ.out
  clear HSZ
  go_enter Tryd.func8, Tryd.ntmps8
  go_upto_region 1 with fail
  go_cut [15] (fun t wc => HvT t ∧ Hid (wc = w))
  case first =>
    go_wp2_with (go_at_call 9; refine Calls.mono HHV.out ?_; rintro e w1 ⟨bh, rfl, hw1⟩; obtain rfl := hw1.symm)
    go_meet
    exact ⟨⟨_, rfl⟩, rfl⟩
  case rest =>
    obtain ⟨⟨bh, rfl⟩, hwc⟩ := hcut
    obtain rfl := hwc.out
    clear hwc HHV
    cases bh with
    | true =>
      go_wp2_with (go_at_call 10; refine Calls.mono (HLV.out _ (Below.refl _ _)) ?_; rintro e w8 ⟨rfl, hb8⟩; have HB8 : Hid (Below wc.heap.size wc w8) := hb8; clear hb8)
      go_ret
      exact ⟨rfl, HB8.out⟩
    | false =>
      go_upto_region 5 with (first
        | (go_at_call 11; refine Calls.mono (HSZB.out _ rfl) ?_; rintro e w1 ⟨rfl, hb1⟩; have HB1 : Hid (Below wc.heap.size wc w1) := hb1; clear hb1)
        | (go_at_call 15; refine Calls.mono (HLY.out _ HB1.out) ?_; rintro e w2 ⟨vx, L, rfl, hl2, hk2, hb2⟩; obtain ⟨aox, capx, rfl, hcx⟩ := hk2.cells; have HL2 : Hid (L.map plB = layL l r) := hl2; have HCX : Hid (∀ (i : Nat) (b : Blk), L[i]? = some b → ∃ g gb capb, aox = some ⟨g, 0, none⟩ ∧ w2.cell? ⟨g, i * 2, none⟩ = some (.int .i64 b.1) ∧ w2.cell? ⟨g, i * 2 + 1, none⟩ = some (.slice gb b.2.2.length capb) ∧ b.2.1 = .slice gb b.2.2.length capb) := hcx; have HB2 : Hid (Below wc.heap.size wc w2) := HB1.out.trans (hb2.mono HB1.out.size); clear hl2 hk2 hb2 hcx))
      clear HLY HSZB HB1
      obtain ⟨xn, HXN⟩ : ∃ xn, Hid (L.length = xn) := ⟨_, rfl⟩
      rw [HXN.out]
      rcases hcs with ⟨c1, c2, c3⟩ | ⟨c1, c2, c3⟩ | ⟨c1, c2, c3, c4, c5, c6⟩ | ⟨c1, c2, c3, c4, c5, c6⟩
      · have hx0 : xn = 0 := by have h9 := HL2.out; rw [c3] at h9; rw [← HXN.out]; simpa using h9
        subst hx0 c2
        go_wp2_with (go_at_call 10; refine Calls.mono (HLV.out _ HB2.out) ?_; rintro e w8 ⟨rfl, hb8⟩; have HB8 : Hid (Below wc.heap.size wc w8) := hb8; clear hb8)
        go_ret
        exact ⟨rfl, HB8.out⟩
      · have hx0 : xn = 0 := by have h9 := HL2.out; rw [c3] at h9; rw [← HXN.out]; simpa using h9
        subst hx0 c1
        rcases c2 with rfl | rfl
        · go_wp2_with (go_at_call 10; refine Calls.mono (HLV.out _ HB2.out) ?_; rintro e w8 ⟨rfl, hb8⟩; have HB8 : Hid (Below wc.heap.size wc w8) := hb8; clear hb8)
          go_ret
          exact ⟨rfl, HB8.out⟩
        · go_wp2_with (go_at_call 10; refine Calls.mono (HLV.out _ HB2.out) ?_; rintro e w8 ⟨rfl, hb8⟩; have HB8 : Hid (Below wc.heap.size wc w8) := hb8; clear hb8)
          go_ret
          exact ⟨rfl, HB8.out⟩
      · have HW3 : Hid (∀ x ∈ r, Wd x) := c3
        obtain ⟨q1, q2, q3⟩ := HZ.out c1
        obtain ⟨so, HSO⟩ : ∃ so, Hid (szOf l = so) := ⟨_, rfl⟩
        rw [HSO.out] at q1 q2 q3 c5 HSL
        subst q1
        have HTB : Hid (∀ i : Nat, roomOf (r.take i) ≤ 274877906944) := by
          intro i
          have h9 := roomOf_le (r.take i) (fun x hx => c3 x (List.take_subset _ _ hx))
          have h8 : (r.take i).length ≤ 65536 := by rw [List.length_take, HRN.out]; omega
          omega
        have HEV : Hid (∀ i, i < rn → ∃ b off x, ao1 = some ⟨b, off, none⟩ ∧ r[i]? = some x ∧ 16 < x.2 ∧ x.2 ≤ 4194304 ∧ 0 ≤ x.1 ∧ x.1 ≤ 4194304 ∧ wc.cell? ⟨b, off + i * 2, none⟩ = some (.int .i64 x.1) ∧ wc.cell? ⟨b, off + i * 2 + 1, none⟩ = some (.int .i64 x.2) ∧ roomOf (r.take (i + 1)) = roomOf (r.take i) + rmX x ∧ ((rmX x : Nat) : Int) = x.2 - 16) := by
          intro i hi
          have hir : i < r.length := by rw [HRN.out]; exact hi
          obtain ⟨b, off, ⟨n, cap, hv⟩, e1, e2⟩ := HRS.out i (by first | exact hi | (rw [HRN.out]; exact hi))
          injection hv with hv1 _ _
          have hm : r[i]? = some (r.getD i (0, 0)) := by simp [List.getD, hir]
          have hw := c3 _ (List.mem_of_getElem? hm)
          refine ⟨b, off, r.getD i (0, 0), hv1, hm, hw.2.1, by have := hw.1; have := hw.2.2; omega, hw.1, by have := hw.2.1; have := hw.2.2; omega, e1, e2, roomOf_next hm, by unfold rmX; have := hw.2.1; omega⟩
        have HRE : Hid (roomOf (r.take rn) = roomOf r) := by unfold Hid; rw [← HRN.out, List.take_length]
        have hx0 : xn = 0 := by have h9 := HL2.out; rw [c6] at h9; rw [← HXN.out]; simpa using h9
        subst hx0 c4 c1
        go_upto_region 8 with fail
        go_wp2_with fail
        go_loopw [10, 9] (fun x y wr => ∃ (i T : Nat), i ≤ rn ∧ T ≤ 274877906944 ∧ x = .int .i64 (i : Int) ∧ y = .int .i64 (T : Int) ∧ Hid (roomOf (r.take i) = T) ∧ Hid (wr = w2)) (fun x _ _ => rn - (intOf x).toNat)
        case atStart => exact ⟨0, 0, Nat.zero_le _, Nat.zero_le _, rfl, rfl, rfl, rfl⟩
        case round =>
          obtain ⟨i, T, hin, hT0, rfl, rfl, HTi, hwr⟩ := hrel
          obtain rfl := hwr.out
          clear hwr
          by_cases hlt : i < rn
          · obtain ⟨b, off, x, rfl, hrx, x1, x2, x3, x4, e1, e2, e3, e4⟩ := HEV.out i hlt
            have d2 : wr.cell? ⟨b, off + i * 2 + 1, none⟩ = some (.int .i64 x.2) := (HB2.out.cell (World.block_lt_of_cell? wc _ e2)).trans e2
            have HTN : Hid (roomOf (r.take (i + 1)) = T + rmX x) := by unfold Hid; rw [e3, HTi.out]
            have hTn : T + rmX x ≤ 274877906944 := by rw [← HTN.out]; exact HTB.out _
            obtain ⟨rx, HRx⟩ : ∃ rx, Hid (rmX x = rx) := ⟨_, rfl⟩
            rw [HRx.out] at HTN hTn e4
            have hrx2 : IntKind.i64.wrap (x.2 - 16) = (rx : Int) := by rw [← e4]; simp [IntKind.wrap, IntKind.bits, IntKind.signed]; omega
            have hili : (i : Int) < (rn : Int) := by omega
            clear e1 e2 e3 e4 hrx x1 x2 x3 x4
            go_wp2_with fail
            go_roundw
            case rel => exact ⟨i + 1, T + rx, by omega, hTn, by simp, by simp, HTN.out, by first | exact rfl | exact trivial⟩
            case measure => simp [intOf]; omega
          · obtain rfl : i = rn := by omega
            have HTr : Hid (roomOf r = T) := by unfold Hid; rw [← HRE.out, HTi.out]
            have hii : ¬ (i : Int) < (i : Int) := by omega
            have hgt : (T : Int) < sn := by rw [← HTr.out]; exact c5
            clear c3 c5 c6
            go_wp2_with (go_at_call 10; refine Calls.mono (HLV.out _ HB2.out) ?_; rintro e w8 ⟨rfl, hb8⟩; have HB8 : Hid (Below wc.heap.size wc w8) := hb8; clear hb8)
            go_ret
            exact ⟨rfl, HB8.out⟩
      · have HW3 : Hid (∀ x ∈ r, Wd x) := c3
        obtain ⟨q1, q2, q3⟩ := HZ.out c1
        obtain ⟨so, HSO⟩ : ∃ so, Hid (szOf l = so) := ⟨_, rfl⟩
        rw [HSO.out] at q1 q2 q3 c5 HSL
        subst q1
        have HTB : Hid (∀ i : Nat, roomOf (r.take i) ≤ 274877906944) := by
          intro i
          have h9 := roomOf_le (r.take i) (fun x hx => c3 x (List.take_subset _ _ hx))
          have h8 : (r.take i).length ≤ 65536 := by rw [List.length_take, HRN.out]; omega
          omega
        have HEV : Hid (∀ i, i < rn → ∃ b off x, ao1 = some ⟨b, off, none⟩ ∧ r[i]? = some x ∧ 16 < x.2 ∧ x.2 ≤ 4194304 ∧ 0 ≤ x.1 ∧ x.1 ≤ 4194304 ∧ wc.cell? ⟨b, off + i * 2, none⟩ = some (.int .i64 x.1) ∧ wc.cell? ⟨b, off + i * 2 + 1, none⟩ = some (.int .i64 x.2) ∧ roomOf (r.take (i + 1)) = roomOf (r.take i) + rmX x ∧ ((rmX x : Nat) : Int) = x.2 - 16) := by
          intro i hi
          have hir : i < r.length := by rw [HRN.out]; exact hi
          obtain ⟨b, off, ⟨n, cap, hv⟩, e1, e2⟩ := HRS.out i (by first | exact hi | (rw [HRN.out]; exact hi))
          injection hv with hv1 _ _
          have hm : r[i]? = some (r.getD i (0, 0)) := by simp [List.getD, hir]
          have hw := c3 _ (List.mem_of_getElem? hm)
          refine ⟨b, off, r.getD i (0, 0), hv1, hm, hw.2.1, by have := hw.1; have := hw.2.2; omega, hw.1, by have := hw.2.1; have := hw.2.2; omega, e1, e2, roomOf_next hm, by unfold rmX; have := hw.2.1; omega⟩
        have HRE : Hid (roomOf (r.take rn) = roomOf r) := by unfold Hid; rw [← HRN.out, List.take_length]
        have HL6 : Hid (L.map plB = blksM r (strm l)) := by unfold Hid; rw [HL2.out, c6]
        have hxr : xn ≤ rn := by
          have h9 := blks_len r (strm l)
          rw [← HL6.out, List.length_map, HXN.out, HRN.out] at h9
          exact h9
        have HBK : Hid (∀ (i : Nat) (b : Blk), L[i]? = some b → ∃ x, r[i]? = some x ∧ b.1 = x.1 ∧ b.2.2.length = x.2.toNat ∧ (roomOf (r.take i) : Int) < sn) := by
          intro i b hb
          obtain ⟨x, h1, h2, h3, h4⟩ := blks_at r (strm l) c3 i (plB b) (by rw [← HL6.out, List.getElem?_map, hb]; rfl)
          refine ⟨x, h1, h2, h3, ?_⟩
          rw [← HSL.out]
          omega
        have HFI : Hid (sn ≤ (roomOf (r.take xn) : Int)) := by
          have h9 := blks_all r (strm l) (by have h8 := HSL.out; omega)
          rw [← HL6.out, List.length_map, HXN.out] at h9
          unfold Hid
          rw [← HSL.out]
          omega
        subst c4 c1
        go_upto_region 8 with fail
        go_wp2_with fail
        go_loopw [10, 9] (fun x y wr => ∃ (i T : Nat), i ≤ rn ∧ T ≤ 274877906944 ∧ x = .int .i64 (i : Int) ∧ y = .int .i64 (T : Int) ∧ Hid (roomOf (r.take i) = T) ∧ Hid (wr = w2)) (fun x _ _ => rn - (intOf x).toNat)
        case atStart => exact ⟨0, 0, Nat.zero_le _, Nat.zero_le _, rfl, rfl, rfl, rfl⟩
        case round =>
          obtain ⟨i, T, hin, hT0, rfl, rfl, HTi, hwr⟩ := hrel
          obtain rfl := hwr.out
          clear hwr
          by_cases hlt : i < rn
          · obtain ⟨b, off, x, rfl, hrx, x1, x2, x3, x4, e1, e2, e3, e4⟩ := HEV.out i hlt
            have d2 : wr.cell? ⟨b, off + i * 2 + 1, none⟩ = some (.int .i64 x.2) := (HB2.out.cell (World.block_lt_of_cell? wc _ e2)).trans e2
            have HTN : Hid (roomOf (r.take (i + 1)) = T + rmX x) := by unfold Hid; rw [e3, HTi.out]
            have hTn : T + rmX x ≤ 274877906944 := by rw [← HTN.out]; exact HTB.out _
            obtain ⟨rx, HRx⟩ : ∃ rx, Hid (rmX x = rx) := ⟨_, rfl⟩
            rw [HRx.out] at HTN hTn e4
            have hrx2 : IntKind.i64.wrap (x.2 - 16) = (rx : Int) := by rw [← e4]; simp [IntKind.wrap, IntKind.bits, IntKind.signed]; omega
            have hili : (i : Int) < (rn : Int) := by omega
            clear e1 e2 e3 e4 hrx x1 x2 x3 x4
            go_wp2_with fail
            go_roundw
            case rel => exact ⟨i + 1, T + rx, by omega, hTn, by simp, by simp, HTN.out, by first | exact rfl | exact trivial⟩
            case measure => simp [intOf]; omega
          · obtain rfl : i = rn := by omega
            have HTr : Hid (roomOf r = T) := by unfold Hid; rw [← HRE.out, HTi.out]
            have hii : ¬ (i : Int) < (i : Int) := by omega
            have hgt : ¬ (T : Int) < sn := by rw [← HTr.out]; omega
            have hxri : ¬ (i : Int) < (xn : Int) := by omega
            clear c3 c5 c6
            go_wp2_with fail
            go_loopw [12, 11] (fun x y wr' => ∃ (k T : Nat), k ≤ xn ∧ T ≤ 274877906944 ∧ x = .int .i64 (k : Int) ∧ y = .int .i64 (T : Int) ∧ Hid (roomOf (r.take k) = T) ∧ Hid (Below wr.heap.size wr wr')) (fun x _ _ => xn - (intOf x).toNat)
            case atStart => exact ⟨0, 0, Nat.zero_le _, Nat.zero_le _, rfl, rfl, rfl, Below.refl _ _⟩
            case round =>
              obtain ⟨k, T2, hkx, hT2, rfl, rfl, HTk, HBk⟩ := hrel
              have HBW : Hid (Below wc.heap.size wc wr) := HB2.out.trans (HBk.out.mono HB2.out.size)
              by_cases hkl : k < xn
              · obtain ⟨b, hb⟩ : ∃ b, L[k]? = some b := ⟨L[k]'(by rw [HXN.out]; exact hkl), List.getElem?_eq_getElem _⟩
                obtain ⟨gx, gb, capb, rfl, a1, a2, _⟩ := HCX.out k b hb
                obtain ⟨x', hx', f1, f2, f3⟩ := HBK.out k b hb
                obtain ⟨br, off, x, rfl, hrx, x1, x2, x3, x4, e1, e2, e3, e4⟩ := HEV.out k (by omega)
                obtain rfl : x' = x := by rw [hx'] at hrx; exact Option.some.inj hrx
                rw [HTk.out] at f3
                have a1' : wr.cell? ⟨gx, k * 2, none⟩ = some (.int .i64 x'.1) := by rw [← f1]; exact (HBk.out.cell (World.block_lt_of_cell? _ _ a1)).trans a1
                have f2' : ((b.2.2.length : Nat) : Int) = x'.2 := by rw [f2]; omega
                obtain ⟨bl, HBl⟩ : ∃ bl, Hid (b.2.2.length = bl) := ⟨_, rfl⟩
                rw [HBl.out] at a2 f2'
                have a2' : wr.cell? ⟨gx, k * 2 + 1, none⟩ = some (.slice gb bl capb) := (HBk.out.cell (World.block_lt_of_cell? _ _ a2)).trans a2
                have d1 : wr.cell? ⟨br, off + k * 2, none⟩ = some (.int .i64 x'.1) := (HBW.out.cell (World.block_lt_of_cell? wc _ e1)).trans e1
                have d2 : wr.cell? ⟨br, off + k * 2 + 1, none⟩ = some (.int .i64 x'.2) := (HBW.out.cell (World.block_lt_of_cell? wc _ e2)).trans e2
                have D2 : Hid (wc.cell? ⟨br, off + k * 2 + 1, none⟩ = some (.int .i64 x'.2)) := e2
                have HTN : Hid (roomOf (r.take (k + 1)) = T2 + rmX x') := by unfold Hid; rw [e3, HTk.out]
                have hTn : T2 + rmX x' ≤ 274877906944 := by rw [← HTN.out]; exact HTB.out _
                obtain ⟨rx, HRx⟩ : ∃ rx, Hid (rmX x' = rx) := ⟨_, rfl⟩
                rw [HRx.out] at HTN hTn e4
                have hrx2 : IntKind.i64.wrap (x'.2 - 16) = (rx : Int) := by rw [← e4]; simp [IntKind.wrap, IntKind.bits, IntKind.signed]; omega
                have HX16 : Hid (x'.2 - 16 = (rx : Int)) := e4.symm
                have hkxi : (k : Int) < (xn : Int) := by omega
                have hkri : (k : Int) < (i : Int) := by omega
                have hlen : ((bl : Int) == x'.2) = true := by simp [f2']
                have hlen2 : ((bl : Int) != x'.2) = false := by simp [f2']
                have hge : decide (sn ≤ (T2 : Int)) = false := by simp; omega
                have HDR : Hid (∀ nq, Below wr.heap.size wr (wr.drewN nq)) := fun nq => ⟨rfl, rfl, rfl, Nat.le_refl _, fun _ _ => rfl⟩
                clear e1 e2 e3 e4 hrx hx' x3 x4 f1 f2 a1 a2 hb
                rw [← f2'] at d2 D2 hrx2
                go_upto_region 20 with fail
                go_cut [124] (fun t wd => t = .bool false ∧ Hid (Below wr.heap.size wr wd))
                case first =>
                  go_quiet (fail)
                  go_wp2_with fail
                  go_meet
                  exact ⟨by first | rfl | simp, HDR.out _⟩
                case rest =>
                  obtain ⟨rfl, HBd⟩ := hcut
                  have HBx : Hid (Below _ _ wc) := HBk.out.trans (HBd.out.mono HBk.out.size)
                  have HBy : Hid (Below _ _ wc) := HBW.out.trans (HBd.out.mono HBW.out.size)
                  have d2' := (HBy.out.cell (World.block_lt_of_cell? _ _ D2.out)).trans D2.out
                  clear d1 d2 a1' a2' HBy HBW
                  go_wp2_with fail
                  go_roundw
                  case rel => exact ⟨k + 1, T2 + rx, by omega, hTn, by simp, by simp [HX16.out], HTN.out, HBx.out⟩
                  case measure => simp [intOf]; omega
              · obtain rfl : k = xn := by omega
                have hkk : ¬ (k : Int) < (k : Int) := by omega
                have hge : sn ≤ (T2 : Int) := by rw [← HTk.out]; exact HFI.out
                go_wp2_with (go_at_call 10; refine Calls.mono (HLV.out _ HBW.out) ?_; rintro e w8 ⟨rfl, hb8⟩; have HB8 : Hid (Below _ _ w8) := hb8; clear hb8)
                go_ret
                exact ⟨rfl, HB8.out⟩
end Go.Proofs.YtjcippiilaknfaaDoor
