/-
  What is shuffled has each byte as often as before; bytes that are all alike stay: the law's walk. No conditions.
-/
import Derived.Test.YtlmmfbdndneecaaFStepsW
import Derived.Deep.WholeRow
namespace Go.Proofs.Ytlmmfbdndneecaa
open Go.RowKit Go.Shelf
set_option linter.unusedVariables false
set_option maxRecDepth 100000

def icells (l : List Int) : Array Value := (l.map (Value.int .i64)).toArray
/-- A block of counts. -/
def Cn (w : World) (g : Nat) (l : List Int) (T : TypeId) : Prop := w.heap[g]? = some (.cells (icells l) T (0, 0))
theorem Cn.cell {w : World} {g : Nat} {l : List Int} {T : TypeId} (h : Cn w g l T) {i : Nat} {x : Int} (hx : l[i]? = some x) : w.cell? ⟨g, i, none⟩ = some (.int .i64 x) := by
  refine cell_of_row w g i _ _ _ h |>.trans ?_
  simp [icells, hx]
theorem Cn.free {w : World} {g : Nat} {l : List Int} {T : TypeId} (h : Cn w g l T) (i : Nat) : w.frozen? ⟨g, i, none⟩ = false := by
  have : w.heap[g]? = _ := h
  simp [World.frozen?, this]
theorem Cn.set {w : World} {g : Nat} {l : List Int} {T : TypeId} (h : Cn w g l T) (i : Nat) (x : Int) : Cn (w.setCell ⟨g, i, none⟩ (.int .i64 x)) g (l.set i x) T := by
  unfold Cn
  rw [heap_setCell_same w g i _ _ _ h]
  simp [icells]
theorem byt_nat {l : List Int} (h : Byt l) (i : Nat) : ∃ b : Nat, b < 256 ∧ l.getD i 0 = (b : Int) := ⟨(l.getD i 0).toNat, by have := h i; omega, by have := h i; omega⟩
theorem cnt_le (p : List Int) (b : Int) : p.count b ≤ p.length := List.count_le_length
theorem rep_set {j len : Nat} (x : Int) (h : j < len) : (List.replicate j x ++ List.replicate (len - j) (0 : Int)).set j x = List.replicate (j + 1) x ++ List.replicate (len - (j + 1)) 0 := by
  rw [List.set_append_right _ _ (by simp), List.length_replicate, Nat.sub_self, show len - j = (len - (j + 1)) + 1 by omega, List.replicate_succ, List.set_cons_zero, List.replicate_succ', List.append_assoc]
  rfl
theorem byt_rep {x : Int} (h : 0 ≤ x ∧ x ≤ 255) (n : Nat) : Byt (List.replicate n x) := fun i => by
  by_cases hi : i < n
  · simp [List.getD, hi]; exact h
  · simp [List.getD, hi]
theorem zero_any : ∃ Z : Array Value, Z = icells (List.replicate 256 0) ∧ ∀ w : World, (zeroValue 35).run Try.prog w = .ok (.agg Z) w ∧ (Op.equalIn 10000 35 (.agg Z) (.agg Z)).run Try.prog w = .ok true w := by
  refine ⟨_, rfl, fun w => ⟨?_, ?_⟩⟩
  · kernel_rfl
  · kernel_rfl
set_option maxHeartbeats 32000000 in
theorem shuffleBytes_walk (a0 : Int) (v : Value) (l : List Int) (w : World) (h0 : (Lit.int .u64 a0).wf = true) (hl : Bs w v l) (hby : Byt l) (hlb : l.length ≤ 140737488351232) :
    Calls Try.prog 6 #[.int .u64 a0, v] w fun e w' => e = .returned (.bool true) ∧ Below w.heap.size w w' := by
  obtain ⟨i0, hi, hi0, hi1, hi2⟩ := info_parts Try.info5
  obtain ⟨z, y, h1, h8, hm1, hm2, hm3⟩ := wid_of h0
  have HV : Hid (Bs w v l) := hl
  obtain ⟨ao, cap, rfl, hc, hn, _⟩ := id hl
  obtain ⟨len, hll⟩ : ∃ len, l.length = len := ⟨_, rfl⟩
  rw [hll] at hlb hl HV hc ⊢
  have HD : Hid (Calls Try.prog 9 #[.int .i64 (z : Int), .slice ao len cap] w (ShP w 0 (shL z l))) := by
    have := shuffle_any (z : Int) _ _ w hl hby (by omega)
    rwa [wE_yes h1 h8, wL_yes h1 h8] at this
  have HXL : Hid ((shL z l).length = len) := by rw [Hid, shL_len, hll]
  have HPE : Hid ((shL z l).Perm l) := sh_perm z l
  have HXB : Hid (Byt (shL z l)) := byt_pick hby
  obtain ⟨X, hX⟩ : ∃ X, shL z l = X := ⟨_, rfl⟩
  rw [hX] at HD HXL HPE HXB
  clear hl h0 hX
  obtain ⟨Z, hZ, hzero'⟩ := zero_any
  have hzero := fun w => (hzero' w).1
  have heq := fun w => (hzero' w).2
  clear hzero'
  have HZ : Hid (Z = icells (List.replicate 256 0)) := hZ
  clear hZ
  go_enter Try.func6, Try.ntmps6
  go_wp2_with fail
  simp only [hm2, hm3]
  refine Calls.mono HD.out ?_
  rintro e w2 ⟨x2, rfl, hx2, hb2⟩
  have HB2 : Hid (Below w.heap.size w w2) := hb2
  obtain ⟨ao2, rfl, hbs2⟩ := fr_slice hx2
  rw [HXL.out] at hbs2 ⊢
  have HX2 : Hid (Bs w2 (.slice ao2 len len) X) := hbs2
  clear hx2 hb2 hbs2
  go_upto_region 6 with fail
  obtain ⟨w3, hw3, b3⟩ : ∃ w3, w2.alloc (.cells Z 35) = w3 ∧ Below w2.heap.size w2 w3 := ⟨_, rfl, (Below.refl _ _).alloc (Nat.le_refl _) _⟩
  have HC3 : Hid (Cn w3 w2.heap.size (cdiff (l.take 0) (X.take 0)) 35) := by
    rw [Hid, List.take_zero, List.take_zero, cdiff_nil, Cn, ← hw3, ← HZ.out]
    exact heap_alloc_new w2 _
  have HB3 : Hid (Below w2.heap.size w2 w3) := b3
  rw [hw3]
  clear b3 hw3
  go_wp2_with fail
  go_loopw [9] (fun i wr => ∃ j : Nat, j ≤ len ∧ i = .int .i64 j ∧ Cn wr w2.heap.size (cdiff (l.take j) (X.take j)) 35 ∧ Below w2.heap.size w2 wr) (fun i _ => len - (intOf i).toNat)
  case atStart => exact ⟨0, Nat.zero_le _, rfl, HC3.out, HB3.out⟩
  case round =>
    obtain ⟨j, hj, rfl, hcn, hbj⟩ := hrel
    by_cases hlt : j < len
    · obtain ⟨b, off, rfl, hcl⟩ := bs_some HV.out (by omega)
      obtain ⟨bx, ox, rfl, hcx⟩ := bs_some HX2.out (by omega)
      have hc1 := bel_cell hbj (bel_cell HB2.out (hcl j hlt))
      have hc2 := bel_cell hbj (hcx j hlt)
      obtain ⟨yb, hyb, ey⟩ := byt_nat hby j
      obtain ⟨xb, hxb, ex⟩ := byt_nat HXB.out j
      have HT1 : Hid (l.take (j + 1) = l.take j ++ [(yb : Int)]) := by rw [Hid, take_snoc (by omega), ey]
      have HT2 : Hid (X.take (j + 1) = X.take j ++ [(xb : Int)]) := by rw [Hid, take_snoc (by rw [HXL.out]; exact hlt), ex]
      rw [ey] at hc1
      rw [ex] at hc2
      have k1 := cnt_le (l.take j) (yb : Int)
      have k2 := cnt_le (X.take j) (yb : Int)
      have k3 := cnt_le (l.take (j + 1)) (xb : Int)
      have k4 := cnt_le (X.take j) (xb : Int)
      have n1 : (l.take j).length ≤ len := by rw [List.length_take]; omega
      have n2 : (X.take j).length ≤ len := by rw [List.length_take, HXL.out]; omega
      have n3 : (l.take (j + 1)).length ≤ len := by rw [List.length_take]; omega
      have hy1 := hcn.cell (cdiff_at (l.take j) (X.take j) hyb)
      have hy2 := hcn.free yb
      have hset := hcn.set yb (((l.take j).count (yb : Int) : Int) - ((X.take j).count (yb : Int) : Int) + 1)
      rw [cdiff_more _ _ hyb, ← HT1.out] at hset
      have hx1 := hset.cell (cdiff_at (l.take (j + 1)) (X.take j) hxb)
      have hx2 := hset.free xb
      have hset2 := hset.set xb (((l.take (j + 1)).count (xb : Int) : Int) - ((X.take j).count (xb : Int) : Int) - 1)
      rw [cdiff_less _ _ hxb, ← HT2.out] at hset2
      have hb4 : Below w2.heap.size w2 (wr.setCell ⟨w2.heap.size, yb, none⟩ (.int .i64 (((l.take j).count (yb : Int) : Int) - ((X.take j).count (yb : Int) : Int) + 1))) := Below.setCell (p := ⟨w2.heap.size, yb, none⟩) hbj (Nat.le_refl _) _
      obtain ⟨c1, ec1⟩ : ∃ c1, ((l.take j).count (yb : Int) : Int) - ((X.take j).count (yb : Int) : Int) = c1 := ⟨_, rfl⟩
      obtain ⟨c2, ec2⟩ : ∃ c2, ((l.take (j + 1)).count (xb : Int) : Int) - ((X.take j).count (xb : Int) : Int) = c2 := ⟨_, rfl⟩
      have hwr1 : IntKind.i64.wrap (c1 + 1) = c1 + 1 := wrap_i64_in _ (by omega) (by omega)
      have hwr2 : IntKind.i64.wrap (c2 - 1) = c2 - 1 := wrap_i64_in _ (by omega) (by omega)
      rw [ec1] at hy1 hset hset2 hx1 hx2 hb4
      rw [ec2] at hx1 hset2
      obtain ⟨w4, hw4⟩ : ∃ w4, wr.setCell ⟨w2.heap.size, yb, none⟩ (.int .i64 (c1 + 1)) = w4 := ⟨_, rfl⟩
      rw [hw4] at hx1 hx2 hset2 hb4
      have hd1 := bel_cell (HB2.out) (hcl j hlt)
      have hd2 : w4.cell? ⟨bx, ox + j, none⟩ = some (.int .u8 (xb : Int)) := by
        have := bel_cell hb4 (hcx j hlt)
        rwa [ex] at this
      have HS2 : Hid (Cn (w4.setCell ⟨w2.heap.size, xb, none⟩ (.int .i64 (c2 - 1))) w2.heap.size (cdiff (l.take (j + 1)) (X.take (j + 1))) 35) := hset2
      have HB4 : Hid (Below w2.heap.size w2 w4) := hb4
      clear hcl hcx hcn hbj hset hset2 k1 k2 k3 k4 n1 n2 n3 ec1 ec2 hb4 hd1 ey ex HT1 HT2
      go_wp2_with fail
      go_roundw
      case rel => exact ⟨j + 1, by omega, by go_num, HS2.out, Below.setCell (p := ⟨w2.heap.size, xb, none⟩) HB4.out (Nat.le_refl _) _⟩
      case measure => simp [intOf]; omega
    · obtain rfl : len = j := by omega
      obtain ⟨wq, rfl⟩ : ∃ wq, wq = wr := ⟨wr, rfl⟩
      have hrow : wq.heap[w2.heap.size]? = some (.cells Z 35 (0, 0)) := by
        have h9 := hcn
        rw [List.take_of_length_le (by omega), List.take_of_length_le (by rw [HXL.out]; exact Nat.le_refl _), cdiff_same HPE.out.symm, Cn, ← HZ.out] at h9
        exact h9
      have HBJ : Hid (Below w2.heap.size w2 wq) := hbj
      have HROW : Hid (wq.heap[w2.heap.size]? = some (.cells Z 35 (0, 0))) := hrow
      have HZS : Hid ((Try.prog.info? 35).map (·.size) = some Z.size) := by
        rw [HZ.out, show (icells (List.replicate 256 0)).size = 256 from by simp [icells]]
        unfold Hid
        kernel_rfl
      clear hcn hbj hrow
      go_wp2_with fail
      refine wp_load_row 35 (.tmp 8) rfl w2.heap.size rfl 35 Z (0, 0) (.array 256 3) HROW.out Try.underlying35 rfl HZS.out ?_
      by_cases hl0 : len = 0
      · go_wp2_with (go_at_call 15; refine (lives14_any _).mono ?_; rintro e w11 ⟨rfl, hb11⟩; have HB11 : Hid (Below w.heap.size w w11) := (HB2.out.trans (HBJ.out.mono HB2.out.size)).trans (hb11.mono (HB2.out.trans (HBJ.out.mono HB2.out.size)).size); clear hb11)
        go_ret
        exact ⟨rfl, HB11.out⟩
      · have hl0' : ((len : Int) == 0) = false := by simp; omega
        go_wp2_with (first | (at_make; refine wpList_make_bytes _ rfl _ _ 22 rfl i0 Try.underlying22 hi hi0 hi1 hi2 _ _ _ _ len rfl rfl rfl rfl (by omega) ?_; intro w5 hr5 hg5; have HR5 : Hid (Row w5 wq.heap.size (List.replicate len 0) ∧ Below wq.heap.size wq w5) := ⟨hr5, below_of_grown hg5⟩; clear hr5 hg5))
        obtain ⟨b, off, rfl, hcl⟩ := bs_some HV.out (by omega)
        have HC0 : Hid (wq.cell? ⟨b, off + 0, none⟩ = some (.int .u8 (l.getD 0 0))) := bel_cell HBJ.out (bel_cell HB2.out (hcl 0 (by omega)))
        have HX0 : Hid (0 ≤ l.getD 0 0 ∧ l.getD 0 0 ≤ 255) := hby 0
        obtain ⟨x, hx⟩ : ∃ x, l.getD 0 0 = x := ⟨_, rfl⟩
        rw [hx] at HC0 HX0
        clear hcl hx
        go_loopw [11] (fun i ws => ∃ j : Nat, j ≤ len ∧ i = .int .i64 j ∧ Row ws wq.heap.size (List.replicate j x ++ List.replicate (len - j) 0) ∧ Below wq.heap.size wq ws) (fun i _ => len - (intOf i).toNat)
        case atStart => exact ⟨0, Nat.zero_le _, rfl, by simpa using HR5.out.1, HR5.out.2⟩
        case round =>
          obtain ⟨j, hj, rfl, hrj, hbj⟩ := hrel
          by_cases hlt3 : j < len
          · have hc1 := bel_cell hbj HC0.out
            rw [Nat.add_zero] at hc1
            have hc2 := hrj.cell (i := j) (by simp; omega)
            have hf2 := hrj.free j
            have HS : Hid _ := hrj.set j x
            rw [rep_set x hlt3] at HS
            have HBJ2 : Hid (Below wq.heap.size wq _) := hbj
            clear hrj hbj
            go_wp2_with fail
            go_roundw
            case rel => exact ⟨j + 1, by omega, by go_num, HS.out, Below.setCell (p := ⟨wq.heap.size, j, none⟩) HBJ2.out (Nat.le_refl _) _⟩
            case measure => simp [intOf]; omega
          · obtain rfl : len = j := by omega
            rw [Nat.sub_self, List.replicate_zero, List.append_nil] at hrj
            have HRJ : Hid (Row _ wq.heap.size (List.replicate len x)) := hrj
            have HBJ2 : Hid (Below wq.heap.size wq _) := hbj
            have hwh := hrj.whole
            rw [List.length_replicate] at hwh
            have HSH : Hid _ := shuffle_any (z : Int) _ _ _ hwh (byt_rep HX0.out len) (by rw [List.length_replicate]; exact hlb)
            rw [wE_yes h1 h8, wL_yes h1 h8, sh_rep] at HSH
            clear hrj hbj hwh
            go_wp2_with fail
            refine Calls.mono HSH.out ?_
            rintro e w7 ⟨x7, rfl, hx7, hb7⟩
            have HB7 : Hid (Below wq.heap.size wq w7) := HBJ2.out.trans (hb7.mono HBJ2.out.size)
            have hw7 := (HRJ.out.below hb7 HRJ.out.lt).whole
            rw [List.length_replicate] at hw7
            have q1 := Bs.str (P := Try.prog) hx7.bs Try.underlying22 Try.underlying5 (dst := 9) Try.underlying9
            have q2 := Bs.str (P := Try.prog) hw7 Try.underlying22 Try.underlying5 (dst := 9) Try.underlying9
            have HBZ0 : Hid (Below w.heap.size w w7) := (HB2.out.trans (HBJ.out.mono HB2.out.size)).trans (HB7.out.mono (HB2.out.trans (HBJ.out.mono HB2.out.size)).size)
            clear hx7 hb7 hw7
            go_wp2_with (go_at_call 15; refine (lives14_any _).mono ?_; rintro e w11 ⟨rfl, hb11⟩; have HB11 : Hid (Below w.heap.size w w11) := HBZ0.out.trans (hb11.mono HBZ0.out.size); clear hb11)
            go_ret
            exact ⟨rfl, HB11.out⟩
end Go.Proofs.Ytlmmfbdndneecaa
