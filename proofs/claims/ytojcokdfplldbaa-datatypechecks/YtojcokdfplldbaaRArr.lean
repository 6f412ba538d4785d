/-
  The document's array. Conditions: the size of the base is told by a contract.
-/
import Derived.Test.YtojcokdfplldbaaRComp
namespace Go.Proofs.Ytojcokdfplldbaa
open Go.RowKit Go.Shelf
set_option linter.unusedVariables false
set_option maxRecDepth 100000

/-- What is told, if more than an element may have is none. -/
def RawP (w : World) (X : Int) (e : Ending) (w' : World) : Prop := (∃ r, e = .returned (.int .i64 r) ∧ (if 256 < r then 0 else r) = X ∧ 0 ≤ r ∧ r ≤ 281474976710656) ∧ Below w.heap.size w w'
theorem rawP_zero {w w' : World} {X : Int} (hb : Below w.heap.size w w') (hX : X = 0) : RawP w X (.returned (.int .i64 0)) w' := ⟨⟨0, rfl, by rw [hX]; rfl, by omega, by omega⟩, hb⟩
set_option maxHeartbeats 32000000 in
theorem refArr_any {n : Nat} (d : Nat) (hd4 : d ≤ 4) (T : TyN (Ty n)) (V : TV) (w : World) (h : TRN (TR n) hd w V T) (hin : SzR (n := n) d w) :
    Calls Try.prog 59 #[tyV (T.c, T.w, T.b) V, .int .i64 (5 - (d : Int))] w (RawP w (if T.w = 0 ∧ T.b = false ∧ T.fs.length = 0 ∧ T.ns.length = 0 then arrSz (fun t => sz n t (d + 1)) T.ds T.bs else 0)) := by
  have H : Hid (TRN (TR n) hd w V T) := h
  have HIN : Hid (SzR (n := n) d w) := hin
  obtain ⟨fa, fn, fc, da, dn, dc, ba, bn, bc, na, nn, nc, rfl, ⟨f1, f2, f3⟩, ⟨d1, d2, d3⟩, ⟨b1, b2, b3⟩, ⟨n1, n2, n3⟩⟩ := H.out.open
  have HDN : Hid (T.ds.length = dn) := d1
  have HBN : Hid (T.bs.length = bn) := b1
  obtain ⟨c, hc⟩ : ∃ c, T.c = c := ⟨_, rfl⟩
  obtain ⟨wd, hw⟩ : ∃ c, T.w = c := ⟨_, rfl⟩
  obtain ⟨b, hb⟩ : ∃ c, T.b = c := ⟨_, rfl⟩
  show Calls _ _ #[.agg #[.int .i64 T.c, .int .i64 T.w, .bool T.b, _, _, _, _], _] _ _
  rw [hc, hw, hb, f1, n1]
  obtain ⟨k, hk⟩ : ∃ k, fn + nn = k := ⟨_, rfl⟩
  have s1 : IntKind.i64.wrap ((fn : Int) + (nn : Int)) = (k : Int) := by rw [← Int.natCast_add, hk]; exact wrap_i64_inD _ (by omega) (by omega)
  have s3 : IntKind.i64.wrap (5 - (d : Int) - 1) = 4 - (d : Int) := by rw [show 5 - (d : Int) - 1 = 4 - (d : Int) by omega]; exact wrap_i64_inD _ (by omega) (by omega)
  obtain ⟨X, hX⟩ : ∃ X, (if wd = 0 ∧ b = false ∧ fn = 0 ∧ nn = 0 then arrSz (fun t => sz n t (d + 1)) T.ds T.bs else 0) = X := ⟨_, rfl⟩
  have HX : Hid ((if wd = 0 ∧ b = false ∧ fn = 0 ∧ nn = 0 then arrSz (fun t => sz n t (d + 1)) T.ds T.bs else 0) = X) := hX
  rw [hX]
  clear hX
  obtain ⟨w1, hw1, hb1, hs1, hx1⟩ := bx_made w c wd b (.slice fa fn fc) (.slice da dn dc) (.slice ba bn bc) (.slice na nn nc)
  have HB1 : Hid (Below w.heap.size w w1) := hb1
  have HX1 : Hid (Bx w1 w.heap.size c wd b (.slice fa fn fc) (.slice da dn dc) (.slice ba bn bc) (.slice na nn nc)) := hx1
  obtain ⟨c0, c1, c2, c3, c4, c5, c6⟩ := hx1
  clear h hin hc hw hb f1 d1 b1 n1 hb1 hs1 c0
  by_cases hok : b = false ∧ wd = 0 ∧ k = 0 ∧ bn = 1 ∧ 1 ≤ dn ∧ dn ≤ 4
  · obtain ⟨rfl, rfl, hk0, rfl, hd1, hd2⟩ := hok
    obtain rfl : fn = 0 := by omega
    obtain rfl : nn = 0 := by omega
    subst hk0
    obtain ⟨t, ht⟩ := one_of HBN.out
    have HA : Hid (dimF (sz n t (d + 1)) T.ds = X) := by rw [Hid, ← HX.out, if_pos ⟨rfl, rfl, rfl, rfl⟩, ht, arrSz, if_pos (by rw [HDN.out]; exact ⟨hd1, hd2⟩)]
    obtain ⟨g, o, U, q, rfl, hq, hu, k0, k1, k2, k3, k4, k5, k6⟩ := H.out.bs.at (show 0 < 1 by omega)
    rw [ht] at hq
    obtain rfl : t = q := by simpa using hq
    simp only [Nat.zero_mul, Nat.add_zero] at k0 k1 k2 k3 k4 k5 k6
    have K : ∀ {p : Addr} {x : Value}, w.cell? p = some x → w1.cell? p = some x := fun h => (HB1.out.cell (World.block_lt_of_cell? w _ h)).trans h
    replace k0 := K k0
    replace k1 := K k1
    replace k2 := K k2
    replace k3 := K k3
    replace k4 := K k4
    replace k5 := K k5
    replace k6 := K k6
    have HCL : Hid (Calls Try.prog 31 #[.agg #[.int .i64 (hd t).1, .int .i64 (hd t).2.1, .bool (hd t).2.2, U.f, U.d, U.b, U.n], .int .i64 (4 - (d : Int))] w1 fun e w3 => e = .returned (.int .i64 (sz n t (d + 1))) ∧ Below w1.heap.size w1 w3) := HIN.out t U w1 HB1.out (hu.below HB1.out)
    have HFR := sz_rng n t (d + 1)
    obtain ⟨s0, hs⟩ : ∃ s, sz n t (d + 1) = s := ⟨_, rfl⟩
    rw [hs] at HCL HFR HA
    obtain ⟨hs1', hs2'⟩ := HFR
    clear K hq hu hs ht HX
    generalize (hd t).1 = z2' at *
    generalize (hd t).2.1 = z3 at *
    generalize (hd t).2.2 = z4 at *
    have g1 : ¬ (dn : Int) < 1 := by omega
    have g2 : ¬ 4 < (dn : Int) := by omega
    go_enter Try.func59, Try.ntmps59
    go_wp2_with (go_at_call 31; refine Calls.mono HCL.out ?_; rintro e w5 ⟨rfl, hb5⟩; have HB5 : Hid (Below w.heap.size w w5) := bel_next HB1.out hb5; have HX5 : Hid _ := HX1.out.below hb5; clear hb5)
    clear c1 c2 c3 c4 c5 c6 k0 k1 k2 k3 k4 k5 k6
    go_loopw [5, 6] (fun x y wr => ∃ (i : Nat) (z : Int), i ≤ dn ∧ x = .int .i64 z ∧ y = .int .i64 (i : Int) ∧ 0 ≤ z ∧ Hid (z ≤ 256 ^ (i + 1)) ∧ Hid ((if z ≤ 256 then dimF z (T.ds.drop i) else 0) = X) ∧ Hid (Below w5.heap.size w5 wr)) (fun _ y _ => dn - (intOf y).toNat)
    case atStart => exact ⟨0, s0, Nat.zero_le _, rfl, by simp, hs1', by rw [Hid]; simpa using hs2', by rw [Hid, if_pos hs2', List.drop_zero]; exact HA.out, Below.refl _ _⟩
    case round =>
      obtain ⟨i, z, hin, rfl, rfl, hz1, HZ2, HP, HB⟩ := hrel
      have HBB : Hid (Below w.heap.size w wr) := bel_next HB5.out HB.out
      have hz2 : z ≤ 1099511627776 := by
        have h5 : (256 : Nat) ^ (i + 1) ≤ 1099511627776 := Nat.le_trans (Nat.pow_le_pow_right (by decide) (show i + 1 ≤ 5 by omega)) (by decide)
        have h6 : ((256 ^ (i + 1) : Nat) : Int) ≤ ((1099511627776 : Nat) : Int) := Int.ofNat_le.2 h5
        rw [Int.natCast_pow] at h6
        exact Int.le_trans HZ2.out h6
      obtain ⟨c0, c1, c2, c3, c4, c5, c6⟩ := HX5.out.below HB.out
      clear c0 c1 c2 c3 c5 c6
      by_cases hlt : i < dn
      · obtain ⟨gd, od, dd, rfl, hd, hdr, kd⟩ := H.out.ds.at hlt
        have kd' : wr.cell? ⟨gd, od + i, none⟩ = some (.int .i64 dd) := (HBB.out.cell (World.block_lt_of_cell? w _ kd)).trans kd
        have HST : Hid (z ≤ 256 → dimF z (T.ds.drop i) = if (1 ≤ dd ∧ dd ≤ 256) ∧ z * dd ≤ 256 then dimF (z * dd) (T.ds.drop (i + 1)) else 0) := fun _ => dimF_step hd
        clear kd hd hdr
        by_cases hd1 : 1 ≤ dd ∧ dd ≤ 256
        · obtain ⟨hd3, hd4'⟩ := hd1
          have hm1 : 0 ≤ z * dd := Int.mul_nonneg hz1 (by omega)
          have hm2 : z * dd ≤ z * 256 := Int.mul_le_mul_of_nonneg_left hd4' hz1
          have hm3 : z * 1 ≤ z * dd := Int.mul_le_mul_of_nonneg_left hd3 hz1
          have HZ3 : Hid (z * dd ≤ 256 ^ (i + 1 + 1)) := by
            rw [Hid, Int.pow_succ]
            exact Int.le_trans hm2 (Int.mul_le_mul_of_nonneg_right HZ2.out (by omega))
          have HN : Hid ((if z * dd ≤ 256 then dimF (z * dd) (T.ds.drop (i + 1)) else 0) = X) := by
            rw [Hid, ← HP.out]
            by_cases hz : z ≤ 256
            · rw [if_pos hz, HST.out hz]
              by_cases hzd : z * dd ≤ 256
              · rw [if_pos hzd, if_pos ⟨⟨hd3, hd4'⟩, hzd⟩]
              · rw [if_neg hzd, if_neg (fun h => hzd h.2)]
            · rw [if_neg hz, if_neg (by omega)]
          obtain ⟨zd, hzd⟩ : ∃ x, z * dd = x := ⟨_, rfl⟩
          have hwm : IntKind.i64.wrap (z * dd) = zd := by rw [hzd]; exact wrap_i64_inD _ (by omega) (by omega)
          rw [hzd] at HN HZ3 hm1
          have t1 : ¬ dd < 1 := by omega
          have t2 : ¬ 256 < dd := by omega
          clear HST hzd hm2 hm3
          go_wp2_with fail
          go_roundw
          case rel => exact ⟨i + 1, zd, by omega, rfl, by go_num, hm1, HZ3.out, HN.out, HB.out⟩
          case measure => simp [intOf]; omega
        · have HE : Hid (X = 0) := by
            rw [Hid, ← HP.out]
            by_cases hz : z ≤ 256
            · rw [if_pos hz, HST.out hz, if_neg (fun h => hd1 h.1)]
            · rw [if_neg hz]
          have hd1' : dd < 1 ∨ (¬ dd < 1 ∧ 256 < dd) := by omega
          clear HST hd1
          rcases hd1' with t1 | ⟨t1, t2⟩
          all_goals
            go_wp2_with fail
            go_ret
            exact rawP_zero HBB.out HE.out
      · obtain rfl : i = dn := by omega
        have HE : Hid ((if 256 < z then 0 else z) = X) := by
          rw [Hid, ← HP.out, List.drop_of_length_le (by rw [HDN.out]; exact Nat.le_refl _)]
          by_cases hz : z ≤ 256
          · rw [if_pos hz, if_neg (by omega)]; rfl
          · rw [if_neg hz, if_pos (by omega)]
        go_wp2_with fail
        go_ret
        exact ⟨⟨z, rfl, HE.out, hz1, by omega⟩, HBB.out⟩
  · have HE : Hid (X = 0) := by
      rw [Hid, ← HX.out]
      by_cases h1 : wd = 0 ∧ b = false ∧ fn = 0 ∧ nn = 0
      · rw [if_pos h1]
        by_cases h2 : bn = 1
        · obtain ⟨t, ht⟩ := one_of (HBN.out.trans h2)
          rw [ht, arrSz, if_neg]
          rw [HDN.out]
          exact fun h3 => hok ⟨h1.2.1, h1.1, by omega, h2, h3.1, h3.2⟩
        · exact arrSz_no _ _ (by rw [HBN.out]; exact h2)
      · rw [if_neg h1]
    have hok' : b = true ∨ (b = false ∧ ((wd != 0) = true)) ∨ (b = false ∧ ((wd != 0) = false) ∧ 0 < (k : Int)) ∨ (b = false ∧ ((wd != 0) = false) ∧ ¬ 0 < (k : Int) ∧ ¬ (bn : Int) = 1) ∨ (b = false ∧ ((wd != 0) = false) ∧ ¬ 0 < (k : Int) ∧ bn = 1 ∧ (dn : Int) < 1) ∨ (b = false ∧ ((wd != 0) = false) ∧ ¬ 0 < (k : Int) ∧ bn = 1 ∧ ¬ (dn : Int) < 1 ∧ 4 < (dn : Int)) := by
      cases b with
      | true => exact .inl rfl
      | false =>
        right
        by_cases e1 : wd = 0
        · right
          have e1' : (wd != 0) = false := by rw [e1]; rfl
          by_cases e2 : k = 0
          · right
            by_cases e3 : bn = 1
            · right
              by_cases e4 : dn < 1
              · exact .inl ⟨rfl, e1', by omega, e3, by omega⟩
              · exact .inr ⟨rfl, e1', by omega, e3, by omega, by have : ¬ dn ≤ 4 := fun h => hok ⟨rfl, e1, e2, e3, by omega, h⟩; omega⟩
            · exact .inl ⟨rfl, e1', by omega, by omega⟩
          · exact .inl ⟨rfl, e1', by omega⟩
        · exact .inl ⟨rfl, bne_iff_ne.2 e1⟩
    clear hok HX
    rcases hok' with rfl | ⟨rfl, t1⟩ | ⟨rfl, t1, t2⟩ | ⟨rfl, t1, t2, t3⟩ | ⟨rfl, t1, t2, rfl, t4⟩ | ⟨rfl, t1, t2, rfl, t4, t5⟩
    all_goals
      go_enter Try.func59, Try.ntmps59
      go_wp2_with fail
      go_ret
      exact rawP_zero HB1.out HE.out
end Go.Proofs.Ytojcokdfplldbaa
