/-
  The axes of a hyperslab. Conditions: the rank is at most 4.
-/
import Derived.Test.YtnikbcljonbpcaaSOfA
import Derived.BigRegion
namespace Go.Proofs.Ytnikbcljonbpcaa
open Go.RowKit Go.Shelf
set_option linter.unusedVariables false
set_option maxRecDepth 100000

theorem iss_lit {w w' : World} {g : Nat} {V : List Value} {L : List (List Int)} {T : TypeId} (hg : w'.heap[g]? = some (.cells V.toArray T (0, 0))) (hl : V.length = L.length) (hn : L.length ≤ 4) (hV : ∀ (i : Nat) u l, V[i]? = some u → L[i]? = some l → Is w' u l) : Iss w' (.slice (some ⟨g, 0, none⟩) L.length L.length) L := by
  refine ⟨by omega, _, _, rfl, Nat.le_refl _, fun i l hl' => ?_⟩
  have hi := (List.getElem?_eq_some_iff.1 hl').1
  have hu : V[i]? = some (V[i]'(by omega)) := List.getElem?_eq_getElem _
  refine ⟨g, 0, _, rfl, ?_, hV i _ l hu hl'⟩
  rw [Nat.zero_add, cell_of_row w' g i _ _ _ hg]
  simp
theorem okB_iff {n : Nat} {l : List Int} : okB n l = true ↔ l.length = n ∧ ∀ x ∈ l, 0 ≤ x := by
  rw [okB, Bool.and_eq_true, List.all_eq_true]
  simp
theorem slabA_at : ∀ (a b c d : List Int) (i : Nat) (x y z t : Int), a[i]? = some x → b[i]? = some y → c[i]? = some z → d[i]? = some t → (slabA a b c d)[i]? = some ⟨x, y, z, t⟩
  | a :: as', b :: bs, c :: cs, d :: ds, 0, x, y, z, t, h1, h2, h3, h4 => by
    simp only [List.getElem?_cons_zero, Option.some.injEq] at h1 h2 h3 h4
    subst h1 h2 h3 h4
    rfl
  | a :: as', b :: bs, c :: cs, d :: ds, i + 1, x, y, z, t, h1, h2, h3, h4 => by
    rw [slabA, List.getElem?_cons_succ]
    exact slabA_at as' bs cs ds i x y z t (by simpa using h1) (by simpa using h2) (by simpa using h3) (by simpa using h4)
  | [], _, _, _, i, _, _, _, _, h1, _, _, _ => by simp at h1
  | _ :: _, [], _, _, i, _, _, _, _, _, h1, _, _ => by simp at h1
  | _ :: _, _ :: _, [], _, i, _, _, _, _, _, _, h1, _ => by simp at h1
  | _ :: _, _ :: _, _ :: _, [], i, _, _, _, _, _, _, _, h1 => by simp at h1
theorem slabA_length : ∀ (a b c d : List Int) (n : Nat), a.length = n → b.length = n → c.length = n → d.length = n → (slabA a b c d).length = n
  | a :: as', b :: bs, c :: cs, d :: ds, n, h1, h2, h3, h4 => by
    simp only [List.length_cons] at h1 h2 h3 h4
    rw [slabA, List.length_cons, slabA_length as' bs cs ds (n - 1) (by omega) (by omega) (by omega) (by omega)]
    omega
  | [], _, _, _, n, h1, _, _, _ => by simpa [slabA] using h1
  | _ :: _, [], _, _, n, _, h1, _, _ => by simpa [slabA] using h1
  | _ :: _, _ :: _, [], _, n, _, _, h1, _ => by simpa [slabA] using h1
  | _ :: _, _ :: _, _ :: _, [], n, _, _, _, h1 => by simpa [slabA] using h1
theorem slabA_ok (a b c d : List Int) (n : Nat) (h1 : a.length = n) (h2 : b.length = n) (h3 : c.length = n) (h4 : d.length = n) (k : ∀ x, x ∈ a ∨ x ∈ b ∨ x ∈ c ∨ x ∈ d → 0 ≤ x ∧ x ≤ 9223372036854775807) : ∀ x ∈ slabA a b c d, AxOk x := by
  intro x hx
  obtain ⟨i, hi⟩ := List.mem_iff_getElem?.1 hx
  have hl := (List.getElem?_eq_some_iff.1 hi).1
  rw [slabA_length a b c d n h1 h2 h3 h4] at hl
  have e := slabA_at a b c d i _ _ _ _ (List.getElem?_eq_getElem (by omega)) (List.getElem?_eq_getElem (by omega)) (List.getElem?_eq_getElem (by omega)) (List.getElem?_eq_getElem (by omega))
  rw [hi] at e
  obtain rfl := Option.some.inj e
  have k1 := k (a[i]'(by omega)) (.inl (List.getElem_mem _))
  have k2 := k (b[i]'(by omega)) (.inr (.inl (List.getElem_mem _)))
  have k3 := k (c[i]'(by omega)) (.inr (.inr (.inl (List.getElem_mem _))))
  have k4 := k (d[i]'(by omega)) (.inr (.inr (.inr (List.getElem_mem _))))
  exact ⟨k1.1, k1.2, k2.1, k2.2, k3.1, k3.2, k4.1, k4.2⟩
/-- What slabAxes tells. -/
def SaP (w : World) (n : Nat) (s : Sel) (e : Ending) (w' : World) : Prop :=
  Below w.heap.size w w' ∧
  if (okB n s.st && okB n s.sd && okB n s.ct && okB n s.bl) = true then ∃ ao m cap, e = .returned (.tuple #[.slice ao m cap, .int .i64 0]) ∧ Axs w' (.slice ao m cap) (slabA s.st s.sd s.ct s.bl)
  else e = .returned (.tuple #[.slice none 0 0, .int .i64 2])
set_option maxHeartbeats 8000000 in
theorem slabAxes_any (n : Nat) (s : Sel) (V : SV) (w : World) (h : Ss w V s) (h4 : n ≤ 4) : Calls Try.prog 36 #[.int .i64 (n : Int), selV s.kind V] w (SaP w n s) := by
  have HS : Hid (Ss w V s) := h
  obtain ⟨p, va, vb, vc, vd⟩ := V
  obtain ⟨ki, ⟨pl, pi⟩, ha, hb, hc, hd⟩ := h
  obtain ⟨ap, cp, rfl, _⟩ := pi
  obtain ⟨aa, na, ca, rfl, la, lac, _⟩ := ha.open
  obtain ⟨ab, nb, cb, rfl, lb, lbc, _⟩ := hb.open
  obtain ⟨ac, nc, cc, rfl, lc, lcc, _⟩ := hc.open
  obtain ⟨ad, nd, cd, rfl, ld, ldc, _⟩ := hd.open
  have HL : Hid (s.st.length = na ∧ s.sd.length = nb ∧ s.ct.length = nc ∧ s.bl.length = nd) := ⟨la, lb, lc, ld⟩
  unfold selV
  simp only []
  obtain ⟨np, HNP⟩ : ∃ np, Hid (s.pts.length = np) := ⟨_, rfl⟩
  rw [HNP.out] at HS ⊢
  obtain ⟨kd, HK⟩ : ∃ kd, Hid (s.kind = kd) := ⟨_, rfl⟩
  rw [HK.out]
  clear la lb lc ld ha hb hc hd ki pl
  obtain ⟨i0, hi, hz, hs, hy⟩ := Try.infoA
  have HY : Hid (i0.bytes * n ≤ 281474976710656) := by rw [Hid, hy]; omega
  obtain ⟨W1, HW1⟩ : ∃ W1, Hid (W1 = (w.alloc (.cells #[.int .i64 kd, .slice ap np cp, .slice aa na ca, .slice ab nb cb, .slice ac nc cc, .slice ad nd cd] 33)).alloc (.cells #[.slice aa na ca, .slice ab nb cb, .slice ac nc cc, .slice ad nd cd] 22)) := ⟨_, rfl⟩
  have hb1 : Below w.heap.size w W1 := by rw [HW1.out]; exact ((Below.refl _ w).alloc (Nat.le_refl _) _).alloc (by simp) _
  have hbox : W1.heap[w.heap.size]? = some (.cells #[.int .i64 kd, .slice ap np cp, .slice aa na ca, .slice ab nb cb, .slice ac nc cc, .slice ad nd cd] 33 (0, 0)) := by
    rw [HW1.out]; exact (Below.heap_alloc _ _ _ (by simp)).trans (heap_alloc_new w _)
  have hlit : W1.heap[w.heap.size + 1]? = some (.cells #[.slice aa na ca, .slice ab nb cb, .slice ac nc cc, .slice ad nd cd] 22 (0, 0)) := by
    rw [HW1.out]; have := heap_alloc_new (w.alloc (.cells #[.int .i64 kd, .slice ap np cp, .slice aa na ca, .slice ab nb cb, .slice ac nc cc, .slice ad nd cd] 33)) (.cells #[.slice aa na ca, .slice ab nb cb, .slice ac nc cc, .slice ad nd cd] 22); rwa [World.size_alloc] at this
  have HLI : Hid (Iss W1 (.slice (some ⟨w.heap.size + 1, 0, none⟩) 4 4) [s.st, s.sd, s.ct, s.bl]) := by
    refine iss_lit (w := w) (L := [s.st, s.sd, s.ct, s.bl]) hlit rfl (by simp) ?_
    intro i u l hu hl
    match i, hu, hl with
    | 0, hu, hl => simp at hu hl; subst hu hl; exact HS.out.a.below hb1
    | 1, hu, hl => simp at hu hl; subst hu hl; exact HS.out.b.below hb1
    | 2, hu, hl => simp at hu hl; subst hu hl; exact HS.out.c.below hb1
    | 3, hu, hl => simp at hu hl; subst hu hl; exact HS.out.d.below hb1
    | i + 4, hu, hl => simp at hu
  have HB1 : Hid (Below w.heap.size w W1) := hb1
  have HBX : Hid _ := hbox
  have hszW : W1.heap.size = w.heap.size + 2 := by rw [HW1.out]; simp
  clear hb1 hbox hlit
  go_enter Try.func36, Try.ntmps36
  go_wp2_with fail
  rw [← HW1.out]
  clear HW1
  go_loopw [20] (fun x wr => ∃ i : Nat, i ≤ 4 ∧ x = .int .i64 (i : Int) ∧ Hid (∀ j l, j < i → [s.st, s.sd, s.ct, s.bl][j]? = some l → okB n l = true) ∧ Hid (Below W1.heap.size W1 wr)) (fun x _ => 4 - (intOf x).toNat)
  case atStart => exact ⟨0, by omega, rfl, fun j l hj => by omega, Below.refl _ _⟩
  case round =>
    obtain ⟨i, hi4, rfl, HA, HB⟩ := hrel
    by_cases hlt : i < 4
    · obtain ⟨g, o, l, u, m, c, e, hl, hlm, hmc, hmm, hcell, his⟩ := (HLI.out.below HB.out).at hlt
      have HIL : Hid _ := isList_any l (.slice u m c) n wr his h4
      have HLL : Hid _ := hl
      obtain ⟨rfl, rfl⟩ : g = w.heap.size + 1 ∧ o = 0 := by
        injection e with e1
        injection e1 with e1 e2
        exact ⟨e1.symm, e2.symm⟩
      clear e hl hlm his
      have hili : (i : Int) < 4 := by omega
      have hcl : wr.cell? ⟨w.heap.size + 1, i, none⟩ = some (.slice u m c) := by rw [← hcell, Nat.zero_add]
      clear hcell
      obtain ⟨b, hb⟩ : ∃ b, okB n l = b := ⟨_, rfl⟩
      rw [hb] at HIL
      have HOB : Hid _ := hb
      clear hb
      cases b with
      | true =>
        go_wp2_with (go_at_call 42; refine Calls.mono HIL.out ?_; rintro e w1 ⟨rfl, hb1⟩; have HB2 : Hid (Below W1.heap.size W1 w1) := HB.out.trans (hb1.mono HB.out.size); clear hb1)
        go_roundw
        case rel =>
          refine ⟨i + 1, by omega, by simp, fun j l' hj hl' => ?_, HB2.out⟩
          rcases Nat.lt_or_ge j i with h1 | h1
          · exact HA.out j l' h1 hl'
          · obtain rfl : j = i := by omega
            rw [HLL.out] at hl'
            injection hl' with e
            rw [← e]; exact HOB.out
        case measure => simp [intOf]; omega
      | false =>
        go_wp2_with (go_at_call 42; refine Calls.mono HIL.out ?_; rintro e w1 ⟨rfl, hb1⟩; have HB2 : Hid (Below W1.heap.size W1 w1) := HB.out.trans (hb1.mono HB.out.size); clear hb1)
        go_ret2
        refine ⟨HB1.out.trans (HB2.out.mono HB1.out.size), ?_⟩
        rw [if_neg]
        · rfl
        · intro hall
          simp only [Bool.and_eq_true] at hall
          have : okB n l = true := by
            match i, hlt, HLL.out with
            | 0, _, e => simp at e; rw [← e]; exact hall.1.1.1
            | 1, _, e => simp at e; rw [← e]; exact hall.1.1.2
            | 2, _, e => simp at e; rw [← e]; exact hall.1.2
            | 3, _, e => simp at e; rw [← e]; exact hall.2
          rw [HOB.out] at this
          cases this
    · rename World => w9
      have hall : okB n s.st = true ∧ okB n s.sd = true ∧ okB n s.ct = true ∧ okB n s.bl = true :=
        ⟨HA.out 0 _ (by omega) rfl, HA.out 1 _ (by omega) rfl, HA.out 2 _ (by omega) rfl, HA.out 3 _ (by omega) rfl⟩
      have HOKS : Hid _ := hall
      have e1 := (okB_iff.1 hall.1).1
      have e2 := (okB_iff.1 hall.2.1).1
      have e3 := (okB_iff.1 hall.2.2.1).1
      have e4 := (okB_iff.1 hall.2.2.2).1
      obtain ⟨l1, l2, l3, l4⟩ := HL.out
      obtain rfl : n = na := by omega
      obtain rfl : n = nb := by omega
      obtain rfl : n = nc := by omega
      obtain rfl : n = nd := by omega
      clear hall e1 e2 e3 e4 l1 l2 l3 l4 HA
      have HSO : Hid (∀ x ∈ slabA s.st s.sd s.ct s.bl, AxOk x) := by
        obtain ⟨k1, k2, k3, k4⟩ := HOKS.out
        refine slabA_ok _ _ _ _ n (okB_iff.1 k1).1 (okB_iff.1 k2).1 (okB_iff.1 k3).1 (okB_iff.1 k4).1 ?_
        rintro x (hx | hx | hx | hx)
        · exact ⟨(okB_iff.1 k1).2 x hx, (HS.out.a.rng x hx).2⟩
        · exact ⟨(okB_iff.1 k2).2 x hx, (HS.out.b.rng x hx).2⟩
        · exact ⟨(okB_iff.1 k3).2 x hx, (HS.out.c.rng x hx).2⟩
        · exact ⟨(okB_iff.1 k4).2 x hx, (HS.out.d.rng x hx).2⟩
      have HSL : Hid ((slabA s.st s.sd s.ct s.bl).length = n) := by
        obtain ⟨k1, k2, k3, k4⟩ := HOKS.out
        exact slabA_length _ _ _ _ n (okB_iff.1 k1).1 (okB_iff.1 k2).1 (okB_iff.1 k3).1 (okB_iff.1 k4).1
      go_wp2_with (at_make; refine wpList_make_full _ rfl _ _ 63 rfl w9.heap.size 71 i0 _ 4 Try.underlying63 hi hz hs .i64 .i64 (n : Int) (n : Int) n rfl rfl rfl rfl HY.out (by unfold maxLen; omega) (Nat.le_refl _) ?_; intro w2 hr2 hg2; have HR2 : Hid _ := hr2; have HG2 : Hid (Below w9.heap.size w9 w2) := ⟨hg2.os, hg2.tape, hg2.output, hg2.size, fun x hx => hg2.block x hx (by simp)⟩; clear hr2 hg2)
      have HBW : Hid (Below w.heap.size w w9) := HB1.out.trans (HB.out.mono HB1.out.size)
      have HBX2 : Hid _ := (HB.out.block w.heap.size (by omega)).trans HBX.out
      clear HB HBX HLI
      go_loopw [33] (fun x wq => ∃ (i : Nat) (xs : List Value), i ≤ n ∧ x = .int .i64 (i : Int) ∧ Hid (wq.ownsRow w9.heap.size 71 4 (.slice (some ⟨w9.heap.size, 0, none⟩) n n) n xs) ∧ Hid (AxTo (slabA s.st s.sd s.ct s.bl) i xs) ∧ Hid (Below w9.heap.size w9 wq)) (fun x _ => n - (intOf x).toNat)
      case atStart => exact ⟨0, _, Nat.zero_le _, rfl, HR2.out, fun j a hj => by omega, HG2.out⟩
      case round =>
        obtain ⟨i2, xs, hin, rfl, HO, HX, HB⟩ := hrel
        have hbx : wr.heap[w.heap.size]? = _ := (HB.out.block w.heap.size (Array.getElem?_eq_some_iff.1 HBX2.out).1).trans HBX2.out
        by_cases hlt2 : i2 < n
        · have hbw : Below w.heap.size w wr := HBW.out.trans (HB.out.mono HBW.out.size)
          obtain ⟨g1, o1, x1, rfl, m1, _, c1⟩ := (HS.out.a.below hbw).at hlt2
          obtain ⟨g2, o2, x2, rfl, m2, _, c2⟩ := (HS.out.b.below hbw).at hlt2
          obtain ⟨g3, o3, x3, rfl, m3, _, c3⟩ := (HS.out.c.below hbw).at hlt2
          obtain ⟨g4, o4, x4, rfl, m4, _, c4⟩ := (HS.out.d.below hbw).at hlt2
          have b2 : wr.cell? ⟨w.heap.size, 2, none⟩ = some _ := cell_of_row wr w.heap.size 2 _ _ _ hbx
          have b3 : wr.cell? ⟨w.heap.size, 3, none⟩ = some _ := cell_of_row wr w.heap.size 3 _ _ _ hbx
          have b4 : wr.cell? ⟨w.heap.size, 4, none⟩ = some _ := cell_of_row wr w.heap.size 4 _ _ _ hbx
          have b5 : wr.cell? ⟨w.heap.size, 5, none⟩ = some _ := cell_of_row wr w.heap.size 5 _ _ _ hbx
          have hili : (i2 : Int) < (n : Int) := by omega
          obtain ⟨_, hgs, hfz, hxl, hcs⟩ := row4 HO.out
          obtain ⟨u0, e0⟩ := hcs (i2 * 4) (by omega)
          obtain ⟨u1, e1⟩ := hcs (i2 * 4 + 1) (by omega)
          obtain ⟨u2, e2⟩ := hcs (i2 * 4 + 2) (by omega)
          obtain ⟨u3, e3⟩ := hcs (i2 * 4 + 3) (by omega)
          have f0 := hfz (i2 * 4)
          have f1 := hfz (i2 * 4 + 1)
          have f2 := hfz (i2 * 4 + 2)
          have f3 := hfz (i2 * 4 + 3)
          have HST : Hid (AxTo (slabA s.st s.sd s.ct s.bl) (i2 + 1) ((((xs.set (i2 * 4) (.int .i64 x1)).set (i2 * 4 + 1) (.int .i64 x2)).set (i2 * 4 + 2) (.int .i64 x3)).set (i2 * 4 + 3) (.int .i64 x4))) :=
            HX.out.step (a := ⟨x1, x2, x3, x4⟩) (slabA_at _ _ _ _ i2 _ _ _ _ m1 m2 m3 m4) (by omega)
          clear m1 m2 m3 m4 hcs hfz hxl hbx hbw
          go_wp2_with fail
          go_region
          go_wp2_with fail
          go_roundw
          case rel =>
            refine ⟨i2 + 1, _, by omega, by simp, row_set4 HO.out i2 (.int .i64 x1) (.int .i64 x2) (.int .i64 x3) (.int .i64 x4), HST.out, ?_⟩
            exact ((((HB.out.setCell (by simp) _).setCell (by simp) _).setCell (by simp) _).setCell (by simp) _).drew
          case measure => simp [intOf]; omega
        · obtain rfl : i2 = n := by omega
          go_wp2_with fail
          go_ret2
          refine ⟨HBW.out.trans (HB.out.mono HBW.out.size), ?_⟩
          rw [if_pos (by obtain ⟨k1, k2, k3, k4⟩ := HOKS.out; rw [k1, k2, k3, k4]; rfl)]
          exact ⟨_, _, _, rfl, axs_of_row HO.out HX.out HSL.out h4 HSO.out⟩
end Go.Proofs.Ytnikbcljonbpcaa
