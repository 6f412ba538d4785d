/-
  The document's Same, where both are one type. No conditions.
-/
import Derived.Test.YtojcokdfplldbaaRSameE
import Derived.Test.YtojcokdfplldbaaDNamed
import Derived.Test.YtojcokdfplldbaaDComp
import Derived.Lib.QuietBelow
import Derived.Shelf.SlicesE.Kit
namespace Go.Proofs.Ytojcokdfplldbaa
open Go.RowKit Go.Shelf
set_option linter.unusedVariables false
set_option maxRecDepth 100000

theorem eqM_guard (op : BinOp) (p q : Operand) (x y : Array Value) (w : World) : (eqGuard op 69 p q (.agg x) (.agg y)).run Try.prog w = .ok () w :=
  (GuardAt.agg (P := Try.prog) (T := 69) (fun x : Array Value => x) (by kernel_rfl)) op p q x y w
/-- What tells of a part, twice. -/
def SamY (w0 : World) (n : Nat) : Prop := ∀ (a : Ty n) (V U : TV) (w' : World), Below w0.heap.size w0 w' → TR n w0 V a → TR n w0 U a → Calls Try.prog 15 #[tyV (hd a) V, tyV (hd a) U] w' fun e w2 => e = .returned (.bool true) ∧ Below w'.heap.size w' w2
set_option maxHeartbeats 64000000 in
theorem refSame_stepY {n : Nat} (A : TyN (Ty n)) (V U : TV) (w : World) (hA : TRN (TR n) hd w V A) (hB : TRN (TR n) hd w U A) (ih : SamY w n) :
    Calls Try.prog 15 #[tyV (A.c, A.w, A.b) V, tyV (A.c, A.w, A.b) U] w fun e w2 => e = .returned (.bool true) ∧ Below w.heap.size w w2 := by
  have HA : Hid (TRN (TR n) hd w V A) := hA
  have HB : Hid (TRN (TR n) hd w U A) := hB
  have HI : Hid (SamY w n) := ih
  obtain ⟨fa, fn, fc, da, dn, dc, ba, bn, bc, na, nn, nc, rfl, ⟨f1, f2, f3⟩, ⟨d1, d2, d3⟩, ⟨b1, b2, b3⟩, ⟨n1, n2, n3⟩⟩ := HA.out.open
  obtain ⟨fa', fn', fc', da', dn', dc', ba', bn', bc', na', nn', nc', rfl, ⟨f1', f2', f3'⟩, ⟨d1', d2', d3'⟩, ⟨b1', b2', b3'⟩, ⟨n1', n2', n3'⟩⟩ := HB.out.open
  obtain rfl : fn = fn' := f1.symm.trans f1'
  obtain rfl : dn = dn' := d1.symm.trans d1'
  obtain rfl : bn = bn' := b1.symm.trans b1'
  obtain rfl : nn = nn' := n1.symm.trans n1'
  show Calls _ _ #[.agg #[.int .i64 A.c, .int .i64 A.w, .bool A.b, _, _, _, _], .agg #[.int .i64 A.c, .int .i64 A.w, .bool A.b, _, _, _, _]] _ _
  generalize A.c = c at *
  generalize A.w = wd at *
  generalize A.b = b at *
  obtain ⟨w1, hw1, hb1, hs1, hx1⟩ := bx_made w c wd b (.slice fa fn fc) (.slice da dn dc) (.slice ba bn bc) (.slice na nn nc)
  obtain ⟨w2, hw2, hb2, hs2, hx2⟩ := bx_made w1 c wd b (.slice fa' fn fc') (.slice da' dn dc') (.slice ba' bn bc') (.slice na' nn nc')
  have HB2 : Hid (Below w.heap.size w w2) := bel_next hb1 hb2
  have HX1 : Hid (Bx w2 w.heap.size c wd b (.slice fa fn fc) (.slice da dn dc) (.slice ba bn bc) (.slice na nn nc)) := hx1.below hb2
  have HY2 : Hid (Bx w2 w1.heap.size c wd b (.slice fa' fn fc') (.slice da' dn dc') (.slice ba' bn bc') (.slice na' nn nc')) := hx2
  obtain ⟨c0, c1, c2, c3, c4, c5, c6⟩ := HX1.out
  obtain ⟨e0, e1, e2, e3, e4, e5, e6⟩ := hx2
  have HEQ : Hid (∀ (a c : ByteArray) (b d : Int) (w : World), (binOp .eql 69 (.agg #[.string a, .int .i64 b]) (.agg #[.string c, .int .i64 d])).run Try.prog w = .ok (.bool ((a.toList == c.toList) && b == d)) w) := eqM_run
  have HGD : Hid (∀ (op : BinOp) (p q : Operand) (x y : Array Value) (w : World), (eqGuard op 69 p q (.agg x) (.agg y)).run Try.prog w = .ok () w) := eqM_guard
  clear hA hB ih f1 f1' d1 d1' b1 b1' n1 n1' hb1 hs1 hb2 hs2 hx1
  go_enter Try.func15, Try.ntmps15
  go_wp2_with fail
  clear c0 c1 c2 c3 c4 c5 c6 e0 e1 e2 e3 e4 e5 e6
  go_loopw [5] (fun y wr => ∃ i : Nat, i ≤ fn ∧ y = .int .i64 (i : Int) ∧ Hid (Below w2.heap.size w2 wr)) (fun y _ => fn - (intOf y).toNat)
  case atStart => exact ⟨0, Nat.zero_le _, by simp, Below.refl _ _⟩
  case round =>
    obtain ⟨i, hin, rfl, HBr⟩ := hrel
    have HBw : Hid (Below w.heap.size w wr) := bel_next HB2.out HBr.out
    obtain ⟨c0, c1, c2, c3, c4, c5, c6⟩ := HX1.out.below HBr.out
    obtain ⟨e0, e1, e2, e3, e4, e5, e6⟩ := HY2.out.below HBr.out
    clear c0 c1 c2 c4 c5 c6 e0 e1 e2 e4 e5 e6
    by_cases hlt : i < fn
    · obtain ⟨g, o, V, p, rfl, hp, hpr, hv, k0, k1, k2, k3, k4, k5, k6, k7, k8⟩ := HA.out.fs.at hlt
      obtain ⟨g', o', U, q, rfl, hq, hqr, hu, j0, j1, j2, j3, j4, j5, j6, j7, j8⟩ := HB.out.fs.at hlt
      obtain rfl : p = q := Option.some.inj (hp.symm.trans hq)
      obtain ⟨ga, gn, gk, xa, xn, xc, ya, yn, yc, za, zn, zc, rfl⟩ := hv.sl
      obtain ⟨ga', gn', gk', xa', xn', xc', ya', yn', yc', za', zn', zc', rfl⟩ := hu.sl
      simp only [] at k5 k6 k7 k8 j5 j6 j7 j8
      have K : ∀ {p : Addr} {x : Value}, w.cell? p = some x → ∀ d os, (Sort.grow (redrawn wr d) os).cell? p = some x := fun h => cell_regrown ((HBw.out.cell (World.block_lt_of_cell? w _ h)).trans h)
      have HCL : Hid (∀ w', Below wr.heap.size wr w' → Calls Try.prog 15 #[.agg #[.int .i64 (hd p.2.2).1, .int .i64 (hd p.2.2).2.1, .bool (hd p.2.2).2.2, .slice ga gn gk, .slice xa xn xc, .slice ya yn yc, .slice za zn zc], .agg #[.int .i64 (hd p.2.2).1, .int .i64 (hd p.2.2).2.1, .bool (hd p.2.2).2.2, .slice ga' gn' gk', .slice xa' xn' xc', .slice ya' yn' yc', .slice za' zn' zc']] w' fun e w2 => e = .returned (.bool true) ∧ Below w'.heap.size w' w2) := fun w' hb => HI.out p.2.2 ⟨.slice ga gn gk, .slice xa xn xc, .slice ya yn yc, .slice za zn zc⟩ ⟨.slice ga' gn' gk', .slice xa' xn' xc', .slice ya' yn' yc', .slice za' zn' zc'⟩ w' (bel_next HBw.out hb) hv hu
      have c3r := cell_regrown c3
      have e3r := cell_regrown e3
      replace k0 := K k0
      replace k1 := K k1
      replace k2 := K k2
      replace k3 := K k3
      replace k4 := K k4
      replace k5 := K k5
      replace k6 := K k6
      replace k7 := K k7
      replace k8 := K k8
      replace j0 := K j0
      replace j1 := K j1
      replace j2 := K j2
      replace j3 := K j3
      replace j4 := K j4
      replace j5 := K j5
      replace j6 := K j6
      replace j7 := K j7
      replace j8 := K j8
      clear K hp hq hpr hqr hv hu
      generalize p.1 = p0 at *
      generalize p.2.1 = p1 at *
      generalize (hd p.2.2).1 = p2 at *
      generalize (hd p.2.2).2.1 = p3 at *
      generalize (hd p.2.2).2.2 = p4 at *
      go_wp2_with fail
      clear c3 e3
      refine wp_region_quiet_below (by kernel_rfl) (by kernel_rfl) ?_
      repeat (go_big_quiet_step ((go_at_call 15; exact Calls.regrown_of (HCL.out _ (below_regrown _ _ _)))))
      refine wpQuiet_nil ?_
      intro w4 hw4
      have HB4 : Hid (Below wr.heap.size wr w4) := by obtain ⟨p, e⟩ := hw4; rw [e]; exact below_regrown wr p.d p.os
      clear hw4
      go_wp2_with fail
      go_roundw
      case rel => exact ⟨i + 1, by omega, by go_num, bel_next HBr.out HB4.out⟩
      case measure => simp [intOf]; omega
    · obtain rfl : i = fn := by omega
      go_wp2_with fail
      clear c3 e3
      have HBr1 : Hid (Below w2.heap.size w2 wr) := HBr.out
      go_loopw [6] (fun y wr => ∃ i : Nat, i ≤ dn ∧ y = .int .i64 (i : Int) ∧ Hid (Below w2.heap.size w2 wr)) (fun y _ => dn - (intOf y).toNat)
      case atStart => exact ⟨0, Nat.zero_le _, by simp, HBr1.out⟩
      case round =>
        obtain ⟨i2, hin2, rfl, HBs⟩ := hrel
        have HBw2 : Hid (Below w.heap.size w wr) := bel_next HB2.out HBs.out
        obtain ⟨c0, c1, c2, c3, c4, c5, c6⟩ := HX1.out.below HBs.out
        obtain ⟨e0, e1, e2, e3, e4, e5, e6⟩ := HY2.out.below HBs.out
        clear c0 c1 c2 c3 c5 c6 e0 e1 e2 e3 e5 e6
        by_cases hlt2 : i2 < dn
        · obtain ⟨g, o, p, rfl, hp, hpr, k0⟩ := HA.out.ds.at hlt2
          obtain ⟨g', o', q, rfl, hq, hqr, j0⟩ := HB.out.ds.at hlt2
          obtain rfl : p = q := Option.some.inj (hp.symm.trans hq)
          have K : ∀ {p : Addr} {x : Value}, w.cell? p = some x → wr.cell? p = some x := fun h => (HBw2.out.cell (World.block_lt_of_cell? w _ h)).trans h
          replace k0 := K k0
          replace j0 := K j0
          clear K hp hq hpr hqr
          go_wp2_with fail
          go_quiet (fail)
          go_wp2_with fail
          go_roundw
          case rel => exact ⟨i2 + 1, by omega, by go_num, below_dN HBs.out _⟩
          case measure => simp [intOf]; omega
        · obtain rfl : i2 = dn := by omega
          go_wp2_with fail
          clear c4 e4
          have HBs1 : Hid (Below w2.heap.size w2 wr) := HBs.out
          go_loopw [7] (fun y wr => ∃ i : Nat, i ≤ bn ∧ y = .int .i64 (i : Int) ∧ Hid (Below w2.heap.size w2 wr)) (fun y _ => bn - (intOf y).toNat)
          case atStart => exact ⟨0, Nat.zero_le _, by simp, HBs1.out⟩
          case round =>
            obtain ⟨i3, hin3, rfl, HBt⟩ := hrel
            have HBw3 : Hid (Below w.heap.size w wr) := bel_next HB2.out HBt.out
            obtain ⟨c0, c1, c2, c3, c4, c5, c6⟩ := HX1.out.below HBt.out
            obtain ⟨e0, e1, e2, e3, e4, e5, e6⟩ := HY2.out.below HBt.out
            clear c0 c1 c2 c3 c4 c6 e0 e1 e2 e3 e4 e6
            by_cases hlt3 : i3 < bn
            · obtain ⟨g, o, V, p, rfl, hp, hv, k0, k1, k2, k3, k4, k5, k6⟩ := HA.out.bs.at hlt3
              obtain ⟨g', o', U, q, rfl, hq, hu, j0, j1, j2, j3, j4, j5, j6⟩ := HB.out.bs.at hlt3
              obtain rfl : p = q := Option.some.inj (hp.symm.trans hq)
              obtain ⟨ga, gn, gk, xa, xn, xc, ya, yn, yc, za, zn, zc, rfl⟩ := hv.sl
              obtain ⟨ga', gn', gk', xa', xn', xc', ya', yn', yc', za', zn', zc', rfl⟩ := hu.sl
              simp only [] at k3 k4 k5 k6 j3 j4 j5 j6
              have K : ∀ {p : Addr} {x : Value}, w.cell? p = some x → ∀ d os, (Sort.grow (redrawn wr d) os).cell? p = some x := fun h => cell_regrown ((HBw3.out.cell (World.block_lt_of_cell? w _ h)).trans h)
              have HCL : Hid (∀ w', Below wr.heap.size wr w' → Calls Try.prog 15 #[.agg #[.int .i64 (hd p).1, .int .i64 (hd p).2.1, .bool (hd p).2.2, .slice ga gn gk, .slice xa xn xc, .slice ya yn yc, .slice za zn zc], .agg #[.int .i64 (hd p).1, .int .i64 (hd p).2.1, .bool (hd p).2.2, .slice ga' gn' gk', .slice xa' xn' xc', .slice ya' yn' yc', .slice za' zn' zc']] w' fun e w2 => e = .returned (.bool true) ∧ Below w'.heap.size w' w2) := fun w' hb => HI.out p ⟨.slice ga gn gk, .slice xa xn xc, .slice ya yn yc, .slice za zn zc⟩ ⟨.slice ga' gn' gk', .slice xa' xn' xc', .slice ya' yn' yc', .slice za' zn' zc'⟩ w' (bel_next HBw3.out hb) hv hu
              have c5r := cell_regrown c5
              have e5r := cell_regrown e5
              replace k0 := K k0
              replace k1 := K k1
              replace k2 := K k2
              replace k3 := K k3
              replace k4 := K k4
              replace k5 := K k5
              replace k6 := K k6
              replace j0 := K j0
              replace j1 := K j1
              replace j2 := K j2
              replace j3 := K j3
              replace j4 := K j4
              replace j5 := K j5
              replace j6 := K j6
              clear K hp hq hv hu
              generalize (hd p).1 = p2 at *
              generalize (hd p).2.1 = p3 at *
              generalize (hd p).2.2 = p4 at *
              go_wp2_with fail
              clear c5 e5
              refine wp_region_quiet_below (by kernel_rfl) (by kernel_rfl) ?_
              repeat (go_big_quiet_step ((go_at_call 15; exact Calls.regrown_of (HCL.out _ (below_regrown _ _ _)))))
              refine wpQuiet_nil ?_
              intro w4 hw4
              have HB4 : Hid (Below wr.heap.size wr w4) := by obtain ⟨p, e⟩ := hw4; rw [e]; exact below_regrown wr p.d p.os
              clear hw4
              go_wp2_with fail
              go_roundw
              case rel => exact ⟨i3 + 1, by omega, by go_num, bel_next HBt.out HB4.out⟩
              case measure => simp [intOf]; omega
            · obtain rfl : i3 = bn := by omega
              go_wp2_with fail
              clear c5 e5
              have HBt1 : Hid (Below w2.heap.size w2 wr) := HBt.out
              go_loopw [8] (fun y wr => ∃ i : Nat, i ≤ nn ∧ y = .int .i64 (i : Int) ∧ Hid (Below w2.heap.size w2 wr)) (fun y _ => nn - (intOf y).toNat)
              case atStart => exact ⟨0, Nat.zero_le _, by simp, HBt1.out⟩
              case round =>
                obtain ⟨i4, hin4, rfl, HBu⟩ := hrel
                have HBw4 : Hid (Below w.heap.size w wr) := bel_next HB2.out HBu.out
                obtain ⟨c0, c1, c2, c3, c4, c5, c6⟩ := HX1.out.below HBu.out
                obtain ⟨e0, e1, e2, e3, e4, e5, e6⟩ := HY2.out.below HBu.out
                clear c0 c1 c2 c3 c4 c5 e0 e1 e2 e3 e4 e5
                by_cases hlt4 : i4 < nn
                · obtain ⟨g, o, p, rfl, hp, hpr, k0, k1⟩ := HA.out.ns.at hlt4
                  obtain ⟨g', o', q, rfl, hq, hqr, j0, j1⟩ := HB.out.ns.at hlt4
                  obtain rfl : p = q := Option.some.inj (hp.symm.trans hq)
                  have K : ∀ {p : Addr} {x : Value}, w.cell? p = some x → wr.cell? p = some x := fun h => (HBw4.out.cell (World.block_lt_of_cell? w _ h)).trans h
                  replace k0 := K k0
                  replace k1 := K k1
                  replace j0 := K j0
                  replace j1 := K j1
                  clear K hp hq hpr hqr
                  generalize p.1 = p0 at *
                  generalize p.2 = p1 at *
                  have heq := HEQ.out p0 p0 p1 p1
                  have hgd := HGD.out
                  simp only [beq_self_eq_true, Bool.and_self] at heq
                  go_wp2_with fail
                  go_quiet (fail)
                  go_wp2_with fail
                  go_roundw
                  case rel => exact ⟨i4 + 1, by omega, by go_num, below_dN HBu.out _⟩
                  case measure => simp [intOf]; omega
                · obtain rfl : i4 = nn := by omega
                  go_wp2_with fail
                  go_ret
                  exact ⟨rfl, HBw4.out⟩
theorem refSame_yes : ∀ (n : Nat) (A : Ty n) (V U : TV) (w : World), TR n w V A → TR n w U A → Calls Try.prog 15 #[tyV (hd A) V, tyV (hd A) U] w fun e w2 => e = .returned (.bool true) ∧ Below w.heap.size w w2
  | 0, A, _, _, _, _, _ => nomatch A
  | n + 1, A, V, U, w, hA, hB => refSame_stepY A V U w hA hB (fun a V U w' hb ha hu => refSame_yes n a V U w' (ha.below hb) (hu.below hb))
end Go.Proofs.Ytojcokdfplldbaa
