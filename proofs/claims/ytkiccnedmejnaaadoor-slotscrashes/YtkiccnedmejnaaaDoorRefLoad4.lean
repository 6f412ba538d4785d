/-
  The document's root of bytes. Conditions: lengths within the machine's bounds.
-/
import Derived.Test.YtkiccnedmejnaaaDoorRefRoot
import Derived.BigQuiet
namespace Go.Proofs.YtkiccnedmejnaaaDoor
open Go.RowKit
set_option linter.unusedVariables false
set_option maxRecDepth 100000

theorem part_take (l : List Int) (p n m : Nat) (h : p + n ≤ m) : ((l.take m).drop p).take n = (l.drop p).take n := by
  rw [List.drop_take, List.take_take, Nat.min_eq_left (by omega)]
theorem ldG_take (l : List Int) : ldG (l.take 32) = ldG l := by unfold ldG; rw [part_take l 4 8 32 (by omega)]
theorem ldA_take (l : List Int) : ldA (l.take 32) = ldA l := by unfold ldA; rw [part_take l 16 4 32 (by omega)]
theorem ldZ_take (l : List Int) : ldZ (l.take 32) = ldZ l := by unfold ldZ; rw [part_take l 20 4 32 (by omega)]
theorem three_cells {w : World} {n : Nat} {x y z : Value} {t : TypeId} (h : w.heap[n]? = some (.cells #[x, y, z] t (0, 0))) :
    w.cell? ⟨n, 0, none⟩ = some x ∧ w.cell? ⟨n, 1, none⟩ = some y ∧ w.cell? ⟨n, 2, none⟩ = some z ∧ w.frozen? ⟨n, 0, none⟩ = false ∧ w.frozen? ⟨n, 1, none⟩ = false ∧ w.frozen? ⟨n, 2, none⟩ = false := by
  simp [World.cell?, World.frozen?, h]
theorem refNum (v : Value) (l : List Int) (p n : Nat) (w : World) (hl : Bs w v l) (hb : l.length ≤ 140737488351232) (hby : Byt l) (h1 : 1 ≤ n) (h2 : n ≤ 8) (hp : p + n ≤ l.length) :
    Calls Tryd.prog 37 #[v, .int .i64 p, .int .i64 n, .bool false] w fun e w' => e = .returned (.tuple #[.int .u64 (val false ((l.drop p).take n)), .int .i64 0]) ∧ w' = w := by
  have he : getErr l.length (p : Int) n = 0 := by unfold getErr wOk pOk; simp; omega
  have hu : getNum l (p : Int) n false = val false ((l.drop p).take n) := by unfold getNum; rw [he]; simp
  have := refGet_any v l (p : Int) n false w hl hb hby
  rw [he, hu] at this
  exact this

theorem refRLoad_short (v : Value) (l : List Int) (w : World) (hl : Bs w v l) (h : l.length < 32) :
    Calls Tryd.prog 14 #[v] w fun e w' => e = .returned (.tuple #[.agg #[.int .u64 0, .int .i64 0, .int .i64 0], .int .i64 4]) ∧ Below w.heap.size w w' := by
  obtain ⟨a1, c1, rfl, _⟩ := hl
  have hlt : (l.length : Int) < 32 := by omega
  go_enter Tryd.func14, Tryd.ntmps14
  go_wp2
  refine bodyPost_ret (v := .tuple #[.agg #[.int .u64 0, .int .i64 0, .int .i64 0], .int .i64 4]) ?_ rfl ?_
  · simp [results, Tryd.f14, go_sem]
  · exact ⟨rfl, by first | exact (Below.refl _ w).alloc (Nat.le_refl _) _ | exact ((((Below.refl _ w).alloc (Nat.le_refl _) _).setCell (p := ⟨w.heap.size, 0, none⟩) (Nat.le_refl _) _).setCell (p := ⟨w.heap.size, 1, none⟩) (Nat.le_refl _) _).setCell (p := ⟨w.heap.size, 2, none⟩) (Nat.le_refl _) _⟩

set_option maxHeartbeats 4000000 in
theorem refRLoad_long (v : Value) (l : List Int) (w : World) (hl : Bs w v l) (hb : l.length ≤ 140737488351232) (hby : Byt l) (h : 32 ≤ l.length) :
    Calls Tryd.prog 14 #[v] w fun e w' => e = .returned (.tuple #[ldRoot (l.take 32), .int .i64 (ldErr (l.take 32))]) ∧ Below w.heap.size w w' := by
  obtain ⟨b, Hb⟩ : ∃ b, Hid (l.take 32 = b) := ⟨_, rfl⟩
  have hbl : b.length = 32 := by rw [← Hb.out, List.length_take]; omega
  have hbb : Byt b := by rw [← Hb.out]; exact byt_left hby 32
  have hgl : ldG b = ldG l := by rw [← Hb.out]; exact ldG_take l
  have hal : ldA b = ldA l := by rw [← Hb.out]; exact ldA_take l
  have hzl : ldZ b = ldZ l := by rw [← Hb.out]; exact ldZ_take l
  rw [Hb.out]
  have HL : Hid (Bs w v l) := hl
  obtain ⟨ao, cap, rfl, hc, _⟩ := hl
  have HB : Hid (∀ w', Below w.heap.size w w' → Bs w' (.slice ao 32 cap) b) := fun w' hb' => by
    obtain ⟨ao', cap', e, h1, h2, h3⟩ := HL.out.below hb'
    injection e with e1 e2 e3
    subst e1 e3
    rw [← Hb.out]
    have hl32 : (l.take 32).length = 32 := by rw [List.length_take]; omega
    refine ⟨ao, cap, by rw [hl32], by omega, h2, fun ad ha i hi => ?_⟩
    rw [hl32] at hi
    rw [h3 ad ha i (by omega)]
    simp [List.getD, hi]
  obtain ⟨ga, gb⟩ := ldG_bounds hbb
  obtain ⟨aa, ab⟩ := ldA_bounds hbb (by omega)
  obtain ⟨za, zb⟩ := ldZ_bounds hbb (by omega)
  obtain ⟨W, HW⟩ : ∃ W, Hid (W = w.alloc (.cells #[.int .u64 0, .int .i64 0, .int .i64 0] 31)) := ⟨_, rfl⟩
  have HB0 : Hid (Below w.heap.size w W) := by rw [Hid, HW.out]; exact (Below.refl _ w).alloc (Nat.le_refl _) _
  have HC0 : Hid (W.heap[w.heap.size]? = some (.cells #[.int .u64 0, .int .i64 0, .int .i64 0] 31 (0, 0))) := by rw [Hid, HW.out]; exact heap_alloc_new w _
  have H1 : Hid _ := refNum _ l 4 8 W (HL.out.below HB0.out) hb hby (by omega) (by omega) (by omega)
  have H2 : Hid _ := refNum _ l 16 4 W (HL.out.below HB0.out) hb hby (by omega) (by omega) (by omega)
  have H3 : Hid _ := refNum _ l 20 4 W (HL.out.below HB0.out) hb hby (by omega) (by omega) (by omega)
  rw [show val false ((l.drop 4).take 8) = ldG b from hgl.symm] at H1
  rw [show val false ((l.drop 16).take 4) = ldA b from hal.symm] at H2
  rw [show val false ((l.drop 20).take 4) = ldZ b from hzl.symm] at H3
  obtain ⟨n, Hn⟩ : ∃ n, Hid (l.length = n) := ⟨_, rfl⟩
  rw [Hn.out] at HL hc h hb H1 H2 H3 ⊢
  obtain ⟨G, HG⟩ : ∃ G, Hid (ldG b = G) := ⟨_, rfl⟩
  obtain ⟨A, HA⟩ : ∃ A, Hid (ldA b = A) := ⟨_, rfl⟩
  obtain ⟨Z, HZ⟩ : ∃ Z, Hid (ldZ b = Z) := ⟨_, rfl⟩
  have hrt : isRt b = (inF A && inF Z && (rootB G A Z == b)) := by unfold isRt; rw [HG.out, HA.out, HZ.out, List.take_of_length_le (by omega)]
  rw [HG.out] at ga gb H1
  rw [HA.out] at aa ab H2
  rw [HZ.out] at za zb H3
  have HRT : Hid (isRt b = (inF A && inF Z && (rootB G A Z == b))) := hrt
  clear hrt hgl hal hzl
  have hn32 : ¬ (n : Int) < 32 := by omega
  have hc32 : (32 : Int) ≤ (cap : Int) := by omega
  have hwA : IntKind.i64.wrap A = A := by simp [IntKind.wrap, IntKind.bits, IntKind.signed]; omega
  have hwZ : IntKind.i64.wrap Z = Z := by simp [IntKind.wrap, IntKind.bits, IntKind.signed]; omega
  go_enter Tryd.func14, Tryd.ntmps14
  go_wp2_with fail
  rw [← HW.out]
  refine Calls.mono H1.out ?_
  rintro e w2 ⟨rfl, hw2⟩
  obtain rfl := hw2.symm
  go_wp2_with fail
  refine Calls.mono H2.out ?_
  rintro e w2 ⟨rfl, hw2⟩
  obtain rfl := hw2.symm
  go_wp2_with fail
  refine Calls.mono H3.out ?_
  rintro e w2 ⟨rfl, hw2⟩
  obtain rfl := hw2.symm
  clear H1 H2 H3
  obtain ⟨W3, HW3⟩ : ∃ W3, Hid (W3 = W.alloc (.cells #[.int .u64 G, .int .i64 A, .int .i64 Z] 31)) := ⟨_, rfl⟩
  have HB3 : Hid (Below W.heap.size W W3) := by rw [Hid, HW3.out]; exact (Below.refl _ W).alloc (Nat.le_refl _) _
  have HC3 : Hid (W3.heap[W.heap.size]? = some (.cells #[.int .u64 G, .int .i64 A, .int .i64 Z] 31 (0, 0))) := by rw [Hid, HW3.out]; exact heap_alloc_new W _
  go_wp2_with fail
  rw [← HW3.out]
  have HCR : Hid (∀ w4, Below W3.heap.size W3 w4 → w4.heap[w.heap.size]? = some (.cells #[.int .u64 0, .int .i64 0, .int .i64 0] 31 (0, 0)) ∧ w4.heap[W.heap.size]? = some (.cells #[.int .u64 G, .int .i64 A, .int .i64 Z] 31 (0, 0))) := fun w4 hb4 =>
    ⟨(hb4.block _ (Nat.lt_of_lt_of_le (Array.getElem?_eq_some_iff.1 HC0.out).1 HB3.out.size)).trans ((HB3.out.block _ (Array.getElem?_eq_some_iff.1 HC0.out).1).trans HC0.out), (hb4.block _ (Array.getElem?_eq_some_iff.1 HC3.out).1).trans HC3.out⟩
  by_cases hin : inF A = false ∨ inF Z = false
  · have HR : Hid (isRt b = false) := by rw [Hid, HRT.out]; rcases hin with h1 | h1 <;> simp [h1]
    refine (refRBytes_no G A Z W3 hin).mono ?_
    rintro e w4 ⟨rfl, hb4⟩
    have HB4 : Hid (Below W3.heap.size W3 w4) := hb4
    clear hb4
    obtain ⟨HCa, HCb⟩ := HCR.out _ HB4.out
    obtain ⟨c0, c1, c2, f0, f1, f2⟩ := three_cells HCa
    have HCA : Hid (w4.heap[w.heap.size]? = some (.cells #[.int .u64 0, .int .i64 0, .int .i64 0] 31 (0, 0))) := HCa
    have HBW4 : Hid (Below w.heap.size w w4) := HB0.out.trans ((HB3.out.trans (HB4.out.mono HB3.out.size)).mono HB0.out.size)
    clear HCa HCb
    go_wp2
    go_quiet (fail)
    go_wp2
    have HCQ : Hid ((w4.drewN nq).heap[w.heap.size]? = some (.cells #[.int .u64 0, .int .i64 0, .int .i64 0] 31 (0, 0))) := HCA.out
    refine bodyPost_ret (v := .tuple #[.agg #[.int .u64 0, .int .i64 0, .int .i64 0], .int .i64 5]) ?_ rfl ?_
    · have d0 := three_set HCQ.out (.int .u64 0) (.int .i64 0) (.int .i64 0) 0
      have d1 := three_set HCQ.out (.int .u64 0) (.int .i64 0) (.int .i64 0) 1
      have d2 := three_set HCQ.out (.int .u64 0) (.int .i64 0) (.int .i64 0) 2
      simp at d0 d1 d2
      simp [results, Tryd.f14, go_sem, d0, d1, d2]
    · refine ⟨by simp [ldErr, ldRoot, HR.out], ?_⟩
      have hbq : Below w.heap.size w (w4.drewN nq) := ⟨HBW4.out.os, HBW4.out.tape, HBW4.out.output, HBW4.out.size, HBW4.out.block⟩
      exact ((hbq.setCell (p := ⟨w.heap.size, 0, none⟩) (Nat.le_refl _) _).setCell (p := ⟨w.heap.size, 1, none⟩) (Nat.le_refl _) _).setCell (p := ⟨w.heap.size, 2, none⟩) (Nat.le_refl _) _
  · have hA : inF A = true := by cases h1 : inF A <;> simp_all
    have hZ : inF Z = true := by cases h1 : inF Z <;> simp_all
    have hA2 : A ≤ 4194304 := by rcases inF_cases A with ⟨_, _, h1⟩ | ⟨h1, _⟩; exact h1; rw [hA] at h1; cases h1
    have hZ2 : Z ≤ 4194304 := by rcases inF_cases Z with ⟨_, _, h1⟩ | ⟨h1, _⟩; exact h1; rw [hZ] at h1; cases h1
    refine (refRBytes_ok G A Z W3 ga gb aa hA2 za hZ2).mono ?_
    rintro e w4 ⟨a4, cap4, rfl, ho4, hb4⟩
    have HB4 : Hid (Below W3.heap.size W3 w4) := hb4
    have HBW4 : Hid (Below w.heap.size w w4) := HB0.out.trans ((HB3.out.trans (HB4.out.mono HB3.out.size)).mono HB0.out.size)
    have hs1 : ∀ q, Sem.run Tryd.prog (convert 25 9 (.slice a4 32 cap4)) (w4.drewN q) = .ok (.string (strOfNums (rootB G A Z))) (w4.drewN q) := fun q => by
      have hbq : Below w4.heap.size w4 (w4.drewN q) := ⟨rfl, rfl, rfl, Nat.le_refl _, fun _ _ => rfl⟩
      exact str_of (ho4.bs.below hbq)
    have hs2 : ∀ q, Sem.run Tryd.prog (convert 25 9 (.slice ao 32 cap)) (w4.drewN q) = .ok (.string (strOfNums b)) (w4.drewN q) := fun q => by
      have hbq : Below w4.heap.size w4 (w4.drewN q) := ⟨rfl, rfl, rfl, Nat.le_refl _, fun _ _ => rfl⟩
      exact str_of ((HB.out _ HBW4.out).below hbq)
    have hs1' := hs1 0
    have hs2' := hs2 0
    have heqB := eqB (rootB_byt G A Z) hbb (by rw [rootB_length, hbl])
    clear hb4 ho4
    obtain ⟨HCa, HCb⟩ := HCR.out _ HB4.out
    obtain ⟨c0, c1, c2, f0, f1, f2⟩ := three_cells HCa
    obtain ⟨g0, g1, g2, _, _, _⟩ := three_cells HCb
    have HCA : Hid (w4.heap[w.heap.size]? = some (.cells #[.int .u64 0, .int .i64 0, .int .i64 0] 31 (0, 0))) := HCa
    clear HCa HCb
    cases heq : (rootB G A Z == b) with
    | true =>
      rw [heq] at heqB
      have HR : Hid (isRt b = true) := by rw [Hid, HRT.out, hA, hZ, heq]; rfl
      generalize strOfNums (rootB G A Z) = S1 at *
      generalize strOfNums b = S2 at *
      clear heq
      go_wp2
      go_quiet (fail)
      go_wp2
      have HCQ : Hid ((w4.drewN nq).heap[w.heap.size]? = some (.cells #[.int .u64 0, .int .i64 0, .int .i64 0] 31 (0, 0))) := HCA.out
      refine bodyPost_ret (v := .tuple #[.agg #[.int .u64 G, .int .i64 A, .int .i64 Z], .int .i64 0]) ?_ rfl ?_
      · have d0 := three_set HCQ.out (.int .u64 G) (.int .i64 A) (.int .i64 Z) 0
        have d1 := three_set HCQ.out (.int .u64 G) (.int .i64 A) (.int .i64 Z) 1
        have d2 := three_set HCQ.out (.int .u64 G) (.int .i64 A) (.int .i64 Z) 2
        simp at d0 d1 d2
        simp [results, Tryd.f14, go_sem, d0, d1, d2]
      · refine ⟨by simp [ldErr, ldRoot, HR.out, HG.out, HA.out, HZ.out], ?_⟩
        have hbq : Below w.heap.size w (w4.drewN nq) := ⟨HBW4.out.os, HBW4.out.tape, HBW4.out.output, HBW4.out.size, HBW4.out.block⟩
        exact ((hbq.setCell (p := ⟨w.heap.size, 0, none⟩) (Nat.le_refl _) _).setCell (p := ⟨w.heap.size, 1, none⟩) (Nat.le_refl _) _).setCell (p := ⟨w.heap.size, 2, none⟩) (Nat.le_refl _) _
    | false =>
      rw [heq] at heqB
      have HR : Hid (isRt b = false) := by rw [Hid, HRT.out, hA, hZ, heq]; rfl
      generalize strOfNums (rootB G A Z) = S1 at *
      generalize strOfNums b = S2 at *
      clear heq
      go_wp2
      go_quiet (fail)
      go_wp2
      have HCQ : Hid ((w4.drewN nq).heap[w.heap.size]? = some (.cells #[.int .u64 0, .int .i64 0, .int .i64 0] 31 (0, 0))) := HCA.out
      refine bodyPost_ret (v := .tuple #[.agg #[.int .u64 0, .int .i64 0, .int .i64 0], .int .i64 5]) ?_ rfl ?_
      · have d0 := three_set HCQ.out (.int .u64 0) (.int .i64 0) (.int .i64 0) 0
        have d1 := three_set HCQ.out (.int .u64 0) (.int .i64 0) (.int .i64 0) 1
        have d2 := three_set HCQ.out (.int .u64 0) (.int .i64 0) (.int .i64 0) 2
        simp at d0 d1 d2
        simp [results, Tryd.f14, go_sem, d0, d1, d2]
      · refine ⟨by simp [ldErr, ldRoot, HR.out], ?_⟩
        have hbq : Below w.heap.size w (w4.drewN nq) := ⟨HBW4.out.os, HBW4.out.tape, HBW4.out.output, HBW4.out.size, HBW4.out.block⟩
        exact ((hbq.setCell (p := ⟨w.heap.size, 0, none⟩) (Nat.le_refl _) _).setCell (p := ⟨w.heap.size, 1, none⟩) (Nat.le_refl _) _).setCell (p := ⟨w.heap.size, 2, none⟩) (Nat.le_refl _) _
end Go.Proofs.YtkiccnedmejnaaaDoor
