/-
  Places: of any selection of any extent the places are told in order, in a new row. Conditions: none.
-/
import Derived.Test.YtnikbcljonbpcaaSPlM
import Derived.Test.YtnikbcljonbpcaaGOps
namespace Go.Proofs.Ytnikbcljonbpcaa
open Go.RowKit Go.Shelf
set_option linter.unusedVariables false
set_option maxRecDepth 100000
attribute [local go_sem] Oper.semAt_some

theorem plc_step {D t : List Int} {i : Nat} {x n p : Int} (ht : t[i]? = some x) (hn : D[i]? = some n) : placeZ (D.drop i) (t.drop i) p = placeZ (D.drop (i + 1)) (t.drop (i + 1)) (p * n + x) := by
  obtain ⟨h1, rfl⟩ := List.getElem?_eq_some_iff.1 ht
  obtain ⟨h2, rfl⟩ := List.getElem?_eq_some_iff.1 hn
  rw [List.drop_eq_getElem_cons h1, List.drop_eq_getElem_cons h2, placeZ]
theorem prd_take_le {D : List Int} (h : ∀ x ∈ D, 1 ≤ x) : ∀ i, 1 ≤ prd (D.take i) ∧ prd (D.take i) ≤ prd D := by
  intro i
  have e : prd D = prd (D.take i) * prd (D.drop i) := by rw [← prd_append, List.take_append_drop]
  have h1 : 1 ≤ prd (D.take i) := prd_pos (fun x hx => by have := h x (List.take_subset _ _ hx); omega) (fun h0 => by have := h 0 (List.take_subset _ _ h0); omega)
  have h2 : 1 ≤ prd (D.drop i) := prd_pos (fun x hx => by have := h x (List.drop_subset _ _ hx); omega) (fun h0 => by have := h 0 (List.drop_subset _ _ h0); omega)
  have h3 := Int.mul_le_mul_of_nonneg_left h2 (show 0 ≤ prd (D.take i) by omega)
  exact ⟨h1, by omega⟩
theorem ins_pos {D t : List Int} (h : Ins2 D t) : ∀ x ∈ D, 1 ≤ x := by
  intro n hn
  obtain ⟨i, hi⟩ := List.mem_iff_getElem?.1 hn
  have hl := (List.getElem?_eq_some_iff.1 hi).1
  have := h.2 i _ n (List.getElem?_eq_getElem (by rw [h.1]; exact hl)) hi
  omega
set_option maxHeartbeats 4000000 in
theorem place_any (D t : List Int) (vd vt : Value) (w : World) (hD : Is w vd D) (hT : Is w vt t) (hi : Ins2 D t) (hp : prd D ≤ 1048576) : Calls Try.prog 31 #[vd, vt] w fun e w' => e = .returned (.int .i64 (plc D t)) ∧ 0 ≤ plc D t ∧ plc D t < prd D ∧ Below w.heap.size w w' := by
  have HI : Hid (Is w vd D) := hD
  have HJ : Hid (Is w vt t) := hT
  have HIN : Hid (Ins2 D t) := hi
  have HPT : Hid (∀ i, 1 ≤ prd (D.take i) ∧ prd (D.take i) ≤ prd D) := prd_take_le (ins_pos hi)
  obtain ⟨ao, n, cap, rfl, hn, hc, hb⟩ := hD.open
  obtain ⟨bo, m, dap, rfl, hm, hdc, hb2⟩ := hT.open
  obtain rfl : n = m := by have := hi.1; omega
  have HN : Hid _ := hn
  have HM : Hid _ := hm
  have HP : Hid (prd D ≤ 1048576) := hp
  clear hD hT hi hn hm hp
  go_enter Try.func31, Try.ntmps31
  go_wp2_with fail
  go_loopw [10, 5] (fun x y wr => ∃ (i : Nat) (p : Int), i ≤ n ∧ x = .int .i64 (i : Int) ∧ y = .int .i64 p ∧ 0 ≤ p ∧ Hid (p < prd (D.take i)) ∧ Hid (plc D t = placeZ (D.drop i) (t.drop i) p) ∧ Hid (Below w.heap.size w wr)) (fun x _ _ => n - (intOf x).toNat)
  case atStart => exact ⟨0, 0, Nat.zero_le _, rfl, rfl, by omega, by rw [Hid, List.take_zero]; simp [prd], rfl, Below.refl _ _⟩
  case round =>
    obtain ⟨i, p, hin, rfl, rfl, hp0, HP1, HPL, HB⟩ := hrel
    by_cases hlt : i < n
    · obtain ⟨g, o, a, rfl, hma, _, c0⟩ := (HI.out.below HB.out).at hlt
      obtain ⟨g2, o2, x, rfl, hmx, _, c1⟩ := (HJ.out.below HB.out).at hlt
      have hx := HIN.out.2 i x a hmx hma
      have hili : (i : Int) < (n : Int) := by omega
      have HPN : Hid (plc D t = placeZ (D.drop (i + 1)) (t.drop (i + 1)) (p * a + x)) := by rw [Hid, HPL.out, plc_step hmx hma]
      have hst : prd (D.take (i + 1)) = prd (D.take i) * a := by rw [List.take_add_one, hma, prd_append]; simp [prd]
      have h1 := HPT.out (i + 1)
      have h2 := HP.out
      have h3 : (p + 1) * a ≤ prd (D.take i) * a := Int.mul_le_mul_of_nonneg_right (by have := HP1.out; omega) (by omega)
      have h4 : (p + 1) * a = p * a + a := by rw [Int.add_mul, Int.one_mul]
      have h5 : 0 ≤ p * a := Int.mul_nonneg hp0 (by omega)
      have HP2 : Hid (p * a + x < prd (D.take (i + 1))) := by rw [Hid, hst]; omega
      have hb1 : p * a ≤ 1048576 := by omega
      have hb3 : p * a + x ≤ 1048576 := by omega
      have hw1 : IntKind.i64.wrap (p * a) = p * a := wrap_i64_in _ (by omega) (by omega)
      have hw2 : IntKind.i64.wrap (p * a + x) = p * a + x := wrap_i64_in _ (by omega) (by omega)
      have hge : 0 ≤ p * a + x := by omega
      clear hma hmx hst h1 h2 h3 h4
      go_wp2_with fail
      go_roundw
      case rel => exact ⟨i + 1, p * a + x, by omega, by simp, rfl, hge, HP2.out, HPN.out, HB.out⟩
      case measure => simp [intOf]; omega
    · have HE : Hid (plc D t = p) := by rw [Hid, HPL.out, List.drop_of_length_le (by rw [HN.out]; omega)]; rfl
      have HPX : Hid (p < prd D) := by have := HP1.out; rwa [List.take_of_length_le (by rw [HN.out]; omega)] at this
      go_wp2_with fail
      go_ret
      exact ⟨by rw [HE.out]; rfl, by rw [HE.out]; exact hp0, by rw [HE.out]; exact HPX.out, HB.out⟩
theorem plc_in_from : ∀ (D t : List Int) (p q : Int), Ins2 D t → 0 ≤ p → p < q → 0 ≤ placeZ D t p ∧ placeZ D t p < q * prd D
  | [], [], p, q, _, h0, h1 => by simp only [placeZ, prd]; omega
  | [], _ :: _, p, q, h, _, _ => by have := h.1; simp at this
  | _ :: _, [], p, q, h, _, _ => by have := h.1; simp at this
  | n :: D, x :: t, p, q, h, h0, h1 => by
    have hx := h.2 0 x n rfl rfl
    have hr : Ins2 D t := ⟨by have := h.1; simpa using this, fun i y m hy hm => h.2 (i + 1) y m (by simpa using hy) (by simpa using hm)⟩
    have h5 : 0 ≤ p * n := Int.mul_nonneg h0 (by omega)
    have h3 : (p + 1) * n ≤ q * n := Int.mul_le_mul_of_nonneg_right (by omega) (by omega)
    have h4 : (p + 1) * n = p * n + n := by rw [Int.add_mul, Int.one_mul]
    have ih := plc_in_from D t (p * n + x) (q * n) hr (by omega) (by omega)
    rw [placeZ, prd, ← Int.mul_assoc]
    exact ih
theorem plc_in {D t : List Int} (h : Ins2 D t) : 0 ≤ plc D t ∧ plc D t < prd D := by
  have := plc_in_from D t 0 1 h (by omega) (by omega)
  rw [Int.one_mul] at this
  exact this
theorem is_loop {w w' : World} {v : Value} {l : List Int} {r : Loop} {g : Nat} (h : Is w v l) (hl : w.heap[g]? = some (.loop r)) (hk : Kp (fun i => i = g) w w') : Is w' v l := by
  obtain ⟨h1, h2, ao, cap, rfl, h3, h4⟩ := h
  refine ⟨h1, h2, ao, cap, rfl, h3, fun i x hx => ?_⟩
  obtain ⟨b, o, rfl, hc⟩ := h4 i x hx
  refine ⟨b, o, rfl, hk.cell hc (fun e => ?_)⟩
  have e' : b = g := e
  subst e'
  simp [World.cell?, hl] at hc
/-- What Places tells. -/
def PlP (w : World) (D : List Int) (s : Sel) (e : Ending) (w' : World) : Prop :=
  Below w.heap.size w w' ∧ ∃ v, e = .returned (.tuple #[v, .int .i64 (slE D s)]) ∧ Is w' v (if slE D s = 0 then (tups D s).map (plc D) else [])
theorem is_nil (w : World) : Is w (.slice none 0 0) [] := ⟨by simp, by simp, none, 0, rfl, Nat.le_refl _, fun i x h => by simp at h⟩
theorem Kp.is {w w' : World} {v : Value} {l : List Int} {F : Nat → Prop} (h : Is w v l) (hk : Kp F w w') (hF : ∀ g, F g → w.heap.size ≤ g) : Is w' v l := by
  obtain ⟨h1, h2, ao, cap, rfl, h3, h4⟩ := h
  refine ⟨h1, h2, ao, cap, rfl, h3, fun i x hx => ?_⟩
  obtain ⟨g, o, rfl, hc⟩ := h4 i x hx
  exact ⟨g, o, rfl, hk.cell hc (fun e => by have := World.block_lt_of_cell? w _ hc; have := hF _ e; simp only [] at *; omega)⟩
theorem make_cap (N : Nat) (hN : N ≤ 4096) : ∃ Z : Array Value, Z.size = N * 1 ∧ ∀ w : World, (Instr.makeSlice 22 (.int .i64 0) (.int .i64 (N : Int))).run Try.prog w = .ok (.slice (some ⟨w.heap.size, 0, none⟩) 0 N) (w.alloc (.cells Z 3)) := by
  obtain ⟨i0, hi, hz, hs, hy⟩ := Try.infoZ
  refine ⟨madeCells (Value.int .i64 0).cells (N * 1), by rw [size_madeCells], fun w => ?_⟩
  have := run_make (P := Try.prog) w 22 3 i0 (.int .i64 0) Try.underlying22 hi hz .i64 .i64 0 (N : Int) (by omega) (by omega) (by rw [hy]; omega) (by omega)
  rw [this, hs]
  simp
/-- The row that grows, and its box. -/
structure Pi (w1 : World) (lb lr N : Nat) (Q : List Int) (k : Nat) (W : World) : Prop where
  bel : Below w1.heap.size w1 W
  box : W.heap[lb]? = some (.cells #[.slice (some ⟨lr, 0, none⟩) k N] 22 (0, 0))
  row : W.ownsRow w1.heap.size 3 1 (.slice (some ⟨lr, 0, none⟩) k N) k (gc encZ (Q.take k))
theorem Pi.move {w1 W W' : World} {lb lr N k : Nat} {Q : List Int} (h : Pi w1 lb lr N Q k W) (hb : Below w1.heap.size w1 W') (h1 : W'.heap[lb]? = W.heap[lb]?) (h2 : W'.heap[lr]? = W.heap[lr]?) : Pi w1 lb lr N Q k W' := by
  refine ⟨hb, h1.trans h.box, ?_⟩
  obtain ⟨a, ⟨b, _⟩ | ⟨g, cap, cur, e, hB, hg, r⟩⟩ := h.row
  · cases b
  · injection e with e1 e2 e3
    obtain rfl : lr = g := by simpa using e1
    subst e3
    exact ⟨a, .inr ⟨lr, N, cur, rfl, hB, h2.trans hg, r⟩⟩

set_option maxHeartbeats 16000000 in
theorem places_any (D : List Int) (s : Sel) (vd : Value) (V : SV) (w : World) (hD : Is w vd D) (hS : Ss w V s) : Calls Try.prog 22 #[vd, selV s.kind V] w (PlP w D s) := by
  have HI : Hid (Is w vd D) := hD
  have HS : Hid (Ss w V s) := hS
  obtain ⟨ao, n, cap, rfl, hn, hc, hb⟩ := hD.open
  obtain ⟨a0, n0, c0, a1, n1, c1, a2, n2, c2, a3, n3, c3, a4, n4, c4, e, hV⟩ := selV_open hS
  obtain ⟨Wa, hWa, hba, hsa, hga⟩ := alloc_facts w (.cells #[.slice ao n cap] 22)
  obtain ⟨W1, hW1, hb1, hz1, b0, b1, b2, b3, b4, b5⟩ := box_sel Wa s.kind (.slice a0 n0 c0) (.slice a1 n1 c1) (.slice a2 n2 c2) (.slice a3 n3 c3) (.slice a4 n4 c4)
  rw [hsa] at b0 b1 b2 b3 b4 b5
  have hbw : Below w.heap.size w W1 := hba.trans (hb1.mono hba.size)
  have HB1 : Hid (Below w.heap.size w W1) := hbw
  have bd : W1.cell? ⟨w.heap.size, 0, none⟩ = some (.slice ao n cap) := (hb1.cell (p := ⟨w.heap.size, 0, none⟩) (by simp only []; omega)).trans (cell_of_row Wa _ 0 _ _ _ hga)
  have HCS : Hid (Calls Try.prog 26 #[.slice ao n cap, .agg #[.int .i64 s.kind, .slice a0 n0 c0, .slice a1 n1 c1, .slice a2 n2 c2, .slice a3 n3 c3, .slice a4 n4 c4]] W1 (SlP W1 D s)) := by
    have := selected_any D s _ V W1 (hD.below hbw) (hS.below hbw)
    rwa [e] at this
  rw [e]
  clear hD hS hn hb1 hba hga e hV hbw
  refine (callsIn_wide (n := 5)).1 ?_
  refine callsIn_of_wp_marks Try.func22 rfl trivial ?_ rfl
  simp only [Try.ntmps22, List.size_toArray, List.length_cons, List.length_nil, Nat.reduceAdd, Nat.reduceSub, Array.replicate_succ, Array.replicate_zero, List.push_toArray, List.append_toArray, List.nil_append, List.cons_append]
  obtain ⟨er, HER⟩ : ∃ er, Hid (slE D s = er) := ⟨_, rfl⟩
  by_cases he : er = 0
  · subst he
    obtain ⟨hN1, hN2, hN3⟩ := tups_ok HS.out HER.out
    obtain ⟨hd1, hd2, _, _⟩ := sel_ok HS.out HER.out
    have HINS : Hid _ := hN3
    have HPD : Hid (prd D ≤ 1048576) := hd2
    obtain ⟨N, hN⟩ : ∃ N, (tups D s).length = N := ⟨_, rfl⟩
    have HN : Hid _ := hN
    have HNN : Hid (slN D s = (N : Int)) := by rw [Hid, ← hN1, hN]
    have hNb : N ≤ 4096 := by omega
    obtain ⟨ZN, hZN, hmk⟩ := make_cap N hNb
    have HZN : Hid _ := hZN
    clear hN1 hN2 hN3 hd1 hd2 hN hZN
    gi_wp2_with (refine ⟨trivial, ?_⟩; gi_at_call 26; refine (callsIn_wide.2 HCS.out).mono ?_; intro e w2 hp; obtain ⟨kk, it, rfl, hb2, han⟩ := SlP.un hp; obtain ⟨rfl, hit⟩ := han.2 HER.out; have HIT : Hid (ItS w2 it D s) := hit; have HB2 : Hid (Below W1.heap.size W1 w2) := hb2; have q1 := (hb2.cell (World.block_lt_of_cell? W1 _ bd)).trans bd; obtain ⟨w3, hw3, hb3, hs3, hg3⟩ := alloc_facts w2 (.cells ZN 3); obtain ⟨w4, hw4, hb4, hs4, hg4⟩ := alloc_facts w3 (.cells #[.slice (some ⟨w2.heap.size, 0, none⟩) 0 N] 22); have HB3 : Hid _ := hb3; have HB4 : Hid _ := hb4; have HS3 : Hid _ := hs3; have HS4 : Hid _ := hs4; have HG3 : Hid _ := hg3; have HG4 : Hid _ := hg4; rw [HER.out, HNN.out]; clear hp han hb2 hit hb3 hb4 hs3 hs4 hg3 hg4)
    obtain ⟨f, caps, rfl, eg, hgv⟩ := its_gives (HS.out.below (HB1.out.trans (HB2.out.mono HB1.out.size))) HER.out HIT.out
    rw [HN.out] at hgv
    clear hw3 hw4 hmk b0 b1 b2 b3 b4 b5 HCS hW1 hWa
    obtain ⟨lr, HLR⟩ : ∃ lr, Hid (w2.heap.size = lr) := ⟨_, rfl⟩
    obtain ⟨lb, HLB⟩ : ∃ lb, Hid (w3.heap.size = lb) := ⟨_, rfl⟩
    rw [HLR.out, HLB.out]
    rw [HLR.out] at HG3 HG4
    rw [HLB.out] at HG4
    have HNUM : Hid (w2.heap.size = lr ∧ w3.heap.size = lb ∧ lb = lr + 1 ∧ w4.heap.size = lb + 1) := ⟨HLR.out, HLB.out, by have := HS3.out; have := HLR.out; have := HLB.out; omega, by have := HS4.out; have := HLB.out; omega⟩
    have hw24 : Below w2.heap.size w2 w4 := HB3.out.trans (HB4.out.mono HB3.out.size)
    refine wpIn_all 5 f caps N (fun k W v => ∃ t, (tups D s)[k]? = some t ∧ Is W v t) w2 eg hgv hw24 rfl (fun B1 k W => Pi w2 lb lr N ((tups D s).map (plc D)) k W) ?hI ?hIl ?hIr ?h0 ?round ?done
    case hI =>
      intro B1 k W W' hi hm
      obtain ⟨z1, z2, z3, z4⟩ := HNUM.out
      have hbx := (Array.getElem?_eq_some_iff.1 hi.box).1
      have hrw := (World.ownsRow.lt hi.row lr rfl).2
      refine hi.move ⟨hm.os.trans hi.bel.os, hm.tape.trans hi.bel.tape, hm.output.trans hi.bel.output, Nat.le_trans hi.bel.size hm.size, fun x hx => ?_⟩ (hm.low _ (by omega) hbx) (hm.low _ (by omega) hrw)
      exact (hm.low x (by omega) (Nat.lt_of_lt_of_le hx hi.bel.size)).trans (hi.bel.block x hx)
    case hIl =>
      intro B1 k W W' hi hm
      obtain ⟨z1, z2, z3, z4⟩ := HNUM.out
      have hbx := (Array.getElem?_eq_some_iff.1 hi.box).1
      have hrw := (World.ownsRow.lt hi.row lr rfl).2
      exact hi.move (hi.bel.trans (hm.below hi.bel.size (fun x e => by omega))) (hm.block _ hbx (fun e => by omega)) (hm.block _ hrw (fun e => by omega))
    case hIr => intro B1 k W hi; exact hi.bel
    case h0 =>
      intro W' hb
      obtain ⟨z1, z2, z3, z4⟩ := HNUM.out
      refine ⟨hw24.trans (hb.mono hw24.size), (hb.block _ (by omega)).trans HG4.out, ?_⟩
      have h9 := (hb.block lr (by omega)).trans ((HB4.out.block lr (by omega)).trans HG3.out)
      exact ⟨by simp [gc], .inr ⟨lr, N, ZN, rfl, by omega, h9, Nat.zero_le _, by unfold maxLen; omega, by rw [HZN.out], by simp [gc]⟩⟩
    case round =>
      rintro B1 k W v hk hi hB1' hBW ⟨t, ht, hvt⟩ ⟨lp, hlp⟩
      have HPI : Hid (Pi w2 lb lr N ((tups D s).map (plc D)) k W) := hi
      have HVT : Hid (Is W v t) := hvt
      have HTT : Hid _ := ht
      obtain ⟨va, vn, vc, rfl, _, _, _⟩ := hvt.open
      clear hi hvt ht
      gi_wp2
      refine ⟨Below.refl _ _, ?_⟩
      intro W2 hkp
      have HIV : Hid (Is W2 (.slice va vn vc) t) := is_loop HVT.out hlp hkp
      have HPI2 : Hid (Pi w2 lb lr N ((tups D s).map (plc D)) k W2) := by
        obtain ⟨z1, z2, z3, z4⟩ := HNUM.out
        have hi := HPI.out
        have hbx := (Array.getElem?_eq_some_iff.1 hi.box).1
        have hrw := (World.ownsRow.lt hi.row lr rfl).2
        exact hi.move (hi.bel.trans (hkp.below hi.bel.size (fun x e => by omega))) (hkp.block _ hbx (fun e => by omega)) (hkp.block _ hrw (fun e => by omega))
      have HDI : Hid (∀ w9, Below W2.heap.size W2 w9 → Is w9 (.slice ao n cap) D ∧ w9.cell? ⟨w.heap.size, 0, none⟩ = some (.slice ao n cap)) := fun w9 hb => by
        have h1 := HPI2.out.bel.trans (hb.mono HPI2.out.bel.size)
        exact ⟨HI.out.below ((HB1.out.trans (HB2.out.mono HB1.out.size)).trans (h1.mono (Nat.le_trans HB1.out.size HB2.out.size))), (h1.cell (World.block_lt_of_cell? w2 _ q1)).trans q1⟩
      have HSZ2 : Hid (w4.heap.size + 2 ≤ W2.heap.size) := Nat.le_trans hB1' (Nat.le_trans hBW hkp.size)
      have HIT2 : Hid (Ins2 D t) := HINS.out t (List.mem_of_getElem? HTT.out)
      have HQK : Hid (((tups D s).map (plc D)).take (k + 1) = ((tups D s).map (plc D)).take k ++ [plc D t]) := by rw [Hid, List.take_add_one, List.getElem?_map, HTT.out]; rfl
      have HQL : Hid ((gc encZ (((tups D s).map (plc D)).take k)).length = k) := by rw [Hid, gc_length encZ1, List.length_take, List.length_map, HN.out]; omega
      clear hkp hlp HVT HPI HTT q1
      refine wpIn_block ?_
      refine wpIn_mono (Q := onN fun a' w' => w'.heap[w4.heap.size]? = W2.heap[w4.heap.size]? ∧ w'.heap[w4.heap.size + 1]? = W2.heap[w4.heap.size + 1]? ∧ Keep (w4.heap.size + 2) W2 w' ∧ Pi w2 lb lr N ((tups D s).map (plc D)) (k + 1) w') ?_ ?_
      · have hD : Below W2.heap.size W2 W2.drew := (Below.refl _ _).drew
        have HCB : Hid (W2.cell? ⟨lb, 0, none⟩ = some (.slice (some ⟨lr, 0, none⟩) k N)) := cell_of_row W2 _ 0 _ _ _ HPI2.out.box
        obtain ⟨i0, hi, hz, hs, hy⟩ := Try.infoZ
        refine wpIn_region_L (S := fun w9 => w9.cell? ⟨lb, 0, none⟩ = some (.slice (some ⟨lr, 0, none⟩) k N) ∧ w9.cell? ⟨w.heap.size, 0, none⟩ = some (.slice ao n cap)) 6 (by kernel_rfl) (by kernel_rfl) (onN_lets _) ⟨HCB.out, (HDI.out _ hD).2⟩ (fun hHeld => ?_)
        refine GoL.takeD (some 25) (i := 0) (v := ?_) rfl rfl (by kernel_rfl) (by kernel_rfl) (by kernel_rfl) (by decide) (fun _ _ _ h => h) (Or.inl ⟨by rfl, ?_⟩) (by assumption) ?_
        rotate_left 1
        · intro w9 hSw
          (try dsimp only at hSw)
          (try obtain ⟨hSa, hSb⟩ := hSw)
          go_simp
          try with_reducible rfl
        try simp only [Act.put, List.setIfInBounds_toArray, List.set_cons_zero, List.set_cons_succ]
        refine GoL.takeD (some 26) (i := 1) (v := ?_) rfl rfl (by kernel_rfl) (by kernel_rfl) (by kernel_rfl) (by decide) (fun _ _ _ h => h) (Or.inl ⟨by rfl, ?_⟩) (by assumption) ?_
        rotate_left 1
        · intro w9 hSw
          (try dsimp only at hSw)
          (try obtain ⟨hSa, hSb⟩ := hSw)
          go_simp
          try with_reducible rfl
        try simp only [Act.put, List.setIfInBounds_toArray, List.set_cons_zero, List.set_cons_succ]
        refine GoL.takeD (some 27) (i := 2) (v := ?_) rfl rfl (by kernel_rfl) (by kernel_rfl) (by kernel_rfl) (by decide) (fun _ _ _ h => h) (Or.inl ⟨by rfl, ?_⟩) (by assumption) ?_
        rotate_left 1
        · intro w9 hSw
          (try dsimp only at hSw)
          (try obtain ⟨hSa, hSb⟩ := hSw)
          go_simp
          try with_reducible rfl
        try simp only [Act.put, List.setIfInBounds_toArray, List.set_cons_zero, List.set_cons_succ]
        refine GoL.ready (rs := [3]) (by kernel_rfl) (by simp) (by decide) (AllL.cons rfl (fun K hK => ?_) AllL.nil)
        refine step_call rfl 31 (enters_of Try.func31 (by kernel_rfl) rfl) #[.tmp 26, .tmp 27] _ rfl #[.slice ao n cap, .slice va vn vc] (by go_simp) (fun v w5 => v = .int .i64 (plc D t) ∧ Below W2.heap.size W2 w5) (Calls.mono (place_any D t _ _ W2.drew (HDI.out _ hD).1 (HIV.out.below hD) HIT2.out HPD.out) (by rintro e w5 ⟨rfl, _, _, hb⟩; exact ⟨_, rfl, rfl, below_undrew hb⟩)) ?_
        rintro v w5 ⟨rfl, hb5⟩
        have HB5 : Hid (Below W2.heap.size W2 w5) := hb5
        have e5 : w5.cell? ⟨lb, 0, none⟩ = some (.slice (some ⟨lr, 0, none⟩) k N) ∧ w5.cell? ⟨w.heap.size, 0, none⟩ = some (.slice ao n cap) := ⟨(hb5.cell (World.block_lt_of_cell? W2 _ HCB.out)).trans HCB.out, (HDI.out _ hb5).2⟩
        clear hb5 hHeld
        refine hK.out _ _ e5 (fun hHeld => ?_)
        clear hK K
        show GoL _ _ _ _ _ _ _ _ (Act.put _ (some 28) (.int .i64 (plc D t))) _
        simp only [Act.put, List.setIfInBounds_toArray, List.set_cons_zero, List.set_cons_succ]
        refine GoL.ready (rs := [4]) (by kernel_rfl) (by simp) (by decide) (AllL.cons rfl (fun K hK => ?_) AllL.nil)
        obtain ⟨p5, HP5⟩ : ∃ p5, Hid (w5.heap.size = p5) := ⟨_, rfl⟩
        obtain ⟨w6, hw6, hb6', hs6, hg6⟩ := alloc_facts w5 (.cells #[.int .i64 (plc D t)] 3)
        have HB6 : Hid (Below W2.heap.size W2 w6) := HB5.out.trans (hb6'.mono HB5.out.size)
        have HG6 : Hid (w6.heap[p5]? = some (.cells [Value.int .i64 (plc D t)].toArray 3 (0, 0))) := by rw [← HP5.out]; exact hg6
        have e6 : w6.cell? ⟨lb, 0, none⟩ = some (.slice (some ⟨lr, 0, none⟩) k N) ∧ w6.cell? ⟨w.heap.size, 0, none⟩ = some (.slice ao n cap) := ⟨(HB6.out.cell (World.block_lt_of_cell? W2 _ HCB.out)).trans HCB.out, (HDI.out _ HB6.out).2⟩
        clear hb6' hs6 hg6 hHeld
        go_simp
        rw [HP5.out]
        refine hK.out _ _ e6 (fun hHeld => ?_)
        clear hK K hw6
        refine GoL.ready (rs := [5]) (by kernel_rfl) (by simp) (by decide) (AllL.cons rfl (fun K hK => ?_) AllL.nil)
        have HR6 : Hid _ := ownsRow_below HPI2.out.row HB6.out
        refine step_appIn_own rfl (.tmp 25) (.tmp 29) 22 rfl 3 i0 Try.underlying22 hi 1 hs w2.heap.size lr k N k (gc encZ (((tups D s).map (plc D)).take k)) HR6.out (Nat.le_refl _) ⟨p5, 0, none⟩ 1 1 [.int .i64 (plc D t)] (by go_simp) (by go_simp) rfl (news_one HG6.out) (by intro u hu; simp at hu; subst hu; rfl) (by omega) ?_
        intro w7 ho7 hg7
        have HO7 : Hid (w7.ownsRow w2.heap.size 3 1 (.slice (some ⟨lr, 0, none⟩) (k + 1) N) (k + 1) (gc encZ (((tups D s).map (plc D)).take (k + 1)))) := by
          rw [Hid, HQK.out, gc_append]
          rw [List.take_of_length_le (by rw [HQL.out]; omega)] at ho7
          exact ho7
        have HK7 : Hid (Kp (fun y => y = lr) w6 w7) := ⟨hg7.os, hg7.tape, hg7.output, hg7.size, fun x hx hne => hg7.block x hx (fun e => hne (by injection e))⟩
        have HNE : Hid (lb ≠ lr ∧ w.heap.size ≠ lr) := by
          obtain ⟨z1, z2, z3, z4⟩ := HNUM.out
          have := HB1.out.size
          have := HB2.out.size
          have h7 : w.heap.size < W1.heap.size := World.block_lt_of_cell? W1 ⟨w.heap.size, 0, none⟩ bd
          constructor <;> omega
        have e7 : w7.cell? ⟨lb, 0, none⟩ = some (.slice (some ⟨lr, 0, none⟩) k N) ∧ w7.cell? ⟨w.heap.size, 0, none⟩ = some (.slice ao n cap) := ⟨HK7.out.cell hHeld.1 (fun e => HNE.out.1 e), HK7.out.cell hHeld.2 (fun e => HNE.out.2 e)⟩
        clear ho7 hg7 hHeld
        refine hK.out _ _ e7 (fun hHeld => ?_)
        clear hK K
        show GoL _ _ _ _ _ _ _ _ (Act.put _ (some 30) (.slice (some ⟨lr, 0, none⟩) (k + 1) N)) _
        simp only [Act.put, List.setIfInBounds_toArray, List.set_cons_zero, List.set_cons_succ]
        refine GoL.last (by kernel_rfl) (by kernel_rfl) rfl (fun K hK => ?_)
        have HBX7 : Hid (w7.heap[lb]? = some (.cells #[.slice (some ⟨lr, 0, none⟩) k N] 22 (0, 0))) := (HK7.out.block lb (by have := (Array.getElem?_eq_some_iff.1 HPI2.out.box).1; have := HB6.out.size; omega) (fun e => HNE.out.1 e)).trans ((HB6.out.block lb (Array.getElem?_eq_some_iff.1 HPI2.out.box).1).trans HPI2.out.box)
        have c7 := hHeld.1
        have f7 : w7.frozen? ⟨lb, 0, none⟩ = false := by simp [World.frozen?, HBX7.out]
        go_simp
        refine hK.out _ _ ?_
        have hk8 : Kp (fun y => y = lr ∨ y = lb) W2 (w7.setCell ⟨lb, 0, none⟩ (.slice (some ⟨lr, 0, none⟩) (k + 1) N)) := (((Kp.of (F := fun y => y = lr ∨ y = lb) HB6.out).trans HK7.out (fun y _ e => .inl e)).setCell _ (fun _ => .inr rfl))
        obtain ⟨z1, z2, z3, z4⟩ := HNUM.out
        have hz := HSZ2.out
        refine ⟨hk8.block _ (by omega) (fun e => by rcases e with e | e <;> omega), hk8.block _ (by omega) (fun e => by rcases e with e | e <;> omega), Keep.of_kp hk8 (fun x e => by rcases e with e | e <;> omega), ?_⟩
        refine ⟨HPI2.out.bel.trans (hk8.below HPI2.out.bel.size (fun x e => by rcases e with e | e <;> omega)), ?_, ?_⟩
        · rw [heap_setCell_same w7 lb 0 _ _ _ HBX7.out]; rfl
        · exact ownsRow_kp HO7.out ((Kp.refl (fun y => y = lb) w7).setCell _ (fun _ => rfl)) (fun g hg e => by have hg' : lr = g := (by simpa [Value.ownBlock] using hg); omega)
      intro e a' w' he
      cases e with
      | exit id => exact he.elim
      | goto t => exact he.elim
      | ret => exact he.elim
      | panic ch => exact he.elim
      | outgrown => exact he.elim
      | normal => exact he
    case done =>
      intro B1 W hi hdf
      have HPI : Hid (Pi w2 lb lr N ((tups D s).map (plc D)) N W) := hi
      have HDF : Hid _ := hdf
      have cb : W.cell? ⟨lb, 0, none⟩ = some (.slice (some ⟨lr, 0, none⟩) N N) := cell_of_row W _ 0 _ _ _ hi.box
      clear hi hdf
      gi_wp2
      obtain ⟨z1, z2, z3, z4⟩ := HNUM.out
      have hbb : Below w.heap.size w W := (HB1.out.trans (HB2.out.mono HB1.out.size)).trans (HPI.out.bel.mono (Nat.le_trans HB1.out.size HB2.out.size))
      have hkp := kp_putObj W w4.heap.size (.deferred none)
      have hw2w := Nat.le_trans HB1.out.size HB2.out.size
      refine ⟨by simp, .inl ⟨_, _, rfl, run_takeDeferred HDF.out, _, results_tmp2 rfl _ _ _, hbb.trans (hkp.below hbb.size (fun x e => by omega)), _, by rw [HER.out]; rfl, ?_⟩⟩
      rw [HER.out, if_pos rfl]
      have hQ : ((tups D s).map (plc D)).take N = (tups D s).map (plc D) := List.take_of_length_le (by rw [List.length_map, HN.out]; exact Nat.le_refl _)
      have hrow := HPI.out.row
      rw [hQ] at hrow
      have hrow2 : OwnI W w2.heap.size (.slice (some ⟨lr, 0, none⟩) N N) ((tups D s).map (plc D)) := by
        rw [OwnI, List.length_map, HN.out]; exact hrow
      have his := hrow2.is (by rw [List.length_map, HN.out]; omega) (fun x hx => by
        obtain ⟨t, ht, rfl⟩ := List.mem_map.1 hx
        have h9 := plc_in (HINS.out t ht)
        have := HPD.out
        exact ⟨by omega, by omega⟩)
      exact his.kp hkp (fun g hg e => by have hg' : lr = g := (by simpa [Value.ownBlock] using hg); omega)
  · have hne : (er != 0) = true := by simp [he]
    gi_wp2_with (refine ⟨trivial, ?_⟩; gi_at_call 26; refine (callsIn_wide.2 HCS.out).mono ?_; intro e w2 hp; obtain ⟨kk, it, rfl, hb2, han⟩ := SlP.un hp; have HB2 : Hid (Below W1.heap.size W1 w2) := hb2; rw [HER.out]; clear hp han hb2)
    refine ⟨_, results_tmp2 rfl _ _ _, HB1.out.trans (HB2.out.mono HB1.out.size), _, by rw [HER.out]; rfl, ?_⟩
    rw [HER.out, if_neg he]
    exact is_nil _
end Go.Proofs.Ytnikbcljonbpcaa
