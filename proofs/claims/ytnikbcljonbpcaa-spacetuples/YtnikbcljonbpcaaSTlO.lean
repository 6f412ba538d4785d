/-
  Tuples of the program: what it tells is the call's own, row by row. Conditions: lengths are such as memory bears.
-/
import Derived.Test.YtnikbcljonbpcaaSRw
namespace Go.Proofs.Ytnikbcljonbpcaa
open Go.RowKit Go.Shelf
set_option linter.unusedVariables false
set_option maxRecDepth 100000
attribute [local go_sem] Oper.semAt_some

def TlO (w : World) (D : List Int) (s : Sel) (e : Ending) (w' : World) : Prop :=
  Below w.heap.size w w' ∧ ∃ v, e = .returned (.tuple #[v, .int .i64 (slE D s)]) ∧ RwP w' w.heap.size v (if slE D s = 0 then tups D s else [])
theorem ows_mono {w : World} {B B' : Nat} {T : TypeId} {k : Nat} {v : Value} {n : Nat} {xs : List Value} (h : w.ownsRow B T k v n xs) (hB : B' ≤ B) : w.ownsRow B' T k v n xs := by
  obtain ⟨h1, h2 | ⟨g, cap, cur, rfl, hg, r⟩⟩ := h
  · exact ⟨h1, .inl h2⟩
  · exact ⟨h1, .inr ⟨g, cap, cur, rfl, Nat.le_trans hB hg, r⟩⟩
theorem own_high {W W' : World} {v : Value} {t : List Int} {B1 : Nat} (h : OwnI W B1 v t) (hh : ∀ (g : Nat) (o : Obj), B1 ≤ g → W.heap[g]? = some o → o.isCells = true → W'.heap[g]? = some o) : OwnI W' B1 v t := by
  obtain ⟨h1, h2 | ⟨g, cap, cur, rfl, hB, hc, r⟩⟩ := h
  · exact ⟨h1, .inl h2⟩
  · exact ⟨h1, .inr ⟨g, cap, cur, rfl, hB, hh g _ hB hc rfl, r⟩⟩
/-- The row of rows that grows, and its box. -/
structure TiO (w1 : World) (lb lr N B1 M : Nat) (Q : List (List Int)) (k : Nat) (W : World) : Prop where
  bel : Below w1.heap.size w1 W
  b1 : M ≤ B1
  box : W.heap[lb]? = some (.cells #[.slice (some ⟨lr, 0, none⟩) k N] 31 (0, 0))
  row : ∃ vs : List Value, W.ownsRow w1.heap.size 22 1 (.slice (some ⟨lr, 0, none⟩) k N) k vs ∧ ∀ (i : Nat) (v : Value) (t : List Int), vs[i]? = some v → Q[i]? = some t → OwnI W B1 v t
theorem TiO.move {w1 W W' : World} {lb lr N B1 M k : Nat} {Q : List (List Int)} (h : TiO w1 lb lr N B1 M Q k W) (hb : Below w1.heap.size w1 W') (h1 : W'.heap[lb]? = W.heap[lb]?) (h2 : W'.heap[lr]? = W.heap[lr]?) (hh : ∀ (g : Nat) (o : Obj), B1 ≤ g → W.heap[g]? = some o → o.isCells = true → W'.heap[g]? = some o) : TiO w1 lb lr N B1 M Q k W' := by
  refine ⟨hb, h.b1, h1.trans h.box, ?_⟩
  obtain ⟨vs, hr, hv⟩ := h.row
  refine ⟨vs, ?_, fun i v t hi ht => own_high (hv i v t hi ht) hh⟩
  obtain ⟨a, ⟨b, _⟩ | ⟨g, cap, cur, e, hB, hg, r⟩⟩ := hr
  · cases b
  · injection e with e1 e2 e3
    obtain rfl : lr = g := by simpa using e1
    subst e3
    exact ⟨a, .inr ⟨lr, N, cur, rfl, hB, h2.trans hg, r⟩⟩
set_option maxHeartbeats 16000000 in
theorem tuplesO_any (D : List Int) (s : Sel) (vd : Value) (V : SV) (w : World) (hD : Is w vd D) (hS : Ss w V s) : Calls Try.prog 18 #[vd, selV s.kind V] w (TlO w D s) := by
  have HI : Hid (Is w vd D) := hD
  have HS : Hid (Ss w V s) := hS
  obtain ⟨ao, n, cap, rfl, hn, hc, hb⟩ := hD.open
  obtain ⟨a0, n0, c0, a1, n1, c1, a2, n2, c2, a3, n3, c3, a4, n4, c4, e, hV⟩ := selV_open hS
  obtain ⟨W1, hW1, hb1, hz1, b0, b1, b2, b3, b4, b5⟩ := box_sel w s.kind (.slice a0 n0 c0) (.slice a1 n1 c1) (.slice a2 n2 c2) (.slice a3 n3 c3) (.slice a4 n4 c4)
  have hbw : Below w.heap.size w W1 := hb1
  have HB1 : Hid (Below w.heap.size w W1) := hbw
  have HCS : Hid (Calls Try.prog 26 #[.slice ao n cap, .agg #[.int .i64 s.kind, .slice a0 n0 c0, .slice a1 n1 c1, .slice a2 n2 c2, .slice a3 n3 c3, .slice a4 n4 c4]] W1 (SlP W1 D s)) := by
    have := selected_any D s _ V W1 (hD.below hbw) (hS.below hbw)
    rwa [e] at this
  rw [e]
  clear hD hS hn hb1 e hV hbw
  refine (callsIn_wide (n := 5)).1 ?_
  refine callsIn_of_wp_marks Try.func18 rfl trivial ?_ rfl
  simp only [Try.ntmps18, List.size_toArray, List.length_cons, List.length_nil, Nat.reduceAdd, Nat.reduceSub, Array.replicate_succ, Array.replicate_zero, List.push_toArray, List.append_toArray, List.nil_append, List.cons_append]
  obtain ⟨er, HER⟩ : ∃ er, Hid (slE D s = er) := ⟨_, rfl⟩
  by_cases he : er = 0
  · subst he
    obtain ⟨hN1, hN2, hN3⟩ := tups_ok HS.out HER.out
    obtain ⟨hd1, hd2, _, _⟩ := sel_ok HS.out HER.out
    have HINS : Hid _ := hN3
    have HD4 : Hid (D.length ≤ 4) := (dims_of hd1).1
    obtain ⟨N, hN⟩ : ∃ N, (tups D s).length = N := ⟨_, rfl⟩
    have HN : Hid _ := hN
    have HNN : Hid (slN D s = (N : Int)) := by rw [Hid, ← hN1, hN]
    have hNb : N ≤ 4096 := by omega
    obtain ⟨ZN, hZN, hmk⟩ := make_capR N hNb
    have HZN : Hid _ := hZN
    clear hN1 hN2 hN3 hd2 hN hZN
    gi_wp2_with (refine ⟨trivial, ?_⟩; gi_at_call 26; refine (callsIn_wide.2 HCS.out).mono ?_; intro e w2 hp; obtain ⟨kk, it, rfl, hb2, han⟩ := SlP.un hp; obtain ⟨rfl, hit⟩ := han.2 HER.out; have HIT : Hid (ItS w2 it D s) := hit; have HB2 : Hid (Below W1.heap.size W1 w2) := hb2; obtain ⟨w3, hw3, hb3, hs3, hg3⟩ := alloc_facts w2 (.cells ZN 22); obtain ⟨w4, hw4, hb4, hs4, hg4⟩ := alloc_facts w3 (.cells #[.slice (some ⟨w2.heap.size, 0, none⟩) 0 N] 31); have HB3 : Hid _ := hb3; have HB4 : Hid _ := hb4; have HS3 : Hid _ := hs3; have HS4 : Hid _ := hs4; have HG3 : Hid _ := hg3; have HG4 : Hid _ := hg4; rw [HER.out, HNN.out]; clear hp han hb2 hit hb3 hb4 hs3 hs4 hg3 hg4)
    obtain ⟨f, caps, rfl, eg, hgv⟩ := its_gives (HS.out.below (HB1.out.trans (HB2.out.mono HB1.out.size))) HER.out HIT.out
    rw [HN.out] at hgv
    clear hw3 hw4 hmk b0 b1 b2 b3 b4 b5 HCS hW1
    obtain ⟨lr, HLR⟩ : ∃ lr, Hid (w2.heap.size = lr) := ⟨_, rfl⟩
    obtain ⟨lb, HLB⟩ : ∃ lb, Hid (w3.heap.size = lb) := ⟨_, rfl⟩
    rw [HLR.out, HLB.out]
    rw [HLR.out] at HG3 HG4
    rw [HLB.out] at HG4
    have HNUM : Hid (w2.heap.size = lr ∧ w3.heap.size = lb ∧ lb = lr + 1 ∧ w4.heap.size = lb + 1) := ⟨HLR.out, HLB.out, by have := HS3.out; have := HLR.out; have := HLB.out; omega, by have := HS4.out; have := HLB.out; omega⟩
    have hw24 : Below w2.heap.size w2 w4 := HB3.out.trans (HB4.out.mono HB3.out.size)
    refine wpIn_all2 5 f caps N (fun k W v => ∃ t, (tups D s)[k]? = some t ∧ Is W v t) w2 eg hgv hw24 rfl (fun B1 k W => TiO w2 lb lr N B1 (lb + 3) (tups D s) k W) ?hI ?hIl ?hIr ?h0 ?round ?done
    case hI =>
      intro B1 k W W' hi hm
      obtain ⟨z1, z2, z3, z4⟩ := HNUM.out
      have hbx := (Array.getElem?_eq_some_iff.1 hi.box).1
      obtain ⟨vs, hrow, _⟩ := hi.row
      have hrw := (World.ownsRow.lt hrow lr rfl).2
      refine hi.move ⟨hm.os.trans hi.bel.os, hm.tape.trans hi.bel.tape, hm.output.trans hi.bel.output, Nat.le_trans hi.bel.size hm.size, fun x hx => ?_⟩ (hm.low _ (by omega) hbx) (hm.low _ (by omega) hrw) hm.high
      exact (hm.low x (by omega) (Nat.lt_of_lt_of_le hx hi.bel.size)).trans (hi.bel.block x hx)
    case hIl =>
      intro B1 k W W' hi hm
      obtain ⟨z1, z2, z3, z4⟩ := HNUM.out
      have hbx := (Array.getElem?_eq_some_iff.1 hi.box).1
      obtain ⟨vs, hrow, _⟩ := hi.row
      have hrw := (World.ownsRow.lt hrow lr rfl).2
      exact hi.move (hi.bel.trans (hm.below hi.bel.size (fun x e => by omega))) (hm.block _ hbx (fun e => by omega)) (hm.block _ hrw (fun e => by omega)) (fun g o hg ho hc => (hm.block g (Array.getElem?_eq_some_iff.1 ho).1 (fun e => by have := hi.b1; omega)).trans ho)
    case hIr => intro B1 k W hi; exact hi.bel
    case h0 =>
      intro W' hb hs9
      obtain ⟨z1, z2, z3, z4⟩ := HNUM.out
      refine ⟨hw24.trans (hb.mono hw24.size), by omega, (hb.block _ (by omega)).trans HG4.out, [], ?_, fun i v t hi => by simp at hi⟩
      have h9 := (hb.block lr (by omega)).trans ((HB4.out.block lr (by omega)).trans HG3.out)
      exact ⟨by simp, .inr ⟨lr, N, ZN, rfl, by omega, h9, Nat.zero_le _, by unfold maxLen; omega, by rw [HZN.out], by simp⟩⟩
    case round =>
      rintro B1 k W v hk hi hB1' hBW ⟨t, ht, hvt⟩ ⟨lp, hlp⟩
      have HPI : Hid (TiO w2 lb lr N B1 (lb + 3) (tups D s) k W) := hi
      have HVT : Hid (Is W v t) := hvt
      have HTT : Hid _ := ht
      obtain ⟨va, vn, vc, rfl, hvn, _, _⟩ := hvt.open
      have hvn4 : vn ≤ 4 := by have h1 := (HINS.out t (List.mem_of_getElem? ht)).1; have h2 := HD4.out; omega
      clear hi hvt ht hvn
      gi_wp2
      refine ⟨Below.refl _ _, ?_⟩
      intro W2 hkp
      have HIV : Hid (Is W2 (.slice va vn vc) t) := is_loop HVT.out hlp hkp
      have HPI2 : Hid (TiO w2 lb lr N B1 (lb + 3) (tups D s) k W2) := by
        obtain ⟨z1, z2, z3, z4⟩ := HNUM.out
        have hi := HPI.out
        have hbx := (Array.getElem?_eq_some_iff.1 hi.box).1
        obtain ⟨vs, hrow, _⟩ := hi.row
        have hrw := (World.ownsRow.lt hrow lr rfl).2
        exact hi.move (hi.bel.trans (hkp.below hi.bel.size (fun x e => by omega))) (hkp.block _ hbx (fun e => by omega)) (hkp.block _ hrw (fun e => by omega)) (fun g o hg ho hc => (hkp.block g (Array.getElem?_eq_some_iff.1 ho).1 (fun e => by have := hi.b1; omega)).trans ho)
      have HSZ2 : Hid (w4.heap.size + 2 ≤ B1 ∧ B1 ≤ W2.heap.size) := ⟨hB1', Nat.le_trans hBW hkp.size⟩
      clear hkp hlp HVT HPI
      refine wpIn_block ?_
      refine wpIn_mono (Q := onN fun a' w' => w'.heap[w4.heap.size]? = W2.heap[w4.heap.size]? ∧ w'.heap[w4.heap.size + 1]? = W2.heap[w4.heap.size + 1]? ∧ Keep (w4.heap.size + 2) W2 w' ∧ TiO w2 lb lr N B1 (lb + 3) (tups D s) (k + 1) w') ?_ ?_
      · have hD : Below W2.heap.size W2 W2.drew := (Below.refl _ _).drew
        have HCB : Hid (W2.cell? ⟨lb, 0, none⟩ = some (.slice (some ⟨lr, 0, none⟩) k N)) := cell_of_row W2 _ 0 _ _ _ HPI2.out.box
        obtain ⟨i0, hi, hz, hs, hy⟩ := Try.infoR
        refine wpIn_region_L (S := fun w9 => w9.cell? ⟨lb, 0, none⟩ = some (.slice (some ⟨lr, 0, none⟩) k N)) 6 (by kernel_rfl) (by kernel_rfl) (onN_lets _) HCB.out (fun hHeld => ?_)
        refine GoL.takeD (some 25) (i := 0) (v := ?_) rfl rfl (by kernel_rfl) (by kernel_rfl) (by kernel_rfl) (by decide) (fun _ _ _ h => h) (Or.inl ⟨by rfl, ?_⟩) (by assumption) ?_
        rotate_left 1
        · intro w9 hSw
          (try dsimp only at hSw)
          go_simp
          try with_reducible rfl
        try simp only [Act.put, List.setIfInBounds_toArray, List.set_cons_zero, List.set_cons_succ]
        refine GoL.takeD (some 27) (i := 2) (v := ?_) rfl rfl (by kernel_rfl) (by kernel_rfl) (by kernel_rfl) (by decide) (fun _ _ _ h => h) (Or.inl ⟨by rfl, ?_⟩) (by assumption) ?_
        rotate_left 1
        · intro w9 hSw
          (try dsimp only at hSw)
          go_simp
          try with_reducible rfl
        try simp only [Act.put, List.setIfInBounds_toArray, List.set_cons_zero, List.set_cons_succ]
        refine GoL.ready (rs := [1]) (by kernel_rfl) (by simp) (by decide) (AllL.cons rfl (fun K hK => ?_) AllL.nil)
        obtain ⟨p5, HP5⟩ : ∃ p5, Hid (W2.heap.size = p5) := ⟨_, rfl⟩
        obtain ⟨w5, hw5, hb5', hs5', hg5⟩ := alloc_facts W2.drew (.cells #[] 3)
        have HB5 : Hid (Below W2.heap.size W2 w5) := hD.trans (hb5'.mono (Nat.le_refl _))
        have HG5 : Hid (w5.heap[p5]? = some (.cells #[] 3 (0, 0)) ∧ p5 < w5.heap.size) := by rw [← HP5.out]; exact ⟨hg5, by rw [hs5']; exact Nat.lt_succ_self _⟩
        have e5 : w5.cell? ⟨lb, 0, none⟩ = some (.slice (some ⟨lr, 0, none⟩) k N) := (HB5.out.cell (World.block_lt_of_cell? W2 _ HCB.out)).trans HCB.out
        clear hb5' hs5' hg5 hHeld
        go_simp
        rw [HP5.out]
        refine hK.out _ _ e5 (fun hHeld => ?_)
        clear hK K hw5
        refine GoL.ready (rs := [3]) (by kernel_rfl) (by simp) (by decide) (AllL.cons rfl (fun K hK => ?_) AllL.nil)
        refine step_app_is rfl (.tmp 26) (.tmp 27) rfl p5 va vn vc t (by go_simp) (by go_simp) ⟨rfl, .inr ⟨p5, 0, #[], rfl, Nat.le_refl _, HG5.out.1, Nat.le_refl _, by unfold maxLen; omega, rfl, rfl⟩⟩ (HIV.out.below HB5.out) hvn4 (Nat.le_of_lt HG5.out.2) ?_
        intro ao6 cap6 w6 ho6 hg6
        have HO6 : Hid (w6.ownsRow p5 3 1 (.slice ao6 vn cap6) vn (gc encZ t)) := ho6
        have HB6 : Hid (Below W2.heap.size W2 w6) := HB5.out.trans (below_grown hg6 HB5.out.size (fun g hg => by have : p5 = g := (by simpa using hg); have := HP5.out; omega))
        have e6 : w6.cell? ⟨lb, 0, none⟩ = some (.slice (some ⟨lr, 0, none⟩) k N) := (HB6.out.cell (World.block_lt_of_cell? W2 _ HCB.out)).trans HCB.out
        clear ho6 hg6 hHeld
        refine hK.out _ _ e6 (fun hHeld => ?_)
        clear hK K
        show GoL _ _ _ _ _ _ _ _ (Act.put _ (some 28) (.slice ao6 vn cap6)) _
        simp only [Act.put, List.setIfInBounds_toArray, List.set_cons_zero, List.set_cons_succ]
        refine GoL.ready (rs := [4]) (by kernel_rfl) (by simp) (by decide) (AllL.cons rfl (fun K hK => ?_) AllL.nil)
        obtain ⟨p7, HP7⟩ : ∃ p7, Hid (w6.heap.size = p7) := ⟨_, rfl⟩
        obtain ⟨w7, hw7, hb7', hs7', hg7'⟩ := alloc_facts w6 (.cells #[.slice ao6 vn cap6] 22)
        have HB67 : Hid (Below w6.heap.size w6 w7) := hb7'
        have HB7 : Hid (Below W2.heap.size W2 w7) := HB6.out.trans (hb7'.mono HB6.out.size)
        have HG7 : Hid (w7.heap[p7]? = some (.cells [Value.slice ao6 vn cap6].toArray 22 (0, 0))) := by rw [← HP7.out]; exact hg7'
        have e7 : w7.cell? ⟨lb, 0, none⟩ = some (.slice (some ⟨lr, 0, none⟩) k N) := (HB7.out.cell (World.block_lt_of_cell? W2 _ HCB.out)).trans HCB.out
        clear hb7' hs7' hg7' hHeld
        go_simp
        rw [HP7.out]
        refine hK.out _ _ e7 (fun hHeld => ?_)
        clear hK K hw7
        refine GoL.ready (rs := [5]) (by kernel_rfl) (by simp) (by decide) (AllL.cons rfl (fun K hK => ?_) AllL.nil)
        obtain ⟨vs, hrow2, hvs2⟩ := HPI2.out.row
        have HVS : Hid _ := hvs2
        have HVL : Hid (vs.length = k) := by have h9 : vs.length = k * 1 := hrow2.1; rw [Hid]; omega
        have HR7 : Hid _ := ownsRow_below hrow2 HB7.out
        clear hrow2 hvs2
        refine step_appIn_own rfl (.tmp 25) (.tmp 29) 31 rfl 22 i0 Try.underlying31 hi 1 hs w2.heap.size lr k N k vs HR7.out (Nat.le_refl _) ⟨p7, 0, none⟩ 1 1 [.slice ao6 vn cap6] (by go_simp) (by go_simp) rfl (news_one HG7.out) (by intro u hu; simp at hu; subst hu; rfl) (by omega) ?_
        intro w8 ho8 hg8
        have HO8 : Hid (w8.ownsRow w2.heap.size 22 1 (.slice (some ⟨lr, 0, none⟩) (k + 1) N) (k + 1) (vs ++ [.slice ao6 vn cap6])) := by
          rw [List.take_of_length_le (by rw [HVL.out]; omega)] at ho8
          exact ho8
        have HK8 : Hid (Kp (fun y => y = lr) w7 w8) := ⟨hg8.os, hg8.tape, hg8.output, hg8.size, fun x hx hne => hg8.block x hx (fun e => hne (by injection e))⟩
        have HNE : Hid (lb ≠ lr) := by obtain ⟨z1, z2, z3, z4⟩ := HNUM.out; rw [Hid]; omega
        have e8 : w8.cell? ⟨lb, 0, none⟩ = some (.slice (some ⟨lr, 0, none⟩) k N) := HK8.out.cell hHeld (fun e => HNE.out e)
        clear ho8 hg8 hHeld
        refine hK.out _ _ e8 (fun hHeld => ?_)
        clear hK K
        show GoL _ _ _ _ _ _ _ _ (Act.put _ (some 30) (.slice (some ⟨lr, 0, none⟩) (k + 1) N)) _
        simp only [Act.put, List.setIfInBounds_toArray, List.set_cons_zero, List.set_cons_succ]
        refine GoL.last (by kernel_rfl) (by kernel_rfl) rfl (fun K hK => ?_)
        have HBX8 : Hid (w8.heap[lb]? = some (.cells #[.slice (some ⟨lr, 0, none⟩) k N] 31 (0, 0))) := (HK8.out.block lb (by have := (Array.getElem?_eq_some_iff.1 HPI2.out.box).1; have := HB7.out.size; omega) (fun e => HNE.out e)).trans ((HB7.out.block lb (Array.getElem?_eq_some_iff.1 HPI2.out.box).1).trans HPI2.out.box)
        have c8 := hHeld
        have f8 : w8.frozen? ⟨lb, 0, none⟩ = false := by simp [World.frozen?, HBX8.out]
        go_simp
        refine hK.out _ _ ?_
        have hk9 : Kp (fun y => y = lr ∨ y = lb) W2 (w8.setCell ⟨lb, 0, none⟩ (.slice (some ⟨lr, 0, none⟩) (k + 1) N)) := (((Kp.of (F := fun y => y = lr ∨ y = lb) HB7.out).trans HK8.out (fun y _ e => .inl e)).setCell _ (fun _ => .inr rfl))
        have hk79 : Kp (fun y => y = lr ∨ y = lb) w7 (w8.setCell ⟨lb, 0, none⟩ (.slice (some ⟨lr, 0, none⟩) (k + 1) N)) := (HK8.out.mono (fun y _ e => .inl e)).setCell _ (fun _ => .inr rfl)
        obtain ⟨z1, z2, z3, z4⟩ := HNUM.out
        obtain ⟨y1, y2⟩ := HSZ2.out
        have y3 := HP5.out
        have hb1 := HPI2.out.b1
        refine ⟨hk9.block _ (by omega) (fun e => by rcases e with e | e <;> omega), hk9.block _ (by omega) (fun e => by rcases e with e | e <;> omega), Keep.of_kp hk9 (fun x e => by rcases e with e | e <;> omega), ?_⟩
        refine ⟨HPI2.out.bel.trans (hk9.below HPI2.out.bel.size (fun x e => by rcases e with e | e <;> omega)), HPI2.out.b1, ?_, vs ++ [.slice ao6 vn cap6], ?_, ?_⟩
        · rw [heap_setCell_same w8 lb 0 _ _ _ HBX8.out]; rfl
        · exact ownsRow_kp HO8.out ((Kp.refl (fun y => y = lb) w8).setCell _ (fun _ => rfl)) (fun g hg e => by have hg' : lr = g := (by simpa [Value.ownBlock] using hg); omega)
        · intro i u q hu hq
          rcases Nat.lt_or_ge i vs.length with hlt | hge
          · rw [List.getElem?_append_left hlt] at hu
            exact own_high (HVS.out i u q hu hq) (fun g o hg ho hc => (hk9.block g (Array.getElem?_eq_some_iff.1 ho).1 (fun e => by rcases e with e | e <;> omega)).trans ho)
          · rw [List.getElem?_append_right hge] at hu
            have hik : i = k := by
              have := (List.getElem?_eq_some_iff.1 hu).1
              have := HVL.out
              simp at *
              omega
            subst hik
            rw [HTT.out] at hq
            obtain rfl := Option.some.inj hq
            have hu' : u = .slice ao6 vn cap6 := by
              rw [HVL.out, Nat.sub_self] at hu
              simpa using hu.symm
            subst hu'
            have ho6 : OwnI w6 B1 (.slice ao6 vn cap6) t := by
              have htl : t.length = vn := by obtain ⟨_, m9, _, e9, e10, _⟩ := HIV.out.open; injection e9 with _ e11 _; omega
              have : OwnI w6 p5 (.slice ao6 vn cap6) t := by rw [OwnI, htl]; exact HO6.out
              exact this.mono (by omega)
            exact own_high ho6 (fun g o hg ho hc => (hk79.block g (Nat.lt_of_lt_of_le (Array.getElem?_eq_some_iff.1 ho).1 HB67.out.size) (fun e => by rcases e with e | e <;> omega)).trans ((HB67.out.block g (Array.getElem?_eq_some_iff.1 ho).1).trans ho))
      intro e a' w' he
      cases e with
      | exit id => exact he.elim
      | goto t => exact he.elim
      | ret => exact he.elim
      | panic ch => exact he.elim
      | outgrown => exact he.elim
      | normal => exact he
    case done =>
      intro B1 W hi hdf
      have HPI : Hid (TiO w2 lb lr N B1 (lb + 3) (tups D s) N W) := hi
      have HDF : Hid _ := hdf
      have cb : W.cell? ⟨lb, 0, none⟩ = some (.slice (some ⟨lr, 0, none⟩) N N) := cell_of_row W _ 0 _ _ _ hi.box
      clear hi hdf
      gi_wp2
      obtain ⟨z1, z2, z3, z4⟩ := HNUM.out
      have hbb : Below w.heap.size w W := (HB1.out.trans (HB2.out.mono HB1.out.size)).trans (HPI.out.bel.mono (Nat.le_trans HB1.out.size HB2.out.size))
      have hkp := kp_putObj W w4.heap.size (.deferred none)
      have hw2w := Nat.le_trans HB1.out.size HB2.out.size
      refine ⟨by simp, .inl ⟨_, _, rfl, run_takeDeferred HDF.out, _, results_tmp2 rfl _ _ _, hbb.trans (hkp.below hbb.size (fun x e => by omega)), _, by rw [HER.out]; rfl, ?_⟩⟩
      rw [HER.out, if_pos rfl]
      obtain ⟨vs, hrow, hvs⟩ := HPI.out.row
      have hvl : vs.length = N := by have h9 : vs.length = N * 1 := hrow.1; omega
      have hb1 := HPI.out.b1
      have hINS := HINS.out
      have hNL := HN.out
      refine ⟨vs, ?_, fun i u t hu ht => ?_⟩
      · rw [hNL]
        exact ows_mono (ownsRow_kp hrow hkp (fun g hg e => by have hg' : lr = g := (by simpa [Value.ownBlock] using hg); omega)) (by omega)
      · refine ⟨(own_high (hvs i u t hu ht) (fun g o hg ho hc => (hkp.block g (Array.getElem?_eq_some_iff.1 ho).1 (fun e => by omega)).trans ho)).mono (by omega), ?_, fun x hx => ?_⟩
        · have h1 := (hINS t (List.mem_of_getElem? ht)).1
          have h2 := HD4.out
          omega
        · have h1 := hINS t (List.mem_of_getElem? ht)
          obtain ⟨m, hm⟩ := List.getElem?_of_mem hx
          have hml := (List.getElem?_eq_some_iff.1 hm).1
          have h3 := h1.2 m x _ hm (List.getElem?_eq_getElem (by rw [← h1.1]; exact hml))
          have h4 := (dims_of hd1).2 _ (List.getElem_mem (show m < D.length by rw [← h1.1]; exact hml))
          exact ⟨by omega, by omega⟩
  · have hne : (er != 0) = true := by simp [he]
    gi_wp2_with (refine ⟨trivial, ?_⟩; gi_at_call 26; refine (callsIn_wide.2 HCS.out).mono ?_; intro e w2 hp; obtain ⟨kk, it, rfl, hb2, han⟩ := SlP.un hp; have HB2 : Hid (Below W1.heap.size W1 w2) := hb2; rw [HER.out]; clear hp han hb2)
    refine ⟨_, results_tmp2 rfl _ _ _, HB1.out.trans (HB2.out.mono HB1.out.size), _, by rw [HER.out]; rfl, ?_⟩
    rw [HER.out, if_neg he]
    exact RwP.nil _ _
end Go.Proofs.Ytnikbcljonbpcaa
