/-
  Put and Get in a tree whose root is a leaf. Conditions: the key is new and behind all, or it stands there.
-/
import Derived.Test.YtggbbmbnbhiggaaBIns
namespace Go.Proofs.Ytggbbmbnbhiggaa
open Go.RowKit
set_option linter.unusedVariables false
set_option maxRecDepth 100000

/-- ownName by the tree's own, as a step. -/
theorem step_ownN {ops : Array Oper} {o : Oper} {a : Act} {w : World} {K : Act → World → Prop} {Q : Exit → Act → World → Prop} {E : Prop}
    (hg : o.guard = none) (f x : Operand) (hop : o.op = Op.call { callee := Callee.value f, args := #[x], argTypes := #[9] })
    (s : ByteArray) (hf : a.eval f = .func (.func 29) #[] #[]) (hx : a.eval x = .string s) (hs : s.size ≤ 281474976710656)
    (hK : ∀ w', Below w.heap.size w w' → K (a.put o.dst (.string s)) w') :
    if Region.wanted o (yielded ops a.tmps) = true then Oper.wp Try.prog o a w K Q else E := by
  have hw : Region.wanted o (yielded ops a.tmps) = true := by simp [Region.wanted, hg]
  rw [if_pos hw]
  unfold Oper.wp
  simp [execOp, hop, resolve, invoke, hx, hf, Result.andThen, Oper.upon]
  refine (ownName_any s w hs).mono ?_
  rintro e w' ⟨rfl, h2⟩
  exact hK w' h2
/-- insert, as a step. -/
theorem step_ins {ops : Array Oper} {o : Oper} {a : Act} {w : World} {K : Act → World → Prop} {Q : Exit → Act → World → Prop} {E : Prop}
    (hg : o.guard = none) (x y z : Operand) (hop : o.op = Op.call { callee := Callee.value (Operand.func 32), args := #[x, y, z], argTypes := #[23, 65, 69] })
    {B p q n : Nat} {most c : Int} {vI : Value} {L : List It} (h : LT w B p q n most c vI L) (hB : B ≤ w.heap.size) (hn : L.length ≤ 1000000) (k : ByteArray) (v : Int) (hall : ∀ y ∈ L, cmpN y.1 k < 0)
    (hx : a.eval x = .pointer (some ⟨p, 0, none⟩)) (hy : a.eval y = .pointer (some ⟨n, 0, none⟩)) (hz : a.eval z = .agg #[.string k, .int .u64 v])
    (hK : ∀ vI' w', LT w' B p q n most c vI' (L ++ [(k, v)]) → Below B w w' → K (a.put o.dst (.tuple #[])) w') :
    if Region.wanted o (yielded ops a.tmps) = true then Oper.wp Try.prog o a w K Q else E := by
  have hw : Region.wanted o (yielded ops a.tmps) = true := by simp [Region.wanted, hg]
  rw [if_pos hw]
  have hf : a.eval (Operand.func 32) = .func (.func 32) #[] #[] := rfl
  unfold Oper.wp
  simp [execOp, hop, resolve, invoke, hx, hy, hz, hf, Result.andThen, Oper.upon]
  refine (insert_end h hB hn k v hall).mono ?_
  rintro e w' ⟨rfl, ⟨vI', h1⟩, h2⟩
  exact hK vI' w' h1 h2

set_option maxHeartbeats 4000000 in
/-- Put of a key behind all. -/
theorem put_end {w : World} {B p q n : Nat} {most c : Int} {vI : Value} {L : List It} (h : LT w B p q n most c vI L) (hB : B ≤ w.heap.size) (hn : L.length ≤ 1000) (k : ByteArray) (hk : k.size ≤ 281474976710656) (x : Int) (hall : ∀ y ∈ L, cmpN y.1 k < 0) (hm : (L.length : Int) + 1 ≤ most) (hc0 : 0 ≤ c) (hc : c < 65536) :
    Calls Try.prog 10 #[.pointer (some ⟨p, 0, none⟩), .string k, .int .u64 x] w fun e w' => e = .returned (.tuple #[.bool true, .int .i64 0]) ∧ (∃ vI', LT w' B p q n most (c + 1) vI' (L ++ [(k, x)])) ∧ Below B w w' := by
  have hL : Low L k := fun i j a b _ ha _ _ => hall a (List.mem_of_getElem? ha)
  have HH : Hid (LT w B p q n most c vI L) := h
  have HAL : Hid (∀ i, At L k i → i = L.length) := fun i hi => by
    rcases Nat.lt_or_ge i L.length with h1 | h1
    · have h2 := (hi.2 i L[i] (List.getElem?_eq_getElem h1)).2 (hall _ (List.getElem_mem h1))
      omega
    · exact Nat.le_antisymm hi.1 h1
  have HIS : Hid (isAt L k L.length = false) := by unfold Hid isAt; rw [List.getElem?_eq_none (Nat.le_refl _)]
  have HLO : Hid _ := locate_leaf h k (by omega) hL
  obtain ⟨t0, t1, t2, t3⟩ := h.t
  have d1 : decide (65536 ≤ c) = false := by simp; omega
  clear h
  go_enter Try.func10, Try.ntmps10
  go_wp2_with (first
    | (go_at_call 30; refine (tNone_any p q _ t3).mono ?_; rintro e w1 ⟨rfl, hw1⟩; obtain rfl := hw1.symm)
    | (go_at_call 31; refine Calls.mono HLO.out ?_; rintro e w1 ⟨i, hi, rfl, hb1⟩; obtain rfl := HAL.out i hi; rw [HIS.out]; have HB1 : Hid (Below w.heap.size w w1) := hb1; have HH1 : Hid (LT w1 B p q n most c vI L) := HH.out.below hb1; obtain ⟨q0, q1, q2, q3⟩ := HH1.out.t; obtain ⟨k0, k1, k2⟩ := HH1.out.k; clear hi hb1))
  have HBD : Hid (Below w1.heap.size w1 w1.drew) := (Below.refl _ _).drew
  go_region_law (first
    | (refine step_ownN rfl (.tmp 48) (.tmp 49) rfl k rfl rfl hk ?_; intro w2 hb2; have HB2 : Hid (Below w.heap.size w w2) := HB1.out.trans ((HBD.out.trans hb2).mono HB1.out.size); have HH2 : Hid (LT w2 B p q n most c vI L) := HH1.out.below (HBD.out.trans hb2); obtain ⟨_, _, _, q3b⟩ := HH2.out.t; obtain ⟨k0b, _, _⟩ := HH2.out.k; clear hb2)
    | (refine step_ins rfl (.tmp 37) (.tmp 44) (.tmp 52) rfl HH2.out (Nat.le_trans hB HB2.out.size) (by omega) k x hall rfl rfl rfl ?_; intro vI3 w3 hh3 hb3; have HH3 : Hid (LT w3 B p q n most c vI3 (L ++ [(k, x)])) := hh3; have HB3 : Hid (Below B w w3) := (HB2.out.mono hB).trans hb3; clear hh3 hb3))
  all_goals
    obtain ⟨_, _, _, r3⟩ := HH3.out.t
    obtain ⟨_, m1, m2⟩ := HH3.out.k
    have HGR : Hid _ := growRoot_leaf HH3.out (by simp; omega) (by simp; omega)
    go_wp2_with (go_at_call 33; refine Calls.mono HGR.out ?_; rintro e w4 ⟨rfl, hb4⟩; have HB4 : Hid (Below B w w4) := HB3.out.trans (hb4.mono (Nat.le_trans hB HB3.out.size)); have HH4 : Hid (LT w4 B p q n most c vI3 (L ++ [(k, x)])) := HH3.out.below hb4; obtain ⟨_, _, _, s3⟩ := HH4.out.t; obtain ⟨_, v1, v2⟩ := HH4.out.k; clear hb4)
    go_ret2
    exact ⟨rfl, ⟨_, HH4.out.count (c + 1)⟩, HB4.out.setCell HH.out.bq _⟩

set_option maxHeartbeats 4000000 in
/-- Put of a key that stands there. -/
theorem put_same {w : World} {B p q n : Nat} {most c : Int} {vI : Value} {L : List It} (h : LT w B p q n most c vI L) (hB : B ≤ w.heap.size) (hn : L.length ≤ 1000) (k : ByteArray) (x y : Int) (hL : Low L k) (j : Nat) (hj : L[j]? = some (k, y)) (hat : ∀ i, At L k i → i = j) (his : isAt L k j = true) :
    Calls Try.prog 10 #[.pointer (some ⟨p, 0, none⟩), .string k, .int .u64 x] w fun e w' => e = .returned (.tuple #[.bool false, .int .i64 0]) ∧ LT w' B p q n most c vI (L.set j (k, x)) ∧ Below B w w' := by
  have HH : Hid (LT w B p q n most c vI L) := h
  have HLO : Hid _ := locate_leaf h k (by omega) hL
  have HJ : Hid (L[j]? = some (k, y)) := hj
  obtain ⟨t0, t1, t2, t3⟩ := h.t
  have hjl := (List.getElem?_eq_some_iff.1 hj).1
  rcases ownsRow_shape h.row with ⟨rfl, h0⟩ | ⟨g, cap, rfl, hg, hgl, hle, _, hfz, hcell⟩
  · omega
  obtain ⟨m, HM⟩ : ∃ m, Hid (L.length = m) := ⟨_, rfl⟩
  have g1 : w.cell? ⟨g, j * 2 + 1, none⟩ = some (.int .u64 y) := hcell _ _ (gc_at encI_len L j _ hj 1 _ rfl)
  rw [HM.out] at hjl hle HH ⊢
  clear h hcell hj
  go_enter Try.func10, Try.ntmps10
  go_wp2_with (first
    | (go_at_call 30; refine (tNone_any p q _ t3).mono ?_; rintro e w1 ⟨rfl, hw1⟩; obtain rfl := hw1.symm)
    | (go_at_call 31; refine Calls.mono HLO.out ?_; rintro e w1 ⟨i, hi, rfl, hb1⟩; obtain rfl := hat i hi; rw [his]; have HB1 : Hid (Below w.heap.size w w1) := hb1; have HH1 : Hid (LT w1 B p q n most c (.slice (some ⟨g, 0, none⟩) m cap) L) := HH.out.below hb1; obtain ⟨n0, n1, n2⟩ := HH1.out.n; have g2 := (hb1.cell hgl).trans g1; have f2 : w1.frozen? ⟨g, i * 2 + 1, none⟩ = false := (hb1.frozen (p := ⟨g, i * 2 + 1, none⟩) hgl).trans (hfz _); clear hi hb1))
  go_ret2
  exact ⟨rfl, HH1.out.value HJ.out x, (HB1.out.mono hB).setCell hg _⟩

theorem get_at {w : World} {B p q n : Nat} {most c : Int} {vI : Value} {L : List It} (h : LT w B p q n most c vI L) (hn : L.length ≤ 1000) (k : ByteArray) (y : Int) (hL : Low L k) (j : Nat) (hj : L[j]? = some (k, y)) (hat : ∀ i, At L k i → i = j) (his : isAt L k j = true) :
    Calls Try.prog 12 #[.pointer (some ⟨p, 0, none⟩), .string k] w fun e w' => e = .returned (.tuple #[.int .u64 y, .bool true]) ∧ Below w.heap.size w w' := by
  have HH : Hid (LT w B p q n most c vI L) := h
  have HLO : Hid _ := locate_leaf h k (by omega) hL
  obtain ⟨t0, t1, t2, t3⟩ := h.t
  have hjl := (List.getElem?_eq_some_iff.1 hj).1
  rcases ownsRow_shape h.row with ⟨rfl, h0⟩ | ⟨g, cap, rfl, hg, hgl, hle, _, hfz, hcell⟩
  · omega
  obtain ⟨m, HM⟩ : ∃ m, Hid (L.length = m) := ⟨_, rfl⟩
  have g1 : w.cell? ⟨g, j * 2 + 1, none⟩ = some (.int .u64 y) := hcell _ _ (gc_at encI_len L j _ hj 1 _ rfl)
  rw [HM.out] at hjl hle HH
  clear h hcell hj
  go_enter Try.func12, Try.ntmps12
  go_wp2_with (first
    | (go_at_call 30; refine (tNone_any p q _ t3).mono ?_; rintro e w1 ⟨rfl, hw1⟩; obtain rfl := hw1.symm)
    | (go_at_call 31; refine Calls.mono HLO.out ?_; rintro e w1 ⟨i, hi, rfl, hb1⟩; obtain rfl := hat i hi; rw [his]; have HB1 : Hid (Below w.heap.size w w1) := hb1; have HH1 : Hid (LT w1 B p q n most c (.slice (some ⟨g, 0, none⟩) m cap) L) := HH.out.below hb1; obtain ⟨n0, n1, n2⟩ := HH1.out.n; have g2 := (hb1.cell hgl).trans g1; clear hi hb1))
  go_ret2
  exact ⟨rfl, HB1.out⟩
end Go.Proofs.Ytggbbmbnbhiggaa
