/-
  Put and Get in a tree whose root is a leaf. Conditions: the key is new and behind all, or it stands there.
  Nodes of a tree whose root is a leaf. Conditions: lengths are such as memory bears.
  Two names in a leaf. Conditions: none.
  law.lives: the document's example. Conditions: none.
-/
import Derived.Test.YtelfjgnmbikofaaBIns
import Derived.OwnWalk
namespace Go.Proofs.Ytelfjgnmbikofaa
open Go.RowKit
set_option linter.unusedVariables false
set_option maxRecDepth 100000

/-- ownName by the tree's own, as a step. -/
theorem step_ownN {ops : Array Oper} {o : Oper} {a : Act} {w : World} {K : Act → World → Prop} {Q : Exit → Act → World → Prop} {E : Prop}
    (hg : o.guard = none) (f x : Operand) (hop : o.op = Op.call { callee := Callee.value f, args := #[x], argTypes := #[9] })
    (s : ByteArray) (hf : a.eval f = .func (.func 29) #[] #[]) (hx : a.eval x = .string s) (hs : s.size ≤ 281474976710656)
    (hK : ∀ w', Below w.heap.size w w' → K (a.put o.dst (.string s)) w') :
    if Region.wanted o (yielded ops a.tmps) = true then Oper.wp Try.prog o a w K Q else E := by
  have hw : Region.wanted o (yielded ops a.tmps) = true := by simp [Region.wanted, hg]
  rw [if_pos hw]
  unfold Oper.wp
  simp [execOp, hop, resolve, invoke, hx, hf, Result.andThen, Oper.upon]
  refine (ownName_any s w hs).mono ?_
  rintro e w' ⟨rfl, h2⟩
  exact hK w' h2
/-- insert, as a step. -/
theorem step_ins {ops : Array Oper} {o : Oper} {a : Act} {w : World} {K : Act → World → Prop} {Q : Exit → Act → World → Prop} {E : Prop}
    (hg : o.guard = none) (x y z : Operand) (hop : o.op = Op.call { callee := Callee.value (Operand.func 32), args := #[x, y, z], argTypes := #[23, 65, 69] })
    {B p q n : Nat} {most c : Int} {vI : Value} {L : List It} (h : LT w B p q n most c vI L) (hB : B ≤ w.heap.size) (hn : L.length ≤ 1000000) (k : ByteArray) (v : Int) (hall : ∀ y ∈ L, cmpN y.1 k < 0)
    (hx : a.eval x = .pointer (some ⟨p, 0, none⟩)) (hy : a.eval y = .pointer (some ⟨n, 0, none⟩)) (hz : a.eval z = .agg #[.string k, .int .u64 v])
    (hK : ∀ vI' w', LT w' B p q n most c vI' (L ++ [(k, v)]) → Below B w w' → K (a.put o.dst (.tuple #[])) w') :
    if Region.wanted o (yielded ops a.tmps) = true then Oper.wp Try.prog o a w K Q else E := by
  have hw : Region.wanted o (yielded ops a.tmps) = true := by simp [Region.wanted, hg]
  rw [if_pos hw]
  have hf : a.eval (Operand.func 32) = .func (.func 32) #[] #[] := rfl
  unfold Oper.wp
  simp [execOp, hop, resolve, invoke, hx, hy, hz, hf, Result.andThen, Oper.upon]
  refine (insert_end h hB hn k v hall).mono ?_
  rintro e w' ⟨rfl, ⟨vI', h1⟩, h2⟩
  exact hK vI' w' h1 h2

set_option maxHeartbeats 4000000 in
/-- Put of a key behind all. -/
theorem put_end {w : World} {B p q n : Nat} {most c : Int} {vI : Value} {L : List It} (h : LT w B p q n most c vI L) (hB : B ≤ w.heap.size) (hn : L.length ≤ 1000) (k : ByteArray) (hk : k.size ≤ 281474976710656) (x : Int) (hall : ∀ y ∈ L, cmpN y.1 k < 0) (hm : (L.length : Int) + 1 ≤ most) (hc0 : 0 ≤ c) (hc : c < 65536) :
    Calls Try.prog 10 #[.pointer (some ⟨p, 0, none⟩), .string k, .int .u64 x] w fun e w' => e = .returned (.tuple #[.bool true, .int .i64 0]) ∧ (∃ vI', LT w' B p q n most (c + 1) vI' (L ++ [(k, x)])) ∧ Below B w w' := by
  have hL : Low L k := fun i j a b _ ha _ _ => hall a (List.mem_of_getElem? ha)
  have HH : Hid (LT w B p q n most c vI L) := h
  have HAL : Hid (∀ i, At L k i → i = L.length) := fun i hi => by
    rcases Nat.lt_or_ge i L.length with h1 | h1
    · have h2 := (hi.2 i L[i] (List.getElem?_eq_getElem h1)).2 (hall _ (List.getElem_mem h1))
      omega
    · exact Nat.le_antisymm hi.1 h1
  have HIS : Hid (isAt L k L.length = false) := by unfold Hid isAt; rw [List.getElem?_eq_none (Nat.le_refl _)]
  have HLO : Hid _ := locate_leaf h k (by omega) hL
  obtain ⟨t0, t1, t2, t3⟩ := h.t
  have d1 : decide (65536 ≤ c) = false := by simp; omega
  clear h
  go_enter Try.func10, Try.ntmps10
  go_wp2_with (first
    | (go_at_call 30; refine (tNone_any p q _ t3).mono ?_; rintro e w1 ⟨rfl, hw1⟩; obtain rfl := hw1.symm)
    | (go_at_call 31; refine Calls.mono HLO.out ?_; rintro e w1 ⟨i, hi, rfl, hb1⟩; obtain rfl := HAL.out i hi; rw [HIS.out]; have HB1 : Hid (Below w.heap.size w w1) := hb1; have HH1 : Hid (LT w1 B p q n most c vI L) := HH.out.below hb1; obtain ⟨q0, q1, q2, q3⟩ := HH1.out.t; obtain ⟨k0, k1, k2⟩ := HH1.out.k; clear hi hb1))
  have HBD : Hid (Below w1.heap.size w1 w1.drew) := (Below.refl _ _).drew
  go_region_law (first
    | (refine step_ownN rfl (.tmp 48) (.tmp 49) rfl k rfl rfl hk ?_; intro w2 hb2; have HB2 : Hid (Below w.heap.size w w2) := HB1.out.trans ((HBD.out.trans hb2).mono HB1.out.size); have HH2 : Hid (LT w2 B p q n most c vI L) := HH1.out.below (HBD.out.trans hb2); obtain ⟨_, _, _, q3b⟩ := HH2.out.t; obtain ⟨k0b, _, _⟩ := HH2.out.k; clear hb2)
    | (refine step_ins rfl (.tmp 37) (.tmp 44) (.tmp 52) rfl HH2.out (Nat.le_trans hB HB2.out.size) (by omega) k x hall rfl rfl rfl ?_; intro vI3 w3 hh3 hb3; have HH3 : Hid (LT w3 B p q n most c vI3 (L ++ [(k, x)])) := hh3; have HB3 : Hid (Below B w w3) := (HB2.out.mono hB).trans hb3; clear hh3 hb3))
  all_goals
    obtain ⟨_, _, _, r3⟩ := HH3.out.t
    obtain ⟨_, m1, m2⟩ := HH3.out.k
    have HGR : Hid _ := growRoot_leaf HH3.out (by simp; omega) (by simp; omega)
    go_wp2_with (go_at_call 33; refine Calls.mono HGR.out ?_; rintro e w4 ⟨rfl, hb4⟩; have HB4 : Hid (Below B w w4) := HB3.out.trans (hb4.mono (Nat.le_trans hB HB3.out.size)); have HH4 : Hid (LT w4 B p q n most c vI3 (L ++ [(k, x)])) := HH3.out.below hb4; obtain ⟨_, _, _, s3⟩ := HH4.out.t; obtain ⟨_, v1, v2⟩ := HH4.out.k; clear hb4)
    go_ret2
    exact ⟨rfl, ⟨_, HH4.out.count (c + 1)⟩, HB4.out.setCell HH.out.bq _⟩

set_option maxHeartbeats 4000000 in
/-- Put of a key that stands there. -/
theorem put_same {w : World} {B p q n : Nat} {most c : Int} {vI : Value} {L : List It} (h : LT w B p q n most c vI L) (hB : B ≤ w.heap.size) (hn : L.length ≤ 1000) (k : ByteArray) (x y : Int) (hL : Low L k) (j : Nat) (hj : L[j]? = some (k, y)) (hat : ∀ i, At L k i → i = j) (his : isAt L k j = true) :
    Calls Try.prog 10 #[.pointer (some ⟨p, 0, none⟩), .string k, .int .u64 x] w fun e w' => e = .returned (.tuple #[.bool false, .int .i64 0]) ∧ LT w' B p q n most c vI (L.set j (k, x)) ∧ Below B w w' := by
  have HH : Hid (LT w B p q n most c vI L) := h
  have HLO : Hid _ := locate_leaf h k (by omega) hL
  have HJ : Hid (L[j]? = some (k, y)) := hj
  obtain ⟨t0, t1, t2, t3⟩ := h.t
  have hjl := (List.getElem?_eq_some_iff.1 hj).1
  rcases ownsRow_shape h.row with ⟨rfl, h0⟩ | ⟨g, cap, rfl, hg, hgl, hle, _, hfz, hcell⟩
  · omega
  obtain ⟨m, HM⟩ : ∃ m, Hid (L.length = m) := ⟨_, rfl⟩
  have g1 : w.cell? ⟨g, j * 2 + 1, none⟩ = some (.int .u64 y) := hcell _ _ (gc_at encI_len L j _ hj 1 _ rfl)
  rw [HM.out] at hjl hle HH ⊢
  clear h hcell hj
  go_enter Try.func10, Try.ntmps10
  go_wp2_with (first
    | (go_at_call 30; refine (tNone_any p q _ t3).mono ?_; rintro e w1 ⟨rfl, hw1⟩; obtain rfl := hw1.symm)
    | (go_at_call 31; refine Calls.mono HLO.out ?_; rintro e w1 ⟨i, hi, rfl, hb1⟩; obtain rfl := hat i hi; rw [his]; have HB1 : Hid (Below w.heap.size w w1) := hb1; have HH1 : Hid (LT w1 B p q n most c (.slice (some ⟨g, 0, none⟩) m cap) L) := HH.out.below hb1; obtain ⟨n0, n1, n2⟩ := HH1.out.n; have g2 := (hb1.cell hgl).trans g1; have f2 : w1.frozen? ⟨g, i * 2 + 1, none⟩ = false := (hb1.frozen (p := ⟨g, i * 2 + 1, none⟩) hgl).trans (hfz _); clear hi hb1))
  go_ret2
  exact ⟨rfl, HH1.out.value HJ.out x, (HB1.out.mono hB).setCell hg _⟩

theorem get_at {w : World} {B p q n : Nat} {most c : Int} {vI : Value} {L : List It} (h : LT w B p q n most c vI L) (hn : L.length ≤ 1000) (k : ByteArray) (y : Int) (hL : Low L k) (j : Nat) (hj : L[j]? = some (k, y)) (hat : ∀ i, At L k i → i = j) (his : isAt L k j = true) :
    Calls Try.prog 12 #[.pointer (some ⟨p, 0, none⟩), .string k] w fun e w' => e = .returned (.tuple #[.int .u64 y, .bool true]) ∧ Below w.heap.size w w' := by
  have HH : Hid (LT w B p q n most c vI L) := h
  have HLO : Hid _ := locate_leaf h k (by omega) hL
  obtain ⟨t0, t1, t2, t3⟩ := h.t
  have hjl := (List.getElem?_eq_some_iff.1 hj).1
  rcases ownsRow_shape h.row with ⟨rfl, h0⟩ | ⟨g, cap, rfl, hg, hgl, hle, _, hfz, hcell⟩
  · omega
  obtain ⟨m, HM⟩ : ∃ m, Hid (L.length = m) := ⟨_, rfl⟩
  have g1 : w.cell? ⟨g, j * 2 + 1, none⟩ = some (.int .u64 y) := hcell _ _ (gc_at encI_len L j _ hj 1 _ rfl)
  rw [HM.out] at hjl hle HH
  clear h hcell hj
  go_enter Try.func12, Try.ntmps12
  go_wp2_with (first
    | (go_at_call 30; refine (tNone_any p q _ t3).mono ?_; rintro e w1 ⟨rfl, hw1⟩; obtain rfl := hw1.symm)
    | (go_at_call 31; refine Calls.mono HLO.out ?_; rintro e w1 ⟨i, hi, rfl, hb1⟩; obtain rfl := hat i hi; rw [his]; have HB1 : Hid (Below w.heap.size w w1) := hb1; have HH1 : Hid (LT w1 B p q n most c (.slice (some ⟨g, 0, none⟩) m cap) L) := HH.out.below hb1; obtain ⟨n0, n1, n2⟩ := HH1.out.n; have g2 := (hb1.cell hgl).trans g1; clear hi hb1))
  go_ret2
  exact ⟨rfl, HB1.out⟩
end Go.Proofs.Ytelfjgnmbikofaa

namespace Go.Proofs.Ytelfjgnmbikofaa
open Go.RowKit
set_option linter.unusedVariables false
set_option maxRecDepth 100000

theorem Try.infoNd : (Try.prog.info? 61).map (fun i => (i.zero, i.size, i.bytes)) = some (some (.agg #[.int .i64 0, .bool false, .slice none 0 0]), 3, 40) := by kernel_rfl
theorem Try.infoStr : (Try.prog.info? 9).map (fun i => (i.zero, i.size, i.bytes)) = some (some (.string ByteArray.empty), 1, 16) := by kernel_rfl
theorem below_of_grownB {w w' : World} (h : w.grownBy w' none) : Below w.heap.size w w' := ⟨h.os, h.tape, h.output, h.size, fun k hk => h.block k hk (fun e => by cases e)⟩
def encN (s : ByteArray) : List Value := [.string s]
theorem encN_len (s : ByteArray) : (encN s).length = 1 := rfl

set_option maxHeartbeats 4000000 in
theorem appendNodes_leaf {w : World} {B p q n : Nat} {most c : Int} {vI : Value} {L : List It} (h : LT w B p q n most c vI L) (hn : L.length ≤ 1000) (hk : ∀ y ∈ L, y.1.size ≤ 281474976710656) :
    Calls Try.prog 42 #[.pointer (some ⟨p, 0, none⟩), .slice none 0 0, .pointer (some ⟨n, 0, none⟩), .int .i64 0] w fun e w' => ∃ g cap vK, e = .returned (.slice (some ⟨g, 0, none⟩) 1 cap) ∧ w'.ownsRow w.heap.size 61 3 (.slice (some ⟨g, 0, none⟩) 1 cap) 1 [.int .i64 0, .bool true, vK] ∧ w'.ownsRow w.heap.size 9 1 vK L.length (gc encN (L.map (·.1))) ∧ Below w.heap.size w w' := by
  obtain ⟨i1, hi1, hy0, hy1, hy2⟩ := info_partsT Try.infoNd
  obtain ⟨i2, hi2, hz0, hz1, hz2⟩ := info_partsT Try.infoStr
  have HH : Hid (LT w B p q n most c vI L) := h
  obtain ⟨t0, t1, t2, t3⟩ := h.t
  obtain ⟨n0, n1, n2⟩ := h.n
  obtain ⟨m, HM⟩ : ∃ m, Hid (L.length = m) := ⟨_, rfl⟩
  obtain ⟨ao, cap, rfl, hcap, hcell⟩ := Its.of_row h.row
  have HC : Hid (∀ i x, L[i]? = some x → ∃ g o, ao = some ⟨g, o, none⟩ ∧ w.cell? ⟨g, o + i * 2, none⟩ = some (.string x.1) ∧ w.cell? ⟨g, o + i * 2 + 1, none⟩ = some (.int .u64 x.2)) := hcell
  rw [HM.out] at hn hcap n0 HH ⊢
  clear h hcell
  go_enter Try.func42, Try.ntmps42
  go_wp2_with (at_make; refine wpList_make_own _ rfl _ _ 26 rfl w.heap.size 9 i2 _ 1 Try.underlying26 hi2 hz0 hz1 _ _ _ m rfl rfl rfl (by rw [hz2]; omega) (by unfold maxLen; omega) (Nat.le_refl _) ?_; intro w1 ho1 hg1; have HO1 : Hid (w1.ownsRow w.heap.size 9 1 (.slice (some ⟨w.heap.size, 0, none⟩) 0 m) 0 []) := ho1; have HB1 : Hid (Below w.heap.size w w1) := below_of_grownB hg1; have HH1 : Hid (LT w1 B p q n most c (.slice ao m cap) L) := HH.out.below HB1.out; obtain ⟨a0, a1, _⟩ := HH1.out.n; clear ho1 hg1)
  go_loopw [9, 25] (fun x y wr => ∃ (i g cp : Nat), i ≤ m ∧ y = .int .i64 (i : Int) ∧ x = .slice (some ⟨g, 0, none⟩) i cp ∧ Hid (wr.ownsRow w.heap.size 9 1 (.slice (some ⟨g, 0, none⟩) i cp) i (gc encN ((L.take i).map (·.1)))) ∧ Hid (Below w.heap.size w wr)) (fun _ y _ => m - (intOf y).toNat)
  case atStart => exact ⟨0, w.heap.size, m, Nat.zero_le _, by simp, rfl, HO1.out, HB1.out⟩
  case round =>
    obtain ⟨i, g, cp, him, rfl, rfl, HO, HB⟩ := hrel
    by_cases hlt : i < m
    · obtain ⟨z, hz⟩ : ∃ z, L[i]? = some z := ⟨L[i]'(by rw [HM.out]; omega), List.getElem?_eq_getElem _⟩
      obtain ⟨gi, o, rfl, c1, c2⟩ := HC.out i z hz
      have d1 : wr.cell? ⟨gi, o + i * 2, none⟩ = some (.string z.1) := (HB.out.cell (World.block_lt_of_cell? w _ c1)).trans c1
      have d2 : wr.cell? ⟨gi, o + i * 2 + 1, none⟩ = some (.int .u64 z.2) := (HB.out.cell (World.block_lt_of_cell? w _ c2)).trans c2
      have HZ : Hid (L[i]? = some z) := hz
      have HZS : Hid (z.1.size ≤ 281474976710656) := hk z (List.mem_of_getElem? hz)
      obtain ⟨k, x⟩ := z
      have HBA : Hid (Below w.heap.size w (wr.alloc (.cells #[.string k, .int .u64 x] 69))) := HB.out.alloc HB.out.size _
      have HCA : Hid ((wr.alloc (.cells #[.string k, .int .u64 x] 69)).heap[wr.heap.size]? = some (.cells #[.string k, .int .u64 x] 69 (0, 0))) := heap_alloc_new wr _
      have HOA : Hid ((wr.alloc (.cells #[.string k, .int .u64 x] 69)).ownsRow w.heap.size 9 1 (.slice (some ⟨g, 0, none⟩) i cp) i (gc encN ((L.take i).map (·.1)))) := ownsRow_below HO.out ((Below.refl _ _).alloc (Nat.le_refl _) _)
      clear c1 c2 hz t0 t1 t2 t3 n0 n1 n2 a0 a1
      go_wp2_with fail
      generalize wr.alloc (.cells #[.string k, .int .u64 x] 69) = wa at HBA HCA HOA ⊢
      have HHA : Hid (LT wa B p q n most c (.slice (some ⟨gi, o, none⟩) m cap) L) := HH.out.below HBA.out
      obtain ⟨_, t1, _, _⟩ := HHA.out.t
      have x0 : wa.cell? ⟨wr.heap.size, 0, none⟩ = some (.string k) := by simp [World.cell?, HCA.out]
      have HBD : Hid (Below w.heap.size w wa.drew) := HBA.out.drew
      go_region_law (first
        | (refine step_ownN rfl (.tmp 33) (.tmp 35) rfl k rfl rfl HZS.out ?_; intro w2 hb2; have HB2 : Hid (Below w.heap.size w w2) := HBD.out.trans (hb2.mono HBD.out.size); have HO2 : Hid (w2.ownsRow w.heap.size 9 1 (.slice (some ⟨g, 0, none⟩) i cp) i (gc encN ((L.take i).map (·.1)))) := ownsRow_below HOA.out ((Below.refl _ _).drew.trans hb2); clear hb2)
        | (refine step_append_G 38 rfl rfl (.tmp 29) (.tmp 37) 26 9 rfl i2 Try.underlying26 hi2 _ hz0 1 16 hz1 hz2 rfl (by omega) w.heap.size (.slice (some ⟨g, 0, none⟩) i cp) i (gc encN ((L.take i).map (·.1))) ⟨w2.heap.size, 0, none⟩ 1 1 (encN k) rfl rfl (HO2.out.alloc _) rfl (news_one (heap_alloc_new w2 _)) (by simp [encN, Value.oneCell']) (by omega) (by omega) (by omega) (by have := HB2.out.size; simp; omega) ?_; intro g3 cap3 w3 ho3 hg3 hat3; have HO3 : Hid (w3.ownsRow w.heap.size 9 1 (.slice (some ⟨g3, 0, none⟩) (i + 1) cap3) (i + 1) (gc encN ((L.take i).map (·.1)) ++ encN k)) := ho3; have HB3 : Hid (Below w.heap.size w w3) := (HB2.out.alloc HB2.out.size _).grown hg3 (by have := HB2.out.size; simp; omega) (fun j hj => (World.ownsRow.lt HO2.out j hj).1); clear ho3 hg3 hat3))
      all_goals
        go_wp2_with fail
        go_roundw
        case rel =>
          refine ⟨i + 1, g3, cap3, by omega, by simp, rfl, ?_, HB3.out⟩
          rw [show (L.take (i + 1)).map (·.1) = (L.take i).map (·.1) ++ [k] by rw [List.take_add_one, HZ.out]; simp, gc_append, gc_one]
          exact HO3.out
        case measure => simp [intOf]; omega
    · obtain rfl : i = m := by omega
      have HHR : Hid (LT wr B p q n most c (.slice ao i cap) L) := HH.out.below HB.out
      obtain ⟨b0, b1, _⟩ := HHR.out.n
      have HOE : Hid (wr.ownsRow w.heap.size 9 1 (.slice (some ⟨g, 0, none⟩) i cp) i (gc encN (L.map (·.1)))) := by have := HO.out; rw [List.take_of_length_le (by rw [HM.out]; exact Nat.le_refl _)] at this; exact this
      go_wp2_with (first
        | (go_at_call 45; refine (isLeaf_yes n _ b1).mono ?_; rintro e w2 ⟨rfl, hw2⟩; obtain rfl := hw2.symm)
        | (at_builtin; refine wpList_append_G _ rfl (.tmp 40) (.tmp 46) 55 rfl 61 i1 Try.underlying55 hi1 _ hy0 3 40 hy1 hy2 rfl (by omega) w.heap.size (.slice none 0 0) 0 [] ⟨wr.heap.size, 0, none⟩ 1 1 [.int .i64 0, .bool true, .slice (some ⟨g, 0, none⟩) i cp] rfl rfl ⟨rfl, .inl ⟨rfl, rfl⟩⟩ rfl (news_one (heap_alloc_new wr _)) (by simp [Value.oneCell']) (by omega) (by omega) (by omega) (by have := HB.out.size; simp; omega) ?_; intro g3 cap3 w3 ho3 hg3 hat3; have HO3 : Hid (w3.ownsRow w.heap.size 61 3 (.slice (some ⟨g3, 0, none⟩) 1 cap3) 1 [.int .i64 0, .bool true, .slice (some ⟨g, 0, none⟩) i cp]) := ho3; have HB3 : Hid (Below wr.heap.size wr w3) := ((Below.refl _ _).alloc (Nat.le_refl _) _).trans ((below_of_grownB hg3).mono (by simp)); have e1 := (HHR.out.below HB3.out).n.2.1; clear ho3 hg3 hat3))
      go_loopw [1, 53] (fun x y wq => x = .slice (some ⟨g3, 0, none⟩) 1 cap3 ∧ y = .int .i64 0 ∧ wq = w3) (fun _ _ _ => 0)
      case atStart => exact ⟨rfl, rfl, rfl⟩
      case round =>
        obtain ⟨rfl, rfl, rfl⟩ := hrel
        go_wp2_with fail
        go_ret
        exact ⟨g3, cap3, _, rfl, HO3.out, ownsRow_below HOE.out HB3.out, HB.out.trans (HB3.out.mono HB.out.size)⟩

theorem nodes_leaf {w : World} {B p q n : Nat} {most c : Int} {vI : Value} {L : List It} (h : LT w B p q n most c vI L) (hn : L.length ≤ 1000) (hk : ∀ y ∈ L, y.1.size ≤ 281474976710656) (hc : c ≠ 0) :
    Calls Try.prog 25 #[.pointer (some ⟨p, 0, none⟩)] w fun e w' => ∃ g cap vK, e = .returned (.slice (some ⟨g, 0, none⟩) 1 cap) ∧ w'.ownsRow w.heap.size 61 3 (.slice (some ⟨g, 0, none⟩) 1 cap) 1 [.int .i64 0, .bool true, vK] ∧ w'.ownsRow w.heap.size 9 1 vK L.length (gc encN (L.map (·.1))) ∧ Below w.heap.size w w' := by
  have HA : Hid _ := appendNodes_leaf h hn hk
  obtain ⟨t0, t1, t2, t3⟩ := h.t
  obtain ⟨k0, k1, k2⟩ := h.k
  have d0 : (c == 0) = false := by simpa using hc
  go_enter Try.func25, Try.ntmps25
  go_wp2_with (first
    | (go_at_call 30; refine (tNone_any p q _ t3).mono ?_; rintro e w1 ⟨rfl, hw1⟩; obtain rfl := hw1.symm)
    | (go_at_call 42; refine Calls.mono HA.out ?_; rintro e w1 ⟨g, cap, vK, rfl, h1, h2, h3⟩; have H1 : Hid _ := h1; have H2 : Hid _ := h2; have H3 : Hid _ := h3; clear h1 h2 h3))
  go_ret
  exact ⟨g, cap, vK, rfl, H1.out, H2.out, H3.out⟩
theorem newNames_bad (m : Int) (w : World) (h : m < 3 ∨ 64 < m) : Calls Try.prog 8 #[.int .i64 m] w fun e w' => e = .returned (.pointer none) ∧ w' = w := by
  go_enter Try.func8, Try.ntmps8
  go_wp2_with (go_at_call 28; refine (newTree_bad m _ h).mono ?_; rintro e w1 ⟨rfl, hw1⟩; obtain rfl := hw1.symm)
  go_ret
  exact ⟨rfl, rfl⟩
theorem newNames_any (m : Int) (w : World) (h3 : 3 ≤ m) (h64 : m ≤ 64) : Calls Try.prog 8 #[.int .i64 m] w fun e w' => ∃ p q n, e = .returned (.pointer (some ⟨p, 0, none⟩)) ∧ LT w' w.heap.size p q n m 0 (.slice none 0 0) [] ∧ Below w.heap.size w w' := by
  go_enter Try.func8, Try.ntmps8
  go_wp2_with (go_at_call 28; refine (newTree_any m _ h3 h64).mono ?_; rintro e w1 ⟨p, q, n, rfl, h1, h2⟩; have H1 : Hid _ := h1; have H2 : Hid _ := h2; clear h1 h2)
  go_ret
  exact ⟨p, q, n, rfl, H1.out, H2.out⟩
end Go.Proofs.Ytelfjgnmbikofaa

namespace Go.Proofs.Ytelfjgnmbikofaa
open Go.RowKit
set_option linter.unusedVariables false
set_option maxRecDepth 100000

abbrev sa : ByteArray := ⟨#[97]⟩
abbrev sb : ByteArray := ⟨#[98]⟩
theorem cmp_ab : cmpN sa sb = -1 := by kernel_rfl
theorem cmp_ba : cmpN sb sa = 1 := by kernel_rfl
theorem cmp_aa : cmpN sa sa = 0 := by kernel_rfl
theorem two_low (x y : Int) : Low [(sa, x), (sb, y)] sa := by
  intro i j a b hij ha hb hlt
  match j, hb with
  | 0, hb => omega
  | 1, hb => obtain rfl : (sb, y) = b := by simpa using hb
             have h1 : cmpN sb sa < 0 := hlt
             rw [cmp_ba] at h1; omega
  | j + 2, hb => simp at hb
theorem two_at (x y : Int) (i : Nat) (h : At [(sa, x), (sb, y)] sa i) : i = 0 := by
  rcases Nat.eq_zero_or_pos i with h0 | h0
  · exact h0
  · have h1 : cmpN sa sa < 0 := (h.2 0 (sa, x) rfl).1 h0
    rw [cmp_aa] at h1; omega
theorem two_is (x y : Int) : isAt [(sa, x), (sb, y)] sa 0 = true := by
  show (cmpN sa sa == 0) = true
  rw [cmp_aa]; rfl
theorem row_two {w : World} {B k : Nat} {T : TypeId} {v : Value} {xs : List Value} (h : w.ownsRow B T k v 2 xs) : ∃ g c, v = .slice (some ⟨g, 0, none⟩) 2 c := by
  rcases ownsRow_shape h with ⟨_, h0⟩ | ⟨g, c, e, _⟩
  · omega
  · exact ⟨g, c, e⟩
theorem node_cellsE {w : World} {B g cap : Nat} {T : TypeId} {a b c : Value} (h : w.ownsRow B T 3 (.slice (some ⟨g, 0, none⟩) 1 cap) 1 [a, b, c]) : w.cell? ⟨g, 1, none⟩ = some b ∧ w.cell? ⟨g, 2, none⟩ = some c ∧ 1 ≤ cap := by
  rcases ownsRow_shape h with ⟨h0, _⟩ | ⟨g', c', e, _, _, hle, _, _, hc⟩
  · cases h0
  · injection e with e1 _ e3
    obtain rfl : g = g' := by simpa using e1
    subst e3
    exact ⟨hc 1 b rfl, hc 2 c rfl, hle⟩
end Go.Proofs.Ytelfjgnmbikofaa

namespace Go.Proofs.Ytelfjgnmbikofaa
open Go.RowKit
set_option linter.unusedVariables false
set_option maxRecDepth 100000

set_option maxHeartbeats 4000000 in
theorem lives7_any (w : World) : Calls Try.prog 9 #[] w fun e w' => e = .returned (.bool true) ∧ Below w.heap.size w w' := by
  have HN : Hid _ := newNames_any 3 w (by omega) (by omega)
  go_enter Try.func9, Try.ntmps9
  go_wp2_with (first
    | (go_at_call 8; have hg := B6; clear hg; refine (newNames_bad 2 _ (by omega)).mono ?_; rintro e w7 ⟨rfl, hw7⟩; obtain rfl := hw7.symm)
    | (go_at_call 8; refine Calls.mono HN.out ?_; rintro e w1 ⟨p, q, n, rfl, h1, h2⟩; have H1 : Hid (LT w1 w.heap.size p q n 3 0 (.slice none 0 0) []) := h1; have B1 : Hid (Below w.heap.size w w1) := h2; clear h1 h2)
    | (go_at_call 10; have hg := H3; clear hg; refine Calls.mono (put_same H3.out B3.out.size (by simp) sa 7 1 (two_low _ _) 0 rfl (two_at _ _) (two_is _ _)) ?_; rintro e w4 ⟨rfl, h1, h2⟩; have H4 : Hid (LT w4 w.heap.size p q n 3 2 vI3 [(sa, 7), (sb, 2)]) := h1; have B4 : Hid (Below w.heap.size w w4) := B3.out.trans h2; clear h1 h2)
    | (go_at_call 10; have hg := H2; clear hg; refine Calls.mono (put_end H2.out B2.out.size (by simp) sb (by simp [ByteArray.size]) 2 (by intro y hy; rw [List.mem_singleton.1 hy]; show cmpN sa sb < 0; rw [cmp_ab]; omega) (by simp) (by omega) (by omega)) ?_; rintro e w3 ⟨rfl, ⟨vI3, h1⟩, h2⟩; have H3 : Hid (LT w3 w.heap.size p q n 3 2 vI3 [(sa, 1), (sb, 2)]) := h1; have B3 : Hid (Below w.heap.size w w3) := B2.out.trans h2; clear h1 h2)
    | (go_at_call 10; have hg := H1; clear hg; refine Calls.mono (put_end H1.out B1.out.size (by simp) sa (by simp [ByteArray.size]) 1 (by simp) (by simp) (by omega) (by omega)) ?_; rintro e w2 ⟨rfl, ⟨vI2, h1⟩, h2⟩; have H2 : Hid (LT w2 w.heap.size p q n 3 1 vI2 [(sa, 1)]) := h1; have B2 : Hid (Below w.heap.size w w2) := B1.out.trans h2; clear h1 h2)
    | (go_at_call 12; refine Calls.mono (get_at H4.out (by simp) sa 7 (two_low _ _) 0 rfl (two_at _ _) (two_is _ _)) ?_; rintro e w5 ⟨rfl, h2⟩; have H5 : Hid (LT w5 w.heap.size p q n 3 2 vI3 [(sa, 7), (sb, 2)]) := H4.out.below h2; have B5 : Hid (Below w.heap.size w w5) := B4.out.trans (h2.mono B4.out.size); clear h2)
    | (go_at_call 25; refine Calls.mono (nodes_leaf H5.out (by simp) (by intro y hy; simp at hy; rcases hy with rfl | rfl <;> simp [ByteArray.size]) (by omega)) ?_; rintro e w6 ⟨g, cap, vK, rfl, h1, h2, h3⟩; have R1 : Hid (w6.ownsRow w5.heap.size 61 3 (.slice (some ⟨g, 0, none⟩) 1 cap) 1 [.int .i64 0, .bool true, vK]) := h1; have R2 : Hid (w6.ownsRow w5.heap.size 9 1 vK 2 (gc encN [sa, sb])) := h2; have B6 : Hid (Below w.heap.size w w6) := B5.out.trans (h3.mono B5.out.size); obtain ⟨gk, ck, rfl⟩ := row_two h2; obtain ⟨z1, z2, hcp⟩ := node_cellsE h1; clear h1 h2 h3))
  go_ret
  exact ⟨rfl, B6.out⟩
end Go.Proofs.Ytelfjgnmbikofaa
