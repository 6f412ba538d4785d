/-
  The iterator over pieces: for every loop body that leaves the two captured boxes and the bytes alone, the pieces come one by one, each in memory of its own, until all have come or the body says that it is enough.
-/
import Derived.Test.YtkiccnedmejnaaaDoorLayWalk
import Derived.RangeFuncNested
import Derived.RangeFuncBound
import Derived.RangeFuncCalls
import Derived.RangeFuncLeaves
import Derived.Shelf.Abstract
import Derived.Shelf.RegionOpen
import Derived.OwnWalkIn
import Derived.TacticsInMore
import Derived.LoopNIn
import Derived.LoopIn
namespace Go.Proofs.YtkiccnedmejnaaaDoor
open Go.RowKit Go.Shelf
set_option linter.unusedVariables false
set_option maxRecDepth 100000
attribute [local go_sem] Oper.semAt_some

/-- A part of a slice that reads as bytes. -/
theorem Bs.part {w : World} {b off n cap : Nat} {x : List Int} (h : Bs w (.slice (some ⟨b, off, none⟩) n cap) x) (lo k c : Nat) (hk : lo + k ≤ x.length) (hc : k ≤ c) : Bs w (.slice (some ⟨b, off + lo, none⟩) k c) ((x.drop lo).take k) := by
  obtain ⟨ao, cap', e, hcap, hn, hcell⟩ := h
  injection e with e1 e2 e3
  have hl : ((x.drop lo).take k).length = k := by simp; omega
  refine ⟨some ⟨b, off + lo, none⟩, c, by rw [hl], by omega, (fun h => by cases h), ?_⟩
  intro ad ha i hi
  obtain rfl := Option.some.inj ha
  have := hcell _ e1.symm (lo + i) (by omega)
  rw [addr_add] at this ⊢
  rw [show off + lo + i = off + (lo + i) by omega, this]
  congr 2
  simp [List.getD, List.getElem?_drop, show i < k by omega]

set_option maxRecDepth 100000 in
set_option maxHeartbeats 4000000 in
theorem pieces1_in (n l Bb Ba q : Nat) (x : List Int) (bv : Value) (J Jx : Nat → World → Prop) (hn : 1 ≤ n)
    (hY : ∀ k W0 W v, 16 * k < x.length → J k W0 → Below W0.heap.size W0 W → Bs W v ((x.drop (16 * k)).take 16) → (∀ g, v.ownBlock = some g → W0.heap.size ≤ g ∧ g < W.heap.size) →
      YieldAt Fence.wide (n - 1) Tryd.prog l #[.agg #[.int .i64 ((q + 16 * k : Nat) : Int), v]] W fun e W' => (e = .returned (.bool true) ∧ J (k + 1) W') ∨ (e = .returned (.bool false) ∧ Jx (k + 1) W'))
    (hJ : ∀ k W, J k W → W.cell? ⟨Bb, 0, none⟩ = some bv ∧ W.cell? ⟨Ba, 0, none⟩ = some (.int .i64 (q : Int)) ∧ Bs W bv x)
    (hx : x.length ≤ 4194304) (hq : q ≤ 4194304) (W : World) (h0 : J 0 W) :
    CallsIn Fence.wide n Tryd.prog 59 #[.func (.yield l) #[] #[], .pointer (some ⟨Bb, 0, none⟩), .pointer (some ⟨Ba, 0, none⟩)] W fun e W' => (∃ v, e = .returned v) ∧
      ((∃ k, x.length ≤ 16 * k ∧ 16 * k < x.length + 16 ∧ J k W') ∨ (∃ k, Jx k W')) := by
  obtain ⟨xl, Hxl⟩ : ∃ xl, Hid (x.length = xl) := ⟨_, rfl⟩
  rw [Hxl.out] at hx hY ⊢
  refine callsIn_of_wp Tryd.func59 rfl trivial ?_ rfl
  simp only [Tryd.ntmps59, List.size_toArray, List.length_cons, List.length_nil, Nat.reduceAdd, Nat.reduceSub, Array.replicate_succ, Array.replicate_zero, List.push_toArray, List.append_toArray, List.nil_append, List.cons_append]
  gi_wp2
  gi_loopw [4] (fun i wr => ∃ k : Nat, i = .int .i64 ((16 * k : Nat) : Int) ∧ 16 * k < xl + 16 ∧ J k wr) (fun i _ => xl + 16 - (intOf i).toNat)
  case atStart => exact ⟨0, rfl, by omega, h0⟩
  case round =>
    obtain ⟨k, rfl, hk, hj⟩ := hrel
    obtain ⟨hcb, hca, hbs⟩ := hJ k wr hj
    have HBS : Hid (Bs wr bv x) := hbs
    obtain ⟨bg, Hbg⟩ : ∃ bg, Hid (16 * k = bg) := ⟨_, rfl⟩
    rw [Hbg.out] at hk ⊢
    by_cases hlt : bg < xl
    · obtain ⟨bb, ob, cap, rfl, hcap, _⟩ := hbs.opened (by rw [Hxl.out]; omega)
      rw [Hxl.out] at hcb hcap HBS
      have HPT : Hid (∀ W2, Below wr.heap.size wr W2 → ∀ e c, bg + e ≤ xl → e ≤ c → Bs W2 (.slice (some ⟨bb, ob + bg, none⟩) e c) ((x.drop bg).take e)) := fun W2 hb e c h1 h2 => (HBS.out.below hb).part bg e c (by rw [Hxl.out]; omega) h2
      have HYY : Hid (∀ W v, Below wr.heap.size wr W → Bs W v ((x.drop bg).take 16) → (∀ g, v.ownBlock = some g → wr.heap.size ≤ g ∧ g < W.heap.size) → YieldAt Fence.wide (n - 1) Tryd.prog l #[.agg #[.int .i64 ((q : Int) + (bg : Int)), v]] W fun e W' => (e = .returned (.bool true) ∧ J (k + 1) W') ∨ (e = .returned (.bool false) ∧ Jx (k + 1) W')) := by
        intro W v hb hbs2 hg
        have := hY k wr W v (by rw [Hbg.out]; exact hlt) hj hb (by rw [Hbg.out]; exact hbs2) hg
        rw [Hbg.out] at this
        push_cast at this
        exact this
      clear hbs hY hJ
      have hb1 : (bg : Int) < (xl : Int) := by omega
      have hcc : (bg : Int) < (cap : Int) := by omega
      have hqw : IntKind.i64.wrap ((q : Int) + (bg : Int)) = (q : Int) + (bg : Int) := wrap_i64_in _ (by omega) (by omega)
      have hmx : Tryd.prog.follows .mixedOrders = true := by kernel_rfl
      by_cases hen : (bg : Int) + 16 ≤ (xl : Int)
      · have HLL : Hid (((x.drop bg).take 16).length = 16) := by rw [Hid, List.length_take, List.length_drop, Hxl.out]; omega
        gi_wp2
        gi_region_with_o (first | (refine ⟨trivial, ?_⟩; gi_at_call 38; refine (callsIn_wide.2 (own_any _ ((x.drop bg).take 16) _ (HPT.out _ (Below.refl _ _).drew _ _ (by omega) (by omega)) (by rw [List.length_take]; omega))).mono ?_; rintro e w1 ⟨ao1, cap1, rfl, ho1, hb1', hc1⟩; rw [HLL.out] at ho1 hc1 ⊢; have hb2 := below_undrew hb1'; have HO1 : Hid (Own w1 wr.heap.size (.slice ao1 16 cap1) ((x.drop bg).take 16)) := ho1; have HB1 : Hid (Below wr.heap.size wr w1) := hb2; have hca1 := (hb2.cell (p := ⟨Ba, 0, none⟩) (World.block_lt_of_cell? wr _ hca)).trans hca; obtain ⟨fn, tmps, assign, body, hy, hR⟩ := HYY.out w1 _ hb2 (by exact ho1.bs) (fun g hg => World.ownsRow.lt ho1 g hg); clear ho1 hb1' hb2) | (refine hR.mono ?_; rintro e W3 hpost; have hpost' : ∃ bo, e = .returned (.bool bo) ∧ ((bo = true ∧ J (k + 1) W3) ∨ (bo = false ∧ Jx (k + 1) W3)) := (by rcases hpost with ⟨he, hj3⟩ | ⟨he, hj3⟩; exact ⟨true, he, .inl ⟨rfl, hj3⟩⟩; exact ⟨false, he, .inr ⟨rfl, hj3⟩⟩); clear hpost; obtain ⟨bo, rfl, hbo⟩ := hpost'))
        all_goals
          rcases hbo with ⟨rfl, hJ3⟩ | ⟨rfl, hJx3⟩
          · gi_wp2
            go_roundw
            case rel => exact ⟨k + 1, by rw [← Hbg.out]; push_cast; rfl, by have := Hbg.out; omega, hJ3⟩
            case measure => simp [intOf]; omega
          · gi_wp2
            refine bodyPost_ret (results_none rfl _ _ _) rfl ?_
            exact ⟨⟨_, rfl⟩, .inr ⟨_, hJx3⟩⟩
      · have HTK : Hid ((x.drop bg).take (xl - bg) = (x.drop bg).take 16) := by rw [Hid, List.take_of_length_le (by rw [List.length_drop, Hxl.out]; omega), List.take_of_length_le (by rw [List.length_drop, Hxl.out]; omega)]
        have HLL : Hid (((x.drop bg).take (xl - bg)).length = xl - bg) := by rw [Hid, List.length_take, List.length_drop, Hxl.out]; omega
        gi_wp2
        gi_region_with_o (first | (refine ⟨trivial, ?_⟩; gi_at_call 38; refine (callsIn_wide.2 (own_any _ ((x.drop bg).take (xl - bg)) _ (HPT.out _ (Below.refl _ _).drew _ _ (by omega) (by omega)) (by rw [List.length_take]; omega))).mono ?_; rintro e w1 ⟨ao1, cap1, rfl, ho1, hb1', hc1⟩; rw [HLL.out] at ho1 hc1 ⊢; have hb2 := below_undrew hb1'; have HO1 : Hid (Own w1 wr.heap.size (.slice ao1 (xl - bg) cap1) ((x.drop bg).take (xl - bg))) := ho1; have HB1 : Hid (Below wr.heap.size wr w1) := hb2; have hca1 := (hb2.cell (p := ⟨Ba, 0, none⟩) (World.block_lt_of_cell? wr _ hca)).trans hca; obtain ⟨fn, tmps, assign, body, hy, hR⟩ := HYY.out w1 _ hb2 (by rw [← HTK.out]; exact ho1.bs) (fun g hg => World.ownsRow.lt ho1 g hg); clear ho1 hb1' hb2) | (refine hR.mono ?_; rintro e W3 hpost; have hpost' : ∃ bo, e = .returned (.bool bo) ∧ ((bo = true ∧ J (k + 1) W3) ∨ (bo = false ∧ Jx (k + 1) W3)) := (by rcases hpost with ⟨he, hj3⟩ | ⟨he, hj3⟩; exact ⟨true, he, .inl ⟨rfl, hj3⟩⟩; exact ⟨false, he, .inr ⟨rfl, hj3⟩⟩); clear hpost; obtain ⟨bo, rfl, hbo⟩ := hpost'))
        all_goals
          rcases hbo with ⟨rfl, hJ3⟩ | ⟨rfl, hJx3⟩
          · gi_wp2
            go_roundw
            case rel => exact ⟨k + 1, by rw [← Hbg.out]; push_cast; rfl, by have := Hbg.out; omega, hJ3⟩
            case measure => simp [intOf]; omega
          · gi_wp2
            refine bodyPost_ret (results_none rfl _ _ _) rfl ?_
            exact ⟨⟨_, rfl⟩, .inr ⟨_, hJx3⟩⟩
    · obtain ⟨ab, cab, rfl, _⟩ := hbs
      rw [Hxl.out] at hcb
      gi_wp2
      go_end0
      exact ⟨⟨_, rfl⟩, .inl ⟨k, by rw [Hbg.out]; omega, by rw [Hbg.out]; exact hk, hj⟩⟩
end Go.Proofs.YtkiccnedmejnaaaDoor
