/-
  The walks of the laws' own functions: few, plain, same, lent, kept, spoil. Conditions: the numbers are ints, the list's length is one that memory bears.
-/
import Derived.Test.YtkiccnedmejnaabDoorXNormal
import Derived.Deep.RegionHeldLaw
namespace Go.Proofs.YtkiccnedmejnaabDoor
open Go.RowKit Go.Sort Go.Shelf Go.Lib
set_option linter.unusedVariables false
set_option maxRecDepth 100000

theorem Tryd.infoR : (Tryd.prog.info? 89).map (fun i => (i.zero, i.size, i.bytes)) = some (some (.agg #[.int .i64 0, .int .i64 0]), 2, 16) := by kernel_rfl

def fewB (l : List Ext) : Bool := decide (l.length ≤ 300 ∨ 65536 < l.length)
theorem few_any (v : Value) (l : List Ext) (w : World) (hl : Xs w v l) (hn : l.length ≤ 8796093022208) :
    Calls Tryd.prog 9 #[v] w fun e w' => e = .returned (.bool (fewB l)) ∧ w' = w := by
  obtain ⟨ao, cap, rfl, hcap, _⟩ := hl.opened
  clear hl
  obtain ⟨N, HN⟩ : ∃ N, Hid (l.length = N) := ⟨_, rfl⟩
  rw [HN.out] at hcap hn ⊢
  by_cases h1 : N ≤ 300
  · have H : Hid (fewB l = true) := by unfold Hid fewB; rw [HN.out]; simp; omega
    go_enter Tryd.func9, Tryd.ntmps9
    go_wp2
    go_ret
    exact ⟨ret_boolX H.out.symm, rfl⟩
  · by_cases h2 : 65536 < N
    · have H : Hid (fewB l = true) := by unfold Hid fewB; rw [HN.out]; simp; omega
      go_enter Tryd.func9, Tryd.ntmps9
      go_wp2
      go_ret
      exact ⟨ret_boolX (by rw [H.out]; simp; omega), rfl⟩
    · have H : Hid (fewB l = false) := by unfold Hid fewB; rw [HN.out]; simp; omega
      go_enter Tryd.func9, Tryd.ntmps9
      go_wp2
      go_ret
      exact ⟨ret_boolX (by rw [H.out]; simp; omega), rfl⟩

/-- append as a step of a region that draws. -/
theorem step_append_x {P : Program} {ops : Array Oper} {o : Oper} {a : Act} {w : World} {K : Act → World → Prop} {Q : Exit → Act → World → Prop} {E : Prop}
    (d : Nat) (hd : o.dst = some d) (hg : o.guard = none) (s x : Operand) (t T : TypeId) (hop : o.op = Op.call { callee := Callee.builtin Builtin.append, args := #[s, x], argTypes := #[t, t] })
    (i : TypeInfo) (h1 : P.underlying t = some (.slice T)) (h2 : P.info? T = some i) (h3 : i.zero = some (.agg #[.int .i64 0, .int .i64 0])) (h4 : i.size = 2) (h5 : i.bytes = 16)
    (B : Nat) (v : Value) (l m : List Ext) (ad : Addr) (c : Nat) (hs : a.eval s = v) (hx : a.eval x = .slice (some ad) m.length c) (hown : OwnX w B T v l) (hm : Xs w (.slice (some ad) m.length c) m)
    (hbytes : l.length + m.length ≤ 8796093022208) (hB : B ≤ w.heap.size)
    (hK : ∀ ao cap w', OwnX w' B T (.slice ao (l.length + m.length) cap) (l ++ m) → w.grownBy w' v.ownBlock → K (a.put (some d) (.slice ao (l.length + m.length) cap)) w') :
    if Region.wanted o (yielded ops a.tmps) = true then Oper.wp P o a w K Q else E := by
  have hw : Region.wanted o (yielded ops a.tmps) = true := by simp [Region.wanted, hg]
  rw [if_pos hw]
  obtain ⟨ao, cap, hv, hc, hn, hcell⟩ := hm
  injection hv with e1 e2 e3
  obtain ⟨v', w', hrun, r1, r2, _⟩ := run_append_own (P := P) w B t o.type T i (.agg #[.int .i64 0, .int .i64 0]) 2 16 h1 h2 h3 h4 h5 rfl (by decide) v l.length (ecells l) hown ad m.length c (ecells m) (by rw [ecells_length]) (fun j u hj => hcell ad e1.symm j u hj) (ecells_oneCell m) (by unfold maxLen; omega) (by omega) hB
  have ho2 : OwnX w' B T v' (l ++ m) := by unfold OwnX; rw [List.length_append, ecells_append]; exact r1
  obtain ⟨ao', cap', rfl, _, _, _⟩ := ho2.shape
  rw [List.length_append] at ho2 hrun
  unfold Oper.wp
  simp [execOp, hop, resolve, invoke, builtin, hs, hx, hrun, Result.andThen]
  have hk := hK ao' cap' w' ho2 r2
  rw [← hd] at hk
  exact hk

set_option maxHeartbeats 4000000 in
theorem plain_any (v : Value) (l : List Ext) (w : World) (hl : Xs w v l) (hn : l.length ≤ 8796093022208) :
    Calls Tryd.prog 14 #[v] w fun e w' => ∃ ao cap, e = .returned (.slice ao l.length cap) ∧ OwnX w' w.heap.size 89 (.slice ao l.length cap) l ∧ Below w.heap.size w w' := by
  obtain ⟨i1, hi, hz0, hz1, hz2⟩ := info_parts Tryd.infoR
  obtain ⟨ao, cap, rfl, hcap, hcell⟩ := hl.opened
  have HC : Hid (∀ i, i < l.length → ∃ b off, ao = some ⟨b, off, none⟩ ∧ w.cell? ⟨b, off + i * 2, none⟩ = some (.int .i64 (l.getD i (0, 0)).1) ∧ w.cell? ⟨b, off + i * 2 + 1, none⟩ = some (.int .i64 (l.getD i (0, 0)).2) ∧ b < w.heap.size) := hcell
  clear hl hcell
  obtain ⟨N, HN⟩ : ∃ N, Hid (l.length = N) := ⟨_, rfl⟩
  rw [HN.out] at hcap hn ⊢
  go_enter Tryd.func14, Tryd.ntmps14
  go_wp2
  go_loopw [3, 4] (fun o i wr => ∃ (k : Nat) (a : Option Addr) (c : Nat), k ≤ N ∧ i = .int .i64 (k : Int) ∧ o = .slice a k c ∧ Hid (OwnX wr w.heap.size 89 (.slice a k c) (l.take k)) ∧ Hid (Below w.heap.size w wr)) (fun _ i _ => N - (intOf i).toNat)
  case atStart => exact ⟨0, none, 0, Nat.zero_le _, rfl, rfl, OwnX.nil _ _ _, Below.refl _ _⟩
  case round =>
    obtain ⟨k, a, c, hk, rfl, rfl, HO, HB⟩ := hrel
    by_cases hlt : k < N
    · have hkl : k < l.length := by rw [HN.out]; exact hlt
      obtain ⟨b, off, rfl, c1, c2, hb⟩ := HC.out k hkl
      have d1 := (HB.out.cell (p := ⟨b, off + k * 2, none⟩) hb).trans c1
      have d2 := (HB.out.cell (p := ⟨b, off + k * 2 + 1, none⟩) hb).trans c2
      have HT : Hid (l.take (k + 1) = l.take k ++ [l.getD k (0, 0)]) := take_snoc l hkl
      have HL : Hid ((l.take k).length = k) := by unfold Hid; rw [List.length_take]; omega
      clear c1 c2
      generalize l.getD k (0, 0) = x at *
      obtain ⟨xa, xs⟩ := x
      dsimp only at d1 d2
      have HKA : Hid (∀ w3, (wr.alloc (.cells #[.int .i64 xa, .int .i64 xs] 89)).drew.grownBy w3 (Value.slice a k c).ownBlock → w3.cell? ⟨b, off + k * 2, none⟩ = some (.int .i64 xa) ∧ w3.cell? ⟨b, off + k * 2 + 1, none⟩ = some (.int .i64 xs)) := fun w3 hg => by
        have hbw := (HB.out.alloc HB.out.size (.cells #[.int .i64 xa, .int .i64 xs] 89)).drew
        have hb3 := hbw.grown hg hbw.size (fun j hj => (HO.out.lt j hj).1)
        have e1 := (hb3.cell (p := ⟨b, off + k * 2, none⟩) hb).trans ((HB.out.cell (p := ⟨b, off + k * 2, none⟩) hb).symm.trans d1)
        have e2 := (hb3.cell (p := ⟨b, off + k * 2 + 1, none⟩) hb).trans ((HB.out.cell (p := ⟨b, off + k * 2 + 1, none⟩) hb).symm.trans d2)
        exact ⟨e1, e2⟩
      go_wp2
      go_region_held_law (fun w' => w'.cell? ⟨b, off + k * 2, none⟩ = some (.int .i64 xa) ∧ w'.cell? ⟨b, off + k * 2 + 1, none⟩ = some (.int .i64 xs)) (first | go_keep | exact HKA.out _ hg3) ((refine step_append_x 24 rfl rfl (.tmp 11) (.tmp 23) 32 89 rfl i1 Tryd.underlying32 hi hz0 hz1 hz2 w.heap.size (.slice a k c) (l.take k) [(xa, xs)] ⟨wr.heap.size, 0, none⟩ 1 rfl rfl ((HO.out.below ((Below.refl _ _).alloc (Nat.le_refl _) _)).drew) (Xs.oneAt _ _ (xa, xs) _ (by simp)).drew (by rw [HL.out]; simp; omega) (by have h1 := HB.out.size; simp; omega) ?_; intro ao3 cap3 w3 ho3 hg3))
      all_goals
        go_wp2
        go_roundw
        case rel =>
          rw [HL.out] at ho3
          refine ⟨k + 1, ao3, cap3, by omega, by simp, by simp; omega, by rw [HT.out]; exact ho3, ?_⟩
          have hbw := (HB.out.alloc HB.out.size (.cells #[.int .i64 xa, .int .i64 xs] 89)).drew
          exact hbw.grown hg3 hbw.size (fun j hj => (HO.out.lt j hj).1)
        case measure => simp [intOf]; omega
    · obtain rfl : k = N := by omega
      go_wp2
      go_ret
      refine ⟨a, c, rfl, ?_, HB.out⟩
      have := HO.out
      rwa [List.take_of_length_le (by rw [HN.out]; omega)] at this

end Go.Proofs.YtkiccnedmejnaabDoor
