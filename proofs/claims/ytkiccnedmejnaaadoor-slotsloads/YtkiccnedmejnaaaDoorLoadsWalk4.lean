/-
  The walk of the law SlotsLoads. Conditions: the two listed variables stand as the program's text lays them.
-/
import Derived.Test.YtkiccnedmejnaaaDoorBytesWalk4
import Derived.Deep.RegionHeld
namespace Go.Proofs.YtkiccnedmejnaaaDoor
open Go.RowKit
set_option linter.unusedVariables false
set_option maxRecDepth 100000

def lOk (l : List Int) : Bool := decide (32 ≤ l.length) && isRt (l.take 32)
def lE (l : List Int) : Int := if l.length < 32 then 4 else ldErr (l.take 32)
def lG (l : List Int) : Int := if lOk l = true then ldG (l.take 32) else 0
def lA (l : List Int) : Int := if lOk l = true then ldA (l.take 32) else 0
def lZ (l : List Int) : Int := if lOk l = true then ldZ (l.take 32) else 0
def lR (l : List Int) : Value := .agg #[.int .u64 (lG l), .int .i64 (lA l), .int .i64 (lZ l)]
theorem lR_short {l : List Int} (h : l.length < 32) : lR l = .agg #[.int .u64 0, .int .i64 0, .int .i64 0] ∧ lE l = 4 := by
  have : lOk l = false := by unfold lOk; simp; omega
  unfold lR lG lA lZ lE
  rw [this, if_pos h]
  exact ⟨rfl, rfl⟩
theorem lR_long {l : List Int} (h : 32 ≤ l.length) : lR l = ldRoot (l.take 32) ∧ lE l = ldErr (l.take 32) := by
  have h1 : lE l = ldErr (l.take 32) := by unfold lE; rw [if_neg (by omega)]
  refine ⟨?_, h1⟩
  unfold lR lG lA lZ lOk ldRoot
  cases hr : isRt (l.take 32)
  · simp
  · simp [h]
theorem load4_any (v : Value) (l : List Int) (w : World) (hl : Bs w v l) (hb : l.length ≤ 140737488355328) (hby : Byt l) (hT : Tab w) :
    Calls Tryd.prog 13 #[v] w fun e w' => e = .returned (.tuple #[lR l, .int .i64 (lE l)]) ∧ Below w.heap.size w w' := by
  by_cases h : l.length < 32
  · rw [(lR_short h).1, (lR_short h).2]; exact load_short v l w hl h
  · rw [(lR_long (by omega)).1, (lR_long (l := l) (by omega)).2]; exact load_long v l w hl hb hby (by omega) hT
theorem refLoad4_any (v : Value) (l : List Int) (w : World) (hl : Bs w v l) (hb : l.length ≤ 140737488351232) (hby : Byt l) :
    Calls Tryd.prog 14 #[v] w fun e w' => e = .returned (.tuple #[lR l, .int .i64 (lE l)]) ∧ Below w.heap.size w w' := by
  by_cases h : l.length < 32
  · rw [(lR_short h).1, (lR_short h).2]; exact refRLoad_short v l w hl h
  · rw [(lR_long (by omega)).1, (lR_long (l := l) (by omega)).2]; exact refRLoad_long v l w hl hb hby (by omega)

set_option maxHeartbeats 4000000 in
theorem slotsLoads_walk (v : Value) (l : List Int) (W : World) (hS : Sl W) (hl : Bs W v l) (hby : Byt l) (hb : l.length ≤ 140737488351232) :
    Calls Tryd.prog 4 #[v] W fun e W' => e = .returned (.bool true) ∧ Below W.heap.size W W' := by
  obtain ⟨i0, hi, hz0, hz1, hz2⟩ := info_parts Tryd.info5
  have HS : Hid (Sl W) := hS
  have HL : Hid (Bs W v l) := hl
  have HBY : Hid (Byt l) := hby
  obtain ⟨n, HN⟩ : ∃ n, Hid (l.length = n) := ⟨_, rfl⟩
  have hn : n ≤ 140737488351232 := by rw [← HN.out]; exact hb
  obtain ⟨ao, cap, rfl, hc, _⟩ := hl
  rw [HN.out] at HL hc ⊢
  clear hS hby hb
  go_enter Tryd.func4, Tryd.ntmps4
  go_wp2_with (first | (at_builtin; refine wpList_append_bytes _ rfl (.tmp 8) (.tmp 9) 25 rfl i0 Tryd.underlying25 hi hz0 hz1 hz2 W.heap.size _ _ [] l rfl rfl (Own.empty _ _ (Nat.le_refl _)) (HL.out.below ((Below.refl _ _).alloc (Nat.le_refl _) _)) (by rw [HN.out]; simp; omega) W ((Below.refl _ _).alloc (Nat.le_refl _) _) (by simp) ?_; intro ao1 cap1 w1 ho1 hb1 _ _; rw [HN.out] at ho1 ⊢; simp only [List.length_nil, Nat.zero_add, List.nil_append] at ho1 ⊢; have HO1 : Hid (Own w1 W.heap.size (.slice ao1 n cap1) l) := ho1; have HB1 : Hid (Below W.heap.size W w1) := hb1; clear ho1 hb1) | (at_builtin; refine wpList_append_bytes _ rfl (.tmp 10) (.tmp 11) 25 rfl i0 Tryd.underlying25 hi hz0 hz1 hz2 W.heap.size _ _ l [90] rfl rfl (HO1.out.alloc _) (Bs.one _ _) (by rw [HN.out]; simp; omega) W (HB1.out.alloc HB1.out.size _) (by have := HB1.out.size; simp; omega) ?_; intro ao2 cap2 w2 ho2 hb2 hs2 hc2; rw [HN.out] at ho2 hs2 hc2 ⊢; simp only [List.length_cons, List.length_nil, Nat.zero_add] at hc2 ho2 hs2 ⊢; obtain ⟨gI, hgI, _, _⟩ := hs2 (by omega); subst hgI; clear hs2; have HO2 : Hid (Bs w2 (.slice (some ⟨gI, 0, none⟩) (n + 1) cap2) (l ++ [90])) := ho2.bs; have HB2 : Hid (Below W.heap.size W w2) := hb2; have hc2i : ((n : Int)) ≤ (cap2 : Int) := (by omega); clear ho2 hb2))
  have HL2 : Hid (Bs w2 (.slice (some ⟨gI, 0, none⟩) n cap2) l) := by
    have := HO2.out
    rw [← HN.out] at this
    have := lent_bs this
    rw [HN.out] at this
    exact this
  refine (load4_any _ l w2 HL2.out (by rw [HN.out]; omega) HBY.out (HS.out.below HB2.out).tab).mono ?_
  rintro e w3 ⟨rfl, hb3⟩
  unfold lR
  obtain ⟨G, HG⟩ : ∃ x, Hid (lG l = x) := ⟨_, rfl⟩
  obtain ⟨A, HA⟩ : ∃ x, Hid (lA l = x) := ⟨_, rfl⟩
  obtain ⟨Z, HZ⟩ : ∃ x, Hid (lZ l = x) := ⟨_, rfl⟩
  obtain ⟨E, HE⟩ : ∃ x, Hid (lE l = x) := ⟨_, rfl⟩
  rw [HG.out, HA.out, HZ.out, HE.out]
  obtain ⟨W3, HW3⟩ : ∃ W3, Hid (W3 = w3.alloc (.cells #[.int .u64 G, .int .i64 A, .int .i64 Z] 24)) := ⟨_, rfl⟩
  have HC3 : Hid (W3.heap[w3.heap.size]? = some (.cells #[.int .u64 G, .int .i64 A, .int .i64 Z] 24 (0, 0))) := by rw [Hid, HW3.out]; exact heap_alloc_new _ _
  have HB23 : Hid (Below w2.heap.size w2 W3) := by rw [Hid, HW3.out]; exact hb3.alloc hb3.size _
  have HBW3 : Hid (Below W.heap.size W W3) := HB2.out.trans (HB23.out.mono HB2.out.size)
  clear hb3
  have HRL : Hid _ := refLoad4_any _ l W3 (HL.out.below HBW3.out) (by rw [HN.out]; omega) HBY.out
  unfold lR at HRL
  rw [HG.out, HA.out, HZ.out, HE.out] at HRL
  go_upto_region 3 with fail
  rw [← HW3.out]
  go_wp2_with fail
  refine Calls.mono HRL.out ?_
  rintro e w4 ⟨rfl, hb4⟩
  obtain ⟨W4, HW4⟩ : ∃ W4, Hid (W4 = w4.alloc (.cells #[.int .u64 G, .int .i64 A, .int .i64 Z] 31)) := ⟨_, rfl⟩
  have HC4 : Hid (W4.heap[w4.heap.size]? = some (.cells #[.int .u64 G, .int .i64 A, .int .i64 Z] 31 (0, 0))) := by rw [Hid, HW4.out]; exact heap_alloc_new _ _
  have HB34 : Hid (Below W3.heap.size W3 W4) := by rw [Hid, HW4.out]; exact hb4.alloc hb4.size _
  have HBW4 : Hid (Below W.heap.size W W4) := HBW3.out.trans (HB34.out.mono HBW3.out.size)
  have HB24 : Hid (Below w2.heap.size w2 W4) := HB23.out.trans (HB34.out.mono HB23.out.size)
  have HC34 : Hid _ := (HB34.out.block _ (Array.getElem?_eq_some_iff.1 HC3.out).1).trans HC3.out
  clear hb4 HRL
  have HK : Hid (∀ w', Below W4.heap.size W4 w' → (w'.cell? ⟨w3.heap.size, 0, none⟩ = some (.int .u64 G) ∧ w'.cell? ⟨w3.heap.size, 1, none⟩ = some (.int .i64 A) ∧ w'.cell? ⟨w3.heap.size, 2, none⟩ = some (.int .i64 Z) ∧ w'.cell? ⟨w4.heap.size, 0, none⟩ = some (.int .u64 G) ∧ w'.cell? ⟨w4.heap.size, 1, none⟩ = some (.int .i64 A) ∧ w'.cell? ⟨w4.heap.size, 2, none⟩ = some (.int .i64 Z)) ∧
      Sem.run Tryd.prog (convert 25 9 (.slice (some ⟨gI, 0, none⟩) (n + 1) cap2)) w' = .ok (.string (strOfNums (l ++ [90]))) w' ∧ Sem.run Tryd.prog (convert 25 9 (.slice ao n cap)) w' = .ok (.string (strOfNums l)) w' ∧ Below W4.heap.size W4 w') := fun w' hb => by
    obtain ⟨c0, c1, c2, _⟩ := three_cells ((hb.block _ (Array.getElem?_eq_some_iff.1 HC34.out).1).trans HC34.out)
    obtain ⟨d0, d1, d2, _⟩ := three_cells ((hb.block _ (Array.getElem?_eq_some_iff.1 HC4.out).1).trans HC4.out)
    exact ⟨⟨c0, c1, c2, d0, d1, d2⟩, str_of ((HO2.out.below HB24.out).below hb), str_of ((HL.out.below HBW4.out).below hb), hb⟩
  have hadd := fun W => str_add (P := Tryd.prog) l 90 ⟨#[90]⟩ rfl (by rw [HN.out]; omega) W
  go_upto_region 4 with fail
  rw [← HW4.out]
  have hd0 : Below W4.heap.size W4 W4.drew := (Below.refl _ _).drew
  go_region_held (fun w' => (w'.cell? ⟨w3.heap.size, 0, none⟩ = some (.int .u64 G) ∧ w'.cell? ⟨w3.heap.size, 1, none⟩ = some (.int .i64 A) ∧ w'.cell? ⟨w3.heap.size, 2, none⟩ = some (.int .i64 Z) ∧ w'.cell? ⟨w4.heap.size, 0, none⟩ = some (.int .u64 G) ∧ w'.cell? ⟨w4.heap.size, 1, none⟩ = some (.int .i64 A) ∧ w'.cell? ⟨w4.heap.size, 2, none⟩ = some (.int .i64 Z)) ∧
      Sem.run Tryd.prog (convert 25 9 (.slice (some ⟨gI, 0, none⟩) (n + 1) cap2)) w' = .ok (.string (strOfNums (l ++ [90]))) w' ∧ Sem.run Tryd.prog (convert 25 9 (.slice ao n cap)) w' = .ok (.string (strOfNums l)) w' ∧ Below W4.heap.size W4 w') (exact HK.out _ (by assumption)) (first | (go_at_call 11; refine (plain4_any G A Z _).mono ?_; rintro e w5 ⟨rfl, hb5'⟩; have hb5 : Below W4.heap.size W4 w5 := below_undrew hb5'; clear hb5') | (go_at_call 12; refine (lives4_any _ (HS.out.below (HBW4.out.trans (Below.mono (by assumption) HBW4.out.size)))).mono ?_; rintro e w6 ⟨rfl, hb6'⟩; have hb6 : Below W4.heap.size W4 w6 := Below.trans (by assumption) (hb6'.mono (Below.size (by assumption))); clear hb6'))
  all_goals
    have HB6 : Hid (Below W4.heap.size W4 w6) := hb6
    clear hb6
    go_wp2
    go_ret
    exact ⟨rfl, HBW4.out.trans (HB6.out.mono HBW4.out.size)⟩
end Go.Proofs.YtkiccnedmejnaaaDoor
