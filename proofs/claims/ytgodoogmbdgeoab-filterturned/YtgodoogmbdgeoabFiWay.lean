/-
  Which filters may be, and the way of each: mayBe, Check, wayOf of the program. No conditions.
-/
import Derived.Test.YtgodoogmbdgeoabFiMem
import Derived.Deep.RegionWith
import Derived.Lib.QuietBelow
namespace Go.Proofs.Ytgodoogmbdgeoab
open Go.RowKit
set_option linter.unusedVariables false
set_option maxRecDepth 100000

theorem boxF (w : World) (k z : Int) : ∃ w', w.alloc (.cells #[.int .i64 k, .int .i64 z] 26) = w' ∧ w'.cell? ⟨w.heap.size, 0, none⟩ = some (.int .i64 k) ∧ w'.cell? ⟨w.heap.size, 1, none⟩ = some (.int .i64 z) ∧ w'.frozen? ⟨w.heap.size, 0, none⟩ = false ∧ Below w.heap.size w w' ∧ w'.heap.size = w.heap.size + 1 := by
  have h : (w.alloc (.cells #[.int .i64 k, .int .i64 z] 26)).heap[w.heap.size]? = some (.cells #[.int .i64 k, .int .i64 z] 26 (0, 0)) := heap_alloc_new w _
  have h2 : Below w.heap.size w (w.alloc (.cells #[.int .i64 k, .int .i64 z] 26)) := (Below.refl _ _).alloc (Nat.le_refl _) _
  have h3 : (w.alloc (.cells #[.int .i64 k, .int .i64 z] 26)).heap.size = w.heap.size + 1 := World.size_alloc _ _
  obtain ⟨w', hw⟩ : ∃ w', w.alloc (.cells #[.int .i64 k, .int .i64 z] 26) = w' := ⟨_, rfl⟩
  rw [hw] at h h2 h3
  exact ⟨w', hw, cell_of_row _ _ 0 _ _ _ h, cell_of_row _ _ 1 _ _ _ h, by simp [World.frozen?, h], h2, h3⟩
theorem may_12 {k z : Int} (h : k = 1 ∨ k = 2) : decide (mayP (k, z)) = (decide (1 ≤ z) && decide (z ≤ 8)) := by
  rw [Bool.eq_iff_iff]; rcases h with rfl | rfl <;> simp [mayP]
theorem may_34 {k z : Int} (h : k = 3 ∨ k = 4) : decide (mayP (k, z)) = (z == 0) := by
  rw [Bool.eq_iff_iff]; rcases h with rfl | rfl <;> simp [mayP]
theorem may_no {k z : Int} (h1 : k ≠ 1) (h2 : k ≠ 2) (h3 : k ≠ 3) (h4 : k ≠ 4) : decide (mayP (k, z)) = false := by
  rw [decide_eq_false_iff_not]; simp [mayP]; omega
set_option maxHeartbeats 8000000 in
theorem mayBe_any (k z : Int) (w : World) : Calls Try.prog 11 #[.agg #[.int .i64 k, .int .i64 z]] w fun e w' => e = .returned (.bool (decide (mayP (k, z)))) ∧ Below w.heap.size w w' := by
  obtain ⟨w1, hw1, c0, c1, f0, b1, s1⟩ := boxF w k z
  have HB : Hid (Below w.heap.size w w1) := b1
  clear b1 s1
  by_cases h12 : k = 1 ∨ k = 2
  · rw [may_12 h12]
    by_cases h1 : 1 ≤ z
    · rw [decide_eq_true h1, Bool.true_and]
      rcases h12 with rfl | rfl
      · go_enter Try.func11, Try.ntmps11
        go_wp2_with fail
        go_ret
        exact ⟨rfl, HB.out⟩
      · go_enter Try.func11, Try.ntmps11
        go_wp2_with fail
        go_ret
        exact ⟨rfl, HB.out⟩
    · rw [decide_eq_false h1, Bool.false_and]
      rcases h12 with rfl | rfl
      · go_enter Try.func11, Try.ntmps11
        go_wp2_with fail
        go_ret
        exact ⟨rfl, HB.out⟩
      · go_enter Try.func11, Try.ntmps11
        go_wp2_with fail
        go_ret
        exact ⟨rfl, HB.out⟩
  · by_cases h34 : k = 3 ∨ k = 4
    · rw [may_34 h34]
      rcases h34 with rfl | rfl
      · go_enter Try.func11, Try.ntmps11
        go_wp2_with fail
        go_ret
        exact ⟨rfl, HB.out⟩
      · go_enter Try.func11, Try.ntmps11
        go_wp2_with fail
        go_ret
        exact ⟨rfl, HB.out⟩
    · have k1 : k ≠ 1 := fun e => h12 (.inl e)
      have k2 : k ≠ 2 := fun e => h12 (.inr e)
      have k3 : k ≠ 3 := fun e => h34 (.inl e)
      have k4 : k ≠ 4 := fun e => h34 (.inr e)
      rw [may_no k1 k2 k3 k4]
      clear h12 h34
      go_enter Try.func11, Try.ntmps11
      go_wp2_with fail
      go_ret
      exact ⟨rfl, HB.out⟩
theorem chE_big {L : List Fil} (h : 4 < L.length) : chE L = 3 := by rw [chE, if_pos h]
theorem chE_bad {L : List Fil} (h : ¬ 4 < L.length) {i : Nat} (hi : i < L.length) (hn : ¬ mayP (L.getD i (0, 0))) : chE L = 2 := by
  rw [chE, if_neg h, if_neg]
  intro ha
  refine hn (ha _ ?_)
  rw [List.getD, List.getElem?_eq_getElem hi]
  exact List.getElem_mem hi
theorem chE_yes {L : List Fil} (h : ¬ 4 < L.length) (ha : ∀ i, i < L.length → mayP (L.getD i (0, 0))) : chE L = 0 := by
  rw [chE, if_neg h, if_pos]
  intro f hf
  obtain ⟨i, hi, rfl⟩ := List.getElem_of_mem hf
  have := ha i hi
  rwa [List.getD, List.getElem?_eq_getElem hi] at this
theorem box_next {w wr w1 : World} {B : Nat} (h : Below B w wr) (hB : B ≤ wr.heap.size) (h1 : Below wr.heap.size wr w1) : Below B w w1 := h.trans (h1.mono hB)
set_option maxHeartbeats 16000000 in
theorem check_any (v : Value) (L : List Fil) (w : World) (hl : Fls w v L) (hlb : L.length ≤ 8796093021952) : Calls Try.prog 7 #[v] w fun e w' => e = .returned (.int .i64 (chE L)) ∧ Below w.heap.size w w' := by
  obtain ⟨ao, cap, rfl, hc, hcell⟩ := hl.opened
  obtain ⟨n, hn⟩ : ∃ n, L.length = n := ⟨_, rfl⟩
  have HC : Hid (∀ i, i < n → ∃ b off, ao = some ⟨b, off, none⟩ ∧ w.cell? ⟨b, off + i * 2, none⟩ = some (.int .i64 (L.getD i (0, 0)).1) ∧ w.cell? ⟨b, off + i * 2 + 1, none⟩ = some (.int .i64 (L.getD i (0, 0)).2) ∧ b < w.heap.size) := by rw [← hn]; exact hcell
  have HN : Hid (L.length = n) := hn
  rw [hn] at hlb hc ⊢
  clear hl hcell hn
  by_cases hb : 4 < n
  · have HE : Hid (chE L = 3) := chE_big (by rw [HN.out]; exact hb)
    have hbi : (4 : Int) < (n : Int) := by omega
    go_enter Try.func7, Try.ntmps7
    go_wp2_with fail
    go_ret
    exact ⟨by rw [HE.out]; rfl, Below.refl _ _⟩
  · have hbi : ¬ (4 : Int) < (n : Int) := by omega
    go_enter Try.func7, Try.ntmps7
    go_wp2_with fail
    go_loopw [10] (fun i wr => ∃ j : Nat, j ≤ n ∧ i = .int .i64 j ∧ Hid (∀ q, q < j → mayP (L.getD q (0, 0))) ∧ Hid (Below w.heap.size w wr)) (fun i _ => n - (intOf i).toNat)
    case atStart => exact ⟨0, Nat.zero_le _, rfl, fun q hq => by omega, Below.refl _ _⟩
    case round =>
      obtain ⟨j, hj, rfl, HP, HB⟩ := hrel
      by_cases hlt : j < n
      · obtain ⟨b, off, rfl, c0, c1, hbl⟩ := HC.out j hlt
        replace c0 := (HB.out.cell (p := ⟨b, off + j * 2, none⟩) hbl).trans c0
        replace c1 := (HB.out.cell (p := ⟨b, off + j * 2 + 1, none⟩) hbl).trans c1
        obtain ⟨k, hk⟩ : ∃ k, (L.getD j (0, 0)).1 = k := ⟨_, rfl⟩
        obtain ⟨z, hz⟩ : ∃ z, (L.getD j (0, 0)).2 = z := ⟨_, rfl⟩
        have HE : Hid (L.getD j (0, 0) = (k, z)) := by rw [Hid, ← hk, ← hz]
        rw [hk] at c0
        rw [hz] at c1
        obtain ⟨w1, hw1, e0, e1, f0, b1, s1⟩ := boxF wr k z
        have HB1 : Hid (Below w.heap.size w w1) := box_next HB.out HB.out.size b1
        have HM : Hid _ := mayBe_any k z w1
        clear b1 s1 hk hz
        by_cases hm : mayP (k, z)
        · rw [decide_eq_true hm] at HM
          go_wp2_with (go_at_call 11; refine Calls.mono HM.out ?_; rintro e w2 ⟨rfl, hb2⟩; have HB2 : Hid (Below w.heap.size w w2) := box_next HB1.out HB1.out.size hb2; clear hb2)
          go_roundw
          case rel => exact ⟨j + 1, by omega, by go_num, fun q hq => by
            rcases Nat.lt_succ_iff_lt_or_eq.1 hq with h | rfl
            · exact HP.out q h
            · rw [HE.out]; exact hm, HB2.out⟩
          case measure => simp [intOf]; omega
        · rw [decide_eq_false hm] at HM
          go_wp2_with (go_at_call 11; refine Calls.mono HM.out ?_; rintro e w2 ⟨rfl, hb2⟩; have HB2 : Hid (Below w.heap.size w w2) := box_next HB1.out HB1.out.size hb2; clear hb2)
          go_ret
          exact ⟨by rw [chE_bad (by rw [HN.out]; exact hb) (by rw [HN.out]; exact hlt) (by rw [HE.out]; exact hm)]; rfl, HB2.out⟩
      · obtain rfl : j = n := by omega
        go_wp2_with fail
        go_ret
        exact ⟨by rw [chE_yes (by rw [HN.out]; exact hb) (by rw [HN.out]; exact HP.out)]; rfl, HB.out⟩
theorem results_cellF {fn : Func} {p : Tmp} {ty : TypeId} (h : fn.results = #[.cell p ty]) (tmps : Array Value) (P : Program) (w : World) :
    (results fn tmps).run P w = ((asAddr (tmps.getD p undef)).run P w).andThen fun a w₁ => (loadVar ty a).run P w₁ := by
  simp only [results, h]
  simp [Sem.run_bind, Result.andThen]
set_option maxHeartbeats 4000000 in
theorem way_1 (w : World) : Calls Try.prog 9 #[.int .i64 1] w fun e w' => e = .returned (.agg #[.func (.func 12) #[] #[], .func (.func 13) #[] #[]]) ∧ Below w.heap.size w w' := by
  have HB : Hid (∀ o, Below w.heap.size w (w.alloc o)) := fun o => (Below.refl _ _).alloc (Nat.le_refl _) _
  have hst : ∀ (f : Fn) (W : World) (a : Addr) (m : Mode), (store a (.func f #[] #[]) m).run Try.prog W = stored Try.prog W a (.func f #[] #[]) m := fun f W a m => run_store Try.prog W a _ m rfl
  go_enter Try.func9, Try.ntmps9
  go_wp2_with fail

  try simp only [Exit.inBlock, Exit.then]
  refine bodyPost_ret (v := .agg #[.func (.func 12) #[] #[], .func (.func 13) #[] #[]]) ?_ rfl ?_
  · rw [results_cellF (fn := Try.f9) rfl]
    go_simp
  · exact ⟨rfl, HB.out _⟩
set_option maxHeartbeats 4000000 in
theorem way_2 (w : World) : Calls Try.prog 9 #[.int .i64 2] w fun e w' => e = .returned (.agg #[.func (.func 14) #[] #[], .func (.func 15) #[] #[]]) ∧ Below w.heap.size w w' := by
  have HB : Hid (∀ o, Below w.heap.size w (w.alloc o)) := fun o => (Below.refl _ _).alloc (Nat.le_refl _) _
  have hst : ∀ (f : Fn) (W : World) (a : Addr) (m : Mode), (store a (.func f #[] #[]) m).run Try.prog W = stored Try.prog W a (.func f #[] #[]) m := fun f W a m => run_store Try.prog W a _ m rfl
  go_enter Try.func9, Try.ntmps9
  go_wp2_with fail
  try simp only [Exit.inBlock, Exit.then]
  refine bodyPost_ret (v := .agg #[.func (.func 14) #[] #[], .func (.func 15) #[] #[]]) ?_ rfl ?_
  · rw [results_cellF (fn := Try.f9) rfl]
    go_simp
  · exact ⟨rfl, HB.out _⟩
set_option maxHeartbeats 4000000 in
theorem way_3 (w : World) : Calls Try.prog 9 #[.int .i64 3] w fun e w' => e = .returned (.agg #[.func (.func 16) #[] #[], .func (.func 17) #[] #[]]) ∧ Below w.heap.size w w' := by
  have HB : Hid (∀ o, Below w.heap.size w (w.alloc o)) := fun o => (Below.refl _ _).alloc (Nat.le_refl _) _
  have hst : ∀ (f : Fn) (W : World) (a : Addr) (m : Mode), (store a (.func f #[] #[]) m).run Try.prog W = stored Try.prog W a (.func f #[] #[]) m := fun f W a m => run_store Try.prog W a _ m rfl
  go_enter Try.func9, Try.ntmps9
  go_wp2_with fail
  try simp only [Exit.inBlock, Exit.then]
  refine bodyPost_ret (v := .agg #[.func (.func 16) #[] #[], .func (.func 17) #[] #[]]) ?_ rfl ?_
  · rw [results_cellF (fn := Try.f9) rfl]
    go_simp
  · exact ⟨rfl, HB.out _⟩
set_option maxHeartbeats 4000000 in
theorem way_4 (w : World) : Calls Try.prog 9 #[.int .i64 4] w fun e w' => e = .returned (.agg #[.func (.func 18) #[] #[], .func (.func 19) #[] #[]]) ∧ Below w.heap.size w w' := by
  have HB : Hid (∀ o, Below w.heap.size w (w.alloc o)) := fun o => (Below.refl _ _).alloc (Nat.le_refl _) _
  have hst : ∀ (f : Fn) (W : World) (a : Addr) (m : Mode), (store a (.func f #[] #[]) m).run Try.prog W = stored Try.prog W a (.func f #[] #[]) m := fun f W a m => run_store Try.prog W a _ m rfl
  go_enter Try.func9, Try.ntmps9
  go_wp2_with fail
  try simp only [Exit.inBlock, Exit.then]
  refine bodyPost_ret (v := .agg #[.func (.func 18) #[] #[], .func (.func 19) #[] #[]]) ?_ rfl ?_
  · rw [results_cellF (fn := Try.f9) rfl]
    go_simp
  · exact ⟨rfl, HB.out _⟩
end Go.Proofs.Ytgodoogmbdgeoab
