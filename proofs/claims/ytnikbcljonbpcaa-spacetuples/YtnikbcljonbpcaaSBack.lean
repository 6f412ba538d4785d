/-
  Axes told from the last one on, to a loop whose body goes on or leaves by its label. Conditions: none.
-/
import Derived.Test.YtnikbcljonbpcaaSVal
namespace Go.Proofs.Ytnikbcljonbpcaa
open Go.RowKit Go.Shelf
set_option linter.unusedVariables false
set_option maxRecDepth 100000
attribute [local go_sem] Oper.semAt_some

theorem axV_eq (a : Ax) : axV a = .agg #[.int .i64 a.st, .int .i64 a.sd, .int .i64 a.ct, .int .i64 a.bl] := rfl
set_option maxHeartbeats 4000000 in
theorem back_in (n l gb : Nat) (ao : Option Addr) (m cap : Nat) (A : List Ax) (J : Nat → World → Prop) (Jx : World → Prop) (W : World)
    (hJ : ∀ j W1, J j W1 → W1.cell? ⟨gb, 0, none⟩ = some (.slice ao m cap) ∧ Axs W1 (.slice ao m cap) A)
    (hY : ∀ j W1 x, j < m → J (j + 1) W1 → A[j]? = some x → YieldAt Fence.wide (n - 1) Try.prog l #[.int .i64 (j : Int), axV x] W1 fun e W2 => (e = .returned (.bool true) ∧ J j W2) ∨ (e = .returned (.bool false) ∧ Jx W2))
    (h0 : J m W) (hm4 : m ≤ 4) :
    CallsIn Fence.wide n Try.prog 55 #[.func (.yield l) #[] #[], .pointer (some ⟨gb, 0, none⟩)] W fun e W' => (∃ v, e = .returned v) ∧ (J 0 W' ∨ Jx W') := by
  have HJ : Hid _ := hJ
  have HY : Hid _ := hY
  have H0 : Hid (J m W) := h0
  have hcw := (hJ m W h0).1
  clear hJ hY h0
  refine callsIn_of_wp Try.func55 rfl trivial ?_ rfl
  simp only [Try.ntmps55, List.size_toArray, List.length_cons, List.length_nil, Nat.reduceAdd, Nat.reduceSub, Array.replicate_succ, Array.replicate_zero, List.push_toArray, List.append_toArray, List.nil_append, List.cons_append]
  gi_wp2
  gi_loopw [3] (fun i wr => ∃ j : Nat, i = .int .i64 ((j : Int) - 1) ∧ j ≤ m ∧ Hid (J j wr)) (fun i _ => (intOf i + 1).toNat)
  case atStart => exact ⟨m, rfl, by omega, H0.out⟩
  case round =>
    obtain ⟨j1, rfl, hk, HJ1⟩ := hrel
    obtain ⟨hc1, hax1⟩ := HJ.out _ _ HJ1.out
    have HAX : Hid _ := hax1
    clear hcw hax1
    cases j1 with
    | succ j =>
      obtain ⟨g, o, x, rfl, hx, hok, c0, c1, c2, c3⟩ := HAX.out.at (show j < m by omega)
      obtain ⟨fn, tmps, assign, body, hy, hR⟩ := HY.out j wr x (by omega) HJ1.out hx
      rw [axV_eq] at hy
      have HR : Hid _ := hR
      have HD : Hid (Fence.wide.depth.isSome = true → 1 ≤ n) := fun h => by simp [Fence.wide] at h
      have e0 : ((j + 1 : Nat) : Int) - 1 = (j : Int) := by omega
      rw [e0]
      have hjn : (0 : Int) ≤ (j : Int) := by omega
      have hjm : (j : Int) < (m : Int) := by omega
      clear hR hx hok
      gi_wp2_with fail
      refine ⟨HD.out, ?_⟩
      refine RoundIn.mono HR.out ?_
      rintro e W3 (⟨rfl, hj3⟩ | ⟨rfl, hj3⟩)
      · have HJ3 : Hid (J j W3) := hj3
        clear hj3
        gi_wp2
        go_roundw
        case rel => exact ⟨j, by simp, by omega, HJ3.out⟩
        case measure => simp [intOf]
      · have HJ3 : Hid (Jx W3) := hj3
        clear hj3
        gi_wp2
        refine bodyPost_ret (results_none rfl _ _ _) rfl ?_
        exact ⟨⟨_, rfl⟩, .inr HJ3.out⟩
    | zero =>
      gi_wp2
      go_end0
      exact ⟨⟨_, rfl⟩, .inl HJ1.out⟩
/-- How a round may be left: on, or by the label's exit. -/
def roundE (B : Nat) (id : Nat) (I X : World → Prop) (W2 : World) : Exit → Act → World → Prop
  | .normal, _, W3 => W3.heap[B]? = W2.heap[B]? ∧ W3.heap[B + 1]? = W2.heap[B + 1]? ∧ I W3
  | .exit e, _, W3 => e = id ∧ W3.heap[B]? = W2.heap[B]? ∧ W3.heap[B + 1]? = W2.heap[B + 1]? ∧ X W3
  | _, _, _ => False
theorem wpIn_back {g : Operand} {p1 p2 : Tmp} {assign body : Code} {Q : Exit → Act → World → Prop} {a : Act} {w : World} (n id gb : Nat) (ao : Option Addr) (m cap : Nat) (A : List Ax) (hm4 : m ≤ 4)
    (hg : a.eval g = .func (.func 55) #[] #[.pointer (some ⟨gb, 0, none⟩)])
    (I : Nat → World → Prop) (X : World → Prop)
    (hIr : ∀ j W, I j W → W.cell? ⟨gb, 0, none⟩ = some (.slice ao m cap) ∧ Axs W (.slice ao m cap) A)
    (hIl : ∀ j W W', I j W → Kp (fun i => i = w.heap.size + 1) W W' → I j W')
    (hXl : ∀ W W', X W → Kp (fun i => i = w.heap.size + 1) W W' → X W')
    (h0 : ∀ W', Below w.heap.size w W' → I m W')
    (hround : ∀ j W x, j < m → I (j + 1) W → w.heap.size + 2 ≤ W.heap.size → A[j]? = some x →
      assign.wpIn (Fence.wide.inRound (w.heap.size + 1)) (n - 1 - 1) Try.prog (Exit.then (fun a1 Wa => Below W.heap.size W Wa ∧ ∀ W2, Kp (fun i => i = w.heap.size + 1) Wa W2 → body.wpIn (Fence.wide.inRound (w.heap.size + 1)) (n - 1 - 1) Try.prog (roundE w.heap.size id (I j) X W2) a1 W2) (fun _ _ _ => False))
        { tmps := (a.tmps.setIfInBounds p1 (.int .i64 (j : Int))).setIfInBounds p2 (axV x), defers := [] } W)
    (hdone : ∀ W, I 0 W → W.heap[w.heap.size]? = some (.deferred (some [])) → Q .normal { a with defers := { target := .collected w.heap.size, args := #[] } :: a.defers } W)
    (hstop : ∀ W, X W → W.heap[w.heap.size]? = some (.deferred (some [])) → Q (.exit id) { a with defers := { target := .collected w.heap.size, args := #[] } :: a.defers } W) :
    (Code.rangeFunc g #[p1, p2] assign body).wpIn Fence.wide n Try.prog Q a w := by
  refine wpIn_rangeFunc ?_
  intro fn hfn
  obtain ⟨R, hR⟩ : ∃ R : LoopState → Option Code → Loop, R = fun st pe => { state := st, pending := pe, fn, tmps := a.tmps, params := #[p1, p2], assign, body, defers := w.heap.size } := ⟨_, rfl⟩
  obtain ⟨W1, hW1⟩ : ∃ W1, (w.alloc (.deferred (some []))).alloc (.loop (R .ready none)) = W1 := ⟨_, rfl⟩
  have hL1 : W1.heap[w.heap.size + 1]? = some (.loop (R .ready none)) := by
    rw [← hW1]; have := World.alloc_heap_new (w.alloc (.deferred (some []))) (.loop (R .ready none)); rwa [World.size_alloc] at this
  have hK1 : W1.heap[w.heap.size]? = some (.deferred (some [])) := by
    rw [← hW1]; exact (Below.heap_alloc _ _ _ (by simp)).trans (World.alloc_heap_new w _)
  have hB1 : Below w.heap.size w W1 := by rw [← hW1]; exact ((Below.refl _ w).alloc (Nat.le_refl _) _).alloc (by simp) _
  refine ⟨w.heap.size + 1, [{ target := .collected w.heap.size, args := #[] }], W1, { target := .fn (.func 55) #[.pointer (some ⟨gb, 0, none⟩)], args := #[.func (.yield (w.heap.size + 1)) #[] #[]] }, W1, 55,
    #[.func (.yield (w.heap.size + 1)) #[] #[]] ++ #[.pointer (some ⟨gb, 0, none⟩)], W1, ?_, ?_, fun _ _ => trivial, ?_, fun h => by simp [Fence.wide] at h, ?_⟩
  · rw [← hW1, hR]; exact run_enterLoop_outer _ _ _ _ _
  · simp only [resolve, hg]
    simp [go_sem]
  · simp [invoke, go_sem]
  · refine (back_in (n - 1) (w.heap.size + 1) gb ao m cap A
      (fun k W => I k W ∧ W.heap[w.heap.size + 1]? = some (.loop (R .ready none)) ∧ W.heap[w.heap.size]? = some (.deferred (some [])))
      (fun W => X W ∧ W.heap[w.heap.size + 1]? = some (.loop (R .done (some (.exit id)))) ∧ W.heap[w.heap.size]? = some (.deferred (some []))) W1 (fun k W h => hIr k W h.1) ?_ ⟨h0 _ hB1, hL1, hK1⟩ hm4).mono ?_
    · rintro j W x hj ⟨hi, hl, hd⟩ hx
      have hlWl : w.heap.size + 1 < W.heap.size := (Array.getElem?_eq_some_iff.1 hl).1
      have hy := run_yield (P := Try.prog) (args := #[.int .i64 (j : Int), axV x]) hl (by rw [hR]; rfl)
      rw [hR] at hy
      refine ⟨fn, (a.tmps.setIfInBounds p1 (.int .i64 (j : Int))).setIfInBounds p2 (axV x), assign, body, by simpa using hy, roundIn_of_wpIn hfn ?_⟩
      refine wpIn_mono (hround j W x hj hi (by omega) hx) ?_
      rintro e a1 Wa he
      cases e with
      | normal =>
        obtain ⟨hba, hbody⟩ := he
        have hlA : Wa.heap[w.heap.size + 1]? = some (.loop (R .ready none)) := (hba.block _ hlWl).trans hl
        have hdA : Wa.heap[w.heap.size]? = some (.deferred (some [])) := (hba.block _ (by omega)).trans hd
        have hltA : w.heap.size + 1 < Wa.heap.size := (Array.getElem?_eq_some_iff.1 hlA).1
        refine ⟨_, run_beginRound hlA (by rw [hR]), ?_⟩
        have hl2 : (Wa.putObj (w.heap.size + 1) (.loop { R .ready none with state := .busy })).heap[w.heap.size + 1]? = some (.loop { R .ready none with state := .busy }) := World.putObj_heap_same hltA
        have hd2 : (Wa.putObj (w.heap.size + 1) (.loop { R .ready none with state := .busy })).heap[w.heap.size]? = some (.deferred (some [])) := (World.putObj_heap_other (by omega)).trans hdA
        refine wpIn_mono (hbody _ (kp_putObj _ _ _)) ?_
        rintro e3 a3 W3 hp
        cases e3 with
        | normal =>
          obtain ⟨k1, k2, k3⟩ := hp
          have hl3 := k2.trans hl2
          have hd3 := k1.trans hd2
          have hr3 := run_endRound (P := Try.prog) none hl3
          rw [hR] at hr3
          refine ⟨_, _, hr3, .inl ⟨rfl, hIl _ _ _ k3 (kp_putObj _ _ _), ?_, (World.putObj_heap_other (by omega)).trans hd3⟩⟩
          rw [hR]
          exact World.putObj_heap_same (Array.getElem?_eq_some_iff.1 hl3).1
        | exit id' =>
          obtain ⟨rfl, k1, k2, k3⟩ := hp
          have hl3 := k2.trans hl2
          have hd3 := k1.trans hd2
          have hr3 := run_endRound (P := Try.prog) (some (.exit id')) hl3
          rw [hR] at hr3
          refine ⟨_, _, hr3, .inr ⟨rfl, hXl _ _ k3 (kp_putObj _ _ _), ?_, (World.putObj_heap_other (by omega)).trans hd3⟩⟩
          rw [hR]
          exact World.putObj_heap_same (Array.getElem?_eq_some_iff.1 hl3).1
        | ret => exact hp.elim
        | goto t => exact hp.elim
        | panic ch => exact hp.elim
        | outgrown => exact hp.elim
      | ret => exact he.elim
      | exit id => exact he.elim
      | goto t => exact he.elim
      | panic ch => exact he.elim
      | outgrown => exact he.elim
    · rintro e W2 ⟨⟨v, rfl⟩, (⟨hi, hl, hd⟩ | ⟨hi, hl, hd⟩)⟩
      · have hr := run_endLoop (P := Try.prog) hl (by rw [hR]; simp)
        rw [hR] at hr
        exact ⟨none, _, hr, hdone _ (hIl _ _ _ hi (kp_putObj _ _ _)) ((World.putObj_heap_other (by omega)).trans hd)⟩
      · have hr := run_endLoop (P := Try.prog) hl (by rw [hR]; simp)
        rw [hR] at hr
        exact ⟨some (.exit id), _, hr, wpIn_exit (hstop _ (hXl _ _ hi (kp_putObj _ _ _)) ((World.putObj_heap_other (by omega)).trans hd))⟩
end Go.Proofs.Ytnikbcljonbpcaa
