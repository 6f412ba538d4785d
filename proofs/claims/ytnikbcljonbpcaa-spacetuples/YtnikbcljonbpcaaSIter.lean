/-
  Iterators that tell all their things to a loop whose body goes on: what the iterator may turn, what the body may turn, and the statement that ranges over it. No conditions.
-/
import Derived.Test.YtnikbcljonbpcaaSSel
import Derived.RangeFuncNested
import Derived.RangeFuncBound
import Derived.RangeFuncCalls
import Derived.RangeFuncLeaves
import Derived.Shelf.RegionOpen
import Derived.OwnWalkIn
import Derived.TacticsInMore
import Derived.LoopNIn
import Derived.LoopIn
import Derived.Scope
namespace Go.Proofs.Ytnikbcljonbpcaa
open Go.RowKit Go.Shelf
set_option linter.unusedVariables false
set_option maxRecDepth 100000

/-- What an iterator may have done between two rounds: its own blocks lie from B0 to B1; of what came later it turns no cells. -/
structure Mv (B0 B1 : Nat) (w w' : World) : Prop where
  os : w'.os = w.os
  tape : w'.tape = w.tape
  output : w'.output = w.output
  size : w.heap.size ≤ w'.heap.size
  low : ∀ x, x < B0 → x < w.heap.size → w'.heap[x]? = w.heap[x]?
  high : ∀ (x : Nat) (o : Obj), B1 ≤ x → w.heap[x]? = some o → o.isCells = true → w'.heap[x]? = some o
theorem Mv.refl (B0 B1 : Nat) (w : World) : Mv B0 B1 w w := ⟨rfl, rfl, rfl, Nat.le_refl _, fun _ _ _ => rfl, fun _ _ _ h _ => h⟩
theorem Mv.trans {B0 B1 : Nat} {w w' w'' : World} (h : Mv B0 B1 w w') (k : Mv B0 B1 w' w'') : Mv B0 B1 w w'' :=
  ⟨k.os.trans h.os, k.tape.trans h.tape, k.output.trans h.output, Nat.le_trans h.size k.size, fun x hx hs => (k.low x hx (Nat.lt_of_lt_of_le hs h.size)).trans (h.low x hx hs), fun x o hx ho hc => k.high x o hx (h.high x o hx ho hc) hc⟩
theorem Mv.of_below {B0 B1 : Nat} {w w' : World} (h : Below w.heap.size w w') : Mv B0 B1 w w' :=
  ⟨h.os, h.tape, h.output, h.size, fun x _ hs => h.block x hs, fun x o _ ho _ => (h.block x (Array.getElem?_eq_some_iff.1 ho).1).trans ho⟩
theorem Mv.of_kp {B0 B1 : Nat} {F : Nat → Prop} {w w' : World} (h : Kp F w w') (hF : ∀ x, F x → B0 ≤ x ∧ x < B1) : Mv B0 B1 w w' :=
  ⟨h.os, h.tape, h.output, h.size, fun x hx hs => h.block x hs (fun e => by have := hF x e; omega), fun x o hx ho _ => (h.block x (Array.getElem?_eq_some_iff.1 ho).1 (fun e => by have := hF x e; omega)).trans ho⟩
theorem Mv.put {B0 B1 : Nat} {w : World} {r : Nat} {o o' : Obj} (hr : B0 ≤ r) (ho : w.heap[r]? = some o) (hc : o.isCells = false) : Mv B0 B1 w (w.putObj r o') :=
  ⟨rfl, rfl, rfl, by simp [World.putObj], fun x hx _ => World.putObj_heap_other (by omega), fun x p hx hp hpc => by
    rw [World.putObj_heap_other]
    · exact hp
    · intro e
      subst e
      rw [ho] at hp
      injection hp with e
      subst e
      rw [hc] at hpc
      cases hpc⟩
/-- What a body keeps: every block from B0 on. -/
structure Keep (B0 : Nat) (w w' : World) : Prop where
  size : w.heap.size ≤ w'.heap.size
  block : ∀ x, B0 ≤ x → x < w.heap.size → w'.heap[x]? = w.heap[x]?
theorem Keep.refl (B0 : Nat) (w : World) : Keep B0 w w := ⟨Nat.le_refl _, fun _ _ _ => rfl⟩
theorem Keep.trans {B0 : Nat} {w w' w'' : World} (h : Keep B0 w w') (k : Keep B0 w' w'') : Keep B0 w w'' :=
  ⟨Nat.le_trans h.size k.size, fun x hx hs => (k.block x hx (Nat.lt_of_lt_of_le hs h.size)).trans (h.block x hx hs)⟩
theorem Keep.of_kp {B0 : Nat} {F : Nat → Prop} {w w' : World} (h : Kp F w w') (hF : ∀ x, F x → x < B0) : Keep B0 w w' :=
  ⟨h.size, fun x hx hs => h.block x hs (fun e => by have := hF x e; omega)⟩
theorem Keep.of_below {B0 : Nat} {w w' : World} (h : Below w.heap.size w w') : Keep B0 w w' := ⟨h.size, fun x _ hs => h.block x hs⟩
theorem kp_putObj (W : World) (l : Nat) (o : Obj) : Kp (fun i => i = l) W (W.putObj l o) :=
  ⟨rfl, rfl, rfl, by simp [World.putObj], fun x _ hx => World.putObj_heap_other hx⟩
def mk (r : Nat) : Deferred := { target := .collected r, args := #[] }
/-- A loop with a ghost. -/
theorem wpIn_loop_ghost {F : Fence} {n : Nat} {P : Program} {Q : Exit → Act → World → Prop} {a : Act} {w : World} {c : Code} (Inv : Nat → Act → World → Prop) (N : Nat) (h0 : 0 < N) (hi : Inv 0 a w)
    (round : ∀ k a w, k < N → Inv k a w → c.wpIn F n P (Exit.then (fun a' w' => k + 1 < N ∧ Inv (k + 1) a' w') Q) a w) : (Code.loop c).wpIn F n P Q a w := by
  have key : ∀ m k a w, k < N → N ≤ k + m → Inv k a w → Code.roundsIn F n P c Q m a w := by
    intro m
    induction m with
    | zero => intro k a w h1 h2; omega
    | succ m ih =>
      intro k a w h1 h2 h3
      rw [roundsIn_succ]
      refine wpIn_mono (round k a w h1 h3) ?_
      intro e a' w' he
      cases e with
      | normal => exact ih (k + 1) a' w' he.1 (by omega) he.2
      | exit id => exact he
      | goto t => exact he
      | ret => exact he
      | panic ch => exact he
      | outgrown => exact he
  exact wpIn_loop_rounds N (key N 0 a w h0 (by omega) hi)
/-- An iterator that tells N things, if nobody stops it. -/
def Gives (f : FuncId) (caps : Array Value) (N : Nat) (Arg : Nat → World → Array Value → Prop) (w0 : World) : Prop :=
  ∀ (n l : Nat) (J : Nat → Nat → World → Prop) (W : World), Below w0.heap.size w0 W →
    (∀ W', Below W.heap.size W W' → J W'.heap.size 0 W') →
    (∀ B1 k W1 W2, J B1 k W1 → Mv W.heap.size B1 W1 W2 → J B1 k W2) →
    (∀ B1 k W1, J B1 k W1 → Below w0.heap.size w0 W1) →
    (∀ B1 k W1 as', k < N → J B1 k W1 → W.heap.size ≤ B1 → B1 ≤ W1.heap.size → Arg k W1 as' → YieldAt Fence.wide (n - 1) Try.prog l as' W1 fun e W2 => e = .returned (.bool true) ∧ Keep W.heap.size W1 W2 ∧ J B1 (k + 1) W2) →
    CallsIn Fence.wide n Try.prog f (#[.func (.yield l) #[] #[]] ++ caps) W fun e W' => (∃ v, e = .returned v) ∧ ∃ B1, J B1 N W'
/-- How a round may be left. -/
def roundA (B : Nat) (I : World → Prop) (W2 : World) : Exit → Act → World → Prop
  | .normal, _, W3 => W3.heap[B]? = W2.heap[B]? ∧ W3.heap[B + 1]? = W2.heap[B + 1]? ∧ Keep (B + 2) W2 W3 ∧ I W3
  | _, _, _ => False
theorem wpIn_all {g : Operand} {pt : Tmp} {assign body : Code} {Q : Exit → Act → World → Prop} {a : Act} {w : World} (n : Nat) (f : FuncId) (caps : Array Value) (N : Nat) (Arg : Nat → World → Value → Prop) (w0 : World)
    (eg : ∀ args w, (callFunc f args).run Try.prog w = .ok (.enter f args) w)
    (hG : Gives f caps N (fun k W as' => ∃ v, as' = #[v] ∧ Arg k W v) w0) (hb0 : Below w0.heap.size w0 w) (hg : a.eval g = .func (.func f) #[] caps)
    (I : Nat → Nat → World → Prop)
    (hI : ∀ B1 k W W', I B1 k W → Mv (w.heap.size + 2) B1 W W' → I B1 k W')
    (hIl : ∀ B1 k W W', I B1 k W → Kp (fun i => i = w.heap.size + 1) W W' → I B1 k W')
    (hIr : ∀ B1 k W, I B1 k W → Below w0.heap.size w0 W)
    (h0 : ∀ W', Below w.heap.size w W' → I W'.heap.size 0 W')
    (hround : ∀ B1 k W v, k < N → I B1 k W → w.heap.size + 2 ≤ B1 → B1 ≤ W.heap.size → Arg k W v → (∃ r, W.heap[w.heap.size + 1]? = some (.loop r)) →
      assign.wpIn (Fence.wide.inRound (w.heap.size + 1)) (n - 1 - 1) Try.prog (Exit.then (fun a1 Wa => Below W.heap.size W Wa ∧ ∀ W2, Kp (fun i => i = w.heap.size + 1) Wa W2 → body.wpIn (Fence.wide.inRound (w.heap.size + 1)) (n - 1 - 1) Try.prog (roundA w.heap.size (I B1 (k + 1)) W2) a1 W2) (fun _ _ _ => False))
        { tmps := a.tmps.setIfInBounds pt v, defers := [] } W)
    (hdone : ∀ B1 W, I B1 N W → W.heap[w.heap.size]? = some (.deferred (some [])) → Q .normal { a with defers := { target := .collected w.heap.size, args := #[] } :: a.defers } W) :
    (Code.rangeFunc g #[pt] assign body).wpIn Fence.wide n Try.prog Q a w := by
  refine wpIn_rangeFunc ?_
  intro fn hfn
  obtain ⟨R, hR⟩ : ∃ R : LoopState → Option Code → Loop, R = fun st pe => { state := st, pending := pe, fn, tmps := a.tmps, params := #[pt], assign, body, defers := w.heap.size } := ⟨_, rfl⟩
  obtain ⟨W1, hW1⟩ : ∃ W1, (w.alloc (.deferred (some []))).alloc (.loop (R .ready none)) = W1 := ⟨_, rfl⟩
  have hL1 : W1.heap[w.heap.size + 1]? = some (.loop (R .ready none)) := by
    rw [← hW1]; have := World.alloc_heap_new (w.alloc (.deferred (some []))) (.loop (R .ready none)); rwa [World.size_alloc] at this
  have hK1 : W1.heap[w.heap.size]? = some (.deferred (some [])) := by
    rw [← hW1]; exact (Below.heap_alloc _ _ _ (by simp)).trans (World.alloc_heap_new w _)
  have hB1 : Below w.heap.size w W1 := by rw [← hW1]; exact ((Below.refl _ w).alloc (Nat.le_refl _) _).alloc (by simp) _
  have hs1 : W1.heap.size = w.heap.size + 2 := by rw [← hW1]; simp
  refine ⟨w.heap.size + 1, [{ target := .collected w.heap.size, args := #[] }], W1, { target := .fn (.func f) caps, args := #[.func (.yield (w.heap.size + 1)) #[] #[]] }, W1, f,
    #[.func (.yield (w.heap.size + 1)) #[] #[]] ++ caps, W1, ?_, ?_, fun _ _ => trivial, ?_, fun h => by simp [Fence.wide] at h, ?_⟩
  · rw [← hW1, hR]; exact run_enterLoop_outer _ _ _ _ _
  · simp only [resolve, hg]
    simp [go_sem]
  · simp [invoke, go_sem, eg]
  · refine (hG (n - 1) (w.heap.size + 1)
      (fun B1 k W => I B1 k W ∧ W.heap[w.heap.size + 1]? = some (.loop (R .ready none)) ∧ W.heap[w.heap.size]? = some (.deferred (some []))) W1 (hb0.trans (hB1.mono hb0.size)) ?_ ?_ ?_ ?_).mono ?_
    · intro W' hb
      exact ⟨h0 W' (hB1.trans (hb.mono hB1.size)), (hb.block _ (by omega)).trans hL1, (hb.block _ (by omega)).trans hK1⟩
    · rintro B1 k Wa Wb ⟨h1, h2, h3⟩ hm
      rw [hs1] at hm
      exact ⟨hI _ _ _ _ h1 hm, (hm.low _ (by omega) (Array.getElem?_eq_some_iff.1 h2).1).trans h2, (hm.low _ (by omega) (Array.getElem?_eq_some_iff.1 h3).1).trans h3⟩
    · rintro B1 k Wa ⟨h1, _, _⟩
      exact hIr _ _ _ h1
    · rintro B1 k W as' hk ⟨hi, hl, hd⟩ hB0 hBW ⟨v, rfl, harg⟩
      rw [hs1] at hB0 ⊢
      have hy := run_yield (P := Try.prog) (args := #[v]) hl (by rw [hR]; rfl)
      rw [hR] at hy
      refine ⟨fn, a.tmps.setIfInBounds pt v, assign, body, by simpa using hy, roundIn_of_wpIn hfn ?_⟩
      refine wpIn_mono (hround B1 k W v hk hi hB0 hBW harg ⟨_, hl⟩) ?_
      rintro e a1 Wa he
      cases e with
      | normal =>
        obtain ⟨hba, hbody⟩ := he
        have hlWl : w.heap.size + 1 < W.heap.size := (Array.getElem?_eq_some_iff.1 hl).1
        have hlA : Wa.heap[w.heap.size + 1]? = some (.loop (R .ready none)) := (hba.block _ hlWl).trans hl
        have hdA : Wa.heap[w.heap.size]? = some (.deferred (some [])) := (hba.block _ (by omega)).trans hd
        have hltA : w.heap.size + 1 < Wa.heap.size := (Array.getElem?_eq_some_iff.1 hlA).1
        refine ⟨_, run_beginRound hlA (by rw [hR]), ?_⟩
        have hl2 : (Wa.putObj (w.heap.size + 1) (.loop { R .ready none with state := .busy })).heap[w.heap.size + 1]? = some (.loop { R .ready none with state := .busy }) := World.putObj_heap_same hltA
        have hd2 : (Wa.putObj (w.heap.size + 1) (.loop { R .ready none with state := .busy })).heap[w.heap.size]? = some (.deferred (some [])) := (World.putObj_heap_other (by omega)).trans hdA
        refine wpIn_mono (hbody _ (kp_putObj _ _ _)) ?_
        rintro e3 a3 W3 hp
        cases e3 with
        | normal =>
          obtain ⟨k1, k2, k4, k3⟩ := hp
          have hl3 := k2.trans hl2
          have hd3 := k1.trans hd2
          have hr3 := run_endRound (P := Try.prog) none hl3
          rw [hR] at hr3
          refine ⟨_, _, hr3, rfl, ?_, hIl _ _ _ _ k3 (kp_putObj _ _ _), ?_, (World.putObj_heap_other (by omega)).trans hd3⟩
          · exact (((Keep.of_below hba).trans (Keep.of_kp (kp_putObj _ _ _) (fun x e => by omega))).trans k4).trans (Keep.of_kp (kp_putObj _ _ _) (fun x e => by omega))
          · rw [hR]
            exact World.putObj_heap_same (Array.getElem?_eq_some_iff.1 hl3).1
        | ret => exact hp.elim
        | exit id => exact hp.elim
        | goto t => exact hp.elim
        | panic ch => exact hp.elim
        | outgrown => exact hp.elim
      | ret => exact he.elim
      | exit id => exact he.elim
      | goto t => exact he.elim
      | panic ch => exact he.elim
      | outgrown => exact he.elim
    · rintro e W2 ⟨⟨v, rfl⟩, B1, hi, hl, hd⟩
      have hr := run_endLoop (P := Try.prog) hl (by rw [hR]; simp)
      rw [hR] at hr
      exact ⟨none, _, hr, hdone B1 _ (hIl _ _ _ _ hi (kp_putObj _ _ _)) ((World.putObj_heap_other (by omega)).trans hd)⟩
end Go.Proofs.Ytnikbcljonbpcaa
