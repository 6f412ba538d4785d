/-
  The statement that ranges over the pieces, as one law: the body is walked once, over whatever memory the piece lies in; what it keeps goes on to the next round.
-/
import Derived.Test.YtkiccnedmejnaaaDoorIter
namespace Go.Proofs.YtkiccnedmejnaaaDoor
open Go.RowKit Go.Shelf
set_option linter.unusedVariables false
set_option maxRecDepth 100000

/-- How a round may be left: the loop's own two blocks stand, and it goes on, or the function returns. -/
def roundQ (B : Nat) (I : Nat → World → Prop) (Ix : World → Prop) (k : Nat) (W2 : World) : Exit → Act → World → Prop
  | .normal, _, W3 => W3.heap[B]? = W2.heap[B]? ∧ W3.heap[B + 1]? = W2.heap[B + 1]? ∧ I (k + 1) W3
  | .ret, _, W3 => W3.heap[B]? = W2.heap[B]? ∧ W3.heap[B + 1]? = W2.heap[B + 1]? ∧ Ix W3
  | _, _, _ => False

theorem chg_putObj (W : World) (l : Nat) (o : Obj) : Chg (fun i => i = l) W (W.putObj l o) := Chg.of_grown (grownBy_putObj' W l o) (fun k e => by cases e; rfl)

theorem wpIn_pieces {g : Operand} {pt : Tmp} {assign body : Code} {Q : Exit → Act → World → Prop} {a : Act} {w : World} (n Bb Ba q : Nat) (x : List Int) (bv : Value) (h1 : 3 ≤ n)
    (hg : a.eval g = .func (.func 59) #[] #[.pointer (some ⟨Bb, 0, none⟩), .pointer (some ⟨Ba, 0, none⟩)])
    (hx : x.length ≤ 4194304) (hq : q ≤ 4194304)
    (I : Nat → World → Prop) (Ix : World → Prop) (hI : ∀ k W W', I k W → Chg (fun i => i = w.heap.size + 1 ∨ i = w.heap.size) W W' → I k W') (hIx : ∀ W W', Ix W → Chg (fun i => i = w.heap.size + 1 ∨ i = w.heap.size) W W' → Ix W')
    (hIr : ∀ k W, I k W → W.cell? ⟨Bb, 0, none⟩ = some bv ∧ W.cell? ⟨Ba, 0, none⟩ = some (.int .i64 (q : Int)) ∧ Bs W bv x) (h0 : I 0 w)
    (hround : ∀ k W0 W v, 16 * k < x.length → I k W0 → w.heap.size + 2 ≤ W0.heap.size → Below W0.heap.size W0 W → Bs W v ((x.drop (16 * k)).take 16) → (∀ g, v.ownBlock = some g → W0.heap.size ≤ g ∧ g < W.heap.size) →
      assign.wpIn (Fence.wide.inRound (w.heap.size + 1)) (n - 1 - 1) Tryd.prog (Exit.then (fun a1 Wa => Below W.heap.size W Wa ∧ ∀ W2, Chg (fun i => i = w.heap.size + 1) Wa W2 → body.wpIn (Fence.wide.inRound (w.heap.size + 1)) (n - 1 - 1) Tryd.prog (roundQ w.heap.size I Ix k W2) a1 W2) (fun _ _ _ => False))
        { tmps := a.tmps.setIfInBounds pt (.agg #[.int .i64 ((q + 16 * k : Nat) : Int), v]), defers := [] } W)
    (hdone : ∀ k W, x.length ≤ 16 * k → 16 * k < x.length + 16 → I k W → W.heap[w.heap.size]? = some (.deferred (some [])) → Q .normal { a with defers := { target := .collected w.heap.size, args := #[] } :: a.defers } W)
    (hstop : ∀ W, Ix W → W.heap[w.heap.size]? = some (.deferred (some [])) → Code.ret.wpIn Fence.wide n Tryd.prog Q { a with defers := { target := .collected w.heap.size, args := #[] } :: a.defers } W) :
    (Code.rangeFunc g #[pt] assign body).wpIn Fence.wide n Tryd.prog Q a w := by
  refine wpIn_rangeFunc ?_
  intro fn hfn
  obtain ⟨R, hR⟩ : ∃ R : LoopState → Option Code → Loop, R = fun st pe => { state := st, pending := pe, fn, tmps := a.tmps, params := #[pt], assign, body, defers := w.heap.size } := ⟨_, rfl⟩
  obtain ⟨W1, hW1⟩ : ∃ W1, (w.alloc (.deferred (some []))).alloc (.loop (R .ready none)) = W1 := ⟨_, rfl⟩
  have hL1 : W1.heap[w.heap.size + 1]? = some (.loop (R .ready none)) := by
    rw [← hW1]; have := World.alloc_heap_new (w.alloc (.deferred (some []))) (.loop (R .ready none)); rwa [World.size_alloc] at this
  have hK1 : W1.heap[w.heap.size]? = some (.deferred (some [])) := by
    rw [← hW1]; exact (Below.heap_alloc _ _ _ (by simp)).trans (World.alloc_heap_new w _)
  have hB1 : Below w.heap.size w W1 := by rw [← hW1]; exact ((Below.refl _ w).alloc (Nat.le_refl _) _).alloc (by simp) _
  refine ⟨w.heap.size + 1, [{ target := .collected w.heap.size, args := #[] }], W1, { target := .fn (.func 59) #[.pointer (some ⟨Bb, 0, none⟩), .pointer (some ⟨Ba, 0, none⟩)], args := #[.func (.yield (w.heap.size + 1)) #[] #[]] }, W1, 59,
    #[.func (.yield (w.heap.size + 1)) #[] #[]] ++ #[.pointer (some ⟨Bb, 0, none⟩), .pointer (some ⟨Ba, 0, none⟩)], W1, ?_, ?_, fun _ _ => trivial, ?_, fun _ => by omega, ?_⟩
  · rw [← hW1, hR]; exact run_enterLoop_outer _ _ _ _ _
  · simp only [resolve, hg]
    simp [go_sem]
  · simp [invoke, go_sem]
  · refine (pieces1_in (n - 1) (w.heap.size + 1) Bb Ba q x bv
      (fun k W => I k W ∧ W.heap[w.heap.size + 1]? = some (.loop (R .ready none)) ∧ W.heap[w.heap.size]? = some (.deferred (some [])))
      (fun _ W => Ix W ∧ W.heap[w.heap.size + 1]? = some (.loop (R .done (some .ret))) ∧ W.heap[w.heap.size]? = some (.deferred (some []))) (by omega) ?_ (fun k W h => hIr k W h.1) hx hq W1 ⟨hI _ _ _ h0 (Chg.of_below hB1), hL1, hK1⟩).mono ?_
    · rintro k W0 W v hk ⟨hi, hl, hd⟩ hb hbs hv
      have hlt : w.heap.size + 1 < W0.heap.size := (Array.getElem?_eq_some_iff.1 hl).1
      have hlW : W.heap[w.heap.size + 1]? = some (.loop (R .ready none)) := (hb.block _ hlt).trans hl
      have hdW : W.heap[w.heap.size]? = some (.deferred (some [])) := (hb.block _ (by omega)).trans hd
      have hy := run_yield (P := Tryd.prog) (args := #[.agg #[.int .i64 ((q + 16 * k : Nat) : Int), v]]) hlW (by rw [hR]; rfl)
      rw [hR] at hy
      refine ⟨fn, a.tmps.setIfInBounds pt (.agg #[.int .i64 ((q + 16 * k : Nat) : Int), v]), assign, body, by simpa using hy, roundIn_of_wpIn hfn ?_⟩
      refine wpIn_mono (hround k W0 W v hk hi (by omega) hb hbs hv) ?_
      rintro e a1 Wa he
      cases e with
      | normal =>
        obtain ⟨hba, hbody⟩ := he
        have hlWl : w.heap.size + 1 < W.heap.size := (Array.getElem?_eq_some_iff.1 hlW).1
        have hlA : Wa.heap[w.heap.size + 1]? = some (.loop (R .ready none)) := (hba.block _ hlWl).trans hlW
        have hdA : Wa.heap[w.heap.size]? = some (.deferred (some [])) := (hba.block _ (by omega)).trans hdW
        have hltA : w.heap.size + 1 < Wa.heap.size := (Array.getElem?_eq_some_iff.1 hlA).1
        refine ⟨_, run_beginRound hlA (by rw [hR]), ?_⟩
        have hl2 : (Wa.putObj (w.heap.size + 1) (.loop { R .ready none with state := .busy })).heap[w.heap.size + 1]? = some (.loop { R .ready none with state := .busy }) := World.putObj_heap_same hltA
        have hd2 : (Wa.putObj (w.heap.size + 1) (.loop { R .ready none with state := .busy })).heap[w.heap.size]? = some (.deferred (some [])) := (World.putObj_heap_other (by omega)).trans hdA
        refine wpIn_mono (hbody _ (chg_putObj _ _ _)) ?_
        rintro e3 a3 W3 hp
        cases e3 with
        | normal =>
          obtain ⟨k1, k2, k3⟩ := hp
          have hl3 := k2.trans hl2
          have hd3 := k1.trans hd2
          have hr3 := run_endRound (P := Tryd.prog) none hl3
          rw [hR] at hr3
          refine ⟨_, _, hr3, .inl ⟨rfl, hI _ _ _ k3 ((chg_putObj _ _ _).mono (fun i e => .inl e)), ?_, (World.putObj_heap_other (by omega)).trans hd3⟩⟩
          rw [hR]
          exact World.putObj_heap_same (Array.getElem?_eq_some_iff.1 hl3).1
        | ret =>
          obtain ⟨k1, k2, k3⟩ := hp
          have hl3 := k2.trans hl2
          have hd3 := k1.trans hd2
          have hr3 := run_endRound (P := Tryd.prog) (some .ret) hl3
          rw [hR] at hr3
          refine ⟨_, _, hr3, .inr ⟨rfl, hIx _ _ k3 ((chg_putObj _ _ _).mono (fun i e => .inl e)), ?_, (World.putObj_heap_other (by omega)).trans hd3⟩⟩
          rw [hR]
          exact World.putObj_heap_same (Array.getElem?_eq_some_iff.1 hl3).1
        | exit id => exact hp.elim
        | goto t => exact hp.elim
        | panic ch => exact hp.elim
        | outgrown => exact hp.elim
      | ret => exact he.elim
      | exit id => exact he.elim
      | goto t => exact he.elim
      | panic ch => exact he.elim
      | outgrown => exact he.elim
    · rintro e W2 ⟨⟨v, rfl⟩, (⟨k, hk1, hk2, hi, hl, hd⟩ | ⟨k, hi, hl, hd⟩)⟩
      · have hr := run_endLoop (P := Tryd.prog) hl (by rw [hR]; simp)
        rw [hR] at hr
        exact ⟨none, _, hr, hdone k _ hk1 hk2 (hI _ _ _ hi ((chg_putObj _ _ _).mono (fun i e => .inl e))) ((World.putObj_heap_other (by omega)).trans hd)⟩
      · have hr := run_endLoop (P := Tryd.prog) hl (by rw [hR]; simp)
        rw [hR] at hr
        exact ⟨some .ret, _, hr, hstop _ (hIx _ _ hi ((chg_putObj _ _ _).mono (fun i e => .inl e))) ((World.putObj_heap_other (by omega)).trans hd)⟩
end Go.Proofs.YtkiccnedmejnaaaDoor
