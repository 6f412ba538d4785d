/-
  The document's Of and Chunks. Conditions: lengths are such as memory bears.
-/
import Derived.Test.YtneegijbbbebkabGOf
namespace Go.Proofs.Ytneegijbbbebkab
open Go.RowKit Go.Shelf
set_option linter.unusedVariables false
set_option maxRecDepth 100000

theorem step_push_intD (d : Nat) {ops : Array Oper} {o : Oper} {a : Act} {w : World} {K : Act → World → Prop} {Q : Exit → Act → World → Prop} {E : Prop}
    (hd : o.dst = some d) (hgd : o.guard = none) (s x : Operand) (hop : o.op = Op.call { callee := Callee.builtin Builtin.append, args := #[s, x], argTypes := #[23, 23] })
    (B : Nat) (v : Value) (l : List Int) (n : Nat) (hn : l.length = n) (g : Nat) (y : Int) (hs : a.eval s = v) (hx : a.eval x = .slice (some ⟨g, 0, none⟩) 1 1) (h : OwnI w B v l) (hg : w.heap[g]? = some (.cells #[.int .i64 y] 3 (0, 0))) (hb : n ≤ 1000000000) (hB : B ≤ w.heap.size)
    (hK : ∀ g' cap w', OwnI w' B (.slice (some ⟨g', 0, none⟩) (n + 1) cap) (l ++ [y]) → w.grownBy w' v.ownBlock → (v.ownBlock = some g' ∨ g' = w.heap.size) → K (a.put (some d) (.slice (some ⟨g', 0, none⟩) (n + 1) cap)) w') :
    if Region.wanted o (yielded ops a.tmps) = true then Oper.wp Try.prog o a w K Q else E := by
  refine step_push_int hgd s x hop B v l n hn g y hs hx h hg hb hB ?_
  rw [hd]
  exact hK
theorem prd_le_pow {b : Int} (hb : 1 ≤ b) : ∀ {l : List Int}, (∀ x ∈ l, 0 ≤ x ∧ x ≤ b) → 0 ≤ prd l ∧ prd l ≤ b ^ l.length
  | [], _ => by simp [prd]
  | x :: l, h => by
    have hx := h x (by simp)
    obtain ⟨h1, h2⟩ := prd_le_pow hb (l := l) (fun y hy => h y (by simp [hy]))
    rw [prd, List.length_cons, Int.pow_succ, Int.mul_comm (b ^ l.length)]
    exact ⟨Int.mul_nonneg hx.1 h1, Int.mul_le_mul hx.2 h2 h1 (by omega)⟩
theorem cntL_bd {D S : List Int} (hl : D.length ≤ 4) (he : elE D = 0) (hsl : S.length = D.length) (hs : ∀ x ∈ S, 1 ≤ x) (i : Nat) : 0 ≤ prd ((cntL D S).take i) ∧ prd ((cntL D S).take i) ≤ 1152921504606846976 := by
  have hd := (dims_of (elE_ok he).1).2
  by_cases h0 : (0 : Int) ∈ D
  · have hel : ∀ x ∈ cntL D S, 0 ≤ x ∧ x ≤ 1048576 := fun x hx => by
      obtain ⟨j, hj⟩ := List.getElem?_of_mem hx
      rw [cntL, List.getElem?_zipWith] at hj
      cases h1 : D[j]? with
      | none => rw [h1] at hj; simp at hj
      | some a =>
        cases h2 : S[j]? with
        | none => rw [h1, h2] at hj; simp at hj
        | some s =>
          rw [h1, h2] at hj
          have p1 := hd a (List.mem_of_getElem? h1)
          have p2 := hs s (List.mem_of_getElem? h2)
          have := cnt_le (n := a) (s := s) p1.1 p2
          simp only [Option.some.injEq] at hj
          omega
    by_cases hi : i ≤ 3
    · have h1 := prd_le_pow (b := 1048576) (by omega) (l := (cntL D S).take i) (fun x hx => hel x (List.mem_of_mem_take hx))
      have h2 : ((cntL D S).take i).length ≤ 3 := by rw [List.length_take]; omega
      refine ⟨h1.1, ?_⟩
      have h3 : ∀ k : Nat, k ≤ 3 → (1048576 : Int) ^ k ≤ 1152921504606846976 := fun k hk => by
        match k, hk with
        | 0, _ => decide
        | 1, _ => decide
        | 2, _ => decide
        | 3, _ => decide
      have := h3 _ h2
      omega
    · have h1 : (cntL D S).length ≤ i := by rw [cntL, List.length_zipWith]; omega
      rw [List.take_of_length_le h1, cntL_zero hsl hs h0]
      omega
  · have h1 := cntL_take_le (D := D) (S := S) (fun x hx => by have := hd x hx; have : x ≠ 0 := fun e => h0 (e ▸ hx); omega) hs i
    have h2 := prd_take_le (D := D) (fun x hx => by have := hd x hx; have : x ≠ 0 := fun e => h0 (e ▸ hx); omega) i
    have h3 := (elE_ok he).2
    omega
end Go.Proofs.Ytneegijbbbebkab
