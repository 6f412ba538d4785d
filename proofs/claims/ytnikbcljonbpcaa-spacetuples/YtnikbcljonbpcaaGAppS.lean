/-
  append of any slice that reads as cells onto a row of the call's own, nil or not. Conditions: lengths are such as memory bears.
-/
import Derived.Test.YtnikbcljonbpcaaGAppR
namespace Go.Proofs.Ytnikbcljonbpcaa
open Go.RowKit
set_option linter.unusedVariables false
set_option maxRecDepth 100000

/-- A slice of m elements of k cells that reads as ys. -/
def Rd (w : World) (u : Value) (m k : Nat) (ys : List Value) : Prop := ys.length = m * k ∧ ((u = .slice none 0 0 ∧ m = 0) ∨ ∃ ad cap, u = .slice (some ad) m cap ∧ ∀ j y, ys[j]? = some y → w.cell? (ad.add j) = some y)
theorem run_append_S {P : Program} (w : World) (t ty T : TypeId) (i : TypeInfo) (h1 : P.underlying t = some (.slice T)) (h2 : P.info? T = some i) (z : Value) (h3 : i.zero = some z) (k bytes : Nat) (h4 : i.size = k) (h5 : i.bytes = bytes) (h6 : z.cells.size = k) (hk0 : 0 < k)
    (B : Nat) (v u : Value) (n m : Nat) (xs ys : List Value) (hv : w.ownsRow B T k v n xs) (hu : Rd w u m k ys) (hone : ∀ y ∈ ys, y.oneCell' = true) (h63 : n + m ≤ 9223372036854775807) (hbytes : (n + m) * bytes ≤ 140737488355328) (hB : B ≤ w.heap.size) :
    ∃ v' w', (Builtin.append_ #[t, t] ty #[v, u]).run P w = .ok v' w' ∧ w'.ownsRow B T k v' (n + m) (xs ++ ys) ∧ w.grownBy w' v.ownBlock ∧ (v'.ownBlock = v.ownBlock ∨ v'.ownBlock = some w.heap.size) := by
  obtain ⟨hl, ⟨rfl, rfl⟩ | ⟨ad, cap, rfl, hc⟩⟩ := hu
  · have hy : ys = [] := List.eq_nil_of_length_eq_zero (by simpa using hl)
    subst hy
    exact ⟨v, w, run_append_owned_none (P := P) (w := w) B t ty T i k h1 h2 v n xs hv, by simpa using hv, ⟨rfl, rfl, rfl, Nat.le_refl _, fun _ _ _ => rfl⟩, .inl rfl⟩
  · obtain ⟨v', w', hr, ho, hg, hn, hat⟩ := run_append_own_at (P := P) w B t ty T i z k bytes h1 h2 h3 h4 h5 h6 hk0 v n xs hv ad m cap ys hl hc hone (by unfold maxLen; omega) hbytes hB
    exact ⟨v', w', hr, ho, hg, hat⟩
theorem step_append_S {P : Program} {ops : Array Oper} {o : Oper} {a : Act} {w : World} {K : Act → World → Prop} {Q : Exit → Act → World → Prop} {E : Prop}
    (d : Nat) (hd : o.dst = some d) (hw : Region.wanted o (yielded ops a.tmps) = true) (s x : Operand) (t T : TypeId) (hop : o.op = Op.call { callee := Callee.builtin Builtin.append, args := #[s, x], argTypes := #[t, t] })
    (i : TypeInfo) (h1 : P.underlying t = some (.slice T)) (h2 : P.info? T = some i) (z : Value) (h3 : i.zero = some z) (k bytes : Nat) (h4 : i.size = k) (h5 : i.bytes = bytes) (h6 : z.cells.size = k) (hk0 : 0 < k)
    (B : Nat) (v u : Value) (n m : Nat) (xs ys : List Value) (hs : a.eval s = v) (hx : a.eval x = u) (hv : w.ownsRow B T k v n xs) (hu : Rd w u m k ys) (hone : ∀ y ∈ ys, y.oneCell' = true) (h63 : n + m ≤ 9223372036854775807) (hbytes : (n + m) * bytes ≤ 140737488355328) (hB : B ≤ w.heap.size)
    (hK : ∀ ao cap w', w'.ownsRow B T k (.slice ao (n + m) cap) (n + m) (xs ++ ys) → w.grownBy w' v.ownBlock → ((Value.slice ao (n + m) cap).ownBlock = v.ownBlock ∨ (Value.slice ao (n + m) cap).ownBlock = some w.heap.size) → K (a.put (some d) (.slice ao (n + m) cap)) w') :
    if Region.wanted o (yielded ops a.tmps) = true then Oper.wp P o a w K Q else E := by
  rw [if_pos hw]
  obtain ⟨v', w', hr, ho, hg, hat⟩ := run_append_S (P := P) w t o.type T i h1 h2 z h3 k bytes h4 h5 h6 hk0 B v u n m xs ys hv hu hone h63 hbytes hB
  unfold Oper.wp
  simp [execOp, hop, resolve, invoke, builtin, hs, hx, hr, Result.andThen]
  show K (a.put o.dst _) w'
  rw [hd]
  obtain ⟨ao, cap, rfl⟩ : ∃ ao cap, v' = .slice ao (n + m) cap := by
    rcases ownsRow_shape ho with ⟨rfl, h0⟩ | ⟨g, cap, rfl, _⟩
    · exact ⟨none, 0, by rw [h0]⟩
    · exact ⟨_, cap, rfl⟩
  exact hK ao cap w' ho hg hat
theorem step_append_T {P : Program} {ops : Array Oper} {o : Oper} {a : Act} {w : World} {K : Act → World → Prop} {Q : Exit → Act → World → Prop} {E : Prop}
    (d : Nat) (hd : o.dst = some d) (hw : Region.wanted o (yielded ops a.tmps) = true) (s x : Operand) (t T : TypeId) (hop : o.op = Op.call { callee := Callee.builtin Builtin.append, args := #[s, x], argTypes := #[t, t] })
    (i : TypeInfo) (h1 : P.underlying t = some (.slice T)) (h2 : P.info? T = some i) (z : Value) (h3 : i.zero = some z) (k bytes : Nat) (h4 : i.size = k) (h5 : i.bytes = bytes) (h6 : z.cells.size = k) (hk0 : 0 < k)
    (B : Nat) (v u : Value) (n m : Nat) (xs ys : List Value) (hs : a.eval s = v) (hx : a.eval x = u) (hv : w.ownsRow B T k v n xs) (hu : Rd w u m k ys) (hone : ∀ y ∈ ys, y.oneCell' = true) (h63 : n + m ≤ 9223372036854775807) (hbytes : (n + m) * bytes ≤ 140737488355328) (hB : B ≤ w.heap.size) (N : Nat) (hN : n + m = N)
    (hK : ∀ ao cap w', w'.ownsRow B T k (.slice ao N cap) N (xs ++ ys) → w.grownBy w' v.ownBlock → ((Value.slice ao N cap).ownBlock = v.ownBlock ∨ (Value.slice ao N cap).ownBlock = some w.heap.size) → K (a.put (some d) (.slice ao N cap)) w') :
    if Region.wanted o (yielded ops a.tmps) = true then Oper.wp P o a w K Q else E := by
  subst hN
  exact step_append_S d hd hw s x t T hop i h1 h2 z h3 k bytes h4 h5 h6 hk0 B v u n m xs ys hs hx hv hu hone h63 hbytes hB hK
/-- The same outside a region that draws. -/
theorem wpList_append_S {P : Program} (w : World) {ops : Array Oper} {rest : List Oper} {o : Oper} {a : Act} {Q : Exit → Act → World → Prop} (hgd : o.guard = none) (s x : Operand) (t : TypeId) (ho : o.op = .call { callee := .builtin .append, args := #[s, x], argTypes := #[t, t] })
    (T : TypeId) (i : TypeInfo) (h1 : P.underlying t = some (.slice T)) (h2 : P.info? T = some i) (z : Value) (h3 : i.zero = some z) (k bytes : Nat) (h4 : i.size = k) (h5 : i.bytes = bytes) (h6 : z.cells.size = k) (hk0 : 0 < k)
    (B : Nat) (v u : Value) (n m : Nat) (xs ys : List Value) (hs : a.eval s = v) (hx : a.eval x = u) (hv : w.ownsRow B T k v n xs) (hu : Rd w u m k ys) (hone : ∀ y ∈ ys, y.oneCell' = true) (h63 : n + m ≤ 9223372036854775807) (hbytes : (n + m) * bytes ≤ 140737488355328) (hB : B ≤ w.heap.size) (N : Nat) (hN : n + m = N)
    (h : ∀ ao cap w', w'.ownsRow B T k (.slice ao N cap) N (xs ++ ys) → w.grownBy w' v.ownBlock → ((Value.slice ao N cap).ownBlock = v.ownBlock ∨ (Value.slice ao N cap).ownBlock = some w.heap.size) → wpList P ops Q rest (a.put o.dst (.slice ao N cap)) w') :
    wpList P ops Q (o :: rest) a w := by
  subst hN
  refine wpList_plain hgd fun K hK => ?_
  obtain ⟨v', w', hr, hO, hg, hat⟩ := run_append_S (P := P) w t o.type T i h1 h2 z h3 k bytes h4 h5 h6 hk0 B v u n m xs ys hv hu hone h63 hbytes hB
  obtain ⟨ao, cap, rfl⟩ : ∃ ao cap, v' = .slice ao (n + m) cap := by
    rcases ownsRow_shape hO with ⟨rfl, h0⟩ | ⟨g, cap, rfl, _⟩
    · exact ⟨none, 0, by rw [h0]⟩
    · exact ⟨_, cap, rfl⟩
  unfold Oper.wp execOp
  simp only [ho, resolve, invoke, builtin, Sem.run_bind, Sem.run_pure, Result.andThen_ok, List.map_toArray, List.map_cons, List.map_nil, hs, hx, hr]
  exact hK _ _ (h ao cap w' hO hg hat)
/-- The front of a row, and what lies behind it. -/
theorem rd_front {w : World} {B k n m cap : Nat} {T : TypeId} {ao : Option Addr} {xs : List Value} (h : w.ownsRow B T k (.slice ao n cap) n xs) (hm : m ≤ n) : Rd w (.slice ao m cap) m k (xs.take (m * k)) := by
  have hl : xs.length = n * k := h.1
  refine ⟨by rw [List.length_take, hl]; exact Nat.min_eq_left (Nat.mul_le_mul_right k hm), ?_⟩
  rcases ownsRow_shape h with ⟨e, h0⟩ | ⟨g, cap', e, _, _, _, _, _, hc⟩
  · injection e with e1 e2 e3
    subst e1 e3
    left
    obtain rfl : m = 0 := by omega
    exact ⟨rfl, rfl⟩
  · injection e with e1 e2 e3
    subst e1 e3
    refine .inr ⟨_, cap, rfl, fun j y hj => ?_⟩
    rw [addG, Nat.zero_add]
    refine hc j y ?_
    rw [List.getElem?_take] at hj
    split at hj
    · exact hj
    · cases hj
theorem rd_back {w : World} {B k n m cap : Nat} {T : TypeId} {ao : Option Addr} {xs : List Value} (h : w.ownsRow B T k (.slice ao n cap) n xs) (hm : m ≤ n) (p : Option Addr) (hp0 : ao = none → p = none) (hp1 : m < n → ∀ g, ao = some ⟨g, 0, none⟩ → p = some ⟨g, m * k, none⟩) (hp2 : ao ≠ none → p ≠ none) : Rd w (.slice p (n - m) (cap - m)) (n - m) k (xs.drop (m * k)) := by
  have hl : xs.length = n * k := h.1
  refine ⟨by rw [List.length_drop, hl, Nat.sub_mul], ?_⟩
  rcases ownsRow_shape h with ⟨e, h0⟩ | ⟨g, cap', e, _, _, _, _, _, hc⟩
  · injection e with e1 e2 e3
    subst e1 e3
    left
    obtain rfl : m = 0 := by omega
    rw [hp0 rfl, h0]
    exact ⟨rfl, rfl⟩
  · injection e with e1 e2 e3
    subst e1 e3
    right
    cases hp : p with
    | none => exact absurd hp (hp2 (by simp))
    | some ad =>
      refine ⟨ad, cap - m, rfl, fun j y hj => ?_⟩
      rw [List.getElem?_drop] at hj
      have hlt : m < n := by
        rcases Nat.lt_or_ge m n with h1 | h1
        · exact h1
        · exfalso
          have h2 := (List.getElem?_eq_some_iff.1 hj).1
          rw [hl] at h2
          have : n * k ≤ m * k := Nat.mul_le_mul_right k h1
          omega
      have e4 := hp1 hlt g rfl
      rw [hp] at e4
      have e5 : ad = ⟨g, m * k, none⟩ := by simpa using e4
      rw [e5, addG]
      exact hc _ _ hj
end Go.Proofs.Ytnikbcljonbpcaa
