/-
  append of a row onto a row, nil or not. Conditions: lengths are such as memory bears.
-/
import Derived.Test.YtnikbcljonbpcaaGOps
import Derived.Laws.AppendOwnNone
namespace Go.Proofs.Ytnikbcljonbpcaa
open Go.RowKit
set_option linter.unusedVariables false
set_option maxRecDepth 100000

theorem run_append_row {P : Program} (w : World) (t ty T : TypeId) (i : TypeInfo) (h1 : P.underlying t = some (.slice T)) (h2 : P.info? T = some i) (z : Value) (h3 : i.zero = some z) (k bytes : Nat) (h4 : i.size = k) (h5 : i.bytes = bytes) (h6 : z.cells.size = k) (hk0 : 0 < k)
    (B : Nat) (v u : Value) (n m : Nat) (xs ys : List Value) (hv : w.ownsRow B T k v n xs) (hu : w.ownsRow B T k u m ys) (hone : ∀ y ∈ ys, y.oneCell' = true) (h63 : n + m ≤ 9223372036854775807) (hbytes : (n + m) * bytes ≤ 140737488355328) (hB : B ≤ w.heap.size) :
    ∃ v' w', (Builtin.append_ #[t, t] ty #[v, u]).run P w = .ok v' w' ∧ w'.ownsRow B T k v' (n + m) (xs ++ ys) ∧ w.grownBy w' v.ownBlock ∧ (v'.ownBlock = v.ownBlock ∨ v'.ownBlock = some w.heap.size) := by
  rcases ownsRow_shape hu with ⟨rfl, rfl⟩ | ⟨g, cap, rfl, _, _, hle, _, _, hc⟩
  · have hy : ys = [] := List.eq_nil_of_length_eq_zero (by have := hu.1; simpa using this)
    subst hy
    exact ⟨v, w, run_append_owned_none (P := P) (w := w) B t ty T i k h1 h2 v n xs hv, by simpa using hv, ⟨rfl, rfl, rfl, Nat.le_refl _, fun _ _ _ => rfl⟩, .inl rfl⟩
  · obtain ⟨v', w', hr, ho, hg, hn, hat⟩ := run_append_own_at (P := P) w B t ty T i z k bytes h1 h2 h3 h4 h5 h6 hk0 v n xs hv ⟨g, 0, none⟩ m cap ys hu.1 (fun j y hy => by rw [addG, Nat.zero_add]; exact hc j y hy) hone (by unfold maxLen; omega) hbytes hB
    exact ⟨v', w', hr, ho, hg, hat⟩
theorem step_append_row {P : Program} {ops : Array Oper} {o : Oper} {a : Act} {w : World} {K : Act → World → Prop} {Q : Exit → Act → World → Prop} {E : Prop}
    (d : Nat) (hd : o.dst = some d) (hw : Region.wanted o (yielded ops a.tmps) = true) (s x : Operand) (t T : TypeId) (hop : o.op = Op.call { callee := Callee.builtin Builtin.append, args := #[s, x], argTypes := #[t, t] })
    (i : TypeInfo) (h1 : P.underlying t = some (.slice T)) (h2 : P.info? T = some i) (z : Value) (h3 : i.zero = some z) (k bytes : Nat) (h4 : i.size = k) (h5 : i.bytes = bytes) (h6 : z.cells.size = k) (hk0 : 0 < k)
    (B : Nat) (v u : Value) (n m : Nat) (xs ys : List Value) (hs : a.eval s = v) (hx : a.eval x = u) (hv : w.ownsRow B T k v n xs) (hu : w.ownsRow B T k u m ys) (hone : ∀ y ∈ ys, y.oneCell' = true) (h63 : n + m ≤ 9223372036854775807) (hbytes : (n + m) * bytes ≤ 140737488355328) (hB : B ≤ w.heap.size)
    (hK : ∀ ao cap w', w'.ownsRow B T k (.slice ao (n + m) cap) (n + m) (xs ++ ys) → w.grownBy w' v.ownBlock → ((Value.slice ao (n + m) cap).ownBlock = v.ownBlock ∨ (Value.slice ao (n + m) cap).ownBlock = some w.heap.size) → K (a.put (some d) (.slice ao (n + m) cap)) w') :
    if Region.wanted o (yielded ops a.tmps) = true then Oper.wp P o a w K Q else E := by
  rw [if_pos hw]
  obtain ⟨v', w', hr, ho, hg, hat⟩ := run_append_row (P := P) w t o.type T i h1 h2 z h3 k bytes h4 h5 h6 hk0 B v u n m xs ys hv hu hone h63 hbytes hB
  unfold Oper.wp
  simp [execOp, hop, resolve, invoke, builtin, hs, hx, hr, Result.andThen]
  show K (a.put o.dst _) w'
  rw [hd]
  obtain ⟨ao, cap, rfl⟩ : ∃ ao cap, v' = .slice ao (n + m) cap := by
    rcases ownsRow_shape ho with ⟨rfl, h0⟩ | ⟨g, cap, rfl, _⟩
    · exact ⟨none, 0, by rw [h0]⟩
    · exact ⟨_, cap, rfl⟩
  exact hK ao cap w' ho hg hat
end Go.Proofs.Ytnikbcljonbpcaa
