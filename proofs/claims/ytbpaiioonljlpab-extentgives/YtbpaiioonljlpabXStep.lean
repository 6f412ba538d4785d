/-
  append on rows of extents where the operation is guarded: as a step, and in a list of operations. Conditions: the lengths are such as memory bears.
-/
import Derived.Test.YtbpaiioonljlpabXNormal
namespace Go.Proofs.Ytbpaiioonljlpab
open Go.RowKit Go.Sort Go.Shelf Go.Lib
set_option linter.unusedVariables false
set_option maxRecDepth 100000

/-- append as a step of a region that draws, its guard told. -/
theorem step_append_g {P : Program} {ops : Array Oper} {o : Oper} {a : Act} {w : World} {K : Act → World → Prop} {Q : Exit → Act → World → Prop} {E : Prop}
    (d : Nat) (hd : o.dst = some d) (hw : Region.wanted o (yielded ops a.tmps) = true) (s x : Operand) (t T : TypeId) (hop : o.op = Op.call { callee := Callee.builtin Builtin.append, args := #[s, x], argTypes := #[t, t] })
    (i : TypeInfo) (h1 : P.underlying t = some (.slice T)) (h2 : P.info? T = some i) (h3 : i.zero = some (.agg #[.int .i64 0, .int .i64 0])) (h4 : i.size = 2) (h5 : i.bytes = 16)
    (B : Nat) (v : Value) (l m : List Ext) (p q : Nat) (hp : l.length = p) (hq : m.length = q) (ao : Option Addr) (c : Nat) (hs : a.eval s = v) (hx : a.eval x = .slice ao q c) (hown : OwnX w B T v l) (hm : Xs w (.slice ao q c) m)
    (hbytes : p + q ≤ 8796093022208) (hB : B ≤ w.heap.size)
    (hK : ∀ ao cap w', OwnX w' B T (.slice ao (p + q) cap) (l ++ m) → w.grownBy w' v.ownBlock → K (a.put (some d) (.slice ao (p + q) cap)) w') :
    if Region.wanted o (yielded ops a.tmps) = true then Oper.wp P o a w K Q else E := by
  subst hp; subst hq
  rw [if_pos hw]
  obtain ⟨ao0, cap0, hv, hc, hn, hcell⟩ := hm
  injection hv with e1 e2 e3
  subst e1; subst e3
  cases ao with
  | none =>
    obtain rfl : c = 0 := hn rfl
    obtain rfl : m = [] := List.eq_nil_of_length_eq_zero (by omega)
    have hown' := hown
    obtain ⟨ao1, cap1, rfl, hle, _, hsh⟩ := hown.shape
    have hrun := run_append_owned_none (P := P) (w := w) B t o.type T i 2 h1 h2 _ _ _ hown
    unfold Oper.wp
    simp [execOp, hop, resolve, invoke, builtin, hs, hx, hrun, Result.andThen]
    have hk := hK ao1 cap1 w (by simpa using hown') (World.grownBy.refl _ _)
    rw [← hd] at hk
    have hk2 : K (a.put o.dst (.slice ao1 l.length cap1)) w := by simpa using hk
    exact hk2
  | some ad =>
    obtain ⟨v', w', hrun, r1, r2, _⟩ := run_append_own (P := P) w B t o.type T i (.agg #[.int .i64 0, .int .i64 0]) 2 16 h1 h2 h3 h4 h5 rfl (by decide) v l.length (ecells l) hown ad m.length c (ecells m) (by rw [ecells_length]) (fun j u hj => hcell ad rfl j u hj) (ecells_oneCell m) (by unfold maxLen; omega) (by omega) hB
    have ho2 : OwnX w' B T v' (l ++ m) := by unfold OwnX; rw [List.length_append, ecells_append]; exact r1
    obtain ⟨ao', cap', rfl, _, _, _⟩ := ho2.shape
    rw [List.length_append] at ho2 hrun
    unfold Oper.wp
    simp [execOp, hop, resolve, invoke, builtin, hs, hx, hrun, Result.andThen]
    have hk := hK ao' cap' w' ho2 r2
    rw [← hd] at hk
    exact hk
/-- It, in a list of operations. -/
theorem wpList_append_w {P : Program} {ops : Array Oper} {rest : List Oper} {o : Oper} {a : Act} {w : World} {Q : Exit → Act → World → Prop}
    (d : Nat) (hd : o.dst = some d) (hw : Region.wanted o (yielded ops a.tmps) = true) (s x : Operand) (t T : TypeId) (hop : o.op = Op.call { callee := Callee.builtin Builtin.append, args := #[s, x], argTypes := #[t, t] })
    (i : TypeInfo) (h1 : P.underlying t = some (.slice T)) (h2 : P.info? T = some i) (h3 : i.zero = some (.agg #[.int .i64 0, .int .i64 0])) (h4 : i.size = 2) (h5 : i.bytes = 16)
    (B : Nat) (v : Value) (l m : List Ext) (p q : Nat) (hp : l.length = p) (hq : m.length = q) (ao : Option Addr) (c : Nat) (hs : a.eval s = v) (hx : a.eval x = .slice ao q c) (hown : OwnX w B T v l) (hm : Xs w (.slice ao q c) m)
    (hbytes : p + q ≤ 8796093022208) (hB : B ≤ w.heap.size)
    (hK : ∀ ao cap w', OwnX w' B T (.slice ao (p + q) cap) (l ++ m) → w.grownBy w' v.ownBlock → wpList P ops Q rest (a.put (some d) (.slice ao (p + q) cap)) w') :
    wpList P ops Q (o :: rest) a w :=
  wpList_step fun K hk => step_append_g d hd hw s x t T hop i h1 h2 h3 h4 h5 B v l m p q hp hq ao c hs hx hown hm hbytes hB (fun ao' cap' w' h6 h7 => hk _ _ (hK ao' cap' w' h6 h7))
end Go.Proofs.Ytbpaiioonljlpab
