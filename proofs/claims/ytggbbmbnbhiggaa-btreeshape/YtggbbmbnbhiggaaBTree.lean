/-
  A tree of nodes in memory: its pieces, all its items in order, its shape. No conditions.
-/
import Derived.Test.YtggbbmbnbhiggaaBIns2P
import Derived.Test.YtggbbmbnbhiggaaBMath
namespace Go.Proofs.Ytggbbmbnbhiggaa
open Go.RowKit
set_option linter.unusedVariables false
set_option maxRecDepth 100000

/-- A node, with where it lies. -/
structure Nd (K : Type) where
  n : Nat
  vI : Value
  vC : Value
  L : List It
  ks : List K
/-- Trees of one depth: all leaves lie h - 1 levels below. -/
def Tr : Nat → Type
  | 0 => Empty
  | h + 1 => Nd (Tr h)
def adr : (h : Nat) → Tr h → Nat
  | 0, _ => 0
  | h + 1, t => Nd.n (K := Tr h) t
/-- The pieces of a node. -/
def ndp (n : Nat) (vI vC : Value) (L : List It) (cs : List Nat) : List Pc :=
  [.obj n #[vI, vC] 73, .row 69 2 vI L.length (gc encI L), .row 65 1 vC cs.length (gc encP cs)]
/-- The pieces of a tree. -/
def pcs : (h : Nat) → Tr h → List Pc
  | 0, _ => []
  | h + 1, t => ndp (Nd.n (K := Tr h) t) (Nd.vI (K := Tr h) t) (Nd.vC (K := Tr h) t) (Nd.L (K := Tr h) t) ((Nd.ks (K := Tr h) t).map (adr h)) ++ (Nd.ks (K := Tr h) t).flatMap (pcs h)
/-- All items in order. -/
def flat : (h : Nat) → Tr h → List It
  | 0, _ => []
  | h + 1, t => il (Nd.L (K := Tr h) t) ((Nd.ks (K := Tr h) t).map (flat h))
/-- The shape: how few and how many items the top node has; all below it are as they must be. -/
def Shp (most : Nat) : (h : Nat) → Nat → Nat → Tr h → Prop
  | 0, _, _, _ => False
  | h + 1, lo, hi, t => lo ≤ (Nd.L (K := Tr h) t).length ∧ (Nd.L (K := Tr h) t).length ≤ hi ∧ (0 < h → (Nd.ks (K := Tr h) t).length = (Nd.L (K := Tr h) t).length + 1) ∧ ∀ k ∈ Nd.ks (K := Tr h) t, Shp most h (most / 2) most k
theorem pcs_succ (h : Nat) (t : Nd (Tr h)) : pcs (h + 1) t = ndp t.n t.vI t.vC t.L (t.ks.map (adr h)) ++ t.ks.flatMap (pcs h) := rfl
theorem flat_succ (h : Nat) (t : Nd (Tr h)) : flat (h + 1) t = il t.L (t.ks.map (flat h)) := rfl
theorem adr_succ (h : Nat) (t : Nd (Tr h)) : adr (h + 1) t = t.n := rfl
theorem shp_succ (most h lo hi : Nat) (t : Nd (Tr h)) : Shp most (h + 1) lo hi t ↔ lo ≤ t.L.length ∧ t.L.length ≤ hi ∧ (0 < h → t.ks.length = t.L.length + 1) ∧ ∀ k ∈ t.ks, Shp most h (most / 2) most k := Iff.rfl
/-- A leaf has no children. -/
theorem ks_leaf (t : Nd (Tr 0)) : t.ks = [] := by
  cases h : t.ks with
  | nil => rfl
  | cons k _ => exact nomatch k
theorem shp_kin {most h lo hi : Nat} {t : Nd (Tr h)} (hs : Shp most (h + 1) lo hi t) : t.ks.map (flat h) ≠ [] → (t.ks.map (flat h)).length = t.L.length + 1 := by
  intro hne
  cases h with
  | zero => rw [ks_leaf t] at hne; exact absurd rfl hne
  | succ h => rw [List.length_map]; exact ((shp_succ ..).1 hs).2.2.1 (by omega)
theorem shp_leaf {most h lo hi : Nat} {t : Nd (Tr h)} (hs : Shp most (h + 1) lo hi t) : t.ks.length = 0 ↔ h = 0 := by
  cases h with
  | zero => simp [ks_leaf t]
  | succ h => have := ((shp_succ ..).1 hs).2.2.1 (by omega); omega

/-- A call of a function, as a step of a region that draws. -/
theorem step_call {ops : Array Oper} {o : Oper} {a : Act} {w : World} {K : Act → World → Prop} {Q : Exit → Act → World → Prop} {E : Prop}
    (hg : o.guard = none) (f : FuncId) (he : ∀ args w, (callFunc f args).run Try.prog w = .ok (.enter f args) w) (xs : Array Operand) (ts : Array TypeId) (hop : o.op = Op.call { callee := Callee.value (Operand.func f), args := xs, argTypes := ts })
    (vs : Array Value) (hev : xs.map a.eval = vs) (R : Value → World → Prop) (hC : Calls Try.prog f vs w fun e w' => ∃ v, e = .returned v ∧ R v w') (hK : ∀ v w', R v w' → K (a.put o.dst v) w') :
    if Region.wanted o (yielded ops a.tmps) = true then Oper.wp Try.prog o a w K Q else E := by
  have hw : Region.wanted o (yielded ops a.tmps) = true := by simp [Region.wanted, hg]
  rw [if_pos hw]
  have hf : a.eval (Operand.func f) = .func (.func f) #[] #[] := rfl
  have hev' : xs.map (fun x => a.eval x) = vs := hev
  unfold Oper.wp
  simp [execOp, hop, resolve, invoke, hev', hf, Oper.upon, Deferred.ofValue, he]
  refine hC.mono ?_
  rintro e w' ⟨v, rfl, h2⟩
  exact hK v w' h2
end Go.Proofs.Ytggbbmbnbhiggaa
