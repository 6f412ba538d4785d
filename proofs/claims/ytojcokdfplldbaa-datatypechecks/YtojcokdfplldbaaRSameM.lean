/-
  Whether two types are alike, in plain words. No conditions.
-/
import Derived.Test.YtojcokdfplldbaaDTy
namespace Go.Proofs.Ytojcokdfplldbaa
set_option linter.unusedVariables false

/-- Does it hold at each of the first so many? -/
def allTo (P : Nat → Bool) : Nat → Bool
  | 0 => true
  | i + 1 => allTo P i && P i
theorem allTo_no {P : Nat → Bool} {i : Nat} (h : P i = false) : ∀ k, i < k → allTo P k = false
  | 0, hk => by omega
  | k + 1, hk => by
    by_cases e : i = k
    · rw [allTo, ← e, h, Bool.and_false]
    · rw [allTo, allTo_no h k (by omega)]; rfl
theorem allTo_yes {P : Nat → Bool} (h : ∀ i, P i = true) : ∀ k, allTo P k = true
  | 0 => rfl
  | k + 1 => by rw [allTo, allTo_yes h k, h k]; rfl
def atB {α β : Type} (P : α → β → Bool) (l : List α) (m : List β) (i : Nat) : Bool :=
  match l[i]?, m[i]? with
  | some p, some q => P p q
  | _, _ => true
theorem atB_some {α β : Type} {P : α → β → Bool} {l : List α} {m : List β} {i : Nat} {p : α} {q : β} (hp : l[i]? = some p) (hq : m[i]? = some q) : atB P l m i = P p q := by rw [atB, hp, hq]
theorem atB_self {α : Type} {P : α → α → Bool} (h : ∀ x, P x x = true) (l : List α) (i : Nat) : atB P l l i = true := by
  rw [atB]
  cases l[i]? with
  | none => rfl
  | some p => exact h p
def fldB {α β : Type} (S : α → β → Bool) (p : ByteArray × Int × α) (q : ByteArray × Int × β) : Bool := (p.1.toList == q.1.toList) && decide (p.2.1 = q.2.1) && S p.2.2 q.2.2
def memB (p q : ByteArray × Int) : Bool := (p.1.toList == q.1.toList) && decide (p.2 = q.2)
/-- Are two types alike? -/
def sameT : (n m : Nat) → Ty n → Ty m → Bool
  | n + 1, m + 1, a, b =>
    decide (TyN.c a = TyN.c b ∧ TyN.w a = TyN.w b ∧ TyN.b a = TyN.b b ∧ (TyN.fs a).length = (TyN.fs b).length ∧ (TyN.ds a).length = (TyN.ds b).length ∧ (TyN.bs a).length = (TyN.bs b).length ∧ (TyN.ns a).length = (TyN.ns b).length) &&
    allTo (atB (fldB (sameT n m)) (TyN.fs a) (TyN.fs b)) (TyN.fs a).length && allTo (atB (fun x y => decide (x = y)) (TyN.ds a) (TyN.ds b)) (TyN.ds a).length && allTo (atB (sameT n m) (TyN.bs a) (TyN.bs b)) (TyN.bs a).length && allTo (atB memB (TyN.ns a) (TyN.ns b)) (TyN.ns a).length
  | _, _, _, _ => false
theorem sameT_refl : ∀ (n : Nat) (T : Ty n), sameT n n T T = true
  | 0, T => nomatch T
  | n + 1, T => by
    have ih := sameT_refl n
    rw [sameT, allTo_yes (atB_self (fun x => by rw [fldB, ih]; simp) _), allTo_yes (atB_self (fun x => by simp) _), allTo_yes (atB_self ih _), allTo_yes (atB_self (fun x => by simp [memB]) _)]
    simp
end Go.Proofs.Ytojcokdfplldbaa
