/-
  copy into a row of one's own, of elements of k cells. Conditions: what is copied fits.
-/
import Derived.Test.YtnikbcljonbpcaaGApp
import Derived.Laws.CopyRow
namespace Go.Proofs.Ytnikbcljonbpcaa
open Go.RowKit
set_option linter.unusedVariables false
set_option maxRecDepth 100000

theorem run_copy_G {P : Program} (w : World) (dT sT ty elem : TypeId) (k g o dLen dCap : Nat) (a : Addr) (sLen sCap : Nat) (cur : Array Value) (t : TypeId) (cs : List Value)
    (hu : P.underlying dT = some (.slice elem)) (hs : (P.info? elem).map (·.size) = some k)
    (hg : w.heap[g]? = some (.cells cur t (0, 0))) (hn : cs.length = Nat.min sLen dLen * k)
    (hsrc : ∀ j v, cs[j]? = some v → w.cell? (a.add j) = some v) (hfit : o + cs.length ≤ cur.size) (h1 : ∀ v ∈ cs, v.oneCell' = true) :
    (Builtin.copy_ #[dT, sT] ty #[.slice (some ⟨g, o, none⟩) dLen dCap, .slice (some a) sLen sCap]).run P w =
      .ok (goInt (Nat.min sLen dLen)) (w.setRow g (cur.toList.take o ++ cs ++ cur.toList.drop (o + cs.length)).toArray) := by
  have hl := run_loadCells_list (P := P) w a cs hsrc
  have hst := run_storeCells_at P g o t cs 0 cur w hg (by simpa using hfit) h1
  cases hq : P.info? elem with
  | none => simp [hq] at hs
  | some i =>
    have hi : i.size = k := by simpa [hq] using hs
    simp [Builtin.copy_, run_underlying hu, Builtin.lenOf, Builtin.firstCells, sizeOf, typeInfo, hq, hi, ← hn, hl, hst]
/-- Cells laid at a place of a row. -/
def layC (xs : List Value) (o : Nat) (cs : List Value) : List Value := xs.take o ++ cs ++ xs.drop (o + cs.length)
theorem layC_length (xs : List Value) (o : Nat) (cs : List Value) (h : o + cs.length ≤ xs.length) : (layC xs o cs).length = xs.length := by
  simp [layC]; omega
theorem take_layC (l : List Value) (o m : Nat) (cs : List Value) (h : o + cs.length ≤ m) (hm : m ≤ l.length) : (layC l o cs).take m = layC (l.take m) o cs := by
  have hA : (l.take o ++ cs).length = o + cs.length := by simp; omega
  unfold layC
  rw [List.take_append, List.take_of_length_le (by rw [hA]; exact h), hA, List.take_take, Nat.min_eq_left (by omega), List.drop_take]
theorem run_copy_own {P : Program} (w : World) (dT sT ty elem : TypeId) (B k n cap i g : Nat) (a : Addr) (sLen sCap dLen dCap : Nat) (xs cs : List Value)
    (hu : P.underlying dT = some (.slice elem)) (hs : (P.info? elem).map (·.size) = some k)
    (h : w.ownsRow B elem k (.slice (some ⟨g, 0, none⟩) n cap) n xs) (hn : cs.length = Nat.min sLen dLen * k)
    (hsrc : ∀ j v, cs[j]? = some v → w.cell? (a.add j) = some v) (hfit : i * k + cs.length ≤ n * k) (h1 : ∀ v ∈ cs, v.oneCell' = true) :
    ∃ w', (Builtin.copy_ #[dT, sT] ty #[.slice (some ⟨g, i * k, none⟩) dLen dCap, .slice (some a) sLen sCap]).run P w = .ok (goInt (Nat.min sLen dLen)) w' ∧
      w'.ownsRow B elem k (.slice (some ⟨g, 0, none⟩) n cap) n (layC xs (i * k) cs) ∧ w.grownBy w' (some g) := by
  obtain ⟨h1', ⟨h2, _⟩ | ⟨g', cap', cur, hv, hB, hg, hle, hmm, hs', ht⟩⟩ := h
  · cases h2
  · injection hv with e1 e2 e3
    obtain rfl : g = g' := by simpa using e1
    subst e3
    have hnk : n * k ≤ cur.size := by rw [hs']; exact Nat.mul_le_mul_right _ hle
    refine ⟨_, run_copy_G w dT sT ty elem k g (i * k) dLen dCap a sLen sCap cur _ cs hu hs hg hn hsrc (by omega) h1, ?_, ?_⟩
    · refine ⟨by rw [layC_length _ _ _ (by rw [h1']; exact hfit)]; exact h1', .inr ⟨g, cap, _, rfl, hB, setRow_heap w g cur _ _ _ hg, hle, hmm, ?_, ?_⟩⟩
      · simp; omega
      · rw [← ht]
        exact take_layC cur.toList (i * k) (n * k) cs hfit (by simpa using hnk)
    · exact ⟨rfl, rfl, rfl, by simp [World.setRow], fun x hx hne => setRow_other w g x _ (fun e => hne (by rw [e]))⟩
theorem wpList_copy_G {P : Program} {w : World} {ops : Array Oper} {rest : List Oper} {o : Oper} {a : Act} {Q : Exit → Act → World → Prop} (hgd : o.guard = none) (d s : Operand) (dT sT : TypeId)
    (ho : o.op = .call { callee := .builtin .copy, args := #[d, s], argTypes := #[dT, sT] }) (elem : TypeId) (hu : P.underlying dT = some (.slice elem)) (B k n cap i g : Nat) (hs : (P.info? elem).map (·.size) = some k)
    (ad : Addr) (sLen sCap dLen dCap : Nat) (xs cs : List Value) (hd : a.eval d = .slice (some ⟨g, i * k, none⟩) dLen dCap) (hx : a.eval s = .slice (some ad) sLen sCap)
    (h : w.ownsRow B elem k (.slice (some ⟨g, 0, none⟩) n cap) n xs) (hn : cs.length = Nat.min sLen dLen * k)
    (hsrc : ∀ j v, cs[j]? = some v → w.cell? (ad.add j) = some v) (hfit : i * k + cs.length ≤ n * k) (h1 : ∀ v ∈ cs, v.oneCell' = true)
    (hK : ∀ w', w'.ownsRow B elem k (.slice (some ⟨g, 0, none⟩) n cap) n (layC xs (i * k) cs) → w.grownBy w' (some g) → wpList P ops Q rest (a.put o.dst (goInt (Nat.min sLen dLen))) w') : wpList P ops Q (o :: rest) a w := by
  refine wpList_plain hgd fun K hK' => ?_
  obtain ⟨w', hrun, r1, r2⟩ := run_copy_own (P := P) w dT sT o.type elem B k n cap i g ad sLen sCap dLen dCap xs cs hu hs h hn hsrc hfit h1
  unfold Oper.wp
  simp [execOp, ho, resolve, invoke, builtin, hd, hx, hrun, Result.andThen]
  exact hK' _ _ (hK w' r1 r2)
theorem step_copy_G {P : Program} {ops : Array Oper} {o : Oper} {a : Act} {w : World} {K : Act → World → Prop} {Q : Exit → Act → World → Prop} {E : Prop} (hgd : o.guard = none) (d s : Operand) (dT sT : TypeId)
    (ho : o.op = .call { callee := .builtin .copy, args := #[d, s], argTypes := #[dT, sT] }) (elem : TypeId) (hu : P.underlying dT = some (.slice elem)) (B k n cap i g : Nat) (hs : (P.info? elem).map (·.size) = some k)
    (ad : Addr) (sLen sCap dLen dCap : Nat) (xs cs : List Value) (hd : a.eval d = .slice (some ⟨g, i * k, none⟩) dLen dCap) (hx : a.eval s = .slice (some ad) sLen sCap)
    (h : w.ownsRow B elem k (.slice (some ⟨g, 0, none⟩) n cap) n xs) (hn : cs.length = Nat.min sLen dLen * k)
    (hsrc : ∀ j v, cs[j]? = some v → w.cell? (ad.add j) = some v) (hfit : i * k + cs.length ≤ n * k) (h1 : ∀ v ∈ cs, v.oneCell' = true)
    (hK : ∀ w', w'.ownsRow B elem k (.slice (some ⟨g, 0, none⟩) n cap) n (layC xs (i * k) cs) → w.grownBy w' (some g) → K (a.put o.dst (goInt (Nat.min sLen dLen))) w') :
    if Region.wanted o (yielded ops a.tmps) = true then Oper.wp P o a w K Q else E := by
  have hw : Region.wanted o (yielded ops a.tmps) = true := by simp [Region.wanted, hgd]
  rw [if_pos hw]
  obtain ⟨w', hrun, r1, r2⟩ := run_copy_own (P := P) w dT sT o.type elem B k n cap i g ad sLen sCap dLen dCap xs cs hu hs h hn hsrc hfit h1
  unfold Oper.wp
  simp [execOp, ho, resolve, invoke, builtin, hd, hx, hrun, Result.andThen]
  exact hK w' r1 r2
end Go.Proofs.Ytnikbcljonbpcaa
