/-
  The blocks of a stream, in plain words; a list of blocks in memory. No conditions.
-/
import Derived.Test.YtjcippiilaknfaaDoorEBlock
import Derived.Test.YtjcippiilaknfaaDoorXTotal
namespace Go.Proofs.YtjcippiilaknfaaDoor
open Go.RowKit
set_option linter.unusedVariables false
set_option maxRecDepth 100000

/-- A block: where it lies, the slice of its bytes, its bytes. -/
abbrev Blk := Int × Value × List Int
def encBk (b : Blk) : List Value := [.int .i64 b.1, b.2.1]
theorem encBk_len (b : Blk) : (encBk b).length = 2 := rfl
def rowBk (v : Value) (L : List Blk) : Pc := .row 47 2 v L.length (gc encBk L)
def byR (b : Blk) : Pc := .row 5 1 b.2.1 b.2.2.length (bcells b.2.2)
/-- Blocks of the call's own, and each one's bytes. -/
def BkS (w : World) (B : Nat) (v : Value) (L : List Blk) : Prop := Sep w B (rowBk v L :: L.map byR)
theorem BkS.lower {w : World} {B B' : Nat} {v : Value} {L : List Blk} (h : BkS w B v L) (hB : B' ≤ B) : BkS w B' v L := by
  refine ⟨fun p hp => ?_, h.nd⟩
  have h1 := h.at_ p hp
  cases p with
  | obj g a T => exact ⟨h1.1, Nat.le_trans hB h1.2⟩
  | row T k v n xs =>
    obtain ⟨h2, h3 | ⟨g, cap, cur, rfl, hg, r⟩⟩ := h1
    · exact ⟨h2, .inl h3⟩
    · exact ⟨h2, .inr ⟨g, cap, cur, rfl, Nat.le_trans hB hg, r⟩⟩
def plB (b : Blk) : Int × List Int := (b.1, b.2.2)
/-- How much of a stream an extent has. -/
def rmX (x : Ext) : Nat := (x.2 - 16).toNat
def roomOf (r : List Ext) : Nat := (r.map rmX).sum
def blksM : List Ext → List Int → List (Int × List Int)
  | [], _ => []
  | x :: r, s => if s = [] then [] else (x.1, blkL (s.take (rmX x)) (if s.drop (rmX x) = [] then (0, 0) else r.headD (0, 0)) x.2.toNat) :: blksM r (s.drop (rmX x))
theorem blksM_nil (r : List Ext) : blksM r [] = [] := by cases r <;> rfl
theorem blksM_cons {x : Ext} {r : List Ext} {s : List Int} (h : s ≠ []) : blksM (x :: r) s = (x.1, blkL (s.take (rmX x)) (if s.drop (rmX x) = [] then (0, 0) else r.headD (0, 0)) x.2.toNat) :: blksM r (s.drop (rmX x)) := if_neg h
/-- Extents that are wide enough, as numbers. -/
def Wd (x : Ext) : Prop := 0 ≤ x.1 ∧ 16 < x.2 ∧ x.1 + x.2 ≤ 4194304
theorem wide_of {x : Ext} (h : narrowB x = false) : Wd x := by
  unfold narrowB at h
  simp at h
  obtain ⟨h1, h2⟩ := h
  have h3 := h2
  unfold goodB at h3
  simp at h3
  have h4 := h3.2
  unfold goodFrom at h4
  simp at h4
  refine ⟨?_, by omega, ?_⟩ <;> omega
theorem row_sliceE {w : World} {B k n : Nat} {T : TypeId} {v : Value} {xs : List Value} (h : w.ownsRow B T k v n xs) : ∃ ao cap, v = .slice ao n cap := by
  rcases ownsRow_shape h with ⟨rfl, rfl⟩ | ⟨g, cap, rfl, _⟩
  · exact ⟨none, 0, rfl⟩
  · exact ⟨_, cap, rfl⟩
theorem byt_dropE {l : List Int} (h : Byt l) (k : Nat) : Byt (l.drop k) := fun i => by have := h (k + i); simpa [List.getD] using this
theorem byt_takeE {l : List Int} (h : Byt l) (k : Nat) : Byt (l.take k) := by have := byt_take h 0 k; simpa using this
theorem bs_drop {w : World} {b off n cap q : Nat} {l : List Int} (h : Bs w (.slice (some ⟨b, off, none⟩) n cap) l) (hn : l.length = n) (hq : q ≤ n) (p : Option Addr) (hp : q < n → p = some ⟨b, off + q, none⟩) (hp0 : p ≠ none) : Bs w (.slice p (n - q) (cap - q)) (l.drop q) := by
  obtain ⟨ao, c, hv, hc, _, hcell⟩ := h
  injection hv with e1 e2 e3
  subst e1 e3
  refine ⟨p, cap - q, by rw [List.length_drop, hn], by rw [List.length_drop]; omega, (fun e => absurd e hp0), ?_⟩
  intro ad ha i hi
  rw [List.length_drop] at hi
  rw [hp (by omega)] at ha
  obtain rfl := Option.some.inj ha
  have h1 := hcell _ rfl (q + i) (by omega)
  rw [addG] at h1 ⊢
  rw [show off + q + i = off + (q + i) by omega, h1]
  simp [List.getD]
theorem bs_front {w : World} {ao : Option Addr} {n cap : Nat} {l : List Int} (h : Bs w (.slice ao n cap) l) (k : Nat) (hk : k ≤ l.length) : Bs w (.slice ao k cap) (l.take k) := by
  obtain ⟨ao', c, hv, hc, hn, hcell⟩ := h
  injection hv with e1 e2 e3
  subst e1 e3
  have hl : (l.take k).length = k := by rw [List.length_take]; omega
  refine ⟨ao, cap, by rw [hl], by omega, hn, fun ad ha i hi => ?_⟩
  rw [hl] at hi
  rw [hcell ad ha i (by omega)]
  simp [List.getD, hi]
theorem step_call {ops : Array Oper} {o : Oper} {a : Act} {w : World} {K : Act → World → Prop} {Q : Exit → Act → World → Prop} {E : Prop}
    (hg : o.guard = none) (f : FuncId) (he : ∀ args w, (callFunc f args).run Tryd.prog w = .ok (.enter f args) w) (xs : Array Operand) (ts : Array TypeId) (hop : o.op = Op.call { callee := Callee.value (Operand.func f), args := xs, argTypes := ts })
    (vs : Array Value) (hev : xs.map a.eval = vs) (R : Value → World → Prop) (hC : Calls Tryd.prog f vs w fun e w' => ∃ v, e = .returned v ∧ R v w') (hK : ∀ v w', R v w' → K (a.put o.dst v) w') :
    if Region.wanted o (yielded ops a.tmps) = true then Oper.wp Tryd.prog o a w K Q else E := by
  have hw : Region.wanted o (yielded ops a.tmps) = true := by simp [Region.wanted, hg]
  rw [if_pos hw]
  have hf : a.eval (Operand.func f) = .func (.func f) #[] #[] := rfl
  have hev' : xs.map (fun x => a.eval x) = vs := hev
  unfold Oper.wp
  simp [execOp, hop, resolve, invoke, hev', hf, Oper.upon, Deferred.ofValue, he]
  refine hC.mono ?_
  rintro e w' ⟨v, rfl, h2⟩
  exact hK v w' h2
end Go.Proofs.YtjcippiilaknfaaDoor
