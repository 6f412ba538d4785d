/-
  A copy of bytes into a part of a row that is known whole, from a slice of any length: as many as there is room for. No conditions.
-/
import Derived.Test.YtgodoogmbdgeoabMem
namespace Go.Proofs.Ytgodoogmbdgeoab
open Go.RowKit
set_option linter.unusedVariables false
set_option maxRecDepth 100000

theorem wpList_copy_min {P : Program} {w : World} {ops : Array Oper} {rest : List Oper} {o : Oper} {a : Act} {Q : Exit → Act → World → Prop} (hgd : o.guard = none) (d s : Operand) (t : TypeId)
    (ho : o.op = .call { callee := .builtin .copy, args := #[d, s], argTypes := #[t, t] }) (hu : P.underlying t = some (.slice 5)) (hsz : (P.info? 5).map (·.size) = some 1)
    (g off dLen dCap : Nat) (dp : Option Addr) (hd : a.eval d = .slice dp dLen dCap) (v : Value) (hs : a.eval s = v) (L l x : List Int) (hx : l.take dLen = x) (hdp : 0 < x.length → dp = some ⟨g, off, none⟩) (hg : Row w g L) (hl : Bs w v l) (hfit : off + x.length ≤ L.length)
    (R : List Int) (hR : L.take off ++ (x ++ L.drop (off + x.length)) = R) (B : Nat) (w0 : World) (hb : Below B w0 w) (hBg : B ≤ g)
    (h : ∀ w', Row w' g R → Below B w0 w' → wpList P ops Q rest (a.put o.dst (goInt x.length)) w') :
    wpList P ops Q (o :: rest) a w := by
  subst hR hx
  obtain ⟨ao, cap, rfl, hc, hn, hcell⟩ := hl
  have e := bcells_length (l.take dLen)
  have e2 : (l.take dLen).length = Nat.min l.length dLen := by rw [List.length_take]; exact Nat.min_comm _ _
  have e3 : Nat.min l.length dLen ≤ l.length := Nat.min_le_left _ _
  refine wpList_copy_splice hgd d s t t ho 5 hu hsz dp ao dLen dCap l.length cap hd hs g off (bcells L) 5 hg (bcells (l.take dLen)) (by rw [e, e2])
    (fun h0 => ?_) (by rw [e, bcells_length]; exact hfit) (bcells_one (l.take dLen)) B w0 hb hBg (fun w' hr hbl => ?_)
  · rw [e] at h0
    refine ⟨hdp h0, ?_⟩
    cases ao with
    | none => have := hn rfl; omega
    | some ad =>
      refine ⟨ad, rfl, fun j u hj => ?_⟩
      obtain ⟨hj', rfl⟩ := bcells_get hj
      have h9 : (l.take dLen).getD j 0 = l.getD j 0 := by
        rw [List.length_take] at hj'
        simp [List.getD, show j < dLen by omega]
      rw [h9]
      exact hcell ad rfl j (by omega)
  · rw [e]
    refine h w' ?_ hbl
    have := hr.out
    unfold Row
    rw [this]
    simp [splice, bcells, List.map_take, List.map_drop]
/-- The same as one step of a region that draws its order. -/
theorem step_copy_min {P : Program} {ops : Array Oper} {w : World} {o : Oper} {a : Act} {K : Act → World → Prop} {Q : Exit → Act → World → Prop} {E : Prop} (hgd : o.guard = none) (d s : Operand) (t : TypeId)
    (ho : o.op = .call { callee := .builtin .copy, args := #[d, s], argTypes := #[t, t] }) (hu : P.underlying t = some (.slice 5)) (hsz : (P.info? 5).map (·.size) = some 1)
    (g off dLen dCap : Nat) (dp : Option Addr) (hd : a.eval d = .slice dp dLen dCap) (v : Value) (hs : a.eval s = v) (L l x : List Int) (hx : l.take dLen = x) (hdp : 0 < x.length → dp = some ⟨g, off, none⟩) (hg : Row w g L) (hl : Bs w v l) (hfit : off + x.length ≤ L.length)
    (R : List Int) (hR : L.take off ++ (x ++ L.drop (off + x.length)) = R) (B : Nat) (w0 : World) (hb : Below B w0 w) (hBg : B ≤ g)
    (h : ∀ w', Row w' g R → Below B w0 w' → K (a.put o.dst (goInt x.length)) w') :
    if Region.wanted o (yielded ops a.tmps) = true then Oper.wp P o a w K Q else E := by
  subst hR hx
  obtain ⟨ao, cap, rfl, hc, hn, hcell⟩ := hl
  have e := bcells_length (l.take dLen)
  have e2 : (l.take dLen).length = Nat.min l.length dLen := by rw [List.length_take]; exact Nat.min_comm _ _
  have e3 : Nat.min l.length dLen ≤ l.length := Nat.min_le_left _ _
  refine step_copy_splice hgd d s t t ho 5 hu hsz dp ao dLen dCap l.length cap hd hs g off (bcells L) 5 hg (bcells (l.take dLen)) (by rw [e, e2])
    (fun h0 => ?_) (by rw [e, bcells_length]; exact hfit) (bcells_one (l.take dLen)) B w0 hb hBg (fun w' hr hbl => ?_)
  · rw [e] at h0
    refine ⟨hdp h0, ?_⟩
    cases ao with
    | none => have := hn rfl; omega
    | some ad =>
      refine ⟨ad, rfl, fun j u hj => ?_⟩
      obtain ⟨hj', rfl⟩ := bcells_get hj
      have h9 : (l.take dLen).getD j 0 = l.getD j 0 := by
        rw [List.length_take] at hj'
        simp [List.getD, show j < dLen by omega]
      rw [h9]
      exact hcell ad rfl j (by omega)
  · rw [e]
    refine h w' ?_ hbl
    have := hr.out
    unfold Row
    rw [this]
    simp [splice, bcells, List.map_take, List.map_drop]
end Go.Proofs.Ytgodoogmbdgeoab
