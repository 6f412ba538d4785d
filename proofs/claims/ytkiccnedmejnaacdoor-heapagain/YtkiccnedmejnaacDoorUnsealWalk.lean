/-
  Walks of Unseal, the program's and the document's. Conditions: lengths within the machine's bounds; the table stands as the program's text lays it.
-/
import Derived.Test.YtkiccnedmejnaacDoorSealWalk
import Derived.Deep.RegionLaw
import Derived.Deep.RegionHeld
namespace Go.Proofs.YtkiccnedmejnaacDoor
open Go.RowKit
set_option linter.unusedVariables false
set_option maxRecDepth 100000

/-- 'make([]byte, 0, n)' in a region that draws, as one step. -/
theorem step_make_bytes {P : Program} {ops : Array Oper} {o : Oper} {a : Act} {w : World} {K : Act → World → Prop} {Q : Exit → Act → World → Prop} {E : Prop}
    (hg : o.guard = none) (l c : Operand) (t : TypeId) (hop : o.op = Op.makeSlice t l c) (i : TypeInfo) (h1 : P.underlying t = some (.slice 5)) (h2 : P.info? 5 = some i) (h3 : i.zero = some (.int .u8 0)) (h4 : i.size = 1) (h5 : i.bytes = 1)
    (n : Nat) (hl : a.eval l = .int .i64 0) (hc : a.eval c = .int .i64 (n : Int)) (b2 : n ≤ 281474976710656) (B : Nat) (hB : B ≤ w.heap.size)
    (hK : ∀ w', Own w' B (.slice (some ⟨w.heap.size, 0, none⟩) 0 n) [] → w.grownBy w' none → K (a.put o.dst (.slice (some ⟨w.heap.size, 0, none⟩) 0 n)) w') :
    if Region.wanted o (yielded ops a.tmps) = true then Oper.wp P o a w K Q else E := by
  have hw : Region.wanted o (yielded ops a.tmps) = true := by simp [Region.wanted, hg]
  rw [if_pos hw]
  obtain ⟨w', hrun, r1, r2⟩ := run_make_own (P := P) w B t 5 i (.int .u8 0) 1 h1 h2 h3 h4 .i64 .i64 n (by rw [h5]; omega) (by unfold maxLen; omega) hB
  unfold Oper.wp
  simp [execOp, hop, hl, hc, hrun, Result.andThen]
  exact hK w' r1 r2
/-- 'append(s, x...)' in a region that draws, s the call's own, as one step. -/
theorem step_append_bytes {P : Program} {ops : Array Oper} {o : Oper} {a : Act} {w : World} {K : Act → World → Prop} {Q : Exit → Act → World → Prop} {E : Prop}
    (hg : o.guard = none) (s x : Operand) (t : TypeId) (hop : o.op = Op.call { callee := Callee.builtin Builtin.append, args := #[s, x], argTypes := #[t, t] })
    (i : TypeInfo) (h1 : P.underlying t = some (.slice 5)) (h2 : P.info? 5 = some i) (h3 : i.zero = some (.int .u8 0)) (h4 : i.size = 1) (h5 : i.bytes = 1)
    (B : Nat) (v : Value) (l m : List Int) (ad : Addr) (k c : Nat) (hs : a.eval s = v) (hx : a.eval x = .slice (some ad) k c) (hk : k = m.length) (hown : Own w B v l) (hm : ∀ i, i < m.length → w.cell? (ad.add i) = some (.int .u8 (m.getD i 0)))
    (hbytes : l.length + m.length ≤ 140737488355328) (hB : B ≤ w.heap.size)
    (hK : ∀ v' w', Own w' B v' (l ++ m) → w.grownBy w' v.ownBlock → K (a.put o.dst v') w') :
    if Region.wanted o (yielded ops a.tmps) = true then Oper.wp P o a w K Q else E := by
  have hw : Region.wanted o (yielded ops a.tmps) = true := by simp [Region.wanted, hg]
  rw [if_pos hw]
  subst hk
  obtain ⟨v', w', hrun, r1, r2, _⟩ := run_append_own (P := P) w B t o.type 5 i (.int .u8 0) 1 1 h1 h2 h3 h4 h5 rfl (by decide) v l.length (bcells l) hown ad m.length c (bcells m) (by rw [bcells_length]; omega)
    (fun j u hj => by obtain ⟨hj', rfl⟩ := bcells_get hj; exact hm j hj') (bcells_one m) (by unfold maxLen; omega) (by omega) hB
  unfold Oper.wp
  simp [execOp, hop, resolve, invoke, builtin, hs, hx, hrun, Result.andThen]
  refine hK v' w' ?_ r2
  unfold Own
  rw [List.length_append, bcells_append]
  exact r1

/-- What Unseal tells: its error and its bytes. -/
def unErr (l : List Int) : Int := if l.length < 4 then 4 else if ((crcN (l.take (l.length - 4)) : Nat) : Int) = num ((l.drop (l.length - 4)).take 4) 4 then 0 else 5
def unList (l : List Int) : List Int := if unErr l = 0 then l.take (l.length - 4) else []
theorem unErr_short {l : List Int} (h : l.length < 4) : unErr l = 4 := by unfold unErr; rw [if_pos h]
theorem byt_left {l : List Int} (h : Byt l) (n : Nat) : Byt (l.take n) := by have := byt_take h 0 n; simpa using this
theorem val_low (l : List Int) (h : l.length = 4) : val false l = num l 4 := by unfold val; rw [h]; rfl

/-- Four bytes are the digits of their number. -/
theorem digs_four (l : List Int) (h : l.length = 4) (hb : Byt l) : digs (num l 4) 4 = l := by
  match l, h with
  | [a, b, c, d], _ =>
    have h0 := hb 0; have h1 := hb 1; have h2 := hb 2; have h3 := hb 3
    simp at h0 h1 h2 h3
    simp only [digs, num, qd, List.getD_cons_zero, List.getD_cons_succ, List.nil_append, List.cons_append, Int.reducePow]
    simp only [List.cons.injEq, and_true]
    refine ⟨?_, ?_, ?_, ?_⟩ <;> omega
theorem sealN_iff (l : List Int) (n : Nat) (h : l.length = n + 4) (hb : Byt l) : sealN (l.take n) = l ↔ ((crcN (l.take n) : Nat) : Int) = num ((l.drop n).take 4) 4 := by
  have h4 : (l.drop n).take 4 = l.drop n := List.take_of_length_le (by simp; omega)
  rw [h4]
  have hlt := crcN_lt (l.take n)
  have hl : (l.drop n).length = 4 := by simp; omega
  have e : l = l.take n ++ l.drop n := (List.take_append_drop n l).symm
  constructor
  · intro he
    have h1 : l.take n ++ digs (crcN (l.take n)) 4 = l.take n ++ l.drop n := by rw [← e]; exact he
    have h2 := List.append_cancel_left h1
    rw [← h2]
    exact (num_back (by omega) (by show _ < (4294967296 : Int); omega)).symm
  · intro he
    unfold sealN
    rw [he, digs_four _ hl (by have := byt_take hb n 4; rwa [h4] at this), ← e]
theorem str_inj {a b : List Int} (ha : Byt a) (hb : Byt b) (hl : a.length = b.length) (h : strOfNums a = strOfNums b) : a = b := by
  have h1 : a.map (fun n => UInt8.ofNat n.toNat) = b.map (fun n => UInt8.ofNat n.toNat) := by rw [← strOfNums_data, ← strOfNums_data, h]
  apply List.ext_getElem hl
  intro i h2 h3
  have h4 : (a.map (fun n => UInt8.ofNat n.toNat))[i]'(by simpa using h2) = (b.map (fun n => UInt8.ofNat n.toNat))[i]'(by simpa using h3) := by simp only [h1]
  simp only [List.getElem_map] at h4
  have ha' := ha i
  have hb' := hb i
  have e1 : a.getD i 0 = a[i] := by simp [List.getD, h2]
  have e2 : b.getD i 0 = b[i] := by simp [List.getD, h3]
  rw [e1] at ha'; rw [e2] at hb'
  have h5 := congrArg UInt8.toNat h4
  simp at h5
  omega
theorem str_ne {a b : List Int} (ha : Byt a) (hb : Byt b) (hl : a.length = b.length) (h : ¬ a = b) : ((strOfNums a).toList == (strOfNums b).toList) = false := by
  have : ¬ (strOfNums a).toList = (strOfNums b).toList := fun e => by
    rw [ByteArray.toList_eq, ByteArray.toList_eq] at e
    exact h (str_inj ha hb hl (by apply ByteArray.ext; apply Array.ext'; exact e))
  simpa using this
theorem byt_append {a b : List Int} (ha : Byt a) (hb : Byt b) : Byt (a ++ b) := fun i => by
  by_cases h : i < a.length
  · have e : (a ++ b).getD i 0 = a.getD i 0 := by simp [List.getD, List.getElem?_append_left h]
    rw [e]; exact ha i
  · have e : (a ++ b).getD i 0 = b.getD (i - a.length) 0 := by simp [List.getD, List.getElem?_append_right (Nat.le_of_not_lt h)]
    rw [e]; exact hb _
theorem byt_seal {l : List Int} (h : Byt l) : Byt (sealN l) := byt_append h (byt_dig2 false _ 4)

end Go.Proofs.YtkiccnedmejnaacDoor
