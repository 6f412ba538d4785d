/-
  Regions that draw their order inside a round, by the laws of those outside; the callees of the iterator over tuples; its memory. No conditions.
-/
import Derived.Test.YtnikbcljonbpcaaSBack
import Derived.Test.YtnikbcljonbpcaaTail
import Derived.Shelf.SlSortCmp.QuietGrown
import Derived.BigRegion
namespace Go.Proofs.Ytnikbcljonbpcaa
open Go.RowKit Go.Sort Go.Shelf Go.Lib
set_option linter.unusedVariables false
set_option maxRecDepth 100000

section
variable {P : Program} {ops : Array Oper} {md : Region.Mode} {Q : Exit → Act → World → Prop} {l n : Nat}
theorem rowsIn_of {row : String} {args : Array Value} {w : World} {R : Value → World → Prop} (h : Rows P row args w R) : RowsIn (Fence.wide.inRound l) n P row args w R :=
  fun c cs _ => let ⟨v, w', r, s⟩ := h c cs; ⟨v, w', r, (stepsIn_wide (P := P)).2 s⟩
theorem operIn_of {o : Oper} {a : Act} {w : World} {K K' : Act → World → Prop} (hnd : ∀ c, o.op ≠ .defer c) (hK : ∀ a w, K a w → K' a w) (h : o.wp P a w K Q) : o.wpIn (Fence.wide.inRound l) n P a w K' Q := by
  refine ⟨fun _ _ => trivial, ?_⟩
  rw [show (Fence.wide.inRound l).round = some l from rfl, Oper.semAt_some l _ _ hnd]
  unfold Oper.wp at h
  cases hr : (execOp a.eval o).run P w with
  | ok x w' =>
    rw [hr] at h
    cases x with
    | value v => exact hK _ _ h
    | skip => exact hK _ _ h
    | defer d => exact hK _ _ h
    | enter f args =>
      refine ⟨fun e => by simp [Fence.wide] at e, CallsIn.inRound l (callsIn_wide.2 (Calls.mono h ?_))⟩
      intro e w'' he
      cases e with
      | returned v => exact hK _ _ he
      | panicked ch => exact he
      | outgrown => exact he
    | row r args =>
      refine ⟨fun e => by simp [Fence.wide] at e, RowsIn.mono (rowsIn_of h) ?_⟩
      intro v w'' he
      exact hK _ _ he
    | _ => exact h.elim
  | halt x w' =>
    rw [hr] at h
    cases x with
    | panic v => exact h
    | _ => exact h.elim
theorem opIn_of {i : Nat} {a : Act} {w : World} {K K' : Act → World → Prop} (hnd : ∀ (i : Nat) (o : Oper) c, ops[i]? = some o → o.op ≠ .defer c) (hq : ¬ LetsOut Q) (hK : ∀ a w, K a w → K' a w) (h : wpOp P ops Q i K a w) : wpOpIn (Fence.wide.inRound l) n P ops Q i K' a w := by
  unfold wpOp at h
  unfold wpOpIn
  cases ho : ops[i]? with
  | none => rw [ho] at h; exact hK _ _ h
  | some o =>
    rw [ho] at h
    simp only [] at h ⊢
    split
    · rename_i hw
      rw [if_pos hw] at h
      rcases h with h | h
      · exact operIn_of (hnd i o · ho) hK h
      · exact absurd h.2 hq
    · rename_i hw
      rw [if_neg hw] at h
      exact ⟨fun _ _ => trivial, hK _ _ h⟩
theorem anyIn_of (hnd : ∀ (i : Nat) (o : Oper) c, ops[i]? = some o → o.op ≠ .defer c) (hq : ¬ LetsOut Q) : ∀ (fuel : Nat) (listed : Array Bool) (a : Act) (w : World), wpAny P md ops Q fuel listed a w → wpAnyIn (Fence.wide.inRound l) n P md ops Q fuel listed a w
  | 0, _, _, _, h => h
  | fuel + 1, _, _, _, h => ⟨h.1, fun i hi => opIn_of hnd hq (fun a' w' h' => anyIn_of hnd hq fuel _ a' w' h') (h.2 i hi)⟩
end
def noDefer (ops : Array Oper) : Bool := ops.toList.all fun o => match o.op with | .defer _ => false | _ => true
theorem noDefer_spec {ops : Array Oper} (h : noDefer ops = true) : ∀ (i : Nat) (o : Oper) c, ops[i]? = some o → o.op ≠ .defer c := by
  intro i o c hi e
  have hm : o ∈ ops.toList := by rw [← Array.getElem?_toList] at hi; exact List.mem_of_getElem? hi
  have := List.all_eq_true.1 h o hm
  rw [e] at this
  cases this
theorem wpAny_tail {P : Program} {C : World → Prop} {Q : Exit → Act → World → Prop} {a : Act} {w : World} {l : List Oper} (m : Nat) (hB : Region.lexTailB .any l.toArray m = true) (hC : C w.drew)
    (h : wpQuiet P l.toArray C (fun a' => ∀ w', C w' → wpList P l.toArray Q (l.drop m) a' w') (l.take m) a) : wpAny P .any l.toArray Q l.toArray.size (Array.replicate l.toArray.size false) a w.drew := by
  simp only [Region.lexTailB, Bool.and_eq_true, decide_eq_true_eq] at hB
  obtain ⟨⟨⟨⟨hsel, hn⟩, hs⟩, hc⟩, hlex⟩ := hB
  have hml : m < l.length := by simpa using hn
  have e1 : (l.take m).length = m := by rw [List.length_take]; omega
  have e2 : (l.drop m).length = l.toArray.size - m := by simp
  have inv0 : HeadInv .any l.toArray m (Array.replicate l.toArray.size false) :=
    ⟨by simp, (fun j oj _ hl => by rw [getD_replicate_false] at hl; cases hl), fun t _ ht => getD_in (by simpa using ht) (getD_replicate_false _ _)⟩
  have H := HeadGo.walk (md := .any) (g := l.toArray.size - m) hsel hs hc hn (l.take m) 0 _ a (fun j hj => by rw [e1] at hj; simp [hj]) (by rw [e1, Nat.zero_add]) inv0 (by rw [e1]; exact hlex) h
  have K := HeadGo.any (Q := Q) (g := l.toArray.size - m) (fun seen a' w' hL hw' => by
    have := wpAny_of_seq (md := .any) (Q' := Q) (l.drop m) m seen a' w' (fun j => by simp [List.getElem?_drop]) (by rw [e2]; exact hL.1) (hL.2 w' hw')
    rwa [e2] at this) _ _ _ w.drew H hC
  rw [e1, show m + (l.toArray.size - m) = l.toArray.size by omega] at K
  exact K
/-- A region in a round: quiet operations, then the rest one by one. -/
theorem wpIn_region_tail {P : Program} {C : World → Prop} {id k n : Nat} {Q : Exit → Act → World → Prop} {a : Act} {w : World} {l : List Oper} (m : Nat) (hm : P.follows .mixedOrders = true) (hnd : noDefer l.toArray = true) (hB : Region.lexTailB .any l.toArray m = true) (hC : C w.drew) (hq : ¬ LetsOut Q)
    (h : wpQuiet P l.toArray C (fun a' => ∀ w', C w' → wpList P l.toArray Q (l.drop m) a' w') (l.take m) a) : (Code.region id l.toArray true).wpIn (Fence.wide.inRound k) n P Q a w :=
  wpIn_region_any hm (anyIn_of (noDefer_spec hnd) hq _ _ _ _ (wpAny_tail m hB hC h))
theorem alen_grown (a : Ax) (w : World) (h0 : 0 ≤ a.ct * a.bl) (h1 : a.ct * a.bl ≤ 9223372036854775807) : Calls Try.prog 50 #[axV a] w fun e w' => e = .returned (.int .i64 (a.ct * a.bl)) ∧ ∃ q os', w' = grow (w.drewN q) os' :=
  (alen_eq a w h0 h1).mono fun e w' ⟨h2, h3⟩ => ⟨h2, 0, _, h3.trans (alloc_eq_grow _ _)⟩
/-- An axis whose numbers all fit. -/
structure AxG (a : Ax) : Prop where
  ok : AxOk a
  c1 : 1 ≤ a.ct
  b1 : 1 ≤ a.bl
  st : a.st ≤ 1048576
  bl : a.bl ≤ 1048576
  sp : (a.ct - 1) * a.sd ≤ 1048576
  n : a.ct * a.bl ≤ 4096
theorem AxG.len {a : Ax} (h : AxG a) : ((lenA a : Nat) : Int) = a.ct * a.bl ∧ 0 < lenA a ∧ lenA a ≤ 4096 := by
  have h1 : 1 * 1 ≤ a.ct * a.bl := Int.mul_le_mul h.c1 h.b1 (by omega) (by have := h.c1; omega)
  have := h.n
  unfold lenA
  omega
theorem AxG.at {a : Ax} (h : AxG a) {k : Nat} (hk : k < lenA a) : 0 ≤ (k : Int) / a.bl * a.sd ∧ (k : Int) / a.bl * a.sd ≤ 1048576 ∧ (k : Int) % a.bl ≤ 1048576 ∧ 0 ≤ (k : Int) % a.bl := by
  have h1 := h.len.1
  have hb := h.b1
  have hq0 : 0 ≤ (k : Int) / a.bl := Int.ediv_nonneg (by omega) (by omega)
  have hq1 : (k : Int) / a.bl < a.ct := by rw [Int.ediv_lt_iff_lt_mul (by omega)]; omega
  have h2 : (k : Int) / a.bl * a.sd ≤ (a.ct - 1) * a.sd := Int.mul_le_mul_of_nonneg_right (by omega) h.ok.d0
  have h3 := Int.emod_lt_of_pos (k : Int) (show 0 < a.bl by omega)
  have h4 := Int.emod_nonneg (k : Int) (show a.bl ≠ 0 by omega)
  have h5 := h.sp
  have h6 := h.bl
  exact ⟨Int.mul_nonneg hq0 h.ok.d0, by omega, by omega, h4⟩
theorem at_good (a : Ax) (k : Nat) (w : World) (h : AxG a) (hk : k < lenA a) : Calls Try.prog 48 #[axV a, .int .i64 (k : Int)] w fun e w' => e = .returned (.int .i64 (atA a k)) ∧ w' = (w.alloc (.cells #[.int .i64 a.st, .int .i64 a.sd, .int .i64 a.ct, .int .i64 a.bl] 71)).drew := by
  obtain ⟨h1, h2, h3, h4⟩ := h.at hk
  have h5 := h.len.2.2
  exact at_eq a k w (by omega) h.b1 h.ok.s0 h.st h1 h2 h3
theorem at_grown (a : Ax) (k : Nat) (w : World) (h : AxG a) (hk : k < lenA a) : Calls Try.prog 48 #[axV a, .int .i64 (k : Int)] w fun e w' => e = .returned (.int .i64 (atA a k)) ∧ ∃ q os', w' = grow (w.drewN q) os' :=
  (at_good a k w h hk).mono fun e w' ⟨h2, h3⟩ => ⟨h2, 1, #[.cells #[.int .i64 a.st, .int .i64 a.sd, .int .i64 a.ct, .int .i64 a.bl] 71], by rw [h3, alloc_eq_grow]; rfl⟩
theorem atA_i64 {a : Ax} (h : AxG a) {k : Nat} (hk : k < lenA a) : 0 ≤ atA a k ∧ atA a k ≤ 3145728 := by
  obtain ⟨h1, h2, h3, h4⟩ := h.at hk
  have := h.ok.s0
  have := h.st
  unfold atA
  omega
theorem below_grow (w : World) (n : Nat) (os : Array Obj) : Below w.heap.size w (grow (w.drewN n) os) :=
  ⟨rfl, rfl, rfl, by simp, fun k hk => heap_grow_old _ _ (by simpa using hk)⟩
theorem cell_grow {w : World} {a : Addr} {v : Value} (h : w.cell? a = some v) (n : Nat) (os : Array Obj) : (grow (w.drewN n) os).cell? a = some v := ((below_grow w n os).cell (World.block_lt_of_cell? w _ h)).trans h
/-- The memory of the iterator: two boxes and two rows. -/
structure TS (w : World) (B0 : Nat) (bs bt rs rt : Nat) (T : List Nat) (U : List Int) : Prop where
  cs : w.heap[bs]? = some (.cells #[.slice (some ⟨rs, 0, none⟩) T.length T.length] 22 (0, 0))
  ct : w.heap[bt]? = some (.cells #[.slice (some ⟨rt, 0, none⟩) U.length U.length] 22 (0, 0))
  ss : w.heap[rs]? = some (.cells (T.map fun x : Nat => Value.int .i64 (x : Int)).toArray 3 (0, 0))
  tt : w.heap[rt]? = some (.cells (U.map fun x => Value.int .i64 x).toArray 3 (0, 0))
  b1 : B0 ≤ bs ∧ B0 ≤ bt ∧ B0 ≤ rs ∧ B0 ≤ rt
  ne : bs ≠ bt ∧ bs ≠ rs ∧ bs ≠ rt ∧ bt ≠ rs ∧ bt ≠ rt ∧ rs ≠ rt
theorem TS.low {w : World} {B0 B bs bt rs rt : Nat} {T : List Nat} {U : List Int} (h : TS w B0 bs bt rs rt T U) (hB : B ≤ B0) : TS w B bs bt rs rt T U :=
  ⟨h.cs, h.ct, h.ss, h.tt, by have := h.b1; omega, h.ne⟩
theorem TS.keep {w w' : World} {B0 bs bt rs rt : Nat} {T : List Nat} {U : List Int} (h : TS w B0 bs bt rs rt T U) (hk : Keep B0 w w') : TS w' B0 bs bt rs rt T U :=
  ⟨(hk.block _ h.b1.1 (Array.getElem?_eq_some_iff.1 h.cs).1).trans h.cs, (hk.block _ h.b1.2.1 (Array.getElem?_eq_some_iff.1 h.ct).1).trans h.ct, (hk.block _ h.b1.2.2.1 (Array.getElem?_eq_some_iff.1 h.ss).1).trans h.ss, (hk.block _ h.b1.2.2.2 (Array.getElem?_eq_some_iff.1 h.tt).1).trans h.tt, h.b1, h.ne⟩
theorem TS.setS {w : World} {B0 bs bt rs rt : Nat} {T : List Nat} {U : List Int} (h : TS w B0 bs bt rs rt T U) (d x : Nat) : TS (w.setCell ⟨rs, d, none⟩ (.int .i64 (x : Int))) B0 bs bt rs rt (T.set d x) U := by
  obtain ⟨n1, n2, n3, n4, n5, n6⟩ := h.ne
  refine ⟨?_, ?_, ?_, ?_, h.b1, h.ne⟩
  · rw [List.length_set]; exact (Below.heap_setCell _ _ _ _ (by simpa using n2)).trans h.cs
  · exact (Below.heap_setCell _ _ _ _ (by simpa using n4)).trans h.ct
  · rw [heap_setCell_same w rs d _ _ _ h.ss]
    simp [List.map_set]
  · exact (Below.heap_setCell _ _ _ _ (by simpa using n6.symm)).trans h.tt
theorem TS.setT {w : World} {B0 bs bt rs rt : Nat} {T : List Nat} {U : List Int} (h : TS w B0 bs bt rs rt T U) (d : Nat) (x : Int) : TS (w.setCell ⟨rt, d, none⟩ (.int .i64 x)) B0 bs bt rs rt T (U.set d x) := by
  obtain ⟨n1, n2, n3, n4, n5, n6⟩ := h.ne
  refine ⟨?_, ?_, ?_, ?_, h.b1, h.ne⟩
  · exact (Below.heap_setCell _ _ _ _ (by simpa using n3)).trans h.cs
  · rw [List.length_set]; exact (Below.heap_setCell _ _ _ _ (by simpa using n5)).trans h.ct
  · exact (Below.heap_setCell _ _ _ _ (by simpa using n6)).trans h.ss
  · rw [heap_setCell_same w rt d _ _ _ h.tt]
    simp [List.map_set]
end Go.Proofs.Ytnikbcljonbpcaa
