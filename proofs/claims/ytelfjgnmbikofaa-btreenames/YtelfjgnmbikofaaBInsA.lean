/-
  insert: an item whose key is new goes into a leaf at its place. Conditions: keys rise; lengths are such as memory bears.
-/
import Derived.Test.YtelfjgnmbikofaaBNd
import Derived.Deep.DeepCutAuto
namespace Go.Proofs.Ytelfjgnmbikofaa
open Go.RowKit
set_option linter.unusedVariables false
set_option maxRecDepth 100000

/-- The tree's own object, and what it keeps. -/
def treeO (p q most : Nat) : Pc := .obj p #[.func (.func 21) #[] #[], .func (.func 29) #[] #[], .int .i64 (most : Int), .pointer (some ⟨q, 0, none⟩)] 54
def keptO (q r c : Nat) : Pc := .obj q #[.pointer (some ⟨r, 0, none⟩), .int .i64 (c : Int)] 75
theorem Sep.tr {w : World} {B p q most : Nat} {ps : List Pc} (h : Sep w B ps) (hm : treeO p q most ∈ ps) : w.cell? ⟨p, 0, none⟩ = some (.func (.func 21) #[] #[]) ∧ w.cell? ⟨p, 1, none⟩ = some (.func (.func 29) #[] #[]) ∧ w.cell? ⟨p, 2, none⟩ = some (.int .i64 (most : Int)) ∧ w.cell? ⟨p, 3, none⟩ = some (.pointer (some ⟨q, 0, none⟩)) := by
  have h1 := h.obj hm
  exact ⟨cellO h1 0 rfl, cellO h1 1 rfl, cellO h1 2 rfl, cellO h1 3 rfl⟩
theorem Its.of_nd {w : World} {B n : Nat} {vI vC : Value} {L : List It} {cs : List Nat} (h : NdAt w B n vI vC L cs) : Its w vI L := Its.of_row h.rI
/-- A name stands at one place alone, and a new one nowhere. -/
theorem isAt_new {L : List It} {k : ByteArray} {i : Nat} (h : ∀ y ∈ L, cmpN y.1 k ≠ 0) : isAt L k i = false := by
  unfold isAt
  split
  · rename_i x hx
    simp [h x (List.mem_of_getElem? hx)]
  · rfl

set_option maxHeartbeats 4000000 in
theorem insert_leaf {w : World} {B n p q most : Nat} {vI vC : Value} {L : List It} {R : List Pc}
    (hS : Sep w B (ndp n vI vC L [] ++ R)) (hT : treeO p q most ∈ R) (hB : B ≤ w.heap.size) (hn : L.length ≤ 1000) (k : ByteArray) (x : Int) (hr : Rise L) (hk : ∀ y ∈ L, cmpN y.1 k ≠ 0) :
    Calls Try.prog 32 #[.pointer (some ⟨p, 0, none⟩), .pointer (some ⟨n, 0, none⟩), .agg #[.string k, .int .u64 x]] w fun e w' => e = .returned (.tuple #[]) ∧ (∃ i vI', At L k i ∧ Sep w' B (ndp n vI' vC (L.take i ++ (k, x) :: L.drop i) [] ++ R)) ∧ Below B w w' := by
  have HS : Hid (Sep w B (ndp n vI vC L [] ++ R)) := hS
  have HT : Hid (treeO p q most ∈ ndp n vI vC L [] ++ R) := List.mem_append_right _ hT
  have HB0 : Hid (Below w.heap.size w (w.alloc (.cells #[.string k, .int .u64 x] 69))) := (Below.refl _ _).alloc (Nat.le_refl _) _
  have HC0 : Hid ((w.alloc (.cells #[.string k, .int .u64 x] 69)).heap[w.heap.size]? = some (.cells #[.string k, .int .u64 x] 69 (0, 0))) := heap_alloc_new w _
  have HNW : Hid (∀ i, isAt L k i = false) := fun i => isAt_new hk
  have HL : Hid (Low L k) := hr.low k
  obtain ⟨ao, cap, rfl⟩ := row_zero (hS.nd_ []).rC
  clear hS hT hr hk
  go_enter Try.func32, Try.ntmps32
  go_upto_region 1 with fail
  generalize w.alloc (.cells #[.string k, .int .u64 x] 69) = w0 at HB0 HC0 ⊢
  have HS0 : Hid (Sep w0 B (ndp n vI (.slice ao 0 cap) L [] ++ R)) := HS.out.below HB0.out
  obtain ⟨t0, t1, t2, t3⟩ := HS0.out.tr HT.out
  obtain ⟨n0, n1, nf0, nf1⟩ := (HS0.out.nd_ []).c
  have x0 : w0.cell? ⟨w.heap.size, 0, none⟩ = some (.string k) := cellO HC0.out 0 rfl
  have x1 : w0.cell? ⟨w.heap.size, 1, none⟩ = some (.int .u64 x) := cellO HC0.out 1 rfl
  have HBD : Hid (Below w0.heap.size w0 w0.drew) := (Below.refl _ _).drew
  have HI : Hid (Its w0.drew vI L) := (Its.of_nd (HS0.out.nd_ [])).drew
  go_cut [6] (fun t wc => ∃ i : Nat, t = .int .i64 (i : Int) ∧ Hid (At L k i) ∧ Hid (Below w0.heap.size w0 wc))
  case first =>
    go_region_law (refine step_find rfl (.tmp 12) (.tmp 14) (.tmp 18) rfl L vI k rfl rfl rfl HI.out (by omega) HL.out ?_; intro i w1 hi hb1; have HB1 : Hid (Below w0.heap.size w0 w1) := HBD.out.trans hb1; have HA : Hid (At L k i) := hi; rw [HNW.out i]; clear hi hb1)
    all_goals (go_wp2_with fail)
    all_goals (go_meet; exact ⟨i, rfl, HA.out, HB1.out⟩)
  case rest =>
    obtain ⟨i, rfl, HA, HB1⟩ := hcut
    generalize wc = w1 at *
    have HS1 : Hid (Sep w1 B (ndp n vI (.slice ao 0 cap) L [] ++ R)) := HS0.out.below HB1.out
    have HC1 : Hid (w1.heap[w.heap.size]? = some (.cells #[.string k, .int .u64 x] 69 (0, 0))) := (HB1.out.block _ (Array.getElem?_eq_some_iff.1 HC0.out).1).trans HC0.out
    clear t0 t1 t2 t3 n0 n1 nf0 nf1 x0 x1 HI HBD
    obtain ⟨n0, n1, nf0, nf1⟩ := (HS1.out.nd_ []).c
    have x0 : w1.cell? ⟨w.heap.size, 0, none⟩ = some (.string k) := cellO HC1.out 0 rfl
    have x1 : w1.cell? ⟨w.heap.size, 1, none⟩ = some (.int .u64 x) := cellO HC1.out 1 rfl
    have HIL : Hid _ := isLeaf_z (n := n) (w := w1) (ao := ao) (cap := cap) n1
    obtain ⟨l, HLL⟩ : ∃ l, Hid (L.length = l) := ⟨_, rfl⟩
    have HIl : Hid (i ≤ l) := by have := HA.out.1; rw [HLL.out] at this; exact this
    rw [HLL.out] at hn
    have HB2 : Hid (Below w.heap.size w w1) := HB0.out.trans (HB1.out.mono HB0.out.size)
    have HBz : Hid (B ≤ w1.heap.size) := Nat.le_trans hB HB2.out.size
    have HWA : Hid (Below w1.heap.size w1 (w1.alloc (.cells (encI (k, x)).toArray 69)).drew) := ((Below.refl _ _).alloc (Nat.le_refl _) _).drew
    have HGX : Hid ((w1.alloc (.cells (encI (k, x)).toArray 69)).drew.heap[w1.heap.size]? = some (.cells (encI (k, x)).toArray 69 (0, 0))) := heap_alloc_new w1 _
    have HSA : Hid (Sep (w1.alloc (.cells (encI (k, x)).toArray 69)).drew B (ndp n vI (.slice ao 0 cap) L [] ++ R)) := HS1.out.below HWA.out
    have HRA : Hid ((w1.alloc (.cells (encI (k, x)).toArray 69)).drew.ownsRow B 69 2 vI l (gc encI L)) := by have := (HSA.out.nd_ []).rI; rw [HLL.out] at this; exact this
    have HNE : Hid (vI.ownBlock ≠ some w1.heap.size) := fun e => by have := (World.ownsRow.lt (HS1.out.nd_ []).rI _ e).2; omega
    have HBA : Hid (Below B w (w1.alloc (.cells (encI (k, x)).toArray 69)).drew) := (HB2.out.mono hB).trans (HWA.out.mono HBz.out)
    have HLY : Hid ((L.take i ++ (k, x) :: L.drop i).length = l + 1) := by unfold Hid; rw [List.length_append, List.length_cons, List.length_take, List.length_drop, HLL.out]; have := HIl.out; omega
    have n0' : (w1.alloc (.cells #[.string k, .int .u64 x] 69)).cell? ⟨n, 0, none⟩ = some vI := cellO (HSA.out.nd_ []).o 0 rfl
    go_upto_region 3 with (go_at_call 45; refine Calls.mono HIL.out ?_; rintro e w6 ⟨rfl, hw6⟩; obtain rfl := hw6.symm)
    go_region_law (refine step_sinsI rfl (.tmp 28) (.tmp 29) (.tmp 31) rfl HLL.out HRA.out (Nat.le_trans hB HBA.out.size) i HIl.out (by omega) (k, x) w1.heap.size HGX.out HNE.out rfl rfl rfl rfl ?_; intro gJ capJ w8 ho8 hg8 ha8; have h8 := HSA.out.ndI (wI' := .slice (some ⟨gJ, 0, none⟩) (l + 1) capJ) (M' := L.take i ++ (k, x) :: L.drop i) [] (by rw [HLY.out]; exact ho8) hg8 (ha8.elim (fun e => Or.inl e.symm) (fun e => Or.inr (by intro x hx; simp [Value.ownBlock] at hx; rw [← hx, e]; exact Nat.le_refl _))); have HS8 : Hid (Sep (w8.setCell ⟨n, 0, none⟩ (.slice (some ⟨gJ, 0, none⟩) (l + 1) capJ)) B (ndp n (.slice (some ⟨gJ, 0, none⟩) (l + 1) capJ) (.slice ao 0 cap) (L.take i ++ (k, x) :: L.drop i) [] ++ R)) := h8.2; have z0 := cellO h8.1 0 rfl; have z1 := frozenO h8.1 0; have HB8 : Hid (Below B w w8) := below_gr HBA.out (Nat.le_trans hB HBA.out.size) HRA.out hg8; have HB9 : Hid (Below B w (w8.setCell ⟨n, 0, none⟩ (.slice (some ⟨gJ, 0, none⟩) (l + 1) capJ))) := HB8.out.setCell (HSA.out.nd_ []).bn _; clear ho8 hg8 ha8 h8)
    all_goals (go_wp2_with fail)
    all_goals (refine bodyPost_ret (results_none rfl _ _ _) rfl ?_; exact ⟨rfl, ⟨i, _, HA.out, HS8.out⟩, HB9.out⟩)
end Go.Proofs.Ytelfjgnmbikofaa
