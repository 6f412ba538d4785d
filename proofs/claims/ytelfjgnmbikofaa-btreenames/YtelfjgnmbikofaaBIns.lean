/-
  slices.Insert behind all items; insert into a leaf. Conditions: lengths are such as memory bears.
-/
import Derived.Test.YtelfjgnmbikofaaBLeaf
import Derived.Test.YtelfjgnmbikofaaGApp
namespace Go.Proofs.Ytelfjgnmbikofaa
open Go.RowKit
set_option linter.unusedVariables false
set_option maxRecDepth 100000

theorem Try.infoIt : (Try.prog.info? 69).map (fun i => (i.zero, i.size, i.bytes)) = some (some (.agg #[.string ByteArray.empty, .int .u64 0]), 2, 24) := by kernel_rfl
theorem info_partsT {t : TypeId} {z : Option Value} {s b : Nat} (h : (Try.prog.info? t).map (fun i => (i.zero, i.size, i.bytes)) = some (z, s, b)) : ∃ i, Try.prog.info? t = some i ∧ i.zero = z ∧ i.size = s ∧ i.bytes = b := by
  match hi : Try.prog.info? t, h with
  | some i, h =>
    simp at h
    exact ⟨i, rfl, h.1, h.2.1, h.2.2⟩
set_option maxHeartbeats 4000000 in
theorem sinsert_end {w : World} {B : Nat} {v : Value} {L : List It} (h : w.ownsRow B 69 2 v L.length (gc encI L)) (hB : B ≤ w.heap.size) (hn : L.length ≤ 1000000) (x : It) (gx : Nat) (hx : w.heap[gx]? = some (.cells #[.string x.1, .int .u64 x.2] 69 (0, 0))) :
    Calls Try.prog 46 #[v, .int .i64 (L.length : Int), .slice (some ⟨gx, 0, none⟩) 1 1] w fun e w' => ∃ g cap, e = .returned (.slice (some ⟨g, 0, none⟩) (L.length + 1) cap) ∧ w'.ownsRow B 69 2 (.slice (some ⟨g, 0, none⟩) (L.length + 1) cap) (L.length + 1) (gc encI (L ++ [x])) ∧ w.grownBy w' v.ownBlock ∧ (v.ownBlock = some g ∨ g = w.heap.size) := by
  obtain ⟨i1, hi1, hy0, hy1, hy2⟩ := info_partsT Try.infoIt
  have HR : Hid (w.ownsRow B 69 2 v L.length (gc encI L)) := h
  have HX : Hid (w.heap[gx]? = some (.cells #[.string x.1, .int .u64 x.2] 69 (0, 0))) := hx
  obtain ⟨ao, cap, rfl, hcap, _⟩ := Its.of_row h
  obtain ⟨m, HM⟩ : ∃ m, Hid (L.length = m) := ⟨_, rfl⟩
  rw [HM.out] at hcap hn HR ⊢
  clear h hx
  have e0 : ((m : Int) == m) = true := by simp
  rcases ownsRow_shape HR.out with ⟨hv, h0⟩ | ⟨g0, cap0, hv, _⟩
  · injection hv with e1 e2 e3
    subst e1 e2 e3
    go_enter Try.func46, Try.ntmps46
    go_wp2_with (at_builtin; refine wpList_append_G w rfl (.tmp 23) (.tmp 24) 70 rfl 69 i1 Try.underlying70 hi1 _ hy0 2 24 hy1 hy2 rfl (by omega) B (Value.slice none 0 0) 0 (gc encI L) ⟨gx, 0, none⟩ 1 1 (encI x) rfl rfl HR.out rfl (news_one HX.out) (by intro u hu; simp [encI] at hu; rcases hu with rfl | rfl <;> rfl) (by omega) (by omega) (by omega) hB ?_; intro g cap w1 ho hg ha; have HO : Hid (w1.ownsRow B 69 2 (.slice (some ⟨g, 0, none⟩) (0 + 1) cap) (0 + 1) (gc encI L ++ encI x)) := ho; have HG : Hid (w.grownBy w1 (Value.ownBlock (Value.slice none 0 0))) := hg; have HA : Hid ((Value.slice none 0 0).ownBlock = some g ∨ g = w.heap.size) := ha; clear ho hg ha)
    go_ret
    exact ⟨g, cap, rfl, by rw [gc_append, gc_one]; exact HO.out, HG.out, HA.out⟩
  · injection hv with e1 e2 e3
    subst e1 e3
    go_enter Try.func46, Try.ntmps46
    go_wp2_with (at_builtin; refine wpList_append_G w rfl (.tmp 23) (.tmp 24) 70 rfl 69 i1 Try.underlying70 hi1 _ hy0 2 24 hy1 hy2 rfl (by omega) B (Value.slice (some ⟨g0, 0, none⟩) m cap) m (gc encI L) ⟨gx, 0, none⟩ 1 1 (encI x) rfl rfl HR.out rfl (news_one HX.out) (by intro u hu; simp [encI] at hu; rcases hu with rfl | rfl <;> rfl) (by omega) (by omega) (by omega) hB ?_; intro g cap1 w1 ho hg ha; have HO : Hid (w1.ownsRow B 69 2 (.slice (some ⟨g, 0, none⟩) (m + 1) cap1) (m + 1) (gc encI L ++ encI x)) := ho; have HG : Hid (w.grownBy w1 (Value.ownBlock (Value.slice (some ⟨g0, 0, none⟩) m cap))) := hg; have HA : Hid ((Value.slice (some ⟨g0, 0, none⟩) m cap).ownBlock = some g ∨ g = w.heap.size) := ha; clear ho hg ha)
    all_goals go_ret
    all_goals exact ⟨g, cap1, rfl, by rw [gc_append, gc_one]; exact HO.out, HG.out, HA.out⟩
/-- slices.Insert, as a step. -/
theorem step_insert {ops : Array Oper} {o : Oper} {a : Act} {w : World} {K : Act → World → Prop} {Q : Exit → Act → World → Prop} {E : Prop}
    (hg : o.guard = none) (x y z : Operand) (hop : o.op = Op.call { callee := Callee.value (Operand.func 46), args := #[x, y, z], argTypes := #[70, 3, 70] })
    (B : Nat) (L : List It) (v : Value) (it : It) (gx m : Nat) (hm : L.length = m) (hx : a.eval x = v) (hy : a.eval y = .int .i64 (m : Int)) (hz : a.eval z = .slice (some ⟨gx, 0, none⟩) 1 1) (h : w.ownsRow B 69 2 v m (gc encI L)) (hB : B ≤ w.heap.size) (hn : m ≤ 1000000) (hgx : w.heap[gx]? = some (.cells #[.string it.1, .int .u64 it.2] 69 (0, 0)))
    (hK : ∀ g cap w', w'.ownsRow B 69 2 (.slice (some ⟨g, 0, none⟩) (m + 1) cap) (m + 1) (gc encI (L ++ [it])) → w.grownBy w' v.ownBlock → (v.ownBlock = some g ∨ g = w.heap.size) → K (a.put o.dst (.slice (some ⟨g, 0, none⟩) (m + 1) cap)) w') :
    if Region.wanted o (yielded ops a.tmps) = true then Oper.wp Try.prog o a w K Q else E := by
  subst hm
  have hw : Region.wanted o (yielded ops a.tmps) = true := by simp [Region.wanted, hg]
  rw [if_pos hw]
  have hf : a.eval (Operand.func 46) = .func (.func 46) #[] #[] := rfl
  unfold Oper.wp
  simp [execOp, hop, resolve, invoke, hx, hy, hz, hf, Result.andThen, Oper.upon]
  refine (sinsert_end h hB hn it gx hgx).mono ?_
  rintro e w' ⟨g, cap, rfl, h1, h2, h3⟩
  exact hK g cap w' h1 h2 h3

set_option maxHeartbeats 4000000 in
/-- insert into a leaf, behind all its keys. -/
theorem insert_end {w : World} {B p q n : Nat} {most c : Int} {vI : Value} {L : List It} (h : LT w B p q n most c vI L) (hB : B ≤ w.heap.size) (hn : L.length ≤ 1000000) (k : ByteArray) (x : Int) (hall : ∀ y ∈ L, cmpN y.1 k < 0) :
    Calls Try.prog 32 #[.pointer (some ⟨p, 0, none⟩), .pointer (some ⟨n, 0, none⟩), .agg #[.string k, .int .u64 x]] w fun e w' => e = .returned (.tuple #[]) ∧ (∃ vI', LT w' B p q n most c vI' (L ++ [(k, x)])) ∧ Below B w w' := by
  have hL : Low L k := fun i j a b _ ha _ _ => hall a (List.mem_of_getElem? ha)
  have HH : Hid (LT w B p q n most c vI L) := h
  have HAL : Hid (∀ i, At L k i → i = L.length) := fun i hi => by
    rcases Nat.lt_or_ge i L.length with h1 | h1
    · have h2 := (hi.2 i L[i] (List.getElem?_eq_getElem h1)).2 (hall _ (List.getElem_mem h1))
      omega
    · exact Nat.le_antisymm hi.1 h1
  have HB0 : Hid (Below w.heap.size w (w.alloc (.cells #[.string k, .int .u64 x] 69))) := (Below.refl _ _).alloc (Nat.le_refl _) _
  have HC0 : Hid ((w.alloc (.cells #[.string k, .int .u64 x] 69)).heap[w.heap.size]? = some (.cells #[.string k, .int .u64 x] 69 (0, 0))) := heap_alloc_new w _
  go_enter Try.func32, Try.ntmps32
  go_wp2_with fail
  generalize w.alloc (.cells #[.string k, .int .u64 x] 69) = w0 at HB0 HC0 ⊢
  have HH0 : Hid (LT w0 B p q n most c vI L) := HH.out.below HB0.out
  obtain ⟨t0, t1, t2, t3⟩ := HH0.out.t
  obtain ⟨n0, n1, n2⟩ := HH0.out.n
  have x0 : w0.cell? ⟨w.heap.size, 0, none⟩ = some (.string k) := by simp [World.cell?, HC0.out]
  have x1 : w0.cell? ⟨w.heap.size, 1, none⟩ = some (.int .u64 x) := by simp [World.cell?, HC0.out]
  have HI : Hid (Its w0.drew vI L) := (Its.of_row HH0.out.row).drew
  have HBD : Hid (Below w0.heap.size w0 w0.drew) := ⟨rfl, rfl, rfl, Nat.le_refl _, fun _ _ => rfl⟩
  clear h
  go_region_law (refine step_find rfl (.tmp 12) (.tmp 14) (.tmp 18) rfl L vI k rfl rfl rfl HI.out hn hL ?_; intro i w1 hi hb1; have HB1 : Hid (Below w0.heap.size w0 w1) := HBD.out.trans hb1; obtain ⟨bo, HBO⟩ : ∃ bo, Hid (isAt L k i = bo) := ⟨_, rfl⟩; rw [HBO.out]; obtain rfl := HAL.out i hi; clear hi hb1)
  all_goals
    have HC1 : Hid (w1.heap[w.heap.size]? = some (.cells #[.string k, .int .u64 x] 69 (0, 0))) := (HB1.out.block _ (World.block_lt_of_cell? w0 _ x0)).trans HC0.out
    have HH1 : Hid (LT w1 B p q n most c vI L) := HH0.out.below HB1.out
    obtain ⟨r0, r1, r2⟩ := HH1.out.n
    have y0 : w1.cell? ⟨w.heap.size, 0, none⟩ = some (.string k) := by simp [World.cell?, HC1.out]
    have y1 : w1.cell? ⟨w.heap.size, 1, none⟩ = some (.int .u64 x) := by simp [World.cell?, HC1.out]
    clear t0 t1 t2 t3 n0 n1 n2 x0 x1 HI HBD
    go_wp2_with (go_at_call 45; refine (isLeaf_yes n _ r1).mono ?_; rintro e w2 ⟨rfl, hw2⟩; obtain rfl := hw2.symm)
    have HBD : Hid (Below w1.heap.size w1 (w1.alloc (.cells #[.string k, .int .u64 x] 69)).drew) := ((Below.refl _ _).alloc (Nat.le_refl _) _).drew
    have HCD : Hid ((w1.alloc (.cells #[.string k, .int .u64 x] 69)).drew.heap[w1.heap.size]? = some (.cells #[.string k, .int .u64 x] 69 (0, 0))) := heap_alloc_new w1 _
    have HH2 : Hid (LT (w1.alloc (.cells #[.string k, .int .u64 x] 69)).drew B p q n most c vI L) := HH1.out.below HBD.out
    have HBW : Hid (Below w.heap.size w (w1.alloc (.cells #[.string k, .int .u64 x] 69)).drew) := HB0.out.trans ((HB1.out.trans (HBD.out.mono HB1.out.size)).mono HB0.out.size)
    obtain ⟨m, HM⟩ : ∃ m, Hid (L.length = m) := ⟨_, rfl⟩
    rw [HM.out] at hn ⊢
    have HRW : Hid ((w1.alloc (.cells #[.string k, .int .u64 x] 69)).drew.ownsRow B 69 2 vI m (gc encI L)) := by have := HH2.out.row; rw [HM.out] at this; exact this
    have s0 : (w1.alloc (.cells #[.string k, .int .u64 x] 69)).cell? ⟨n, 0, none⟩ = some vI := HH2.out.n.1
    go_region_law (refine step_insert rfl (.tmp 28) (.tmp 29) (.tmp 31) rfl B L vI (k, x) w1.heap.size m HM.out rfl rfl rfl HRW.out (Nat.le_trans hB HBW.out.size) hn HCD.out ?_; intro g cap w3 ho3 hg3 ha3; have HO3 : Hid (w3.ownsRow B 69 2 (.slice (some ⟨g, 0, none⟩) (m + 1) cap) (m + 1) (gc encI (L ++ [(k, x)]))) := ho3; have HG3 : Hid ((w1.alloc (.cells #[.string k, .int .u64 x] 69)).drew.grownBy w3 vI.ownBlock) := hg3; have HA3 : Hid (vI.ownBlock = some g ∨ g = (w1.alloc (.cells #[.string k, .int .u64 x] 69)).drew.heap.size) := ha3; have HN3 : Hid (w3.heap[n]? = some (.cells #[vI, .slice none 0 0] 73 (0, 0))) := (hg3.block n (Array.getElem?_eq_some_iff.1 HH2.out.node).1 (fun e => HH2.out.vn e.symm)).trans HH2.out.node; have z0 : w3.cell? ⟨n, 0, none⟩ = some vI := (by simp [World.cell?, HN3.out]); have z1 : w3.frozen? ⟨n, 0, none⟩ = false := (by simp [World.frozen?, HN3.out]); clear ho3 hg3 ha3)
    all_goals
      have HF : Hid (LT (w3.setCell ⟨n, 0, none⟩ (.slice (some ⟨g, 0, none⟩) (m + 1) cap)) B p q n most c (.slice (some ⟨g, 0, none⟩) (m + 1) cap) (L ++ [(k, x)])) := by
        have h := HH2.out.push (x := (k, x)) HG3.out (by rw [HM.out]; exact HO3.out) (HA3.out.imp id (fun e => by rw [e]; exact Nat.le_refl _))
        rw [HM.out] at h
        exact h
      have HFB : Hid (Below B w (w3.setCell ⟨n, 0, none⟩ (.slice (some ⟨g, 0, none⟩) (m + 1) cap))) := ((HBW.out.mono hB).grown HG3.out (Nat.le_trans hB HBW.out.size) (fun j hj => (World.ownsRow.lt HRW.out j hj).1)).setCell HH.out.bn _
      clear HRW HG3 HA3 HO3 HN3 z0 z1 s0 r0 r1 r2 y0 y1
      go_wp2_with fail
      refine bodyPost_ret (results_none rfl _ _ _) rfl ?_
      exact ⟨rfl, ⟨_, HF.out⟩, HFB.out⟩
end Go.Proofs.Ytelfjgnmbikofaa
