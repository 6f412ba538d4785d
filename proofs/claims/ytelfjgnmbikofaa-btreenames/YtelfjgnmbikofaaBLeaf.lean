/-
  A tree in memory whose root is a leaf; no tree; the small functions. Conditions: none.
-/
import Derived.Test.YtelfjgnmbikofaaBFind
import Derived.WalkSpells
import Derived.Deep.RegionLaw
import Derived.Deep.QuietTactic
import Derived.BigQuiet
namespace Go.Proofs.Ytelfjgnmbikofaa
open Go.RowKit
set_option linter.unusedVariables false
set_option maxRecDepth 100000

/-- A tree whose root is a leaf. -/
structure LT (w : World) (B p q n : Nat) (most c : Int) (vI : Value) (L : List It) : Prop where
  tree : w.heap[p]? = some (.cells #[.func (.func 21) #[] #[], .func (.func 29) #[] #[], .int .i64 most, .pointer (some ⟨q, 0, none⟩)] 54 (0, 0))
  kept : w.heap[q]? = some (.cells #[.pointer (some ⟨n, 0, none⟩), .int .i64 c] 75 (0, 0))
  node : w.heap[n]? = some (.cells #[vI, .slice none 0 0] 73 (0, 0))
  row : w.ownsRow B 69 2 vI L.length (gc encI L)
  bp : B ≤ p
  bq : B ≤ q
  bn : B ≤ n
  pq : p ≠ q
  pn : p ≠ n
  qn : q ≠ n
  vp : vI.ownBlock ≠ some p
  vq : vI.ownBlock ≠ some q
  vn : vI.ownBlock ≠ some n
theorem LT.below {w w' : World} {B p q n : Nat} {most c : Int} {vI : Value} {L : List It} (h : LT w B p q n most c vI L) (hb : Below w.heap.size w w') : LT w' B p q n most c vI L :=
  { h with
    tree := (hb.block p (Array.getElem?_eq_some_iff.1 h.tree).1).trans h.tree
    kept := (hb.block q (Array.getElem?_eq_some_iff.1 h.kept).1).trans h.kept
    node := (hb.block n (Array.getElem?_eq_some_iff.1 h.node).1).trans h.node
    row := ownsRow_below h.row hb }
theorem LT.t {w : World} {B p q n : Nat} {most c : Int} {vI : Value} {L : List It} (h : LT w B p q n most c vI L) : w.cell? ⟨p, 0, none⟩ = some (.func (.func 21) #[] #[]) ∧ w.cell? ⟨p, 1, none⟩ = some (.func (.func 29) #[] #[]) ∧ w.cell? ⟨p, 2, none⟩ = some (.int .i64 most) ∧ w.cell? ⟨p, 3, none⟩ = some (.pointer (some ⟨q, 0, none⟩)) := by
  simp [World.cell?, h.tree]
theorem LT.k {w : World} {B p q n : Nat} {most c : Int} {vI : Value} {L : List It} (h : LT w B p q n most c vI L) : w.cell? ⟨q, 0, none⟩ = some (.pointer (some ⟨n, 0, none⟩)) ∧ w.cell? ⟨q, 1, none⟩ = some (.int .i64 c) ∧ w.frozen? ⟨q, 1, none⟩ = false := by
  simp [World.cell?, World.frozen?, h.kept]
theorem LT.n {w : World} {B p q n : Nat} {most c : Int} {vI : Value} {L : List It} (h : LT w B p q n most c vI L) : w.cell? ⟨n, 0, none⟩ = some vI ∧ w.cell? ⟨n, 1, none⟩ = some (.slice none 0 0) ∧ w.frozen? ⟨n, 0, none⟩ = false := by
  simp [World.cell?, World.frozen?, h.node]

/-- An item more, and its new row. -/
theorem LT.push {w w' : World} {B p q n g cap : Nat} {most c : Int} {vI : Value} {L : List It} {x : It} (h : LT w B p q n most c vI L) (hg : w.grownBy w' vI.ownBlock) (hrow : w'.ownsRow B 69 2 (.slice (some ⟨g, 0, none⟩) (L.length + 1) cap) (L.length + 1) (gc encI (L ++ [x]))) (ha : vI.ownBlock = some g ∨ w.heap.size ≤ g) :
    LT (w'.setCell ⟨n, 0, none⟩ (.slice (some ⟨g, 0, none⟩) (L.length + 1) cap)) B p q n most c (.slice (some ⟨g, 0, none⟩) (L.length + 1) cap) (L ++ [x]) := by
  have lp := (Array.getElem?_eq_some_iff.1 h.tree).1
  have lq := (Array.getElem?_eq_some_iff.1 h.kept).1
  have ln := (Array.getElem?_eq_some_iff.1 h.node).1
  have gp : g ≠ p := fun e => by rcases ha with h1 | h1; exact h.vp (by rw [← e]; exact h1); omega
  have gq : g ≠ q := fun e => by rcases ha with h1 | h1; exact h.vq (by rw [← e]; exact h1); omega
  have gn : g ≠ n := fun e => by rcases ha with h1 | h1; exact h.vn (by rw [← e]; exact h1); omega
  have c1 := (hg.block p lp (fun e => h.vp e.symm)).trans h.tree
  have c2 := (hg.block q lq (fun e => h.vq e.symm)).trans h.kept
  have c3 := (hg.block n ln (fun e => h.vn e.symm)).trans h.node
  have hk : Kp (fun y => y = n) w' (w'.setCell ⟨n, 0, none⟩ (.slice (some ⟨g, 0, none⟩) (L.length + 1) cap)) := (Kp.refl (fun y => y = n) w').setCell (a := ⟨n, 0, none⟩) _ (fun _ => rfl)
  refine ⟨(hk.block p (Array.getElem?_eq_some_iff.1 c1).1 h.pn).trans c1, (hk.block q (Array.getElem?_eq_some_iff.1 c2).1 h.qn).trans c2, ?_, ?_, h.bp, h.bq, h.bn, h.pq, h.pn, h.qn, fun e => gp (by simpa [Value.ownBlock] using e), fun e => gq (by simpa [Value.ownBlock] using e), fun e => gn (by simpa [Value.ownBlock] using e)⟩
  · rw [heap_setCell_same w' n 0 _ _ _ c3]; simp
  · rw [List.length_append]
    exact ownsRow_kp hrow hk (fun g' hg' e => gn (by rw [← e]; simpa [Value.ownBlock] using hg'))
/-- The count turned. -/
theorem LT.count {w : World} {B p q n : Nat} {most c : Int} {vI : Value} {L : List It} (h : LT w B p q n most c vI L) (d : Int) : LT (w.setCell ⟨q, 1, none⟩ (.int .i64 d)) B p q n most d vI L := by
  have hk : Kp (fun y => y = q) w (w.setCell ⟨q, 1, none⟩ (.int .i64 d)) := (Kp.refl (fun y => y = q) w).setCell (a := ⟨q, 1, none⟩) _ (fun _ => rfl)
  refine { h with tree := (hk.block p (Array.getElem?_eq_some_iff.1 h.tree).1 h.pq).trans h.tree, kept := ?_, node := (hk.block n (Array.getElem?_eq_some_iff.1 h.node).1 (fun e => h.qn e.symm)).trans h.node, row := ownsRow_kp h.row hk (fun g' hg' e => h.vq (by rw [← e]; exact hg')) }
  rw [heap_setCell_same w q 1 _ _ _ h.kept]; simp
/-- A number turned. -/
theorem LT.value {w : World} {B p q n g cap m : Nat} {most c : Int} {L : List It} (h : LT w B p q n most c (.slice (some ⟨g, 0, none⟩) m cap) L) {i : Nat} {k : ByteArray} {y : Int} (hi : L[i]? = some (k, y)) (x : Int) : LT (w.setCell ⟨g, i * 2 + 1, none⟩ (.int .u64 x)) B p q n most c (.slice (some ⟨g, 0, none⟩) m cap) (L.set i (k, x)) := by
  have hk : Kp (fun y => y = g) w (w.setCell ⟨g, i * 2 + 1, none⟩ (.int .u64 x)) := (Kp.refl (fun y => y = g) w).setCell (a := ⟨g, i * 2 + 1, none⟩) _ (fun _ => rfl)
  have hil := (List.getElem?_eq_some_iff.1 hi).1
  have gp : g ≠ p := fun e => h.vp (by rw [e]; rfl)
  have gq : g ≠ q := fun e => h.vq (by rw [e]; rfl)
  have gn : g ≠ n := fun e => h.vn (by rw [e]; rfl)
  refine { h with tree := (hk.block p (Array.getElem?_eq_some_iff.1 h.tree).1 (fun e => gp e.symm)).trans h.tree, kept := (hk.block q (Array.getElem?_eq_some_iff.1 h.kept).1 (fun e => gq e.symm)).trans h.kept, node := (hk.block n (Array.getElem?_eq_some_iff.1 h.node).1 (fun e => gn e.symm)).trans h.node, row := ?_ }
  have hm : m = L.length := by
    rcases ownsRow_shape h.row with ⟨e, _⟩ | ⟨g', c', e, _⟩
    · cases e
    · injection e
  subst hm
  have h1 := ownsRow_setCell h.row (i * 2 + 1) (.int .u64 x)
  rw [gc_set2 encI_len L i (k, x) _ _ hil rfl, List.length_set]
  have h2 := gc_at encI_len L i _ hi 0 _ rfl
  rw [Nat.add_zero] at h2
  rw [show (gc encI L).set (i * 2) (.string k) = gc encI L by
    obtain ⟨h3, h4⟩ := List.getElem?_eq_some_iff.1 h2
    rw [← h4]; exact List.set_getElem_self h3]
  exact h1

/-- No tree: nil, or one that nobody made. -/
def NoTree (w : World) (v : Value) : Prop := v = .pointer none ∨ ∃ p, v = .pointer (some ⟨p, 0, none⟩) ∧ w.cell? ⟨p, 3, none⟩ = some (.pointer none)
theorem tNone_no (v : Value) (w : World) (h : NoTree w v) : Calls Try.prog 30 #[v] w fun e w' => e = .returned (.bool true) ∧ w' = w := by
  rcases h with rfl | ⟨p, rfl, hc⟩
  · go_enter Try.func30, Try.ntmps30
    go_wp2
    go_ret
    exact ⟨rfl, rfl⟩
  · go_enter Try.func30, Try.ntmps30
    go_wp2
    go_ret
    exact ⟨rfl, rfl⟩
theorem tNone_any (p q : Nat) (w : World) (hc : w.cell? ⟨p, 3, none⟩ = some (.pointer (some ⟨q, 0, none⟩))) : Calls Try.prog 30 #[.pointer (some ⟨p, 0, none⟩)] w fun e w' => e = .returned (.bool false) ∧ w' = w := by
  go_enter Try.func30, Try.ntmps30
  go_wp2
  go_ret
  exact ⟨rfl, rfl⟩
theorem isLeaf_yes (n : Nat) (w : World) (hc : w.cell? ⟨n, 1, none⟩ = some (.slice none 0 0)) : Calls Try.prog 45 #[.pointer (some ⟨n, 0, none⟩)] w fun e w' => e = .returned (.bool true) ∧ w' = w := by
  go_enter Try.func45, Try.ntmps45
  go_wp2
  go_ret
  exact ⟨rfl, rfl⟩

theorem put_no (v : Value) (k : ByteArray) (x : Int) (w : World) (h : NoTree w v) : Calls Try.prog 10 #[v, .string k, .int .u64 x] w fun e w' => e = .returned (.tuple #[.bool false, .int .i64 1]) ∧ w' = w := by
  go_enter Try.func10, Try.ntmps10
  go_wp2_with (go_at_call 30; refine (tNone_no v _ h).mono ?_; rintro e w1 ⟨rfl, hw1⟩; obtain rfl := hw1.symm)
  go_ret2
  exact ⟨rfl, rfl⟩
theorem get_no (v : Value) (k : ByteArray) (w : World) (h : NoTree w v) : Calls Try.prog 12 #[v, .string k] w fun e w' => e = .returned (.tuple #[.int .u64 0, .bool false]) ∧ w' = w := by
  go_enter Try.func12, Try.ntmps12
  go_wp2_with (go_at_call 30; refine (tNone_no v _ h).mono ?_; rintro e w1 ⟨rfl, hw1⟩; obtain rfl := hw1.symm)
  go_ret2
  exact ⟨rfl, rfl⟩
theorem drop_no (v : Value) (k : ByteArray) (w : World) (h : NoTree w v) : Calls Try.prog 14 #[v, .string k] w fun e w' => e = .returned (.bool false) ∧ w' = w := by
  go_enter Try.func14, Try.ntmps14
  go_wp2_with (go_at_call 30; refine (tNone_no v _ h).mono ?_; rintro e w1 ⟨rfl, hw1⟩; obtain rfl := hw1.symm)
  go_ret
  exact ⟨rfl, rfl⟩
theorem len_no (v : Value) (w : World) (h : NoTree w v) : Calls Try.prog 16 #[v] w fun e w' => e = .returned (.int .i64 0) ∧ w' = w := by
  go_enter Try.func16, Try.ntmps16
  go_wp2_with (go_at_call 30; refine (tNone_no v _ h).mono ?_; rintro e w1 ⟨rfl, hw1⟩; obtain rfl := hw1.symm)
  go_ret
  exact ⟨rfl, rfl⟩
theorem keys_no (v : Value) (w : World) (h : NoTree w v) : Calls Try.prog 17 #[v] w fun e w' => e = .returned (.slice none 0 0) ∧ w' = w := by
  go_enter Try.func17, Try.ntmps17
  go_wp2_with (go_at_call 30; refine (tNone_no v _ h).mono ?_; rintro e w1 ⟨rfl, hw1⟩; obtain rfl := hw1.symm)
  go_ret
  exact ⟨rfl, rfl⟩
theorem span_no (v : Value) (a b : ByteArray) (w : World) (h : NoTree w v) : Calls Try.prog 19 #[v, .string a, .string b] w fun e w' => e = .returned (.slice none 0 0) ∧ w' = w := by
  go_enter Try.func19, Try.ntmps19
  go_wp2_with (go_at_call 30; refine (tNone_no v _ h).mono ?_; rintro e w1 ⟨rfl, hw1⟩; obtain rfl := hw1.symm)
  go_ret
  exact ⟨rfl, rfl⟩
theorem nodes_no (v : Value) (w : World) (h : NoTree w v) : Calls Try.prog 25 #[v] w fun e w' => e = .returned (.slice none 0 0) ∧ w' = w := by
  go_enter Try.func25, Try.ntmps25
  go_wp2_with (go_at_call 30; refine (tNone_no v _ h).mono ?_; rintro e w1 ⟨rfl, hw1⟩; obtain rfl := hw1.symm)
  go_ret
  exact ⟨rfl, rfl⟩

/-- A new tree; nil where its nodes may not be so great. -/
theorem newTree_bad (m : Int) (w : World) (h : m < 3 ∨ 64 < m) : Calls Try.prog 28 #[.int .i64 m, .func (.func 21) #[] #[], .func (.func 29) #[] #[]] w fun e w' => e = .returned (.pointer none) ∧ w' = w := by
  by_cases h1 : m < 3
  · have d1 : decide (m < 3) = true := by simpa using h1
    go_enter Try.func28, Try.ntmps28
    go_wp2_with fail
    go_ret
    exact ⟨rfl, rfl⟩
  · have d1 : decide (m < 3) = false := by simpa using h1
    have d2 : decide (64 < m) = true := by simp; omega
    go_enter Try.func28, Try.ntmps28
    go_wp2_with fail
    go_ret
    exact ⟨rfl, rfl⟩
theorem newTree_any (m : Int) (w : World) (h3 : 3 ≤ m) (h64 : m ≤ 64) : Calls Try.prog 28 #[.int .i64 m, .func (.func 21) #[] #[], .func (.func 29) #[] #[]] w fun e w' => ∃ p q n, e = .returned (.pointer (some ⟨p, 0, none⟩)) ∧ LT w' w.heap.size p q n m 0 (.slice none 0 0) [] ∧ Below w.heap.size w w' := by
  have d1 : decide (m < 3) = false := by simp; omega
  have d2 : decide (64 < m) = false := by simp; omega
  go_enter Try.func28, Try.ntmps28
  go_wp2_with fail
  go_ret
  have hb1 : Below w.heap.size w (w.alloc (.cells #[.slice none 0 0, .slice none 0 0] 73)) := (Below.refl _ _).alloc (Nat.le_refl _) _
  have c1 := heap_alloc_new w (.cells #[.slice none 0 0, .slice none 0 0] 73)
  have s1 : (w.alloc (.cells #[.slice none 0 0, .slice none 0 0] 73)).heap.size = w.heap.size + 1 := by simp
  generalize w.alloc (.cells #[.slice none 0 0, .slice none 0 0] 73) = w1 at hb1 c1 s1 ⊢
  have hb2 := hb1.alloc hb1.size (.cells #[.pointer (some ⟨w.heap.size, 0, none⟩), .int .i64 0] 75)
  have g2 : Below w1.heap.size w1 (w1.alloc (.cells #[.pointer (some ⟨w.heap.size, 0, none⟩), .int .i64 0] 75)) := (Below.refl _ _).alloc (Nat.le_refl _) _
  have c2 := heap_alloc_new w1 (.cells #[.pointer (some ⟨w.heap.size, 0, none⟩), .int .i64 0] 75)
  have s2 : (w1.alloc (.cells #[.pointer (some ⟨w.heap.size, 0, none⟩), .int .i64 0] 75)).heap.size = w1.heap.size + 1 := by simp
  generalize w1.alloc (.cells #[.pointer (some ⟨w.heap.size, 0, none⟩), .int .i64 0] 75) = w2 at hb2 g2 c2 s2 ⊢
  have hb3 := hb2.alloc hb2.size (.cells #[.func (.func 21) #[] #[], .func (.func 29) #[] #[], .int .i64 m, .pointer (some ⟨w.heap.size + 1, 0, none⟩)] 54)
  have g3 : Below w2.heap.size w2 (w2.alloc (.cells #[.func (.func 21) #[] #[], .func (.func 29) #[] #[], .int .i64 m, .pointer (some ⟨w.heap.size + 1, 0, none⟩)] 54)) := (Below.refl _ _).alloc (Nat.le_refl _) _
  have c3 := heap_alloc_new w2 (.cells #[.func (.func 21) #[] #[], .func (.func 29) #[] #[], .int .i64 m, .pointer (some ⟨w.heap.size + 1, 0, none⟩)] 54)
  refine ⟨w.heap.size + 1 + 1, w.heap.size + 1, w.heap.size, rfl, ?_, hb3⟩
  rw [s1] at c2 s2 g2
  rw [s2] at c3 g3
  exact ⟨c3, (g3.block _ (by omega)).trans c2, (g3.block _ (by omega)).trans ((g2.block _ (by omega)).trans c1), ⟨rfl, .inl ⟨rfl, rfl⟩⟩, by omega, by omega, by omega, by omega, by omega, by omega, (fun e => by cases e), (fun e => by cases e), (fun e => by cases e)⟩

theorem Its.drew {w : World} {v : Value} {L : List It} (h : Its w v L) : Its w.drew v L := by
  obtain ⟨ao, cap, e, hc, hcell⟩ := h
  exact ⟨ao, cap, e, hc, hcell⟩
/-- find, as a step. -/
theorem step_find {ops : Array Oper} {o : Oper} {a : Act} {w : World} {K : Act → World → Prop} {Q : Exit → Act → World → Prop} {E : Prop}
    (hg : o.guard = none) (x y z : Operand) (hop : o.op = Op.call { callee := Callee.value (Operand.func 44), args := #[x, y, z], argTypes := #[70, 9, 48] })
    (L : List It) (v : Value) (k : ByteArray) (hx : a.eval x = v) (hy : a.eval y = .string k) (hz : a.eval z = .func (.func 21) #[] #[]) (hI : Its w v L) (hn : L.length ≤ 1000000) (hL : Low L k)
    (hK : ∀ (i : Nat) w', At L k i → Below w.heap.size w w' → K (a.put o.dst (.tuple #[.int .i64 (i : Int), .bool (isAt L k i)])) w') :
    if Region.wanted o (yielded ops a.tmps) = true then Oper.wp Try.prog o a w K Q else E := by
  have hw : Region.wanted o (yielded ops a.tmps) = true := by simp [Region.wanted, hg]
  rw [if_pos hw]
  have hf : a.eval (Operand.func 44) = .func (.func 44) #[] #[] := rfl
  unfold Oper.wp
  simp [execOp, hop, resolve, invoke, hx, hy, hz, hf, Result.andThen, Oper.upon]
  refine (find_any L v k w hI hn hL).mono ?_
  rintro e w' ⟨i, h1, rfl, h2⟩
  exact hK i w' h1 h2
/-- Where a key stands in a leaf. -/
theorem locate_leaf {w : World} {B p q n : Nat} {most c : Int} {vI : Value} {L : List It} (h : LT w B p q n most c vI L) (k : ByteArray) (hn : L.length ≤ 1000000) (hL : Low L k) :
    Calls Try.prog 31 #[.pointer (some ⟨p, 0, none⟩), .string k] w fun e w' => ∃ i, At L k i ∧ e = .returned (.tuple #[.pointer (some ⟨n, 0, none⟩), .int .i64 ((i : Nat) : Int), .bool (isAt L k i)]) ∧ Below w.heap.size w w' := by
  have HF : Hid _ := find_any L vI k w (Its.of_row h.row) hn hL
  have HH : Hid (LT w B p q n most c vI L) := h
  obtain ⟨t0, t1, t2, t3⟩ := h.t
  obtain ⟨k0, k1, _⟩ := h.k
  obtain ⟨n0, n1, _⟩ := h.n
  clear h
  go_enter Try.func31, Try.ntmps31
  go_wp2_with fail
  go_loopw [7] (fun x wr => x = .pointer (some ⟨n, 0, none⟩) ∧ wr = w) (fun _ _ => 0)
  case atStart => exact ⟨rfl, rfl⟩
  case round =>
    obtain ⟨rfl, rfl⟩ := hrel
    go_wp2_with fail
    have HI : Hid (Its wr.drew vI L) := (Its.of_row HH.out.row).drew
    have HBD : Hid (Below wr.heap.size wr wr.drew) := ⟨rfl, rfl, rfl, Nat.le_refl _, fun _ _ => rfl⟩
    go_region_law (refine step_find rfl (.tmp 21) (.tmp 22) (.tmp 26) rfl L vI k rfl rfl rfl HI.out hn hL ?_; intro i w1 hi hb1; have HA : Hid (At L k i) := hi; have HB1 : Hid (Below wr.heap.size wr w1) := HBD.out.trans hb1; have n1' := (HH.out.below HB1.out).n.2.1; obtain ⟨bo, HBO⟩ : ∃ bo, Hid (isAt L k i = bo) := ⟨_, rfl⟩; rw [HBO.out]; clear hi hb1)
    all_goals
      cases bo
      · go_wp2_with (go_at_call 45; refine (isLeaf_yes n _ n1').mono ?_; rintro e w2 ⟨rfl, hw2⟩; obtain rfl := hw2.symm)
        go_ret3
        exact ⟨i, HA.out, by rw [HBO.out]; rfl, HB1.out⟩
      · go_wp2_with fail
        go_ret3
        exact ⟨i, HA.out, by rw [HBO.out]; rfl, HB1.out⟩
theorem growRoot_leaf {w : World} {B p q n : Nat} {most c : Int} {vI : Value} {L : List It} (h : LT w B p q n most c vI L) (hm : (L.length : Int) ≤ most) (hn : L.length ≤ 1000000) :
    Calls Try.prog 33 #[.pointer (some ⟨p, 0, none⟩)] w fun e w' => e = .returned (.tuple #[]) ∧ Below w.heap.size w w' := by
  obtain ⟨t0, t1, t2, t3⟩ := h.t
  obtain ⟨k0, k1, _⟩ := h.k
  obtain ⟨n0, n1, _⟩ := h.n
  obtain ⟨ao, cap, rfl, hcap, _⟩ := Its.of_row h.row
  obtain ⟨m, HN⟩ : ∃ m, Hid (L.length = m) := ⟨_, rfl⟩
  rw [HN.out] at hcap hm hn n0
  have d1 : decide ((m : Int) ≤ most) = true := by simpa using hm
  clear h
  go_enter Try.func33, Try.ntmps33
  go_wp2_with fail
  go_quiet (fail)
  go_wp2_with fail
  refine bodyPost_ret (results_none rfl _ _ _) rfl ?_
  exact ⟨rfl, ⟨rfl, rfl, rfl, Nat.le_refl _, fun _ _ => rfl⟩⟩
end Go.Proofs.Ytelfjgnmbikofaa
