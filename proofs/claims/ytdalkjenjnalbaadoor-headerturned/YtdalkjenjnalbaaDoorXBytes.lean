/-
  The walks of Bytes and of its closure. Conditions: the numbers are ints, the list's length is one that memory bears; the table of check stands.
-/
import Derived.Test.YtdalkjenjnalbaaDoorXGood
import Derived.Test.YtdalkjenjnalbaaDoorXBytesMath
import Derived.Test.YtdalkjenjnalbaaDoorSealWalk
import Derived.Test.YtdalkjenjnalbaaDoorWalkF
namespace Go.Proofs.YtdalkjenjnalbaaDoor
open Go.RowKit Go.Sort Go.Shelf Go.Lib
set_option linter.unusedVariables false
set_option maxRecDepth 100000

/-- append, and where the row lies then: where it lay, or in a new block. -/
theorem append_blockX {P : Program} (w : World) (base : Nat) (t ty e : TypeId) (i : TypeInfo) (z : Value) (size bytes : Nat) (ht : P.underlying t = some (.slice e)) (hi : P.info? e = some i) (hz : i.zero = some z)
    (hsize : i.size = size) (hby : i.bytes = bytes) (hzs : z.cells.size = size) (hsz : 0 < size)
    (v : Value) (n : Nat) (xs : List Value) (hown : w.ownsRow base e size v n xs)
    (a : Addr) (m c : Nat) (news : List Value) (hl : news.length = m * size) (hnews : ∀ j u, news[j]? = some u → w.cell? (a.add j) = some u) (h1 : ∀ u ∈ news, u.oneCell' = true)
    (h63 : n + m ≤ maxLen) (hbytes : (n + m) * bytes ≤ 140737488355328) (hbase : base ≤ w.heap.size) :
    ∃ v' w', (Builtin.append_ #[t, t] ty #[v, .slice (some a) m c]).run P w = .ok v' w' ∧ w'.ownsRow base e size v' (n + m) (xs ++ news) ∧ w.grownBy w' v.ownBlock ∧
      (∀ k, v'.ownBlock = some k → v.ownBlock = some k ∨ w.heap.size ≤ k) := by
  obtain ⟨v', w', hr, ho, hg, hn⟩ := run_append_own (P := P) w base t ty e i z size bytes ht hi hz hsize hby hzs hsz v n xs hown a m c news hl hnews h1 h63 hbytes hbase
  refine ⟨v', w', hr, ho, hg, fun k hk => ?_⟩
  have hown' := hown
  subst hsize
  subst hby
  have hsmall : n + m ≤ 9223372036854775807 := by simp only [maxLen] at h63; omega
  rcases hown.2 with ⟨rfl, rfl⟩ | ⟨g, cap, cur, rfl, hbg, hgg, hnc, hcm, hcs, htake⟩
  · by_cases hm : m = 0
    · rw [hn.2 ⟨rfl, hm⟩] at hk
      simp [Value.ownBlock] at hk
    · have hr' := run_append_nil (P := P) w t ty e i z ht hi hz a m c news hl hnews (by omega) (by omega) (by have hb := hbytes; simp only [Nat.zero_add] at hb; omega)
      rw [hr] at hr'
      injection hr' with e1 e2
      subst e1
      simp [Value.ownBlock] at hk
      exact .inr (by omega)
  · by_cases hroom : n + m ≤ cap
    · have hfit : n * i.size + news.length ≤ cur.size := by rw [hl, hcs, ← Nat.add_mul]; exact Nat.mul_le_mul_right _ hroom
      have hr' := run_append_room (P := P) w t ty e i ht hi g n cap cur hgg a m c news hl hnews h1 hroom hfit
      rw [hr] at hr'
      injection hr' with e1 e2
      subst e1
      exact .inl hk
    · have hr' := run_append_grow (P := P) w t ty e i z ht hi hz ⟨g, 0, none⟩ n cap xs hown'.1 (hown'.cells (g := g) rfl) a m c news hl hnews (by omega) (by omega) (growslice_fits (by omega) hbytes)
      rw [hr] at hr'
      injection hr' with e1 e2
      subst e1
      simp [Value.ownBlock] at hk
      exact .inr (by omega)

/-- append of bytes, what it has turned, and where the row lies then. -/
theorem wpList_append_bg {P : Program} (w : World) {ops : Array Oper} {rest : List Oper} {o : Oper} {a : Act} {Q : Exit → Act → World → Prop} (hgd : o.guard = none) (s x : Operand) (t : TypeId)
    (ho : o.op = .call { callee := .builtin .append, args := #[s, x], argTypes := #[t, t] }) (i : TypeInfo) (ht : P.underlying t = some (.slice 5)) (hi : P.info? 5 = some i) (hz : i.zero = some (.int .u8 0)) (hsize : i.size = 1) (hby : i.bytes = 1)
    (B : Nat) (v y : Value) (l m : List Int) (p q : Nat) (hp : l.length = p) (hq : m.length = q) (hs : a.eval s = v) (hx : a.eval x = y) (hown : Own w B v l) (hm : Bs w y m) (hbytes : p + q ≤ 140737488355328) (hB : B ≤ w.heap.size)
    (h : ∀ ao cap w', Own w' B (.slice ao (p + q) cap) (l ++ m) → w.grownBy w' v.ownBlock → (∀ k, (Value.slice ao (p + q) cap).ownBlock = some k → v.ownBlock = some k ∨ w.heap.size ≤ k) → wpList P ops Q rest (a.put o.dst (.slice ao (p + q) cap)) w') :
    wpList P ops Q (o :: rest) a w := by
  subst hp; subst hq
  have hlen : (l ++ m).length = l.length + m.length := List.length_append
  obtain ⟨ao, cap, rfl, hc, hn, hcell⟩ := hm
  cases ao with
  | none =>
    obtain rfl : cap = 0 := hn rfl
    obtain rfl : m = [] := List.eq_nil_of_length_eq_zero (by omega)
    have hown' := hown
    obtain ⟨ao, cap, rfl, hle, hsh⟩ := hown.opened
    refine wpList_append_own_none hgd s x t ho B 5 i 1 ht hi _ _ _ hs hown (by simpa using hx) ?_
    simpa using h ao cap w (by simpa using hown') (World.grownBy.refl _ _) (fun k hk => .inl (by simpa using hk))
  | some ad =>
    refine wpList_step fun K hk => ?_
    have hw : Region.wanted o (yielded ops a.tmps) = true := by simp [Region.wanted, hgd]
    rw [if_pos hw]
    obtain ⟨v', w', hrun, r1, r2, r3⟩ := append_blockX (P := P) w B t o.type 5 i (.int .u8 0) 1 1 ht hi hz hsize hby rfl (by decide) v l.length (bcells l) hown ad m.length cap (bcells m) (by rw [bcells_length]; omega) (fun j u hj => by
      obtain ⟨hj', rfl⟩ := bcells_get hj
      exact hcell ad rfl j hj') (bcells_one m) (by unfold maxLen; omega) (by omega) hB
    have ho2 : Own w' B v' (l ++ m) := by unfold Own; rw [hlen, bcells_append]; exact r1
    obtain ⟨ao', cap', rfl, hle, hsh⟩ := ho2.opened
    rw [hlen] at ho2 hrun r3
    unfold Oper.wp
    simp [execOp, ho, resolve, invoke, builtin, hs, hx, hrun, Result.andThen]
    exact hk _ _ (h ao' cap' w' ho2 r2 r3)

theorem Own.lt {w : World} {B : Nat} {v : Value} {l : List Int} (h : Own w B v l) : ∀ k, v.ownBlock = some k → B ≤ k ∧ k < w.heap.size := fun k hk => World.ownsRow.lt h k hk

theorem Own.setOther {w : World} {B p o : Nat} {v x : Value} {l : List Int} (h : Own w B v l) (hp : v.ownBlock ≠ some p) : Own (w.setCell ⟨p, o, none⟩ x) B v l := by
  have h' : w.ownsRow B 5 1 v l.length (bcells l) := h
  have hb : w.grownBy (w.setCell ⟨p, o, none⟩ x) (some p) := ⟨rfl, rfl, rfl, by simp [World.setCell], fun k hk hne => Below.heap_setCell _ _ _ _ (fun e => hne (by rw [e]))⟩
  refine World.ownsRow.kept h' hb ?_
  cases hx : v.ownBlock with
  | none => exact .inl rfl
  | some k => exact .inr (fun e => hp (by rw [hx]; exact e))
/-- A cell with a slice of bytes of the call's own. -/
structure OutB (w : World) (p B : Nat) (v : Value) (l : List Int) : Prop where
  cell : w.cell? ⟨p, 0, none⟩ = some v
  free : w.frozen? ⟨p, 0, none⟩ = false
  own : Own w B v l
  ne : v.ownBlock ≠ some p
theorem OutB.below {w w' : World} {p B : Nat} {v : Value} {l : List Int} (h : OutB w p B v l) (hb : Below w.heap.size w w') : OutB w' p B v l :=
  ⟨cell_later hb h.cell, (hb.frozen (p := ⟨p, 0, none⟩) (World.block_lt_of_cell? w _ h.cell)).trans h.free, h.own.below hb, h.ne⟩
theorem frozen_blockB {w w' : World} {b o : Nat} (h : w'.heap[b]? = w.heap[b]?) : w'.frozen? ⟨b, o, none⟩ = w.frozen? ⟨b, o, none⟩ := by simp [World.frozen?, h]
/-- Only blocks of S have turned, and new ones. -/
structure Turns (S : Nat → Prop) (w w' : World) : Prop where
  os : w'.os = w.os
  tape : w'.tape = w.tape
  output : w'.output = w.output
  size : w.heap.size ≤ w'.heap.size
  block : ∀ k, k < w.heap.size → ¬ S k → w'.heap[k]? = w.heap[k]?
theorem Turns.below {S : Nat → Prop} {C : Nat} {w w' : World} (h : Turns S w w') (hS : ∀ k, S k → C ≤ k) (hC : C ≤ w.heap.size) : Below C w w' :=
  ⟨h.os, h.tape, h.output, h.size, fun k hk => h.block k (by omega) (fun hs => by have := hS k hs; omega)⟩
theorem Turns.cell {S : Nat → Prop} {w w' : World} (h : Turns S w w') {b o : Nat} {x : Value} (hb : ¬ S b) (hx : w.cell? ⟨b, o, none⟩ = some x) : w'.cell? ⟨b, o, none⟩ = some x :=
  (World.cell?_of_block (w := w) (a := ⟨b, o, none⟩) (h.block b (World.block_lt_of_cell? w _ hx) hb)).trans hx

theorem put_d4 {n : Int} (h0 : 0 ≤ n) (h1 : n < 4294967296) : putList [] n 4 true = d4 n := by
  unfold putList
  rw [if_pos (numErr_of (n := 4) h0 (by omega) (by omega) (by show n < (4294967296 : Int); exact h1))]
  rfl

theorem xbs_take {l : List Ext} {k : Nat} (hk : k < l.length) : xbs (l.take (k + 1)) = xbs (l.take k) ++ d4 (l.getD k (0, 0)).1 ++ d4 (l.getD k (0, 0)).2 := by
  rw [take_snoc l hk, xbs_snoc, List.append_assoc]

end Go.Proofs.YtdalkjenjnalbaaDoor
