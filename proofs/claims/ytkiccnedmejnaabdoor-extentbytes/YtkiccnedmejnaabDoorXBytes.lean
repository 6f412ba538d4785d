/-
  The walks of Bytes and of its closure. Conditions: the numbers are ints, the list's length is one that memory bears; the table of check stands.
-/
import Derived.Test.YtkiccnedmejnaabDoorXGood
import Derived.Test.YtkiccnedmejnaabDoorXBytesMath
import Derived.Test.YtkiccnedmejnaabDoorSealWalk
import Derived.Test.YtkiccnedmejnaabDoorWalkF
namespace Go.Proofs.YtkiccnedmejnaabDoor
open Go.RowKit Go.Sort Go.Shelf Go.Lib
set_option linter.unusedVariables false
set_option maxRecDepth 100000

/-- append, and where the row lies then: where it lay, or in a new block. -/
theorem append_blockX {P : Program} (w : World) (base : Nat) (t ty e : TypeId) (i : TypeInfo) (z : Value) (size bytes : Nat) (ht : P.underlying t = some (.slice e)) (hi : P.info? e = some i) (hz : i.zero = some z)
    (hsize : i.size = size) (hby : i.bytes = bytes) (hzs : z.cells.size = size) (hsz : 0 < size)
    (v : Value) (n : Nat) (xs : List Value) (hown : w.ownsRow base e size v n xs)
    (a : Addr) (m c : Nat) (news : List Value) (hl : news.length = m * size) (hnews : ∀ j u, news[j]? = some u → w.cell? (a.add j) = some u) (h1 : ∀ u ∈ news, u.oneCell' = true)
    (h63 : n + m ≤ maxLen) (hbytes : (n + m) * bytes ≤ 140737488355328) (hbase : base ≤ w.heap.size) :
    ∃ v' w', (Builtin.append_ #[t, t] ty #[v, .slice (some a) m c]).run P w = .ok v' w' ∧ w'.ownsRow base e size v' (n + m) (xs ++ news) ∧ w.grownBy w' v.ownBlock ∧
      (∀ k, v'.ownBlock = some k → v.ownBlock = some k ∨ w.heap.size ≤ k) := by
  obtain ⟨v', w', hr, ho, hg, hn⟩ := run_append_own (P := P) w base t ty e i z size bytes ht hi hz hsize hby hzs hsz v n xs hown a m c news hl hnews h1 h63 hbytes hbase
  refine ⟨v', w', hr, ho, hg, fun k hk => ?_⟩
  have hown' := hown
  subst hsize
  subst hby
  have hsmall : n + m ≤ 9223372036854775807 := by simp only [maxLen] at h63; omega
  rcases hown.2 with ⟨rfl, rfl⟩ | ⟨g, cap, cur, rfl, hbg, hgg, hnc, hcm, hcs, htake⟩
  · by_cases hm : m = 0
    · rw [hn.2 ⟨rfl, hm⟩] at hk
      simp [Value.ownBlock] at hk
    · have hr' := run_append_nil (P := P) w t ty e i z ht hi hz a m c news hl hnews (by omega) (by omega) (by have hb := hbytes; simp only [Nat.zero_add] at hb; omega)
      rw [hr] at hr'
      injection hr' with e1 e2
      subst e1
      simp [Value.ownBlock] at hk
      exact .inr (by omega)
  · by_cases hroom : n + m ≤ cap
    · have hfit : n * i.size + news.length ≤ cur.size := by rw [hl, hcs, ← Nat.add_mul]; exact Nat.mul_le_mul_right _ hroom
      have hr' := run_append_room (P := P) w t ty e i ht hi g n cap cur hgg a m c news hl hnews h1 hroom hfit
      rw [hr] at hr'
      injection hr' with e1 e2
      subst e1
      exact .inl hk
    · have hr' := run_append_grow (P := P) w t ty e i z ht hi hz ⟨g, 0, none⟩ n cap xs hown'.1 (hown'.cells (g := g) rfl) a m c news hl hnews (by omega) (by omega) (growslice_fits (by omega) hbytes)
      rw [hr] at hr'
      injection hr' with e1 e2
      subst e1
      simp [Value.ownBlock] at hk
      exact .inr (by omega)

/-- append of bytes, what it has turned, and where the row lies then. -/
theorem wpList_append_bg {P : Program} (w : World) {ops : Array Oper} {rest : List Oper} {o : Oper} {a : Act} {Q : Exit → Act → World → Prop} (hgd : o.guard = none) (s x : Operand) (t : TypeId)
    (ho : o.op = .call { callee := .builtin .append, args := #[s, x], argTypes := #[t, t] }) (i : TypeInfo) (ht : P.underlying t = some (.slice 5)) (hi : P.info? 5 = some i) (hz : i.zero = some (.int .u8 0)) (hsize : i.size = 1) (hby : i.bytes = 1)
    (B : Nat) (v y : Value) (l m : List Int) (p q : Nat) (hp : l.length = p) (hq : m.length = q) (hs : a.eval s = v) (hx : a.eval x = y) (hown : Own w B v l) (hm : Bs w y m) (hbytes : p + q ≤ 140737488355328) (hB : B ≤ w.heap.size)
    (h : ∀ ao cap w', Own w' B (.slice ao (p + q) cap) (l ++ m) → w.grownBy w' v.ownBlock → (∀ k, (Value.slice ao (p + q) cap).ownBlock = some k → v.ownBlock = some k ∨ w.heap.size ≤ k) → wpList P ops Q rest (a.put o.dst (.slice ao (p + q) cap)) w') :
    wpList P ops Q (o :: rest) a w := by
  subst hp; subst hq
  have hlen : (l ++ m).length = l.length + m.length := List.length_append
  obtain ⟨ao, cap, rfl, hc, hn, hcell⟩ := hm
  cases ao with
  | none =>
    obtain rfl : cap = 0 := hn rfl
    obtain rfl : m = [] := List.eq_nil_of_length_eq_zero (by omega)
    have hown' := hown
    obtain ⟨ao, cap, rfl, hle, hsh⟩ := hown.opened
    refine wpList_append_own_none hgd s x t ho B 5 i 1 ht hi _ _ _ hs hown (by simpa using hx) ?_
    simpa using h ao cap w (by simpa using hown') (World.grownBy.refl _ _) (fun k hk => .inl (by simpa using hk))
  | some ad =>
    refine wpList_step fun K hk => ?_
    have hw : Region.wanted o (yielded ops a.tmps) = true := by simp [Region.wanted, hgd]
    rw [if_pos hw]
    obtain ⟨v', w', hrun, r1, r2, r3⟩ := append_blockX (P := P) w B t o.type 5 i (.int .u8 0) 1 1 ht hi hz hsize hby rfl (by decide) v l.length (bcells l) hown ad m.length cap (bcells m) (by rw [bcells_length]; omega) (fun j u hj => by
      obtain ⟨hj', rfl⟩ := bcells_get hj
      exact hcell ad rfl j hj') (bcells_one m) (by unfold maxLen; omega) (by omega) hB
    have ho2 : Own w' B v' (l ++ m) := by unfold Own; rw [hlen, bcells_append]; exact r1
    obtain ⟨ao', cap', rfl, hle, hsh⟩ := ho2.opened
    rw [hlen] at ho2 hrun r3
    unfold Oper.wp
    simp [execOp, ho, resolve, invoke, builtin, hs, hx, hrun, Result.andThen]
    exact hk _ _ (h ao' cap' w' ho2 r2 r3)

theorem Own.lt {w : World} {B : Nat} {v : Value} {l : List Int} (h : Own w B v l) : ∀ k, v.ownBlock = some k → B ≤ k ∧ k < w.heap.size := fun k hk => World.ownsRow.lt h k hk

theorem Own.setOther {w : World} {B p o : Nat} {v x : Value} {l : List Int} (h : Own w B v l) (hp : v.ownBlock ≠ some p) : Own (w.setCell ⟨p, o, none⟩ x) B v l := by
  have h' : w.ownsRow B 5 1 v l.length (bcells l) := h
  have hb : w.grownBy (w.setCell ⟨p, o, none⟩ x) (some p) := ⟨rfl, rfl, rfl, by simp [World.setCell], fun k hk hne => Below.heap_setCell _ _ _ _ (fun e => hne (by rw [e]))⟩
  refine World.ownsRow.kept h' hb ?_
  cases hx : v.ownBlock with
  | none => exact .inl rfl
  | some k => exact .inr (fun e => hp (by rw [hx]; exact e))
/-- A cell with a slice of bytes of the call's own. -/
structure OutB (w : World) (p B : Nat) (v : Value) (l : List Int) : Prop where
  cell : w.cell? ⟨p, 0, none⟩ = some v
  free : w.frozen? ⟨p, 0, none⟩ = false
  own : Own w B v l
  ne : v.ownBlock ≠ some p
theorem OutB.below {w w' : World} {p B : Nat} {v : Value} {l : List Int} (h : OutB w p B v l) (hb : Below w.heap.size w w') : OutB w' p B v l :=
  ⟨cell_later hb h.cell, (hb.frozen (p := ⟨p, 0, none⟩) (World.block_lt_of_cell? w _ h.cell)).trans h.free, h.own.below hb, h.ne⟩
theorem frozen_blockB {w w' : World} {b o : Nat} (h : w'.heap[b]? = w.heap[b]?) : w'.frozen? ⟨b, o, none⟩ = w.frozen? ⟨b, o, none⟩ := by simp [World.frozen?, h]
/-- Only blocks of S have turned, and new ones. -/
structure Turns (S : Nat → Prop) (w w' : World) : Prop where
  os : w'.os = w.os
  tape : w'.tape = w.tape
  output : w'.output = w.output
  size : w.heap.size ≤ w'.heap.size
  block : ∀ k, k < w.heap.size → ¬ S k → w'.heap[k]? = w.heap[k]?
theorem Turns.below {S : Nat → Prop} {C : Nat} {w w' : World} (h : Turns S w w') (hS : ∀ k, S k → C ≤ k) (hC : C ≤ w.heap.size) : Below C w w' :=
  ⟨h.os, h.tape, h.output, h.size, fun k hk => h.block k (by omega) (fun hs => by have := hS k hs; omega)⟩
theorem Turns.cell {S : Nat → Prop} {w w' : World} (h : Turns S w w') {b o : Nat} {x : Value} (hb : ¬ S b) (hx : w.cell? ⟨b, o, none⟩ = some x) : w'.cell? ⟨b, o, none⟩ = some x :=
  (World.cell?_of_block (w := w) (a := ⟨b, o, none⟩) (h.block b (World.block_lt_of_cell? w _ hx) hb)).trans hx

theorem put_d4 {n : Int} (h0 : 0 ≤ n) (h1 : n < 4294967296) : putList [] n 4 true = d4 n := by
  unfold putList
  rw [if_pos (numErr_of (n := 4) h0 (by omega) (by omega) (by show n < (4294967296 : Int); exact h1))]
  rfl

set_option maxHeartbeats 2000000 in
theorem layNum_any (n : Int) (p B : Nat) (v : Value) (l : List Int) (w : World) (h : OutB w p B v l) (hB : B ≤ w.heap.size) (h0 : 0 ≤ n) (h1 : n < 4294967296) (hl : l.length ≤ 1000000000) :
    Calls Tryd.prog 37 #[.int .i64 n, .pointer (some ⟨p, 0, none⟩)] w fun e w' => e = .returned (.tuple #[]) ∧ ∃ v', OutB w' p B v' (l ++ d4 n) ∧ Turns (fun q => q = p ∨ v.ownBlock = some q) w w' := by
  obtain ⟨i0, hi, hz0, hz1, hz2⟩ := info_parts Tryd.info5
  have HO : Hid (OutB w p B v l) := h
  have HPD : Hid (putList [] n 4 true = d4 n) := put_d4 h0 h1
  have HL : Hid (l.length ≤ 1000000000) := hl
  have hpl : p < w.heap.size := World.block_lt_of_cell? w _ h.cell
  have hw : IntKind.u64.wrap n = n := by simp [IntKind.wrap, IntKind.bits, IntKind.signed]; omega
  clear h hl
  obtain ⟨m, HM⟩ : ∃ m, Hid (l.length = m) := ⟨_, rfl⟩
  have hm : m ≤ 1000000000 := by have := HL.out; rw [HM.out] at this; exact this
  go_enter Tryd.func37, Tryd.ntmps37
  go_wp2_with (first | (go_at_call 38; refine (put_any (.slice none 0 0) [] n 4 true _ (Bs.nil _) (by simp) h0 (by omega)).mono ?_; rintro e w1 ⟨x1, rfl, hf1, hb1⟩; rw [HPD.out] at hf1; have HF1 : Hid (Bs w1 x1 (d4 n)) := hf1.bs; have HB1 : Hid (Below w.heap.size w w1) := hb1; have HO1 : Hid (OutB w1 p B v l) := HO.out.below hb1; have c1 := HO1.out.cell; have f1 := HO1.out.free; clear hf1 hb1) | (at_builtin; refine wpList_append_bg w1 rfl (.tmp 11) (.tmp 12) 23 rfl i0 Tryd.underlying23 hi hz0 hz1 hz2 B v x1 l (d4 n) m 4 HM.out (d4_length n) rfl rfl HO1.out.own HF1.out (by omega) (by have := HB1.out.size; omega) ?_; intro ao2 cap2 w2 ho2 hg2 hk2; have HK2 : Hid (∀ k, (Value.slice ao2 (m + 4) cap2).ownBlock = some k → v.ownBlock = some k ∨ w1.heap.size ≤ k) := hk2; have HO2 : Hid (Own w2 B (.slice ao2 (m + 4) cap2) (l ++ d4 n)) := ho2; have hpv : v.ownBlock ≠ some p := HO1.out.ne; have hp1 : p < w1.heap.size := Nat.lt_of_lt_of_le hpl HB1.out.size; have HBK : Hid (w2.heap[p]? = w1.heap[p]?) := hg2.block p hp1 (fun e => hpv e.symm); have c2 : w2.cell? ⟨p, 0, none⟩ = some v := (World.cell?_of_block (w := w1) (a := ⟨p, 0, none⟩) HBK.out).trans c1; have f2 : w2.frozen? ⟨p, 0, none⟩ = false := (frozen_blockB HBK.out).trans f1; have HG2 : Hid (w1.grownBy w2 v.ownBlock) := hg2; clear ho2 hg2 hk2))
  go_end0
  refine ⟨rfl, .slice ao2 (m + 4) cap2, ?_, ?_⟩
  · refine ⟨World.cell?_setCell_same' _ _ _ (by rw [c2]; rfl), by rw [World.frozen?_setCell]; exact f2, ?_, ?_⟩
    · exact Own.setOther HO2.out (fun e => by rcases HK2.out p e with h | h; exact hpv h; omega)
    · intro e
      rcases HK2.out p e with h | h
      · exact hpv h
      · omega
  · have hb := HB1.out
    refine ⟨HG2.out.os.trans hb.os, HG2.out.tape.trans hb.tape, HG2.out.output.trans hb.output, ?_, fun k hk hS => ?_⟩
    · have h1 := HG2.out.size
      have h2 := hb.size
      simp [World.setCell]
      omega
    · rw [Below.heap_setCell _ _ _ _ (fun e => hS (.inl e))]
      have h2 := hb.size
      exact (HG2.out.block k (by omega) (fun e => hS (.inr e.symm))).trans (hb.block k hk)

theorem xbs_take {l : List Ext} {k : Nat} (hk : k < l.length) : xbs (l.take (k + 1)) = xbs (l.take k) ++ d4 (l.getD k (0, 0)).1 ++ d4 (l.getD k (0, 0)).2 := by
  rw [take_snoc l hk, xbs_snoc, List.append_assoc]

theorem xbytes_no (v : Value) (l : List Ext) (w : World) (hl : Xs w v l) (hE : EWs l) (hn : l.length ≤ 8796093022208) (hg : goodB l 4194304 = false) :
    Calls Tryd.prog 12 #[v] w fun e w' => e = .returned (.tuple #[.slice none 0 0, .int .i64 2]) ∧ Below w.heap.size w w' := by
  have HX : Hid (Xs w v l) := hl
  have HE : Hid (EWs l) := hE
  clear hl hE
  go_enter Tryd.func12, Tryd.ntmps12
  go_wp2_with (go_at_call 36; refine (good_any _ l _ _ HX.out HE.out (by omega)).mono ?_; rintro e w1 ⟨rfl, hb1⟩; rw [hg])
  go_ret2
  exact ⟨rfl, hb1⟩

set_option maxHeartbeats 4000000 in
theorem xbytes_ok (v : Value) (l : List Ext) (w : World) (hl : Xs w v l) (hE : EWs l) (ht : Tab w) (hg : goodB l 4194304 = true) :
    Calls Tryd.prog 12 #[v] w fun e w' => ∃ g, e = .returned (.tuple #[.slice (some ⟨g, 0, none⟩) ((plainL l).length + 4) ((plainL l).length + 4), .int .i64 0]) ∧ w.heap.size ≤ g ∧ Row w' g (sealN (plainL l)) ∧ Below w.heap.size w w' := by
  obtain ⟨i0, hi, hz0, hz1, hz2⟩ := info_parts Tryd.info5
  have HX : Hid (Xs w v l) := hl
  have HE : Hid (EWs l) := hE
  have HT : Hid (Tab w) := ht
  have HG : Hid (goodB l 4194304 = true) := hg
  have HFI : Hid (∀ x ∈ l, 0 ≤ x.1 ∧ 0 ≤ x.1 ∧ 1 ≤ x.2 ∧ x.1 + x.2 ≤ 4194304) := (goodFrom_sep (goodB_iff.1 hg).2.2).2
  obtain ⟨ao, cap, rfl, hcap, hcell⟩ := hl.opened
  have hlen := (goodB_iff.1 hg).2.1
  obtain ⟨N, HN⟩ : ∃ N, Hid (l.length = N) := ⟨_, rfl⟩
  have HC : Hid (∀ i, i < l.length → ∃ b off, ao = some ⟨b, off, none⟩ ∧ w.cell? ⟨b, off + i * 2, none⟩ = some (.int .i64 (l.getD i (0, 0)).1) ∧ w.cell? ⟨b, off + i * 2 + 1, none⟩ = some (.int .i64 (l.getD i (0, 0)).2) ∧ b < w.heap.size) := hcell
  rw [HN.out] at hcap hlen HX ⊢
  clear hl hE ht hg hcell
  go_enter Tryd.func12, Tryd.ntmps12
  go_wp2_with (first | (go_at_call 36; refine (good_any _ l _ _ HX.out HE.out (by rw [HN.out]; omega)).mono ?_; rintro e w1 ⟨rfl, hb1⟩; rw [HG.out]; have HB1 : Hid (Below w.heap.size w w1) := hb1; clear hb1) | (at_make; refine wpList_make_own _ rfl _ _ 23 rfl w1.heap.size 5 i0 _ 1 Tryd.underlying23 hi hz0 hz1 _ _ _ (4 + 8 * N) rfl rfl (by simp) (by rw [hz2]; omega) (by unfold maxLen; omega) (Nat.le_refl _) ?_; intro w2 ho2 hg2; have HO2 : Hid (Own w2 w1.heap.size (.slice (some ⟨w1.heap.size, 0, none⟩) 0 (4 + 8 * N)) []) := ho2; have HB2 : Hid (Below w1.heap.size w1 w2) := below_of_grown hg2; clear ho2 hg2) | fail)
  have hz2' : w1.heap.size < w2.heap.size := (HO2.out.lt _ rfl).2
  have HBA : Hid (Below w2.heap.size w2 (w2.alloc (.cells #[.slice (some ⟨w1.heap.size, 0, none⟩) 0 (4 + 8 * N)] 23))) := (Below.refl _ _).alloc (Nat.le_refl _) _
  have HOB : Hid (OutB (w2.alloc (.cells #[.slice (some ⟨w1.heap.size, 0, none⟩) 0 (4 + 8 * N)] 23)) w2.heap.size w1.heap.size (.slice (some ⟨w1.heap.size, 0, none⟩) 0 (4 + 8 * N)) []) :=
    ⟨by simp, by simp, HO2.out.below HBA.out, fun e => by injection e with e; have h9 := hz2'; rw [← e] at h9; exact Nat.lt_irrefl _ h9⟩
  refine (layNum_any _ _ w1.heap.size _ [] _ HOB.out (by simp; omega) (by omega) (by omega) (by simp)).mono ?_
  rintro e w3 ⟨rfl, v3, ho3, ht3⟩
  have HV3 : Hid (OutB w3 w2.heap.size w1.heap.size v3 (d4 N)) := ho3
  have HBW2 : Hid (Below w1.heap.size w1 (w2.alloc (.cells #[.slice (some ⟨w1.heap.size, 0, none⟩) 0 (4 + 8 * N)] 23))) := HB2.out.alloc (by omega) _
  have HB3 : Hid (Below w1.heap.size w1 w3) := HBW2.out.trans (ht3.below (fun q hq => by
    rcases hq with rfl | hq
    · omega
    · exact (HOB.out.own.lt q hq).1) (by simp; omega))
  have HZ3 : Hid (w2.heap.size < w3.heap.size) := World.block_lt_of_cell? w3 _ ho3.cell
  clear ho3 ht3
  go_wp2_with fail
  go_loopw [23] (fun i wr => ∃ k : Nat, k ≤ N ∧ i = .int .i64 (k : Int) ∧ Hid (∃ vo, OutB wr w2.heap.size w1.heap.size vo (d4 N ++ xbs (l.take k))) ∧ Hid (Below w1.heap.size w1 wr)) (fun i _ => N - (intOf i).toNat)
  case atStart => exact ⟨0, Nat.zero_le _, rfl, ⟨v3, by simpa [xbs] using HV3.out⟩, HB3.out⟩
  case round =>
    obtain ⟨k, hk, rfl, HO, HB⟩ := hrel
    obtain ⟨vo, hvo⟩ := HO.out
    have HVO : Hid (OutB wr w2.heap.size w1.heap.size vo (d4 N ++ xbs (l.take k))) := hvo
    have hzr : w2.heap.size < wr.heap.size := World.block_lt_of_cell? wr _ hvo.cell
    have HL : Hid ((d4 (N : Int) ++ xbs (l.take k)).length = 4 + 8 * k) := by unfold Hid; rw [List.length_append, d4_length, xbs_length, List.length_take, HN.out, Nat.min_eq_left hk]
    have HNS : Hid (∀ q, (q = w2.heap.size ∨ vo.ownBlock = some q) → w1.heap.size ≤ q ∧ q < wr.heap.size) := fun q hq => by
      rcases hq with rfl | hq
      · exact ⟨by omega, by omega⟩
      · exact hvo.own.lt q hq
    clear hvo HO
    by_cases hlt : k < N
    · have hkl : k < l.length := by rw [HN.out]; exact hlt
      obtain ⟨b, off, rfl, c1, c2, hb⟩ := HC.out k hkl
      have HBW : Hid (Below w.heap.size w wr) := HB1.out.trans (HB.out.mono HB1.out.size)
      have d1 := (HBW.out.cell (p := ⟨b, off + k * 2, none⟩) hb).trans c1
      have d2 := (HBW.out.cell (p := ⟨b, off + k * 2 + 1, none⟩) hb).trans c2
      have hx := HFI.out _ (getD_mem hkl)
      have HG1 : Hid (xbs (l.take (k + 1)) = xbs (l.take k) ++ d4 (l.getD k (0, 0)).1 ++ d4 (l.getD k (0, 0)).2) := xbs_take hkl
      clear c1 c2
      generalize l.getD k (0, 0) = x at *
      obtain ⟨L, HLL⟩ : ∃ L, Hid (d4 (N : Int) ++ xbs (l.take k) = L) := ⟨_, rfl⟩
      rw [HLL.out] at HVO HL
      obtain ⟨xa, xs⟩ := x
      dsimp only at d1 d2 hx
      obtain ⟨x1, _, x2, x3⟩ := hx
      have HBA : Hid (Below wr.heap.size wr (wr.alloc (.cells #[.int .i64 xa, .int .i64 xs] 79))) := (Below.refl _ _).alloc (Nat.le_refl _) _
      have HBC : Hid (Below w1.heap.size w1 (wr.alloc (.cells #[.int .i64 xa, .int .i64 xs] 79))) := HB.out.alloc (by omega) _
      have hc0 := cells_pairX (heap_alloc_new wr (.cells #[.int .i64 xa, .int .i64 xs] 79))
      go_wp2_with fail
      refine (layNum_any _ _ w1.heap.size vo L _ (HVO.out.below HBA.out) (by simp; omega) (by omega) (by omega) (by rw [HL.out]; omega)).mono ?_
      rintro e w4 ⟨rfl, v4, ho4, ht4⟩
      have HV4 : Hid (OutB w4 w2.heap.size w1.heap.size v4 (L ++ d4 xa)) := ho4
      have e2 := ht4.cell (fun hq => by have := (HNS.out _ hq).2; omega) hc0.2
      have HB4 : Hid (Below w1.heap.size w1 w4) := HBC.out.trans (ht4.below (fun q hq => (HNS.out q hq).1) (by simp; omega))
      have hz4 : w2.heap.size < w4.heap.size := World.block_lt_of_cell? w4 _ ho4.cell
      clear ho4 ht4
      go_wp2_with fail
      refine (layNum_any _ _ w1.heap.size v4 (L ++ d4 xa) _ HV4.out (by omega) (by omega) (by omega) (by rw [List.length_append, HL.out, d4_length]; omega)).mono ?_
      rintro e w5 ⟨rfl, v5, ho5, ht5⟩
      have HB5 : Hid (Below w1.heap.size w1 w5) := HB4.out.trans (ht5.below (fun q hq => by
        rcases hq with rfl | hq
        · omega
        · exact (HV4.out.own.lt q hq).1) (by omega))
      go_wp2_with fail
      go_roundw
      case rel => exact ⟨k + 1, by omega, by simp, ⟨v5, by rw [HG1.out, ← List.append_assoc, ← List.append_assoc, HLL.out]; exact ho5⟩, HB5.out⟩
      case measure => simp [intOf]; omega
    · obtain rfl : k = N := by omega
      have HF : Hid (d4 (k : Int) ++ xbs (l.take k) = plainL l) := by unfold Hid plainL; rw [List.take_of_length_le (by rw [HN.out]; omega), HN.out]
      have HBW : Hid (Below w.heap.size w wr) := HB1.out.trans (HB.out.mono HB1.out.size)
      have HPL : Hid ((plainL l).length = 4 + 8 * k) := by unfold Hid; rw [plainL_length, HN.out]
      rw [HF.out] at HVO
      have c3 := HVO.out.cell
      go_wp2_with fail
      refine (seal_any vo (plainL l) _ HVO.out.own.bs (by rw [HPL.out]; omega) (plainL_byt l) (HT.out.below HBW.out)).mono ?_
      rintro e w6 ⟨rfl, hr6, hb6⟩
      go_wp2_with fail
      go_ret2
      exact ⟨_, rfl, HBW.out.size, hr6, HBW.out.trans (hb6.mono HBW.out.size)⟩
end Go.Proofs.YtkiccnedmejnaabDoor
