/-
  The walks of the document's Read, Cut, Start and Copy over its file. Conditions: those of lengths.
-/
import Derived.Test.YtkdmcdkjfkllkaaCopyWalk
namespace Go.Proofs.Ytkdmcdkjfkllkaa
open Go.RowKit
set_option linter.unusedVariables false

theorem refStart_any {w : World} {B p : Nat} {F : Mdl} {vb vr : Value} {rv : List RawV} (h : RF w B p F vb vr rv) :
    Calls Try.prog 25 #[.pointer (some ⟨p, 0, none⟩)] w fun e w' => (∃ u, e = .returned u) ∧ RF w' B p { F with off := false } vb vr rv ∧ Chg (fun k => k = p) w w' := by
  have c2 : w.cell? ⟨p, 2, none⟩ = some (.bool F.off) := h.cell 2
  have z2 := h.free 2
  have HF : Hid (RF w B p F vb vr rv) := h
  clear h
  go_enter Try.func25, Try.ntmps25
  go_wp2
  go_end0
  exact ⟨⟨_, rfl⟩, HF.out.put 2 _ rfl rfl HF.out.fit (by simp [rcs]), Chg.cell _ _ _ _⟩
theorem refCut_any {w : World} {B p : Nat} {F : Mdl} {vb vr : Value} {rv : List RawV} (h : RF w B p F vb vr rv) (n : Int) (hn : 0 ≤ n) (hn2 : n ≤ 9223372036854775807) :
    Calls Try.prog 23 #[.pointer (some ⟨p, 0, none⟩), .int .i64 n] w fun e w' => e = .returned (.int .i64 0) ∧ RF w' B p { F with pl := true, left := n } vb vr rv ∧ Chg (fun k => k = p) w w' := by
  have c3 : w.cell? ⟨p, 3, none⟩ = some (.bool F.pl) := h.cell 3
  have c4 : w.cell? ⟨p, 4, none⟩ = some (.int .i64 F.left) := h.cell 4
  have z3 := h.free 3
  have z4 := h.free 4
  have HF : Hid (RF w B p F vb vr rv) := h
  clear h
  go_enter Try.func23, Try.ntmps23
  go_wp2
  go_ret
  obtain ⟨f1, f2, f3, f4, f5⟩ := HF.out.fit
  exact ⟨rfl, HF.out.put2 3 4 _ _ rfl rfl ⟨f1, f2, f3, hn, hn2⟩ (by simp [rcs]), (Chg.cell _ _ _ _).next (Chg.cell _ _ _ _)⟩
theorem refCut_neg (p : Nat) (n : Int) (w : World) (hn : n < 0) :
    Calls Try.prog 23 #[.pointer (some ⟨p, 0, none⟩), .int .i64 n] w fun e w' => e = .returned (.int .i64 2) ∧ w' = w := by
  go_enter Try.func23, Try.ntmps23
  go_wp2
  go_ret
  exact ⟨rfl, rfl⟩

theorem refRead_bad {w : World} {B p : Nat} {F : Mdl} {vb vr : Value} {rv : List RawV} (h : RF w B p F vb vr rv) (at' n : Int) (ha : at' ≤ 9223372036854775807) (hn : n ≤ 9223372036854775807) (hE : rdErr F at' n ≠ 0) :
    Calls Try.prog 21 #[.pointer (some ⟨p, 0, none⟩), .int .i64 at', .int .i64 n] w fun e w' => e = .returned (.tuple #[.slice none 0 0, .int .i64 (rdErr F at' n)]) ∧ w' = w := by
  have c0 : w.cell? ⟨p, 0, none⟩ = some vb := h.cell 0
  have c2 : w.cell? ⟨p, 2, none⟩ = some (.bool F.off) := h.cell 2
  obtain ⟨f1, f2, f3, f4, f5⟩ := h.fit
  obtain ⟨ab, cb, ar, cr, rfl, hcb, rfl⟩ := h.shape
  clear h
  have HE : Hid (rdErr F at' n = if F.off then 6 else if at' < 0 ∨ n < 0 then 2 else if (F.bs.length : Int) - min at' (F.bs.length : Int) < n then 4 else 0) := rfl
  have HN : Hid (rdErr F at' n ≠ 0) := hE
  clear hE
  obtain ⟨bl, Hbl⟩ : ∃ bl, Hid (F.bs.length = bl) := ⟨_, rfl⟩
  rw [Hbl.out] at c0 hcb f3 HE
  cases hoff : F.off with
  | true =>
    rw [hoff] at HE c2
    have HR : Hid (rdErr F at' n = 6) := by rw [Hid, HE.out]; simp
    go_enter Try.func21, Try.ntmps21
    go_wp2
    go_ret2
    exact ⟨by rw [HR.out]; rfl, rfl⟩
  | false =>
    rw [hoff] at HE c2
    by_cases h1 : at' < 0
    · have HR : Hid (rdErr F at' n = 2) := by rw [Hid, HE.out]; simp [h1]
      go_enter Try.func21, Try.ntmps21
      go_wp2
      go_ret2
      exact ⟨by rw [HR.out]; rfl, rfl⟩
    · by_cases h2 : n < 0
      · have HR : Hid (rdErr F at' n = 2) := by rw [Hid, HE.out]; simp [h2]
        go_enter Try.func21, Try.ntmps21
        go_wp2
        go_ret2
        exact ⟨by rw [HR.out]; rfl, rfl⟩
      · by_cases h3 : (bl : Int) - min at' (bl : Int) < n
        · have HR : Hid (rdErr F at' n = 4) := by rw [Hid, HE.out]; simp [h1, h2, h3]
          by_cases h4 : (bl : Int) < at'
          · have h5 : 0 < n := by omega
            go_enter Try.func21, Try.ntmps21
            go_wp2
            go_ret2
            exact ⟨by rw [HR.out]; rfl, rfl⟩
          · have h5 : (bl : Int) - at' < n := by omega
            go_enter Try.func21, Try.ntmps21
            go_wp2
            go_ret2
            exact ⟨by rw [HR.out]; rfl, rfl⟩
        · exact absurd (by rw [HE.out]; simp [h1, h2, h3]) HN.out
theorem refRead_ok {w : World} {B p : Nat} {F : Mdl} {vb vr : Value} {rv : List RawV} (h : RF w B p F vb vr rv) (a m : Nat) (ha : (a : Int) ≤ 9223372036854775807) (hoff : F.off = false) (hm : m = 0 ∨ a + m ≤ F.bs.length) :
    Calls Try.prog 21 #[.pointer (some ⟨p, 0, none⟩), .int .i64 (a : Int), .int .i64 (m : Int)] w fun e w' => ∃ ao cap, e = .returned (.tuple #[.slice ao m cap, .int .i64 0]) ∧ Bs w' (.slice ao m cap) ((F.bs.drop a).take m) ∧ Below w.heap.size w w' := by
  obtain ⟨i0, hi, hz0, hz1, hz2⟩ := info_parts Try.info5
  have c0 : w.cell? ⟨p, 0, none⟩ = some vb := h.cell 0
  have c2 : w.cell? ⟨p, 2, none⟩ = some (.bool F.off) := h.cell 2
  rw [hoff] at c2
  obtain ⟨f1, f2, f3, f4, f5⟩ := h.fit
  have HB : Hid (Bs w vb F.bs) := h.hold.own.bs
  have hpl := h.hold.plt
  obtain ⟨ab, cb, ar, cr, rfl, hcb, rfl⟩ := h.shape
  obtain ⟨bl, Hbl⟩ : ∃ bl, Hid (F.bs.length = bl) := ⟨_, rfl⟩
  rw [Hbl.out] at c0 hcb f3 hm HB
  clear h
  by_cases h0 : m = 0
  · subst h0
    by_cases h4 : (bl : Int) < (a : Int)
    · go_enter Try.func21, Try.ntmps21
      go_wp2
      go_ret2
      exact ⟨none, 0, rfl, Bs.nil _, Below.refl _ _⟩
    · have h5 : (0 : Int) ≤ (bl : Int) - (a : Int) := by omega
      go_enter Try.func21, Try.ntmps21
      go_wp2
      go_ret2
      exact ⟨none, 0, rfl, Bs.nil _, Below.refl _ _⟩
  · have hm' : a + m ≤ bl := by omega
    have hmb : (m == 0) = false := by simp [h0]
    have hmi : ((m : Int) == 0) = false := by simp; omega
    obtain ⟨gb, ob, cb', e1, _, _⟩ := HB.out.opened (by rw [Hbl.out]; omega)
    injection e1 with e2 e3 e4
    subst e2
    clear e3 e4
    obtain ⟨en, Hen⟩ : ∃ en, Hid (a + m = en) := ⟨_, rfl⟩
    have hke : (a : Int) + (m : Int) = (en : Int) := by have := Hen.out; omega
    have henb : (en : Int) ≤ (bl : Int) := by have := Hen.out; omega
    have henc : (en : Int) ≤ (cb : Int) := by omega
    have hen0 : (0 : Int) ≤ (en : Int) := by omega
    have hae : (a : Int) ≤ (en : Int) := by have := Hen.out; omega
    have hac : (cb = a) = False := by simp; have := Hen.out; omega
    have h4 : ¬ (bl : Int) < (a : Int) := by omega
    have h5 : ¬ (bl : Int) - (a : Int) < (m : Int) := by omega
    have HPT : Hid (∀ W, Below w.heap.size w W → Bs W (.slice (some ⟨gb, ob + a, none⟩) (en - a) (cb - a)) ((F.bs.drop a).take m)) := fun W hb => by
      have h1 := (HB.out.below hb).part a (en - a) (cb - a) (by rw [Hbl.out]; have := Hen.out; omega) (by omega)
      rw [show en - a = m by have := Hen.out; omega] at h1 ⊢
      exact h1
    have HLM : Hid (((F.bs.drop a).take m).length = m) := by rw [Hid, List.length_take, List.length_drop, Hbl.out]; omega
    go_enter Try.func21, Try.ntmps21
    go_wp2_with (at_builtin; refine wpList_append_bytes _ rfl (.tmp 51) (.tmp 60) 22 rfl i0 Try.underlying22 hi hz0 hz1 hz2 w.heap.size _ _ [] ((F.bs.drop a).take m) rfl rfl (Own.empty _ _ (Nat.le_refl _)) (HPT.out _ ((Below.refl _ w).alloc (Nat.le_refl _) _)) (by rw [HLM.out]; simp; omega) w ((Below.refl _ w).alloc (Nat.le_refl _) _) (by simp) ?_; intro ao1 cap1 w1 ho1 hb1 _ hc1; simp only [List.length_nil, Nat.zero_add, List.nil_append, HLM.out] at ho1 hc1; have HO1 : Hid (Own w1 w.heap.size (.slice ao1 m cap1) ((F.bs.drop a).take m)) := ho1; have HB1 : Hid (Below w.heap.size w w1) := hb1; clear ho1 hb1; simp only [List.length_nil, Nat.zero_add, HLM.out])
    go_ret2
    exact ⟨ao1, cap1, rfl, HO1.out.bs, HB1.out⟩
theorem refRead_any {w : World} {B p : Nat} {F : Mdl} {vb vr : Value} {rv : List RawV} (h : RF w B p F vb vr rv) (at' n : Int) (ha : at' ≤ 9223372036854775807) (hn : n ≤ 9223372036854775807) :
    Calls Try.prog 21 #[.pointer (some ⟨p, 0, none⟩), .int .i64 at', .int .i64 n] w fun e w' => ∃ ao cap, e = .returned (.tuple #[.slice ao (rdList F at' n).length cap, .int .i64 (rdErr F at' n)]) ∧ Bs w' (.slice ao (rdList F at' n).length cap) (rdList F at' n) ∧ Below w.heap.size w w' := by
  by_cases hE : rdErr F at' n = 0
  · have hx := hE
    unfold rdErr at hx
    split at hx
    · omega
    · rename_i h1
      split at hx
      · omega
      · rename_i h2
        split at hx
        · omega
        · rename_i h3
          obtain ⟨a, rfl⟩ : ∃ a : Nat, at' = (a : Int) := ⟨at'.toNat, by omega⟩
          obtain ⟨m, rfl⟩ : ∃ m : Nat, n = (m : Int) := ⟨n.toNat, by omega⟩
          have hL : rdList F a m = (F.bs.drop a).take m := by
            unfold rdList
            rw [if_pos hE]
            simp only [Int.toNat_natCast]
          have hLl : (rdList F a m).length = m := by rw [hL, List.length_take, List.length_drop]; omega
          refine (refRead_ok h a m (by omega) (by simpa using h1) (by omega)).mono ?_
          rintro e w' ⟨ao, cap, rfl, h5, h6⟩
          refine ⟨ao, cap, by rw [hLl, hE], ?_, h6⟩
          rw [hLl, hL]
          exact h5
  · refine (refRead_bad h at' n ha hn hE).mono ?_
    rintro e w' ⟨rfl, rfl⟩
    have hL : rdList F at' n = [] := by unfold rdList; rw [if_neg hE]
    rw [hL]
    exact ⟨none, 0, rfl, Bs.nil _, Below.refl _ _⟩

/-- 'append(s, x...)' of raw writes, s the call's own, x nil or any row of them. -/
theorem wpList_append_rows {P : Program} (w : World) {ops : Array Oper} {rest : List Oper} {o : Oper} {a : Act} {Q : Exit → Act → World → Prop} (hgd : o.guard = none) (s x : Operand) (t te : TypeId)
    (ho : o.op = .call { callee := .builtin .append, args := #[s, x], argTypes := #[t, t] }) (i : TypeInfo) (z : Value) (ht : P.underlying t = some (.slice te)) (hi : P.info? te = some i) (hz : i.zero = some z) (hsize : i.size = 2) (hby : i.bytes = 32) (hzs : z.cells.size = 2)
    (B : Nat) (v y : Value) (rv : List RawV) (hs : a.eval s = v) (hx : a.eval x = y) (hown : w.ownsRow B te 2 v 0 []) (hm : Rs w y rv) (h1 : ∀ u ∈ rcells rv, u.oneCell' = true) (hn : rv.length ≤ 1000000000000) (w0 : World) (hb : Below B w0 w) (hB : B ≤ w.heap.size)
    (h : ∀ ao cap w', w'.ownsRow B te 2 (.slice ao rv.length cap) rv.length (rcells rv) → Below B w0 w' → wpList P ops Q rest (a.put o.dst (.slice ao rv.length cap)) w') :
    wpList P ops Q (o :: rest) a w := by
  obtain ⟨ao, cap, rfl, hc, hnil, hcell⟩ := hm
  cases ao with
  | none =>
    obtain rfl : cap = 0 := hnil rfl
    have h0 : rv.length = 0 := by omega
    obtain rfl : rv = [] := List.eq_nil_of_length_eq_zero h0
    refine wpList_append_own_none hgd s x t ho B te i 2 ht hi _ _ _ hs hown (by simpa using hx) ?_
    have hsh : ∃ ao cap, v = .slice ao 0 cap := by
      rcases hown.2 with ⟨e, _⟩ | ⟨g, cap, cur, e, _⟩
      · exact ⟨none, 0, e⟩
      · exact ⟨_, cap, e⟩
    obtain ⟨ao, cap, rfl⟩ := hsh
    exact h ao cap w hown hb
  | some ad =>
    refine wpList_append_own w hgd s x t ho B te i z 2 32 ht hi hz hsize hby hzs (by decide) v 0 [] hs hown ad rv.length cap (rcells rv) hx (rcells_length rv) (fun j u hj => hcell ad rfl j u hj) h1 (by unfold maxLen; omega) (by omega) hB (fun v' w' ho' hg' _ => ?_)
    have hbw : Below B w0 w' := hb.grown hg' hB (fun k hk => (World.ownsRow.lt hown k hk).1)
    rw [Nat.zero_add, List.nil_append] at ho'
    have hsh : ∃ ao cap, v' = .slice ao rv.length cap := by
      rcases ho'.2 with ⟨e, h0⟩ | ⟨g, cap, cur, e, _⟩
      · exact ⟨none, 0, by rw [e, h0]⟩
      · exact ⟨_, cap, e⟩
    obtain ⟨ao', cap', rfl⟩ := hsh
    exact h ao' cap' w' ho' hbw

theorem Rs.below {w w' : World} {v : Value} {rv : List RawV} (h : Rs w v rv) (hb : Below w.heap.size w w') : Rs w' v rv := by
  obtain ⟨ao, cap, e, h1, h2, h3⟩ := h
  exact ⟨ao, cap, e, h1, h2, fun ad ha j u hj => (hb.cell (World.block_lt_of_cell? w _ (h3 ad ha j u hj))).trans (h3 ad ha j u hj)⟩
theorem size_setCell (w : World) (a : Addr) (v : Value) : (w.setCell a v).heap.size = w.heap.size := by simp [World.setCell]

set_option maxHeartbeats 1000000 in
theorem refCopy_any {w : World} {B p : Nat} {F : Mdl} {vb vr : Value} {rv : List RawV} (h : RF w B p F vb vr rv) (hn : rv.length ≤ 1000000000000) :
    Calls Try.prog 17 #[.pointer (some ⟨p, 0, none⟩)] w fun e w' => ∃ p2 vb2 vr2, e = .returned (.pointer (some ⟨p2, 0, none⟩)) ∧ RF w' w.heap.size p2 F vb2 vr2 rv ∧ Below w.heap.size w w' := by
  obtain ⟨i0, hi, hz0, hz1, hz2⟩ := info_parts Try.info5
  obtain ⟨i1, hj, hy0, hy1, hy2⟩ := info_parts Try.infoRef
  have HP : Hid (RF w B p F vb vr rv) := h
  have HO1 := rows_one h.hold
  have c0 : w.cell? ⟨p, 0, none⟩ = some vb := h.cell 0
  have c1 : w.cell? ⟨p, 1, none⟩ = some (.int .i64 F.most) := h.cell 1
  have c2 : w.cell? ⟨p, 2, none⟩ = some (.bool F.off) := h.cell 2
  have c3 : w.cell? ⟨p, 3, none⟩ = some (.bool F.pl) := h.cell 3
  have c4 : w.cell? ⟨p, 4, none⟩ = some (.int .i64 F.left) := h.cell 4
  have c5 : w.cell? ⟨p, 5, none⟩ = some vr := h.cell 5
  have hpl := h.hold.plt
  have HRS : Hid (Rs w vr rv) := rs_of_owns h.hold.raws
  obtain ⟨ab, cb, ar, cr, rfl, hcb, rfl⟩ := h.shape
  have hl : F.bs.length ≤ 140737488355328 := by obtain ⟨f1, f2, f3, f4, f5⟩ := h.fit; omega
  clear h
  obtain ⟨L, HL⟩ : ∃ L, Hid (F.bs.length = L) := ⟨_, rfl⟩
  obtain ⟨N, HN⟩ : ∃ N, Hid (rv.length = N) := ⟨_, rfl⟩
  rw [HL.out] at c0 hcb hl HP
  rw [HN.out] at c5 hn HP HRS
  obtain ⟨W1, HW1⟩ : ∃ W1, Hid (W1 = w.alloc (.cells #[.slice ab L cb, .int .i64 F.most, .bool F.off, .bool F.pl, .int .i64 F.left, .slice ar N cr] 66)) := ⟨_, rfl⟩
  have HB1 : Hid (Below w.heap.size w W1) := by rw [Hid, HW1.out]; exact (Below.refl _ w).alloc (Nat.le_refl _) _
  have HC1 : Hid (W1.heap[w.heap.size]? = some (.cells (rcs F (.slice ab L cb) (.slice ar N cr)) 66 (0, 0))) := by rw [Hid, HW1.out]; exact heap_alloc_new w _
  have HS1 : Hid (W1.heap.size = w.heap.size + 1) := by rw [Hid, HW1.out]; exact World.size_alloc _ _
  have HBS : Hid (∀ o, Bs ((w.alloc (.cells #[.slice ab L cb, .int .i64 F.most, .bool F.off, .bool F.pl, .int .i64 F.left, .slice ar N cr] 66)).alloc o) (.slice ab L cb) F.bs) := fun o => by
    have h1 := HP.out.hold.own.bs.below HB1.out
    rw [HW1.out] at h1
    exact h1.below ((Below.refl _ _).alloc (Nat.le_refl _) _)
  have HOE : Hid (Own ((w.alloc (.cells #[.slice ab L cb, .int .i64 F.most, .bool F.off, .bool F.pl, .int .i64 F.left, .slice ar N cr] 66)).alloc (.cells #[] 5)) (w.heap.size + 1) (.slice (some ⟨w.heap.size + 1, 0, none⟩) 0 0) []) := by
    have h1 := Own.empty W1 W1.heap.size (Nat.le_refl _)
    rw [HS1.out, HW1.out] at h1
    exact h1
  have HBE : Hid (Below (w.heap.size + 1) W1 ((w.alloc (.cells #[.slice ab L cb, .int .i64 F.most, .bool F.off, .bool F.pl, .int .i64 F.left, .slice ar N cr] 66)).alloc (.cells #[] 5))) := by
    rw [← HS1.out, HW1.out]
    exact (Below.refl _ _).alloc (Nat.le_refl _) _
  go_enter Try.func17, Try.ntmps17
  go_wp2_with (first | (at_builtin; refine wpList_append_bytes _ rfl (.tmp 7) (.tmp 11) 22 rfl i0 Try.underlying22 hi hz0 hz1 hz2 (w.heap.size + 1) _ _ [] F.bs rfl rfl HOE.out (HBS.out _) (by rw [HL.out]; simp; omega) W1 HBE.out (by simp) ?_; intro ao2 cap2 w2 ho2 hb2 _ _; simp only [List.length_nil, Nat.zero_add, List.nil_append, HL.out] at ho2; have HO2 : Hid (Own w2 (w.heap.size + 1) (.slice ao2 L cap2) F.bs) := ho2; have HB2 : Hid (Below (w.heap.size + 1) W1 w2) := hb2; have HC2 : Hid (w2.heap[w.heap.size]? = some (.cells (rcs F (.slice ab L cb) (.slice ar N cr)) 66 (0, 0))) := (hb2.block _ (by omega)).trans HC1.out; have k0 : w2.cell? ⟨w.heap.size, 0, none⟩ = some (.slice ab L cb) := (by simp [World.cell?, HC2.out, rcs]); have z0 : w2.frozen? ⟨w.heap.size, 0, none⟩ = false := (by simp [World.frozen?, HC2.out]); have c52 : w2.cell? ⟨p, 5, none⟩ = some (.slice ar N cr) := cell_later (HB1.out.trans (hb2.mono (by omega))) c5; have HBW2 : Hid (Below w.heap.size w w2) := HB1.out.trans (hb2.mono (by omega)); have HB3 : Hid (Below w.heap.size w ((w2.setCell ⟨w.heap.size, 0, none⟩ (.slice ao2 L cap2)).alloc (.cells #[] 67))) := (HBW2.out.setCell (p := ⟨w.heap.size, 0, none⟩) (Nat.le_refl _) _).alloc (by have := HBW2.out.size; rw [size_setCell]; exact this) _; have e5 : ((w2.setCell ⟨w.heap.size, 0, none⟩ (.slice ao2 L cap2)).alloc (.cells #[] 67)).cell? ⟨p, 5, none⟩ = some (.slice ar N cr) := cell_later HB3.out c5; have HRE : Hid (((w2.setCell ⟨w.heap.size, 0, none⟩ (.slice ao2 L cap2)).alloc (.cells #[] 67)).ownsRow w2.heap.size 67 2 (.slice (some ⟨w2.heap.size, 0, none⟩) 0 0) 0 []) := (by have h1 := World.ownsRow_made (base := w2.heap.size) (w2.setCell ⟨w.heap.size, 0, none⟩ (.slice ao2 L cap2)) (#[] : Array Value) 0 (e := 67) (size := 2) (by rw [size_setCell]; exact Nat.le_refl _) (Nat.zero_le _) rfl; rw [size_setCell] at h1; exact h1); have HR3 : Hid (Rs ((w2.setCell ⟨w.heap.size, 0, none⟩ (.slice ao2 L cap2)).alloc (.cells #[] 67)) (.slice ar N cr) rv) := HRS.out.below HB3.out; have HBZ : Hid (Below w2.heap.size (w2.setCell ⟨w.heap.size, 0, none⟩ (.slice ao2 L cap2)) ((w2.setCell ⟨w.heap.size, 0, none⟩ (.slice ao2 L cap2)).alloc (.cells #[] 67))) := (Below.refl _ _).alloc (by rw [size_setCell]; exact Nat.le_refl _) _; clear ho2 hb2; simp only [List.length_nil, Nat.zero_add, HL.out]) | (at_builtin; refine wpList_append_rows _ rfl (.tmp 14) (.tmp 18) 64 67 rfl i1 _ Try.underlying64 hj hy0 hy1 hy2 rfl w2.heap.size _ _ rv rfl rfl HRE.out HR3.out HO1 (by rw [HN.out]; exact hn) (w2.setCell ⟨w.heap.size, 0, none⟩ (.slice ao2 L cap2)) HBZ.out (by rw [World.size_alloc, size_setCell]; omega) ?_; intro ao4 cap4 w4 ho4 hb4; rw [HN.out] at ho4 ⊢; have HO4 : Hid (w4.ownsRow w2.heap.size 67 2 (.slice ao4 N cap4) N (rcells rv)) := ho4; have HB4 : Hid (Below w2.heap.size (w2.setCell ⟨w.heap.size, 0, none⟩ (.slice ao2 L cap2)) w4) := hb4; have HC4 : Hid (w4.heap[w.heap.size]? = some (.cells (rcs F (.slice ao2 L cap2) (.slice ar N cr)) 66 (0, 0))) := (by have h1 := heap_setCell_same w2 w.heap.size 0 _ _ (.slice ao2 L cap2) HC2.out; refine (hb4.block _ (by have := (Array.getElem?_eq_some_iff.1 HC2.out).1; omega)).trans (h1.trans ?_); simp [rcs]); have k5 : w4.cell? ⟨w.heap.size, 5, none⟩ = some (.slice ar N cr) := (by simp [World.cell?, HC4.out, rcs]); have z5 : w4.frozen? ⟨w.heap.size, 5, none⟩ = false := (by simp [World.frozen?, HC4.out]); clear ho4 hb4))
  go_ret
  have hs2 : w.heap.size < w2.heap.size := (Array.getElem?_eq_some_iff.1 HC2.out).1
  have hc3 : Chg (fun k => k = w.heap.size) w2 (w2.setCell ⟨w.heap.size, 0, none⟩ (.slice ao2 L cap2)) := Chg.cell _ _ _ _
  have hbw4 : Below w.heap.size w w4 := (HBW2.out.setCell (p := ⟨w.heap.size, 0, none⟩) (Nat.le_refl _) _).trans (HB4.out.mono (by omega))
  have hc5 : Chg (fun k => k = w.heap.size) w4 (w4.setCell ⟨w.heap.size, 5, none⟩ (.slice ao4 N cap4)) := Chg.cell _ _ _ _
  have hb5 : Below w.heap.size w (w4.setCell ⟨w.heap.size, 5, none⟩ (.slice ao4 N cap4)) := hbw4.setCell (p := ⟨w.heap.size, 5, none⟩) (Nat.le_refl _) _
  have hob : ∀ g, (Value.slice ao2 L cap2).ownBlock = some g → w.heap.size < g ∧ g < w2.heap.size := fun g hg => by have := World.ownsRow.lt HO2.out g hg; omega
  have hrb : ∀ g, (Value.slice ao4 N cap4).ownBlock = some g → w2.heap.size ≤ g := fun g hg => (World.ownsRow.lt HO4.out g hg).1
  have ho3 : Own (w2.setCell ⟨w.heap.size, 0, none⟩ (.slice ao2 L cap2)) (w.heap.size + 1) (.slice ao2 L cap2) F.bs := owns_chg HO2.out hc3 (fun g hg e => by have e' : g = w.heap.size := e; have := hob g hg; omega)
  have ho4 : Own w4 (w.heap.size + 1) (.slice ao2 L cap2) F.bs := owns_chg (S := fun k => w2.heap.size ≤ k) ho3 ⟨HB4.out.os, HB4.out.tape, HB4.out.output, HB4.out.size, fun k hk hn => HB4.out.block k (by omega)⟩ (fun g hg e => by have := hob g hg; omega)
  have ho5 : Own (w4.setCell ⟨w.heap.size, 5, none⟩ (.slice ao4 N cap4)) w.heap.size (.slice ao2 L cap2) F.bs :=
    Own.mono (show Own _ (w.heap.size + 1) _ _ from owns_chg (S := fun k => k = w.heap.size) ho4 hc5 (fun g hg e => by have e' : g = w.heap.size := e; have := hob g hg; omega)) (by omega)
  have hr5 : (w4.setCell ⟨w.heap.size, 5, none⟩ (.slice ao4 N cap4)).ownsRow w.heap.size 67 2 (.slice ao4 N cap4) rv.length (rcells rv) := by
    have h9 := owns_chg HO4.out hc5 (fun g hg e => by have e' : g = w.heap.size := e; have := hrb g hg; omega)
    rw [HN.out]
    obtain ⟨q1, q2 | ⟨g, cap, cur, q3, q4, q5⟩⟩ := h9
    · exact ⟨q1, .inl q2⟩
    · exact ⟨q1, .inr ⟨g, cap, cur, q3, by omega, q5⟩⟩
  refine ⟨w.heap.size, .slice ao2 L cap2, .slice ao4 N cap4, rfl, ⟨?_, hold_new HP.out.hold hb5 (Nat.le_refl _) ?_ ho5 hr5 ?_ ?_ ?_, HP.out.rs, HP.out.fit⟩, hb5⟩
  · rw [heap_setCell_same w4 w.heap.size 5 _ _ _ HC4.out]
    simp [rcs]
  · have := hc5.size; have := HB4.out.size; rw [size_setCell] at this; omega
  · intro e; have := hob _ e; omega
  · intro e; have := hrb _ e; omega
  · intro g hg e; have := hob g hg; have := hrb g e; omega
end Go.Proofs.Ytkdmcdkjfkllkaa
