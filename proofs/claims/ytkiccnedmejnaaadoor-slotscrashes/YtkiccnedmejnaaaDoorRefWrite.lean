/-
  The walk of the document's Write over its file, for all places and bytes. Conditions: those of lengths, and that the bytes are none of the file's own.
-/
import Derived.Test.YtkiccnedmejnaaaDoorRefFile
namespace Go.Proofs.YtkiccnedmejnaaaDoor
open Go.RowKit
set_option linter.unusedVariables false
set_option maxRecDepth 100000
theorem Tryd.infoRef : (Tryd.prog.info? 97).map (fun i => (i.zero, i.size, i.bytes)) = some (some (.agg #[.int .i64 0, .slice none 0 0]), 2, 32) := by kernel_rfl

theorem ref_added {w w2 w3 : World} {B p : Nat} {F : Mdl} {vb vr vr' : Value} {rv : List RawV} (h : RF w B p F vb vr rv) {at' : Int} {x : List Int} {v : Value} (hx : Bs w v x) (hal : Alien w p vb vr v)
    (hg1 : Below w.heap.size w w2) (ho : w3.ownsRow B 97 2 vr' (rv.length + 1) (rcells rv ++ [.int .i64 at', v])) (hg : w2.grownBy w3 vr.ownBlock) (hb : ∀ k, vr'.ownBlock = some k → vr.ownBlock = some k ∨ w2.heap.size ≤ k) :
    RF (w3.setCell ⟨p, 5, none⟩ vr') B p { F with rs := F.rs ++ [(at', x)] } vb vr' (rv ++ [(at', x, v)]) ∧ Chg (Foot p vb vr) w (w3.setCell ⟨p, 5, none⟩ vr') ∧
    (∀ k, Foot p vb vr' k → Foot p vb vr k ∨ w.heap.size ≤ k) ∧ (∀ k, Inn (rv ++ [(at', x, v)]) k → Inn rv k ∨ v.ownBlock = some k) := by
  have c12 : Chg (fun k => vr.ownBlock = some k) w w3 := (Chg.of_below hg1).trans (Chg.of_grown (S := fun k => vr.ownBlock = some k) hg (fun k e => e)) (fun _ => .inl)
  have hb' : ∀ k, vr'.ownBlock = some k → vr.ownBlock = some k ∨ w.heap.size ≤ k := fun k hk => (hb k hk).imp id (Nat.le_trans hg1.size)
  have hp3 : w3.heap[p]? = some (.cells (rcs F vb vr) 57 (0, 0)) := (c12.block p h.hold.plt (fun e => h.hold.d2 e)).trans h.cells
  have c3 : Chg (fun k => k = p) w3 (w3.setCell ⟨p, 5, none⟩ vr') := Chg.cell _ _ _ _
  have call : Chg (Foot p vb vr) w (w3.setCell ⟨p, 5, none⟩ vr') := (c12.mono (fun k e => .inr (.inr e))).trans c3 (fun k e => .inl (.inl e))
  have hft : ∀ k, Foot p vb vr' k → Foot p vb vr k ∨ w.heap.size ≤ k := by
    rintro k (rfl | e | e)
    · exact .inl (.inl rfl)
    · exact .inl (.inr (.inl e))
    · exact (hb' k e).imp (fun e => .inr (.inr e)) id
  have hin : ∀ k, Inn (rv ++ [(at', x, v)]) k → Inn rv k ∨ v.ownBlock = some k := by
    rintro k ⟨r, hr, hk⟩
    rcases List.mem_append.1 hr with hr | hr
    · exact .inl ⟨r, hr, hk⟩
    · simp at hr; subst hr; exact .inr hk
  have hd2 : vr'.ownBlock ≠ some p := fun e => by
    rcases hb' p e with e | e
    · exact h.hold.d2 e
    · have := h.hold.plt; omega
  have hnf : ∀ k, Inn (rv ++ [(at', x, v)]) k → ¬ Foot p vb vr k ∧ k < w.heap.size := fun k hk => by
    rcases hin k hk with hk | hk
    · exact ⟨h.hold.dis k hk, h.hold.ilt k hk⟩
    · exact hal k hk
  refine ⟨⟨?_, ⟨h.hold.bp, Nat.lt_of_lt_of_le h.hold.plt call.size, ?_, ?_, h.hold.d1, hd2, ?_, ?_, ?_, ?_⟩, ?_, h.fit⟩, call, hft, hin⟩
  · rw [heap_setCell_same w3 p 5 _ _ vr' hp3]
    simp [rcs]
  · exact owns_chg (owns_chg h.hold.own c12 (fun g hgb e => h.hold.d3 g hgb e)) c3 (fun g hgb e => h.hold.d1 (by rw [hgb, e]))
  · refine owns_chg (S := fun k => k = p) ?_ c3 (fun g hgb e => hd2 (by rw [hgb, e]))
    rw [rcells_append]
    simpa [rcells] using ho
  · intro g hgb e
    rcases hb' g e with e | e
    · exact h.hold.d3 g hgb e
    · have := World.ownsRow.lt h.hold.own g hgb; omega
  · intro r hr
    rcases List.mem_append.1 hr with hr' | hr'
    · exact (h.hold.inn r hr').chg call (fun g hgb => h.hold.dis g ⟨r, hr', hgb⟩)
    · simp at hr'; subst hr'; exact hx.chg call (fun g hgb => (hal g hgb).1)
  · intro k hk hf
    have := hnf k hk
    rcases hft k hf with e | e
    · exact this.1 e
    · omega
  · intro k hk
    exact Nat.lt_of_lt_of_le (hnf k hk).2 call.size
  · simp [plain, h.rs]

/-- The bytes are others, in memory that was made since. -/
theorem ref_laid {w w2 : World} {B p : Nat} {F : Mdl} {vb vr vb' : Value} {rv : List RawV} (h : RF w B p F vb vr rv) (hB : B ≤ w.heap.size) {L : List Int} (hb2 : Below w.heap.size w w2) (ho : Own w2 w.heap.size vb' L) (hfit : (L.length : Int) ≤ F.most) :
    RF (w2.setCell ⟨p, 0, none⟩ vb') B p { F with bs := L } vb' vr rv ∧ Moved w (w2.setCell ⟨p, 0, none⟩ vb') p vb vr rv vb' vr rv := by
  have hnew : ∀ k, vb'.ownBlock = some k → w.heap.size ≤ k := fun k hk => (World.ownsRow.lt ho k hk).1
  have c3 : Chg (fun k => k = p) w2 (w2.setCell ⟨p, 0, none⟩ vb') := Chg.cell _ _ _ _
  have call : Chg (Foot p vb vr) w (w2.setCell ⟨p, 0, none⟩ vb') := (Chg.of_below hb2).trans c3 (fun k e => .inl (.inl e))
  have hpl := h.hold.plt
  have hd1 : vb'.ownBlock ≠ some p := fun e => by have := hnew p e; omega
  have h2 := h.below hb2
  obtain ⟨f1, f2, f3, f4, f5⟩ := h.fit
  have hft : ∀ k, Foot p vb' vr k → Foot p vb vr k ∨ w.heap.size ≤ k := by
    rintro k (rfl | e | e)
    · exact .inl (.inl rfl)
    · exact .inr (hnew k e)
    · exact .inl (.inr (.inr e))
  refine ⟨⟨?_, ⟨h.hold.bp, Nat.lt_of_lt_of_le hpl call.size, ?_, ?_, hd1, h.hold.d2, ?_, ?_, ?_, ?_⟩, h.rs, ⟨f1, f2, hfit, f4, f5⟩⟩, call, hft, fun _ => .inl⟩
  · rw [heap_setCell_same w2 p 0 _ _ vb' h2.cells]
    simp [rcs]
  · exact owns_chg (S := fun k => k = p) (ho.mono hB) c3 (fun g hgb e => hd1 (by rw [hgb, e]))
  · exact owns_chg h2.hold.raws c3 (fun g hgb e => h.hold.d2 (by rw [hgb, e]))
  · intro g hgb e
    have := hnew g hgb
    have := World.ownsRow.lt h.hold.raws g e
    omega
  · exact fun r hr => (h.hold.inn r hr).chg call (fun g hgb => h.hold.dis g ⟨r, hr, hgb⟩)
  · intro k hk hf
    rcases hft k hf with e | e
    · exact h.hold.dis k hk e
    · have := h.hold.ilt k hk; omega
  · exact fun k hk => Nat.lt_of_lt_of_le (h.hold.ilt k hk) call.size

theorem refWrite_refused {w : World} {B p : Nat} {F : Mdl} {vb vr : Value} {rv : List RawV} (h : RF w B p F vb vr rv) (at' : Int) (ao : Option Addr) (n cap : Nat) (hn : (n : Int) ≤ 9223372036854775807) (ha : at' ≤ 9223372036854775807) (hE : wErr F at' n ≠ 0) :
    Calls Tryd.prog 23 #[.pointer (some ⟨p, 0, none⟩), .int .i64 at', .slice ao n cap] w fun e w' => e = .returned (.int .i64 (wErr F at' n)) ∧ w' = w := by
  have c0 : w.cell? ⟨p, 0, none⟩ = some vb := h.cell 0
  have c1 : w.cell? ⟨p, 1, none⟩ = some (.int .i64 F.most) := h.cell 1
  have c2 : w.cell? ⟨p, 2, none⟩ = some (.bool F.off) := h.cell 2
  obtain ⟨ab, cb, ar, cr, rfl, hcb, rfl⟩ := h.shape
  obtain ⟨f1, f2, f3, f4, f5⟩ := h.fit
  have HE : Hid (wErr F at' n = if F.off then 6 else if at' < 0 ∨ (F.bs.length : Int) < at' then 2 else if F.most - at' < (n : Int) then 3 else 0) := rfl
  have HN : Hid (wErr F at' n ≠ 0) := hE
  clear h hE
  obtain ⟨bl, hbl⟩ : ∃ bl, F.bs.length = bl := ⟨_, rfl⟩
  rw [hbl] at c0 hcb f3 HE
  clear hbl
  generalize F.most = most at *
  cases hoff : F.off with
  | true =>
    rw [hoff] at HE c2
    go_enter Tryd.func23, Tryd.ntmps23
    go_wp2
    go_ret
    exact ⟨ret_int (by rw [HE.out]; simp), rfl⟩
  | false =>
    rw [hoff] at HE c2
    by_cases ha1 : at' < 0
    · have HE' : Hid (wErr F at' n = 2) := by rw [Hid, HE.out]; simp [ha1]
      go_enter Tryd.func23, Tryd.ntmps23
      go_wp2
      go_ret
      exact ⟨ret_int HE'.out.symm, rfl⟩
    · by_cases ha2 : (bl : Int) < at'
      · have HE' : Hid (wErr F at' n = 2) := by rw [Hid, HE.out]; simp [ha1, ha2]
        go_enter Tryd.func23, Tryd.ntmps23
        go_wp2
        go_ret
        exact ⟨ret_int HE'.out.symm, rfl⟩
      · by_cases ha3 : most - at' < (n : Int)
        · have HE' : Hid (wErr F at' n = 3) := by rw [Hid, HE.out]; simp [ha1, ha2, ha3]
          go_enter Tryd.func23, Tryd.ntmps23
          go_wp2
          go_ret
          exact ⟨ret_int HE'.out.symm, rfl⟩
        · exact absurd (by rw [HE.out]; simp [ha1, ha2, ha3]) HN.out

/-- Between two rounds of the document's Write. -/
structure RMid (w : World) (B p : Nat) (F : Mdl) (vb vr : Value) (rv : List RawV) (q : Nat) (x : List Int) (k : Nat) (W : World) (F' : Mdl) (vb' vr' : Value) (rv' : List RawV) (m : Nat) : Prop where
  rf : RF W B p F' vb' vr' rv'
  mv : Moved w W p vb vr rv vb' vr' rv'
  wr : wrN x.length F q x = wrN m F' (q + 16 * k) (x.drop (16 * k))
  hm : x.length - 16 * k ≤ m
  len : q + min (16 * k) x.length ≤ F'.bs.length
  most : F'.most = F.most
  cnt : rv'.length = rv.length + k

/-- The loop's own number and world, between two rounds. -/
def RLoop (w : World) (B p : Nat) (F : Mdl) (vb vr : Value) (rv : List RawV) (q : Nat) (x : List Int) (n : Nat) (i : Value) (W : World) : Prop :=
  ∃ (k m : Nat) (F' : Mdl) (vb' vr' : Value) (rv' : List RawV), i = .int .i64 ((16 * k : Nat) : Int) ∧ 16 * k < n + 16 ∧ RMid w B p F vb vr rv q x k W F' vb' vr' rv' m

set_option maxRecDepth 100000 in
set_option maxHeartbeats 8000000 in
theorem refWrite_go {w : World} {B p : Nat} {F : Mdl} {vb vr : Value} {rv : List RawV} (h : RF w B p F vb vr rv) (hB : B ≤ w.heap.size) (q : Nat) (x : List Int) (bv : Value) (hx : Bs w bv x) (hal : 0 < x.length → Alien w p vb vr bv) (hrv : rv.length ≤ 1000000000)
    (hE : wErr F (q : Int) x.length = 0) :
    Calls Tryd.prog 23 #[.pointer (some ⟨p, 0, none⟩), .int .i64 (q : Int), bv] w fun e w' => e = .returned (.int .i64 (wrN x.length F q x).1) ∧ ∃ vb' vr' rv', RF w' B p (wrN x.length F q x).2 vb' vr' rv' ∧ Moved w w' p vb vr rv vb' vr' rv' := by
  obtain ⟨i0, hi, hz0, hz1, hz2⟩ := info_parts Tryd.info5
  obtain ⟨i1, hj, hy0, hy1, hy2⟩ := info_parts Tryd.infoRef
  obtain ⟨hoff, hq0, hq1, hq2⟩ := wErr_zero hE
  obtain ⟨f1, f2, f3, f4, f5⟩ := h.fit
  have H0 : Hid (RF w B p F vb vr rv) := h
  have HX : Hid (Bs w bv x) := hx
  have HA : Hid (0 < x.length → Alien w p vb vr bv) := hal
  have c0 : w.cell? ⟨p, 0, none⟩ = some vb := h.cell 0
  have c1 : w.cell? ⟨p, 1, none⟩ = some (.int .i64 F.most) := h.cell 1
  have c2 : w.cell? ⟨p, 2, none⟩ = some (.bool F.off) := h.cell 2
  rw [hoff] at c2
  obtain ⟨ab, cb, ar, cr, e1, hcb, e2⟩ := h.shape
  rw [e1] at c0
  obtain ⟨ax, cx, rfl, hcx, _⟩ := hx
  obtain ⟨n, Hn⟩ : ∃ n, Hid (x.length = n) := ⟨_, rfl⟩
  obtain ⟨bl, Hbl⟩ : ∃ bl, Hid (F.bs.length = bl) := ⟨_, rfl⟩
  obtain ⟨mo, Hmo⟩ : ∃ mo, Hid (F.most = mo) := ⟨_, rfl⟩
  rw [Hbl.out] at c0 hcb f3 hq1
  rw [Hn.out] at hcx hq2 HX HA
  rw [Hmo.out] at c1 hq2 f1 f2 f3
  have HST : Hid (RMid w B p F vb vr rv q x 0 w F vb vr rv n) := ⟨h, Moved.refl _ _ _ _ _, by rw [Hn.out]; simp, by rw [Hn.out]; omega, by rw [Hbl.out]; omega, rfl, rfl⟩
  have hN1 : (bl < q) = False := by simp; omega
  have hN2 : ((q : Int) < 0) = False := by simp
  have hN3 : (mo - (q : Int) < (n : Int)) = False := by simp; omega
  clear h hal hE e1 e2
  rw [Hn.out]
  go_enter Tryd.func23, Tryd.ntmps23
  go_wp2_with fail
  go_loopw [7] (fun i wr => RLoop w B p F vb vr rv q x n i wr) (fun i _ => n + 16 - (intOf i).toNat)
  case atStart => exact ⟨0, n, F, vb, vr, rv, rfl, by omega, HST.out⟩
  case round =>
    obtain ⟨k, m, F', vb', vr', rv', rfl, hk16, hmid⟩ := hrel
    have HMID : Hid (RMid w B p F vb vr rv q x k wr F' vb' vr' rv' m) := hmid
    clear hmid
    obtain ⟨ik, Hik⟩ : ∃ ik, Hid (16 * k = ik) := ⟨_, rfl⟩
    rw [Hik.out] at hk16 ⊢
    by_cases hlt : (ik : Int) < (n : Int)
    · have hr := HMID.out.rf
      obtain ⟨g1, g2, g3, g4, g5⟩ := hr.fit
      rw [HMID.out.most, Hmo.out] at g1 g2 g3
      have d3 : wr.cell? ⟨p, 3, none⟩ = some (.bool F'.pl) := hr.cell 3
      have d4 : wr.cell? ⟨p, 4, none⟩ = some (.int .i64 F'.left) := hr.cell 4
      have z2 : wr.frozen? ⟨p, 2, none⟩ = false := hr.free 2
      have z3 : wr.frozen? ⟨p, 3, none⟩ = false := hr.free 3
      have z4 : wr.frozen? ⟨p, 4, none⟩ = false := hr.free 4
      have d2 : wr.cell? ⟨p, 2, none⟩ = some (.bool F'.off) := hr.cell 2
      have HRF : Hid (RF wr B p F' vb' vr' rv') := hr
      obtain ⟨lf, Hlf⟩ : ∃ lf, Hid (F'.left = lf) := ⟨_, rfl⟩
      rw [Hlf.out] at d4 g4 g5
      clear hr
      obtain ⟨ab', cb', ar', cr', e1, hcb', e2⟩ := HRF.out.shape
      obtain ⟨bl', Hbl'⟩ : ∃ bl', Hid (F'.bs.length = bl') := ⟨_, rfl⟩
      obtain ⟨rn, Hrn⟩ : ∃ rn, Hid (rv'.length = rn) := ⟨_, rfl⟩
      rw [Hbl'.out] at e1 hcb' g3
      rw [Hrn.out] at e2
      subst e1
      subst e2
      have hrn : rn ≤ 2000000000 := by have hc := HMID.out.cnt; rw [Hrn.out] at hc; have := Hik.out; omega
      have hqb : q + ik ≤ bl' := by have := HMID.out.len; rw [Hik.out, Hn.out, Hbl'.out, Nat.min_eq_left (by omega)] at this; exact this
      have hsz0 := HMID.out.mv.chg.size
      by_cases hdue : (F'.pl && lf == 0) = true
      · simp only [Bool.and_eq_true, beq_iff_eq] at hdue
        obtain ⟨hpl, rfl⟩ := hdue
        rw [hpl] at d3
        have HD : Hid (wrN x.length F q x = (6, { F' with off := true, pl := false, left := 0 })) := by
          rw [Hid, HMID.out.wr]
          exact wrN_due _ _ _ _ (by rw [List.length_drop, Hn.out, Hik.out]; omega) (by rw [List.length_drop]; exact HMID.out.hm) (by simp [hpl, Hlf.out])
        rw [Hn.out] at HD
        have HP2 : Hid (RF ((wr.setCell ⟨p, 2, none⟩ (.bool true)).setCell ⟨p, 3, none⟩ (.bool false)) B p { F' with off := true, pl := false, left := 0 } (.slice ab' bl' cb') (.slice ar' rn cr') rv') :=
          HRF.out.put2 2 3 _ _ rfl rfl (by obtain ⟨a1, a2, a3, a4, a5⟩ := HRF.out.fit; exact ⟨a1, a2, a3, by simp, by simp⟩) (by simp [rcs, Hlf.out])
        go_wp2
        go_ret
        refine ⟨by rw [HD.out]; rfl, _, _, rv', by rw [HD.out]; exact HP2.out, HMID.out.mv.trans (Moved.of_self _ _ _ _ ((Chg.cell _ _ _ _).next (Chg.cell _ _ _ _)))⟩
      · have hdue' : (F'.pl && F'.left == 0) = false := by rw [Hlf.out]; simpa using hdue
        obtain ⟨qk, Hqk⟩ : ∃ qk, Hid (q + ik = qk) := ⟨_, rfl⟩
        have hqk : (q : Int) + (ik : Int) = (qk : Int) := by have := Hqk.out; omega
        have hqw : IntKind.i64.wrap ((q : Int) + (ik : Int)) = (qk : Int) := by rw [hqk]; exact wrap_i64_in _ (by omega) (by omega)
        have hqw2 : IntKind.i64.wrap (qk : Int) = (qk : Int) := wrap_i64_in _ (by omega) (by omega)
        have hxo := HX.out.opened (by rw [Hn.out]; omega)
        obtain ⟨gx, ox, cx', e3, _, hcell⟩ := hxo
        injection e3 with e4 e5 e6
        subst e4
        subst e6
        have hga : ¬ Foot p vb vr gx ∧ gx < w.heap.size := HA.out (by omega) gx rfl
        have HXR : Hid (Bs wr (.slice (some ⟨gx, ox, none⟩) n cx) x) := HX.out.chg HMID.out.mv.chg (fun g hg e => by simp [Value.ownBlock] at hg; subst hg; exact hga.1 e)
        have HGF : Hid (¬ Foot p (.slice ab' bl' cb') (.slice ar' rn cr') gx) := fun hf => by
          rcases HMID.out.mv.foot gx hf with h1 | h1
          · exact hga.1 h1
          · omega
        have hcik : (cx = ik) = False := by simp; omega
        have hik0 : (0 : Int) ≤ (ik : Int) := by omega
        obtain ⟨pc, Hpc⟩ : ∃ pc, Hid ((x.drop (16 * k)).take 16 = pc) := ⟨_, rfl⟩
        have HPL : Hid (pc.length = min 16 (n - ik)) := by rw [Hid, ← Hpc.out, List.length_take, List.length_drop, Hn.out, Hik.out]
        clear hcell hga e5 hdue
        obtain ⟨P, HP⟩ : ∃ P, Hid (P = min 16 (n - ik)) := ⟨_, rfl⟩
        have HPN : Hid (pc.length = P) := HPL.out.trans HP.out.symm
        have hP1 : 1 ≤ P := by have := HP.out; omega
        have hP16 : P ≤ 16 := by have := HP.out; omega
        have hPn : ik + P ≤ n := by have := HP.out; omega
        obtain ⟨lf1, Hlf1⟩ : ∃ lf1, Hid (lf1 = if F'.pl then lf - 1 else lf) := ⟨_, rfl⟩
        have HCUT : Hid (∀ W, (F'.pl = true → W = wr.setCell ⟨p, 4, none⟩ (.int .i64 (lf - 1))) → (F'.pl = false → W = wr) → RF W B p { F' with left := lf1 } (.slice ab' bl' cb') (.slice ar' rn cr') rv' ∧ Moved wr W p (.slice ab' bl' cb') (.slice ar' rn cr') rv' (.slice ab' bl' cb') (.slice ar' rn cr') rv' ∧ Bs W (.slice (some ⟨gx, ox, none⟩) n cx) x) := fun W h1 h2 => by
          cases hpl : F'.pl with
          | true =>
            rw [h1 hpl]
            have hl0 : lf ≠ 0 := by rw [hpl, Hlf.out] at hdue'; simpa using hdue'
            have e : lf1 = lf - 1 := by rw [Hlf1.out, hpl]; simp
            rw [e]
            refine ⟨HRF.out.put 4 _ rfl rfl (by obtain ⟨a1, a2, a3, a4, a5⟩ := HRF.out.fit; exact ⟨a1, a2, a3, by show 0 ≤ lf - 1; omega, by show lf - 1 ≤ _; omega⟩) (by simp [rcs, hpl]), Moved.of_self _ _ _ _ (Chg.cell _ _ _ _), HXR.out.chg (Chg.cell _ _ _ _) (fun g hg e => by simp [Value.ownBlock] at hg; subst hg; exact HGF.out (.inl e))⟩
          | false =>
            rw [h2 hpl]
            have e : lf1 = lf := by rw [Hlf1.out, hpl]; simp
            rw [e, show ({ F' with pl := false, left := lf } : Mdl) = F' by rw [← hpl, ← Hlf.out]]
            exact ⟨HRF.out, Moved.refl _ _ _ _ _, HXR.out⟩
        go_upto_region 10 with fail
        go_cut [49] from 33 to 102 (fun t wb => t = .bool false ∧ wb = wr)
        case first =>
          cases hpl : F'.pl with
          | true =>
            rw [hpl] at d3
            have hl0 : (lf == 0) = false := by rw [hpl, Hlf.out] at hdue'; simpa using hdue'
            go_wp2
            go_meet
            exact ⟨rfl, rfl⟩
          | false =>
            rw [hpl] at d3
            go_wp2
            go_meet
            exact ⟨rfl, rfl⟩
        case rest =>
        obtain ⟨rfl, hwb⟩ := hcut
        obtain rfl := hwb.symm
        go_upto_if 59 with fail
        go_cut [8] from 33 to 102 (fun v wc => (∃ z, v = z) ∧ (F'.pl = true → wc = wr.setCell ⟨p, 4, none⟩ (.int .i64 (lf - 1))) ∧ (F'.pl = false → wc = wr))
        case first =>
          cases hpl : F'.pl with
          | true =>
            rw [hpl] at d3
            have hl0 : (lf == 0) = false := by rw [hpl, Hlf.out] at hdue'; simpa using hdue'
            go_wp2
            go_meet
            exact ⟨⟨_, rfl⟩, fun _ => rfl, fun h => by rw [hpl] at h; cases h⟩
          | false =>
            rw [hpl] at d3
            go_wp2
            go_meet
            exact ⟨⟨_, rfl⟩, (fun h => by rw [hpl] at h; cases h), fun _ => rfl⟩
        case rest =>
        obtain ⟨_, hw1, hw2⟩ := hcut
        obtain ⟨W1, HW1⟩ : ∃ W1, Hid (W1 = wc) := ⟨_, rfl⟩
        have hall := HCUT.out wc hw1 hw2
        rw [← HW1.out] at hall ⊢
        have HR1 : Hid (RF W1 B p { F' with left := lf1 } (.slice ab' bl' cb') (.slice ar' rn cr') rv') := hall.1
        have HM1 : Hid (Moved wr W1 p (.slice ab' bl' cb') (.slice ar' rn cr') rv' (.slice ab' bl' cb') (.slice ar' rn cr') rv') := hall.2.1
        have HX1 : Hid (Bs W1 (.slice (some ⟨gx, ox, none⟩) n cx) x) := hall.2.2
        clear hall hw1 hw2 HCUT d2 d3 d4 z2 z3 z4
        go_upto_region 15 with fail
        go_cut [8] from 33 to 102 (fun v wd => v = .slice (some ⟨gx, ox + ik, none⟩) P (cx - ik) ∧ wd = W1)
        case first =>
          by_cases hen : (ik : Int) + 16 ≤ (n : Int)
          · obtain rfl : P = 16 := by have := HP.out; omega
            go_wp2
            go_meet
            exact ⟨by first | rfl | (congr 1; omega), rfl⟩
          · obtain rfl : P = n - ik := by have := HP.out; omega
            go_wp2
            go_meet
            exact ⟨by first | rfl | (congr 1; omega), rfl⟩
        case rest =>
        obtain ⟨rfl, hwd⟩ := hcut
        obtain rfl := hwd.symm
        have HPX : Hid (∀ W, Below W1.heap.size W1 W → Bs W (.slice (some ⟨gx, ox + ik, none⟩) P (cx - ik)) pc) := fun W hb => by
          have h1 := (HX1.out.below hb).part ik P (cx - ik) (by rw [Hn.out]; have := HP.out; omega) (by have := HP.out; omega)
          have e : (x.drop ik).take P = pc := by
            rw [← Hpc.out, Hik.out, HP.out]
            rcases Nat.le_total 16 (n - ik) with h9 | h9
            · rw [Nat.min_eq_left h9]
            · rw [Nat.min_eq_right h9, List.take_of_length_le (by rw [List.length_drop, Hn.out]; omega), List.take_of_length_le (by rw [List.length_drop, Hn.out]; omega)]
          rw [e] at h1
          exact h1
        have HS1 : Hid (w.heap.size ≤ W1.heap.size) := by have := HM1.out.chg.size; unfold Hid; omega
        have HLY : Hid _ := refLay_any _ _ F'.bs pc qk W1 HR1.out.hold.own.bs (HPX.out _ (Below.refl _ _)) (by rw [Hbl'.out, ← Hqk.out]; exact hqb) (by rw [Hbl'.out, HPN.out]; omega)
        have b0 : W1.cell? ⟨p, 0, none⟩ = some (.slice ab' bl' cb') := HR1.out.cell 0
        have b5 : W1.cell? ⟨p, 5, none⟩ = some (.slice ar' rn cr') := HR1.out.cell 5
        have y0 : W1.frozen? ⟨p, 0, none⟩ = false := HR1.out.free 0
        have y5 : W1.frozen? ⟨p, 5, none⟩ = false := HR1.out.free 5
        have HLF : Hid ((layN F'.bs qk pc).length ≤ mo.toNat) := by
          rw [Hid, layN_length _ _ _ (by rw [Hbl'.out, ← Hqk.out]; exact hqb), HPN.out, Hbl'.out, ← Hqk.out]; omega
        go_wp2_with fail
        refine Calls.mono HLY.out ?_
        rintro e w2 ⟨aoL, capL, rfl, hoL, hbL⟩
        obtain ⟨LL, HLL⟩ : ∃ LL, Hid ((layN F'.bs qk pc).length = LL) := ⟨_, rfl⟩
        have hfit2 : ((layN F'.bs qk pc).length : Int) ≤ F'.most := by have := HLF.out; show _ ≤ F'.most; rw [HMID.out.most, Hmo.out]; omega
        have hres := ref_laid HR1.out (by have := HS1.out; omega) hbL hoL hfit2
        rw [HLL.out] at hres hoL ⊢
        have a0 : w2.cell? ⟨p, 0, none⟩ = some (.slice ab' bl' cb') := cell_later hbL b0
        have x0 : w2.frozen? ⟨p, 0, none⟩ = false := (hbL.frozen (p := ⟨p, 0, none⟩) HR1.out.hold.plt).trans y0
        obtain ⟨W3, HW3⟩ : ∃ W3, Hid (W3 = w2.setCell ⟨p, 0, none⟩ (.slice aoL LL capL)) := ⟨_, rfl⟩
        have HR3 : Hid (RF W3 B p { { F' with left := lf1 } with bs := layN F'.bs qk pc } (.slice aoL LL capL) (.slice ar' rn cr') rv') := by rw [HW3.out]; exact hres.1
        have HM3 : Hid (Moved W1 W3 p (.slice ab' bl' cb') (.slice ar' rn cr') rv' (.slice aoL LL capL) (.slice ar' rn cr') rv') := by rw [HW3.out]; exact hres.2
        have HX3 : Hid (Bs W3 (.slice (some ⟨gx, ox + ik, none⟩) P (cx - ik)) pc) := by
          rw [HW3.out]
          exact (HPX.out _ hbL).chg (Chg.cell _ _ _ _) (fun g hg e => by simp [Value.ownBlock] at hg; subst hg; exact HGF.out (.inl e))
        have b53 : W3.cell? ⟨p, 5, none⟩ = some (.slice ar' rn cr') := HR3.out.cell 5
        have y53 : W3.frozen? ⟨p, 5, none⟩ = false := HR3.out.free 5
        have hpl3 : p < W3.heap.size := HR3.out.hold.plt
        clear hres hoL hbL HLY b0 b5 y0 y5
        go_wp2_with fail
        rw [← HW3.out]
        clear a0 x0
        have HBA : Hid (Below W3.heap.size W3 (W3.drew.alloc (.cells #[] 5))) := ((Below.refl _ W3).drew).alloc (Nat.le_refl _) _
        have HOA : Hid ((W3.drew.alloc (.cells #[] 5)).ownsRow W3.heap.size 5 1 (.slice (some ⟨W3.heap.size, 0, none⟩) 0 0) 0 []) := Own.empty W3.drew W3.heap.size (Nat.le_refl _)
        have HSR : Hid (∃ ad, (some ⟨gx, ox + ik, none⟩ : Option Addr) = some ad ∧ ∀ j u, (bcells pc)[j]? = some u → (W3.drew.alloc (.cells #[] 5)).cell? (ad.add j) = some u) := ⟨_, rfl, fun j u hj => by
          obtain ⟨hj', rfl⟩ := bcells_get hj
          obtain ⟨ao8, cap8, e8, _, _, hc8⟩ := HX3.out.below HBA.out
          injection e8 with e9
          exact hc8 _ e9.symm j hj'⟩
        have HL1 : Hid ((bcells pc).length = P * 1) := by have h9 := HPN.out; unfold Hid; rw [bcells_length]; omega
        have HL2 : Hid (0 + P ≤ maxLen) := by unfold Hid maxLen; omega
        have HL3 : Hid ((0 + P) * 1 ≤ 140737488355328) := by unfold Hid; omega
        have HL4 : Hid (W3.heap.size ≤ (W3.drew.alloc (.cells #[] 5)).heap.size) := HBA.out.size
        have HL5 : Hid (rn + 1 ≤ maxLen) := by unfold Hid maxLen; omega
        have HL6 : Hid ((rn + 1) * 32 ≤ 140737488355328) := by unfold Hid; omega
        have HB3 : Hid (B ≤ W3.heap.size) := by have := HM3.out.chg.size; have := HS1.out; unfold Hid; omega
        have HN5 : Hid (∀ ao5 cap5 w5, w5.ownsRow W3.heap.size 5 1 (.slice ao5 (0 + P) cap5) (0 + P) ([] ++ bcells pc) → (W3.drew.alloc (.cells #[] 5)).grownBy w5 (Value.slice (some ⟨W3.heap.size, 0, none⟩) 0 0).ownBlock → Own w5 W3.heap.size (.slice ao5 P cap5) pc ∧ Below W3.heap.size W3 w5 ∧ (w5.alloc (.cells #[.int .i64 (qk : Int), .slice ao5 P cap5] 97)).ownsRow B 97 2 (.slice ar' rn cr') rn (rcells rv')) := fun ao5 cap5 w5 ho hg => by
          have hb5 : Below W3.heap.size W3 w5 := HBA.out.grown hg HBA.out.size (fun k hk => by simp [Value.ownBlock] at hk; omega)
          refine ⟨?_, hb5, ?_⟩
          · unfold Own
            rw [HPN.out]
            simpa using ho
          · have := (HR3.out.below hb5).hold.raws
            rw [Hrn.out] at this
            exact this.alloc _
        go_region_law (first | (refine step_append_src rfl (.tmp 95) (.tmp 96) 25 rfl 5 i0 (.int .u8 0) 1 1 Tryd.underlying25 hi hz0 hz1 hz2 rfl (by decide) W3.heap.size (.slice (some ⟨W3.heap.size, 0, none⟩) 0 0) 0 [] _ P (cx - ik) (bcells pc) rfl rfl HOA.out HL1.out HSR.out (bcells_one _) HL2.out HL3.out HL4.out ?_; intro ao5 cap5 w5 ho5 hg5 hb5; simp only [Nat.zero_add]; obtain ⟨hp5, hb5w, hr5⟩ := HN5.out ao5 cap5 w5 ho5 hg5; have HP5 : Hid (Own w5 W3.heap.size (.slice ao5 P cap5) pc) := hp5; have HB5 : Hid (Below W3.heap.size W3 w5) := hb5w; have HR5 : Hid ((w5.alloc (.cells #[.int .i64 (qk : Int), .slice ao5 P cap5] 97)).ownsRow B 97 2 (.slice ar' rn cr') rn (rcells rv')) := hr5; have q5 : w5.cell? ⟨p, 5, none⟩ = some (.slice ar' rn cr') := cell_later hb5w b53; have q5s : p < w5.heap.size := Nat.lt_of_lt_of_le hpl3 hb5w.size; have q6 : (w5.alloc (.cells #[.int .i64 (qk : Int), .slice ao5 P cap5] 97)).cell? ⟨p, 5, none⟩ = some (.slice ar' rn cr') := cell_later ((Below.refl _ w5).alloc (Nat.le_refl _) _) q5; clear ho5 hg5 hb5 hp5 hb5w hr5) | (refine step_append_at rfl (.tmp 91) (.tmp 99) 55 rfl 97 i1 _ 2 32 Tryd.underlying55 hj hy0 hy1 hy2 rfl (by decide) B (.slice ar' rn cr') rn (rcells rv') ⟨w5.heap.size, 0, none⟩ 1 1 [.int .i64 (qk : Int), .slice ao5 P cap5] rfl rfl HR5.out rfl (cells_pair (heap_alloc_new w5 _)) (by simp [Value.oneCell']) HL5.out HL6.out (by have h1 := HB3.out; have h2 := HB5.out.size; simp only [World.size_alloc]; omega) ?_; intro ao7 cap7 w7 ho7 hg7 hb7; have HPK : Hid (w7.heap[p]? = W3.heap[p]?) := (hg7.block p (by have := HB5.out.size; simp only [World.size_alloc]; omega) (fun e => HR3.out.hold.d2 e.symm)).trans ((Below.heap_alloc _ _ _ (by have := HB5.out.size; omega)).trans (HB5.out.block p hpl3)); have l7 : w7.cell? ⟨p, 5, none⟩ = some (.slice ar' rn cr') := (World.cell?_of_block (a := ⟨p, 5, none⟩) HPK.out).trans b53; have m7 : w7.frozen? ⟨p, 5, none⟩ = false := (World.frozen?_of_block (a := ⟨p, 5, none⟩) HPK.out).trans y53; have HO7 : Hid (w7.ownsRow B 97 2 (.slice ao7 (rn + 1) cap7) (rn + 1) (rcells rv' ++ [.int .i64 (qk : Int), .slice ao5 P cap5])) := ho7; have HG7 : Hid ((w5.alloc (.cells #[.int .i64 (qk : Int), .slice ao5 P cap5] 97)).grownBy w7 (Value.slice ar' rn cr').ownBlock) := hg7; have HK7 : Hid (∀ b, (Value.slice ao7 (rn + 1) cap7).ownBlock = some b → (Value.slice ar' rn cr').ownBlock = some b ∨ (w5.alloc (.cells #[.int .i64 (qk : Int), .slice ao5 P cap5] 97)).heap.size ≤ b) := hb7; clear ho7 hg7 hb7))
        all_goals
          go_wp2
          go_roundw
          case rel =>
            have hal5 : Alien w5 p (.slice aoL LL capL) (.slice ar' rn cr') (.slice ao5 P cap5) := fun g hg => by
              have := World.ownsRow.lt HP5.out g hg
              exact ⟨fun hf => by have := (HR3.out.hold.foot g hf).2; omega, this.2⟩
            have hadd := ref_added (HR3.out.below HB5.out) HP5.out.bs hal5 ((Below.refl _ w5).alloc (Nat.le_refl _) (.cells #[.int .i64 (qk : Int), .slice ao5 P cap5] 97)) (at' := (qk : Int)) (by rw [Hrn.out]; exact HO7.out) HG7.out HK7.out
            obtain ⟨h1, h2, h3, h4⟩ := hadd
            have hmv : Moved wr (w7.setCell ⟨p, 5, none⟩ (.slice ao7 (rn + 1) cap7)) p (.slice ab' bl' cb') (.slice ar' rn cr') rv' (.slice aoL LL capL) (.slice ao7 (rn + 1) cap7) (rv' ++ [((qk : Int), pc, .slice ao5 P cap5)]) :=
              (HM1.out.trans HM3.out).trans ⟨(Chg.of_below HB5.out).trans h2 (fun _ => .inl), fun i hi => (h3 i hi).imp id (Nat.le_trans HB5.out.size), fun i hi => by
                rcases h4 i hi with h5 | h5
                · exact .inl h5
                · exact .inr (World.ownsRow.lt HP5.out i h5).1⟩
            refine ⟨k + 1, m - 1, _, _, _, _, by rw [← Hik.out]; push_cast; rfl, by have := Hik.out; omega, h1, HMID.out.mv.trans hmv, ?_, ?_, ?_, ?_, ?_⟩
            · obtain ⟨m', rfl⟩ : ∃ m', m = m' + 1 := ⟨m - 1, by have := HMID.out.hm; rw [Hn.out, Hik.out] at this; omega⟩
              rw [HMID.out.wr, wrN_step m' F' (q + 16 * k) _ (by rw [List.length_drop, Hn.out, Hik.out]; omega) hdue', Hpc.out, List.drop_drop]
              have e1 : step1 F' (q + 16 * k) pc = { { { F' with left := lf1 } with bs := layN F'.bs qk pc } with rs := F'.rs ++ [((qk : Int), pc)] } := by
                unfold step1
                rw [Hik.out, Hqk.out]
                simp only [Hlf.out, Hlf1.out]
              rw [e1]
              congr 1
            · have := HMID.out.hm; omega
            · show q + min (16 * (k + 1)) x.length ≤ (layN F'.bs qk pc).length
              rw [layN_length _ _ _ (by rw [Hbl'.out, ← Hqk.out]; exact hqb), HPN.out, Hn.out, Hbl'.out, ← Hqk.out]
              have := Hik.out
              have := HP.out
              omega
            · exact HMID.out.most
            · have := HMID.out.cnt
              simp [this]; omega
          case measure => have := Hik.out; simp [intOf]; omega
    · have HD : Hid (wrN x.length F q x = (0, F')) := by
        rw [Hid, HMID.out.wr]
        exact wrN_done _ _ _ _ (by rw [List.length_drop, Hn.out, Hik.out]; omega)
      rw [Hn.out] at HD
      go_wp2
      go_ret
      exact ⟨by rw [HD.out]; rfl, vb', vr', rv', by rw [HD.out]; exact HMID.out.rf, HMID.out.mv⟩
theorem refWrite_any {w : World} {B p : Nat} {F : Mdl} {vb vr : Value} {rv : List RawV} (h : RF w B p F vb vr rv) (hB : B ≤ w.heap.size) (at' : Int) (x : List Int) (bv : Value) (hx : Bs w bv x) (hal : 0 < x.length → Alien w p vb vr bv) (hrv : rv.length ≤ 1000000000)
    (hn : x.length ≤ 9223372036854775807) (ha : at' ≤ 9223372036854775807) :
    Calls Tryd.prog 23 #[.pointer (some ⟨p, 0, none⟩), .int .i64 at', bv] w fun e w' => e = .returned (.int .i64 (wrM F at' x).1) ∧ ∃ vb' vr' rv', RF w' B p (wrM F at' x).2 vb' vr' rv' ∧ Moved w w' p vb vr rv vb' vr' rv' := by
  unfold wrM
  by_cases hE : wErr F at' x.length = 0
  · rw [if_pos hE]
    obtain ⟨h1, h2, h3, h4⟩ := wErr_zero hE
    have := refWrite_go h hB at'.toNat x bv hx hal hrv (by rw [Int.toNat_of_nonneg h2]; exact hE)
    rw [Int.toNat_of_nonneg h2] at this
    exact this
  · rw [if_neg hE]
    obtain ⟨ao, cap, rfl, _⟩ := hx
    refine (refWrite_refused h at' ao x.length cap (by omega) ha hE).mono ?_
    rintro e w' ⟨rfl, rfl⟩
    exact ⟨rfl, vb, vr, rv, h, Moved.refl _ _ _ _ _⟩
end Go.Proofs.YtkiccnedmejnaaaDoor
