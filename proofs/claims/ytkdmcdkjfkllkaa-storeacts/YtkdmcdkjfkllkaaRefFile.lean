/-
  The document's file in memory, as File has the program's; the document's Of; alike holds a file against its model. Conditions: those of lengths.
-/
import Derived.Test.YtkdmcdkjfkllkaaTold
namespace Go.Proofs.Ytkdmcdkjfkllkaa
open Go.RowKit
set_option linter.unusedVariables false

/-- The document's file. -/
def rcs (F : Mdl) (vb vr : Value) : Array Value := #[vb, .int .i64 F.most, .bool F.off, .bool F.pl, .int .i64 F.left, vr]
structure RF (w : World) (B p : Nat) (F : Mdl) (vb vr : Value) (rv : List RawV) : Prop where
  cells : w.heap[p]? = some (.cells (rcs F vb vr) 66 (0, 0))
  hold : Hold w B p 67 vb vr F.bs rv
  rs : F.rs = plain rv
  fit : F.fit
theorem RF.cell {w : World} {B p : Nat} {F : Mdl} {vb vr : Value} {rv : List RawV} (h : RF w B p F vb vr rv) (i : Nat) : w.cell? ⟨p, i, none⟩ = (rcs F vb vr)[i]? := by
  simp [World.cell?, h.cells]
theorem RF.free {w : World} {B p : Nat} {F : Mdl} {vb vr : Value} {rv : List RawV} (h : RF w B p F vb vr rv) (i : Nat) : w.frozen? ⟨p, i, none⟩ = false := by
  simp [World.frozen?, h.cells]
theorem RF.chg {S : Nat → Prop} {w w' : World} {B p : Nat} {F : Mdl} {vb vr : Value} {rv : List RawV} (h : RF w B p F vb vr rv) (hc : Chg S w w')
    (h1 : ∀ k, Foot p vb vr k → ¬ S k) (h2 : ∀ k, Inn rv k → ¬ S k) : RF w' B p F vb vr rv :=
  ⟨(hc.block p h.hold.plt (h1 p (.inl rfl))).trans h.cells, h.hold.chg hc h1 h2, h.rs, h.fit⟩
theorem RF.below {w w' : World} {B p : Nat} {F : Mdl} {vb vr : Value} {rv : List RawV} (h : RF w B p F vb vr rv) (hc : Below w.heap.size w w') : RF w' B p F vb vr rv :=
  h.chg (Chg.of_below (S := fun _ => False) hc) (fun _ _ => id) (fun _ _ => id)
theorem RF.shape {w : World} {B p : Nat} {F : Mdl} {vb vr : Value} {rv : List RawV} (h : RF w B p F vb vr rv) :
    ∃ ab cb ar cr, vb = .slice ab F.bs.length cb ∧ F.bs.length ≤ cb ∧ vr = .slice ar rv.length cr := by
  obtain ⟨ao, cap, e, hc, _⟩ := h.hold.own.opened
  obtain ⟨_, ⟨e2, h0⟩ | ⟨g, cap2, cur, e2, _⟩⟩ := h.hold.raws
  · exact ⟨ao, cap, none, 0, e, hc, by rw [e2, h0]⟩
  · exact ⟨ao, cap, some ⟨g, 0, none⟩, cap2, e, hc, e2⟩
theorem RF.put {w : World} {B p : Nat} {F F' : Mdl} {vb vr : Value} {rv : List RawV} (h : RF w B p F vb vr rv) (i : Nat) (u : Value) (hb : F'.bs = F.bs) (hr : F'.rs = F.rs) (hfit : F'.fit)
    (hc : (rcs F vb vr).set! i u = rcs F' vb vr) : RF (w.setCell ⟨p, i, none⟩ u) B p F' vb vr rv := by
  refine ⟨?_, ?_, hr.trans h.rs, hfit⟩
  · rw [heap_setCell_same w p i _ _ u h.cells]
    rw [← hc]; simp
  · rw [hb]
    exact h.hold.self (Chg.cell w p i u)
theorem RF.put2 {w : World} {B p : Nat} {F F' : Mdl} {vb vr : Value} {rv : List RawV} (h : RF w B p F vb vr rv) (i j : Nat) (u v : Value) (hb : F'.bs = F.bs) (hr : F'.rs = F.rs) (hfit : F'.fit)
    (hc : ((rcs F vb vr).set! i u).set! j v = rcs F' vb vr) : RF ((w.setCell ⟨p, i, none⟩ u).setCell ⟨p, j, none⟩ v) B p F' vb vr rv := by
  refine ⟨?_, ?_, hr.trans h.rs, hfit⟩
  · rw [heap_setCell_twice w p i j u v _ _ h.cells, hc]
  · rw [hb]
    exact h.hold.self ((Chg.cell w p i u).next (Chg.cell _ p j v))

theorem refOf_none (ao : Option Addr) (n cap : Nat) (most : Int) (w : World) (h : most < 0 ∨ 4194304 < most ∨ most < (n : Int)) :
    Calls Try.prog 10 #[.slice ao n cap, .int .i64 most] w fun e w' => e = .returned (.pointer none) ∧ w' = w := by
  go_enter Try.func10, Try.ntmps10
  by_cases h1 : most < 0
  · go_wp2
    go_ret
    exact ⟨rfl, rfl⟩
  · by_cases h2 : 4194304 < most
    · go_wp2
      go_ret
      exact ⟨rfl, rfl⟩
    · have h3 : most < (n : Int) := by omega
      clear h
      go_wp2
      go_ret
      exact ⟨rfl, rfl⟩
theorem refOf_some (v : Value) (b : List Int) (most : Int) (w : World) (hb : Bs w v b) (h1 : 0 ≤ most) (h2 : most ≤ 4194304) (h3 : (b.length : Int) ≤ most) :
    Calls Try.prog 10 #[v, .int .i64 most] w fun e w' => ∃ p vb, e = .returned (.pointer (some ⟨p, 0, none⟩)) ∧ RF w' w.heap.size p (newM b most) vb (.slice none 0 0) [] ∧ Below w.heap.size w w' := by
  obtain ⟨i0, hi, hz0, hz1, hz2⟩ := info_parts Try.info5
  have HB : Hid (Bs w v b) := hb
  obtain ⟨ao, cap, rfl, hc, _⟩ := hb
  go_enter Try.func10, Try.ntmps10
  go_wp2_with (at_builtin; refine wpList_append_bytes _ rfl (.tmp 17) (.tmp 18) 22 rfl i0 Try.underlying22 hi hz0 hz1 hz2 w.heap.size _ _ [] b rfl rfl (Own.empty _ _ (Nat.le_refl _)) (HB.out.below ((Below.refl _ w).alloc (Nat.le_refl _) _)) (by simp; omega) w ((Below.refl _ w).alloc (Nat.le_refl _) _) (by simp) ?_; intro ao1 cap1 w1 ho1 hb1 _ hc1; simp only [List.length_nil, Nat.zero_add, List.nil_append] at ho1 hc1; have HO1 : Hid (Own w1 w.heap.size (.slice ao1 b.length cap1) b) := ho1; have HB1 : Hid (Below w.heap.size w w1) := hb1; clear ho1 hb1; simp only [List.length_nil, Nat.zero_add])
  go_ret
  refine ⟨w1.heap.size, .slice ao1 b.length cap1, rfl, ⟨?_, ⟨HB1.out.size, by simp, HO1.out.alloc _, World.ownsRow_nil _ _ _ _, ?_, ?_, ?_, ?_, ?_, ?_⟩, rfl, ⟨h1, h2, h3, by simp [newM], by simp [newM]⟩⟩, HB1.out.alloc HB1.out.size _⟩
  · exact heap_alloc_new w1 _
  · intro e; have := (World.ownsRow.lt HO1.out _ e).2; omega
  · simp [Value.ownBlock]
  · intro g _; simp [Value.ownBlock]
  · intro r hr; simp at hr
  · rintro k ⟨r, hr, _⟩; simp at hr
  · rintro k ⟨r, hr, _⟩; simp at hr

/-- A row of raw writes in memory, cell by cell. -/
theorem row_open {w : World} {B : Nat} {te : TypeId} {v : Value} {rv : List RawV} {n : Nat} (h : w.ownsRow B te 2 v rv.length (rcells rv)) (hn : rv.length = n) :
    ∃ ao cap, v = .slice ao n cap ∧ n ≤ cap ∧ ∀ k r, rv[k]? = some r → ∃ g, ao = some ⟨g, 0, none⟩ ∧ w.cell? ⟨g, k * 2, none⟩ = some (.int .i64 r.1) ∧ w.cell? ⟨g, k * 2 + 1, none⟩ = some r.2.2 := by
  have h' := h
  obtain ⟨_, ⟨rfl, h0⟩ | ⟨g, cap, cur, rfl, hB, hg, hle, hm, hs, ht⟩⟩ := h
  · refine ⟨none, 0, by rw [← hn, h0], by omega, fun k r hr => ?_⟩
    have := (List.getElem?_eq_some_iff.1 hr).1
    omega
  · refine ⟨some ⟨g, 0, none⟩, cap, by rw [hn], by omega, fun k r hr => ⟨g, rfl, ?_⟩⟩
    obtain ⟨c1, c2⟩ := rcells_at rv k r hr
    have e1 := World.ownsRow.cells h' (g := g) rfl _ _ c1
    have e2 := World.ownsRow.cells h' (g := g) rfl _ _ c2
    rw [addr_add, Nat.zero_add, show 2 * k = k * 2 by omega] at e1
    rw [addr_add, Nat.zero_add, show 2 * k = k * 2 by omega] at e2
    exact ⟨e1, e2⟩

set_option maxRecDepth 100000 in
set_option maxHeartbeats 4000000 in
theorem alike_any {w : World} {B p : Nat} {F : Mdl} {vb vr : Value} {rv : List RawV} (h : PF w B p F vb vr rv) {B' r : Nat} {vb' vr' : Value} {rv' : List RawV} (hr : RF w B' r F vb' vr' rv') (hn : F.rs.length ≤ 1000000000000) (hx : ∀ x ∈ F.rs, x.2.length ≤ 140737488355328) :
    Calls Try.prog 12 #[.pointer (some ⟨p, 0, none⟩), .pointer (some ⟨r, 0, none⟩)] w fun e w' => e = .returned (.bool true) ∧ Below w.heap.size w w' := by
  have HP : Hid (PF w B p F vb vr rv) := h
  have HR : Hid (RF w B' r F vb' vr' rv') := hr
  obtain ⟨L, HL⟩ : ∃ L, Hid (F.bs.length = L) := ⟨_, rfl⟩
  obtain ⟨N, HN⟩ : ∃ N, Hid (F.rs.length = N) := ⟨_, rfl⟩
  have hLm : L ≤ 4194304 := by obtain ⟨f1, f2, f3, f4, f5⟩ := h.fit; have := HL.out; omega
  rw [HN.out] at hn
  have hrl : rv.length = N := by rw [← plain_length, ← h.rs]; exact HN.out
  have hrl' : rv'.length = N := by rw [← plain_length, ← hr.rs]; exact HN.out
  have HC : Hid _ := raws_any h (by omega) (fun r hr' => hx (r.1, r.2.1) (by rw [h.rs]; exact List.mem_map.2 ⟨r, hr', rfl⟩))
  obtain ⟨ab, cb, ar, cr, e1, hcb, e2⟩ := hr.shape
  rw [HL.out] at e1
  rw [hrl'] at e2
  have c0 : w.cell? ⟨r, 0, none⟩ = some (.slice ab L cb) := by rw [← e1]; exact hr.cell 0
  have c1 : w.cell? ⟨r, 1, none⟩ = some (.int .i64 F.most) := hr.cell 1
  have c2 : w.cell? ⟨r, 2, none⟩ = some (.bool F.off) := hr.cell 2
  have c5 : w.cell? ⟨r, 5, none⟩ = some (.slice ar N cr) := by rw [← e2]; exact hr.cell 5
  have HTB : Hid (Bs w (.slice ab L cb) F.bs) := by rw [← e1]; exact hr.hold.own.bs
  have HCL : Hid (∀ w', Below w.heap.size w w' → w'.cell? ⟨r, 0, none⟩ = some (.slice ab L cb) ∧ w'.cell? ⟨r, 1, none⟩ = some (.int .i64 F.most) ∧ w'.cell? ⟨r, 2, none⟩ = some (.bool F.off) ∧ w'.cell? ⟨r, 5, none⟩ = some (.slice ar N cr) ∧ Sem.run Try.prog (convert 22 9 (.slice ab L cb)) w' = .ok (.string (strOfNums F.bs)) w' ∧ Below w.heap.size w w') := fun w' hb =>
    ⟨cell_later hb c0, cell_later hb c1, cell_later hb c2, cell_later hb c5, txt_of HTB.out w' hb, hb⟩
  have HCN : Hid (∀ w', Below w.heap.size w w' → Calls Try.prog 13 #[.pointer (some ⟨p, 0, none⟩)] w' fun e w2 => e = .returned (.int .i64 (L : Int)) ∧ w2 = w') := fun w' hb => by
    have := len_any (h.below hb); rwa [HL.out] at this
  have HCM : Hid (∀ w', Below w.heap.size w w' → Calls Try.prog 14 #[.pointer (some ⟨p, 0, none⟩)] w' fun e w2 => e = .returned (.int .i64 F.most) ∧ w2 = w') := fun w' hb => most_any (h.below hb)
  have HCO : Hid (∀ w', Below w.heap.size w w' → Calls Try.prog 28 #[.pointer (some ⟨p, 0, none⟩)] w' fun e w2 => e = .returned (.bool (!F.off)) ∧ w2 = w') := fun w' hb => on_any (h.below hb)
  have HCB : Hid _ := bytes_txt h L HL.out
  have HRR : Hid (F.rs = plain rv') := hr.rs
  have HRL : Hid (rv'.length = N) := hrl'
  clear h hr hx c0 c1 c2 c5 e1 e2 hcb HP hrl hrl'
  go_enter Try.func12, Try.ntmps12
  go_wp2_with fail
  refine Calls.mono HC.out ?_
  rintro e w1 ⟨ao, cap, rk, rfl, hfr, hpl, hb1⟩
  have hkl : rk.length = N := by rw [← plain_length, hpl]; exact HN.out
  rw [hkl] at hfr ⊢
  have HFR : Hid (Fresh w1 w.heap.size (.slice ao N cap) rk) := hfr
  have HPL : Hid (plain rk = F.rs) := hpl
  have HB1 : Hid (Below w.heap.size w w1) := hb1
  have HKL : Hid (rk.length = N) := hkl
  have hd1 : Below w.heap.size w w1.drew := hb1.drew
  obtain ⟨mo, Hmo⟩ : ∃ mo, Hid (F.most = mo) := ⟨_, rfl⟩
  obtain ⟨off, Hof⟩ : ∃ off, Hid (F.off = off) := ⟨_, rfl⟩
  rw [Hmo.out, Hof.out] at HCL
  rw [Hmo.out] at HCM
  rw [Hof.out] at HCO
  clear hfr hpl hb1 hkl HC
  go_upto_region 2 with fail
  go_cut [55] (fun t wc => t = .bool false ∧ Below w1.heap.size w1 wc)
  case first =>
    rename_i K1 a3 K0 a2 J K2 a1 a0
    clear a3 a2
    go_region_held (fun w' => w'.cell? ⟨r, 0, none⟩ = some (.slice ab L cb) ∧ w'.cell? ⟨r, 1, none⟩ = some (.int .i64 mo) ∧ w'.cell? ⟨r, 2, none⟩ = some (.bool off) ∧ w'.cell? ⟨r, 5, none⟩ = some (.slice ar N cr) ∧ Sem.run Try.prog (convert 22 9 (.slice ab L cb)) w' = .ok (.string (strOfNums F.bs)) w' ∧ Below w.heap.size w w') (exact HCL.out _ (by assumption)) (first | (go_at_call 13; refine (HCN.out _ (by assumption)).mono ?_; rintro e w2 ⟨rfl, hw2⟩; obtain rfl := hw2.symm) | (go_at_call 14; refine (HCM.out _ (by assumption)).mono ?_; rintro e w3 ⟨rfl, hw3⟩; obtain rfl := hw3.symm) | (go_at_call 28; refine (HCO.out _ (by assumption)).mono ?_; rintro e w4 ⟨rfl, hw4⟩; obtain rfl := hw4.symm) | (go_at_call 26; refine (HCB.out _ (by assumption)).mono ?_; rintro e w5 ⟨ao5, cap5, rfl, hs5, hd5, hp5, hz5⟩))
    all_goals (go_wp2_with fail; go_meet; exact ⟨rfl, below_undrew hp5⟩)
  case rest =>
    obtain ⟨rfl, hb2⟩ := hcut
    have HB0 : Hid (Below w1.heap.size w1 wc) := hb2
    clear hb2 HCL HCN HCM HCO HCB hd1
    go_wp2_with fail
    go_loopw [6] (fun i wr => ∃ k : Nat, k ≤ N ∧ i = .int .i64 (k : Int) ∧ Below w1.heap.size w1 wr) (fun i _ => N - (intOf i).toNat)
    case atStart => exact ⟨0, Nat.zero_le _, rfl, HB0.out⟩
    case round =>
      obtain ⟨k, hk, rfl, hbr⟩ := hrel
      have HBR : Hid (Below w1.heap.size w1 wr) := hbr
      clear hbr
      by_cases hlt : k < N
      · obtain ⟨x1, hx1⟩ : ∃ x, rk[k]? = some x := ⟨rk[k]'(by rw [HKL.out]; exact hlt), List.getElem?_eq_getElem _⟩
        obtain ⟨x2, hx2⟩ : ∃ x, rv'[k]? = some x := ⟨rv'[k]'(by rw [HRL.out]; exact hlt), List.getElem?_eq_getElem _⟩
        have hsame : (x1.1, x1.2.1) = (x2.1, x2.2.1) := by
          have e : plain rk = plain rv' := HPL.out.trans HRR.out
          have := congrArg (fun l => l[k]?) e
          simpa [plain, hx1, hx2] using this
        obtain ⟨ao1, cap1, f1, f2, f3⟩ := row_open HFR.out.row HKL.out
        obtain ⟨g1, f4, d1, d2⟩ := f3 k x1 hx1
        have hr2 := HR.out.hold.raws
        obtain ⟨ao2, cap2, q1, q2, q3⟩ := row_open hr2 HRL.out
        obtain ⟨g2, q4, d3, d4⟩ := q3 k x2 hx2
        have hcl5 : w.cell? ⟨r, 5, none⟩ = some vr' := HR.out.cell 5
        subst f4
        subst q4
        injection f1 with f5 f6 f7
        subst f5
        subst f7
        subst q1
        have hb1 : Bs w1 x1.2.2 x1.2.1 := (HFR.out.inn x1 (List.mem_of_getElem? hx1)).bs
        have hb2 : Bs w x2.2.2 x2.2.1 := HR.out.hold.inn x2 (List.mem_of_getElem? hx2)
        obtain ⟨ra, rx, v1⟩ := x1
        obtain ⟨ra', rx', v2⟩ := x2
        simp only [Prod.mk.injEq] at hsame
        obtain ⟨rfl, rfl⟩ := hsame
        dsimp only at d1 d2 d3 d4 hb1 hb2
        have HT1 : Hid (Bs w1 v1 rx) := hb1
        have HT2 : Hid (Bs w v2 rx) := hb2
        obtain ⟨a1, c1, rfl, _⟩ := hb1
        obtain ⟨a2, c2, rfl, _⟩ := hb2
        obtain ⟨M, HM⟩ : ∃ M, Hid (rx.length = M) := ⟨_, rfl⟩
        rw [HM.out] at d2 d4 HT1 HT2
        have HS : Hid (∀ w', Below w1.heap.size w1 w' → w'.cell? ⟨g1, k * 2, none⟩ = some (.int .i64 ra) ∧ w'.cell? ⟨g1, k * 2 + 1, none⟩ = some (.slice a1 M c1) ∧ w'.cell? ⟨r, 5, none⟩ = some (.slice (some ⟨g2, 0, none⟩) N cap2) ∧ w'.cell? ⟨g2, k * 2, none⟩ = some (.int .i64 ra) ∧ w'.cell? ⟨g2, k * 2 + 1, none⟩ = some (.slice a2 M c2) ∧ Sem.run Try.prog (convert 22 9 (.slice a1 M c1)) w' = .ok (.string (strOfNums rx)) w' ∧ Sem.run Try.prog (convert 22 9 (.slice a2 M c2)) w' = .ok (.string (strOfNums rx)) w' ∧ Below w1.heap.size w1 w') := fun w' hb =>
          have hbw := HB1.out.trans (hb.mono HB1.out.size)
          ⟨cell_later hb d1, cell_later hb d2, cell_later hbw hcl5, cell_later hbw d3, cell_later hbw d4, txt_of HT1.out w' hb, txt_of HT2.out w' hbw, hb⟩
        have hbd : Below w1.heap.size w1 wr.drew := HBR.out.drew
        have hk0 : (0 : Int) ≤ (k : Int) := by omega
        have hk1 : (k : Int) < (N : Int) := by omega
        clear d1 d2 d3 d4 hx1 hx2 f2 f3 f6 q2 q3 hr2 hcl5
        go_wp2_with fail
        go_region_held (fun w' => w'.cell? ⟨g1, k * 2, none⟩ = some (.int .i64 ra) ∧ w'.cell? ⟨g1, k * 2 + 1, none⟩ = some (.slice a1 M c1) ∧ w'.cell? ⟨r, 5, none⟩ = some (.slice (some ⟨g2, 0, none⟩) N cap2) ∧ w'.cell? ⟨g2, k * 2, none⟩ = some (.int .i64 ra) ∧ w'.cell? ⟨g2, k * 2 + 1, none⟩ = some (.slice a2 M c2) ∧ Sem.run Try.prog (convert 22 9 (.slice a1 M c1)) w' = .ok (.string (strOfNums rx)) w' ∧ Sem.run Try.prog (convert 22 9 (.slice a2 M c2)) w' = .ok (.string (strOfNums rx)) w' ∧ Below w1.heap.size w1 w') (exact HS.out _ (by assumption)) (fail)
        all_goals
          go_wp2
          go_roundw
          case rel => exact ⟨k + 1, by omega, by go_num, HBR.out.drew⟩
          case measure => simp [intOf]; omega
      · go_wp2
        go_ret
        exact ⟨rfl, HB1.out.trans (HBR.out.mono HB1.out.size)⟩
end Go.Proofs.Ytkdmcdkjfkllkaa
