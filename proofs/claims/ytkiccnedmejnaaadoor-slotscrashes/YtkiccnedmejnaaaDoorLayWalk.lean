/-
  The walk of File.lay: a raw write that is within the file or at its end is laid down, counted and recorded.
-/
import Derived.Test.YtkiccnedmejnaaaDoorAddWalk
import Derived.Deep.DeepCutAuto
namespace Go.Proofs.YtkiccnedmejnaaaDoor
open Go.RowKit
set_option linter.unusedVariables false
set_option maxRecDepth 100000

/-- First what stands there is overwritten, then the rest is put behind. -/
theorem lay_two (b x : List Int) (q : Nat) (hq : q ≤ b.length) :
    (b.take q ++ (x.take (min x.length (b.length - q)) ++ b.drop (q + min x.length (b.length - q)))) ++ x.drop (min x.length (b.length - q)) = layN b q x := by
  unfold layN
  rcases Nat.le_total x.length (b.length - q) with h | h
  · rw [Nat.min_eq_left h, List.take_length, List.drop_length, List.append_nil]
  · rw [Nat.min_eq_right h, List.drop_of_length_le (i := q + (b.length - q)) (by omega), List.drop_of_length_le (i := q + x.length) (by omega), List.append_nil, List.append_nil, List.append_assoc, List.take_append_drop]

theorem bytes_laid {w w3 w5 : World} {B p : Nat} {F : Mdl} {vb vr vb' : Value} {rv : List RawV} (h : PF w B p F vb vr rv) {L : List Int} (c1 : Chg (fun k => vb.ownBlock = some k) w w3)
    (ho : Own w5 B vb' L) (hg : w3.grownBy w5 vb.ownBlock) (hb : ∀ k, vb'.ownBlock = some k → vb.ownBlock = some k ∨ w3.heap.size ≤ k) (hfit : (L.length : Int) ≤ F.most) :
    PF (w5.setCell ⟨p, 3, none⟩ vb') B p { F with bs := L } vb' vr rv ∧ Chg (Foot p vb vr) w (w5.setCell ⟨p, 3, none⟩ vb') ∧ (∀ k, Foot p vb' vr k → Foot p vb vr k ∨ w.heap.size ≤ k) := by
  have c12 : Chg (fun k => vb.ownBlock = some k) w w5 := c1.next (Chg.of_grown (S := fun k => vb.ownBlock = some k) hg (fun k e => e))
  have hb' : ∀ k, vb'.ownBlock = some k → vb.ownBlock = some k ∨ w.heap.size ≤ k := fun k hk => (hb k hk).imp id (Nat.le_trans c1.size)
  have hp3 : w5.heap[p]? = some (.cells (pcs F vb vr) 81 (0, 0)) := (c12.block p h.hold.plt (fun e => h.hold.d1 e)).trans h.cells
  have c3 : Chg (fun k => k = p) w5 (w5.setCell ⟨p, 3, none⟩ vb') := Chg.cell _ _ _ _
  have call : Chg (Foot p vb vr) w (w5.setCell ⟨p, 3, none⟩ vb') := (c12.mono (fun k e => .inr (.inl e))).trans c3 (fun k e => .inl (.inl e))
  have hft : ∀ k, Foot p vb' vr k → Foot p vb vr k ∨ w.heap.size ≤ k := by
    rintro k (rfl | e | e)
    · exact .inl (.inl rfl)
    · exact (hb' k e).imp (fun e => .inr (.inl e)) id
    · exact .inl (.inr (.inr e))
  have hd1 : vb'.ownBlock ≠ some p := fun e => by
    rcases hb' p e with e | e
    · exact h.hold.d1 e
    · have := h.hold.plt; omega
  obtain ⟨f1, f2, f3, f4, f5⟩ := h.fit
  refine ⟨⟨?_, ⟨h.hold.bp, Nat.lt_of_lt_of_le h.hold.plt call.size, ?_, ?_, hd1, h.hold.d2, ?_, ?_, ?_, ?_⟩, h.rs, ⟨f1, f2, hfit, f4, f5⟩⟩, call, hft⟩
  · rw [heap_setCell_same w5 p 3 _ _ vb' hp3]
    simp [pcs]
  · exact owns_chg ho c3 (fun g hgb e => hd1 (by rw [hgb, e]))
  · exact owns_chg (owns_chg h.hold.raws c12 (fun g hgb e => h.hold.d3 g e hgb)) c3 (fun g hgb e => h.hold.d2 (by rw [hgb, e]))
  · intro g hgb e
    rcases hb' g hgb with e' | e'
    · exact h.hold.d3 g e' e
    · have := World.ownsRow.lt h.hold.raws g e; omega
  · exact fun r hr => (h.hold.inn r hr).chg call (fun g hgb => h.hold.dis g ⟨r, hr, hgb⟩)
  · intro k hk hf
    rcases hft k hf with e | e
    · exact h.hold.dis k hk e
    · have := h.hold.ilt k hk; omega
  · exact fun k hk => Nat.lt_of_lt_of_le (h.hold.ilt k hk) call.size

/-- One raw write more. -/
def step1 (F : Mdl) (q : Nat) (x : List Int) : Mdl := { F with bs := layN F.bs q x, left := if F.pl then F.left - 1 else F.left, rs := F.rs ++ [((q : Int), x)] }

set_option maxHeartbeats 4000000 in
theorem lay_any {w : World} {B p : Nat} {F : Mdl} {vb vr : Value} {rv : List RawV} (h : PF w B p F vb vr rv) (hB : B ≤ w.heap.size) (q : Nat) (x : List Int) (v : Value) (hx : Bs w v x) (hx0 : 0 < x.length) (hal : Alien w p vb vr v) (hn : rv.length ≤ 1000000000000)
    (hq : q ≤ F.bs.length) (hm : ((q + x.length : Nat) : Int) ≤ F.most) (hl : F.pl = true → 0 < F.left) :
    Calls Tryd.prog 46 #[.pointer (some ⟨p, 0, none⟩), .agg #[.int .i64 (q : Int), v], .func (.func 47) #[.pointer (some ⟨p, 4, none⟩)] #[]] w fun e w' => (∃ u, e = .returned u) ∧
      ∃ vb' vr', PF w' B p (step1 F q x) vb' vr' (rv ++ [((q : Int), x, v)]) ∧ Chg (Foot p vb vr) w w' ∧ (∀ k, Foot p vb' vr' k → Foot p vb vr k ∨ w.heap.size ≤ k) ∧ (∀ k, Inn (rv ++ [((q : Int), x, v)]) k → Inn rv k ∨ v.ownBlock = some k) := by
  obtain ⟨i0, hi, hz0, hz1, hz2⟩ := info_parts Tryd.info5
  have hv1 : v.oneCell' = true := bs_one hx
  have H0 : Hid (PF w B p F vb vr rv) := h
  have HX : Hid (Bs w v x) := hx
  have HA : Hid (Alien w p vb vr v) := hal
  have c3 : w.cell? ⟨p, 3, none⟩ = some vb := h.cell 3
  have z3 : w.frozen? ⟨p, 3, none⟩ = false := h.free 3
  have hpl : p < w.heap.size := h.hold.plt
  have HO : Hid (Own w B vb F.bs) := h.hold.own
  obtain ⟨f1, f2, f3, f4, f5⟩ := h.fit
  obtain ⟨ab, cb, ar, cr, e1, hcb, e2⟩ := h.shape
  obtain ⟨gx, ox, cap, e3, hcx, hcell⟩ := hx.opened hx0
  have hgb : ∀ g, vb.ownBlock = some g → ab = some ⟨g, 0, none⟩ := by
    intro g hg
    obtain ⟨_, ⟨e, h0⟩ | ⟨g', cap2, cur, e, _⟩⟩ := h.hold.own
    · rw [e] at hg; simp [Value.ownBlock] at hg
    · rw [e] at hg e1
      simp [Value.ownBlock] at hg
      injection e1 with e4
      rw [← e4, hg]
  obtain ⟨n, Hnn⟩ : ∃ n, Hid (x.length = n) := ⟨_, rfl⟩
  obtain ⟨bl, Hbl⟩ : ∃ bl, Hid (F.bs.length = bl) := ⟨_, rfl⟩
  obtain ⟨ov, Hov⟩ : ∃ ov, Hid (ov = min n (bl - q)) := ⟨_, rfl⟩
  have hovn : ov ≤ n := by rw [Hov.out]; exact Nat.min_le_left _ _
  have hovb : q + ov ≤ bl := by rw [Hbl.out] at hq; have := Hov.out; omega
  rw [Hnn.out] at e3 hcx hm
  rw [Hbl.out] at e1 hcb hq f3
  have HE1 : Hid (vb = .slice ab bl cb) := e1
  rw [e1] at c3
  subst e3
  have HW : Hid (Below w.heap.size w (w.alloc (.cells #[.int .i64 (q : Int), .slice (some ⟨gx, ox, none⟩) n cap] 91)).drew) := ((Below.refl _ w).alloc (Nat.le_refl _) _).drew
  have HNW : Hid ((w.alloc (.cells #[.int .i64 (q : Int), .slice (some ⟨gx, ox, none⟩) n cap] 91)).drew.heap[w.heap.size]? = some (.cells #[.int .i64 (q : Int), .slice (some ⟨gx, ox, none⟩) n cap] 91 (0, 0))) := heap_alloc_new w _
  have HOd : Hid (Own (w.alloc (.cells #[.int .i64 (q : Int), .slice (some ⟨gx, ox, none⟩) n cap] 91)).drew B vb F.bs) := HO.out.below HW.out
  have HXd : Hid (Bs (w.alloc (.cells #[.int .i64 (q : Int), .slice (some ⟨gx, ox, none⟩) n cap] 91)).drew (.slice (some ⟨gx, ox, none⟩) n cap) x) := HX.out.below HW.out
  have HDP : Hid (0 < ov → ∀ g, vb.ownBlock = some g → (if cb = q then ab else Option.map (fun x => x.add q) ab) = some ⟨g, q, none⟩) := by
    intro h0 g hg
    rw [hgb g hg, if_neg (by omega)]
    simp [addr_add]
  have HMV : Hid (ov = Nat.min x.length (bl - q)) := by rw [Hid, Hnn.out]; exact Hov.out
  have HFT : Hid (q + ov ≤ F.bs.length) := by rw [Hid, Hbl.out]; exact hovb
  have HLT : Hid (w.heap.size < (w.alloc (.cells #[.int .i64 (q : Int), .slice (some ⟨gx, ox, none⟩) n cap] 91)).drew.heap.size) := by show _ < (w.alloc _).heap.size; simp
  clear h hal hcell hgb e1 e2
  have hqb : (q : Int) ≤ (bl : Int) := by omega
  have hq0 : (0 : Int) ≤ (q : Int) := by omega
  go_enter Tryd.func46, Tryd.ntmps46
  go_upto_region 1 with fail
  go_cut [6] (fun t wc => t = .int .i64 (ov : Int) ∧ Own wc B vb (F.bs.take q ++ (x.take ov ++ F.bs.drop (q + ov))) ∧ Chg (fun k => vb.ownBlock = some k) w wc ∧ wc.heap[w.heap.size]? = some (.cells #[.int .i64 (q : Int), .slice (some ⟨gx, ox, none⟩) n cap] 91 (0, 0)))
  case first =>
    go_region_law (refine step_copy_at rfl (.tmp 13) (.tmp 15) 25 rfl Tryd.underlying25 Tryd.size5 B vb F.bs x (.slice (some ⟨gx, ox, none⟩) n cap) _ _ _ q ov rfl rfl HOd.out HXd.out HMV.out HDP.out HFT.out ?_; intro w3 ho3 hg3)
    all_goals (go_wp2_with fail)
    all_goals
      go_meet
      refine ⟨rfl, ho3, (Chg.of_below HW.out).next (Chg.of_grown (S := fun k => vb.ownBlock = some k) hg3 (fun k e => e)), (hg3.block _ HLT.out (fun e => ?_)).trans HNW.out⟩
      have := World.ownsRow.lt HO.out _ e.symm
      omega
  case rest =>
    obtain ⟨hu6, ho3, hc3, hn3⟩ := hcut
    subst hu6
    have hnp : w.heap.size ≠ p := by omega
    have k3 : wc.cell? ⟨p, 3, none⟩ = some (.slice ab bl cb) := (World.cell?_of_block (a := ⟨p, 3, none⟩) (hc3.block p hpl (fun e => H0.out.hold.d1 e))).trans c3
    have y3 : wc.frozen? ⟨p, 3, none⟩ = false := (World.frozen?_of_block (a := ⟨p, 3, none⟩) (hc3.block p hpl (fun e => H0.out.hold.d1 e))).trans z3
    have r0 : wc.cell? ⟨w.heap.size, 0, none⟩ = some (.int .i64 (q : Int)) := by simp [World.cell?, hn3]
    have r1 : wc.cell? ⟨w.heap.size, 1, none⟩ = some (.slice (some ⟨gx, ox, none⟩) n cap) := by simp [World.cell?, hn3]
    have hlw : w.heap.size < wc.heap.size := (Array.getElem?_eq_some_iff.1 hn3).1
    have hal3 : ∀ k, (Value.slice (some ⟨gx, ox, none⟩) n cap).ownBlock = some k → ¬ vb.ownBlock = some k := fun k hk e => (HA.out k hk).1 (.inr (.inl e))
    have HX3 : Hid (Bs wc (.slice (some ⟨gx, ox, none⟩) n cap) x) := HX.out.chg hc3 hal3
    have hL3 : (F.bs.take q ++ (x.take ov ++ F.bs.drop (q + ov))).length = bl := by
      simp only [List.length_append, List.length_take, List.length_drop, Hbl.out, Hnn.out]; omega
    have HO3 : Hid (wc.drew.ownsRow B 5 1 (.slice ab bl cb) bl (bcells (F.bs.take q ++ (x.take ov ++ F.bs.drop (q + ov))))) := by
      have := ho3
      unfold Own at this
      rw [hL3, HE1.out] at this
      exact this
    have HSR : Hid (∃ ad, (if cap = ov then some ⟨gx, ox, none⟩ else some ⟨gx, ox + ov, none⟩ : Option Addr) = some ad ∧ ∀ j u, (bcells (x.drop ov))[j]? = some u → wc.drew.cell? (ad.add j) = some u) := by
      by_cases hco : cap = ov
      · refine ⟨_, if_pos hco, fun j u hj => ?_⟩
        obtain ⟨hj', _⟩ := bcells_get hj
        rw [List.length_drop, Hnn.out] at hj'
        omega
      · refine ⟨_, if_neg hco, fun j u hj => ?_⟩
        obtain ⟨hj', rfl⟩ := bcells_get hj
        rw [List.length_drop, Hnn.out] at hj'
        rw [addr_add]
        obtain ⟨b2, o2, c2, e2, _, hc2⟩ := HX3.out.opened hx0
        injection e2 with e2
        injection e2 with e2
        injection e2 with e21 e22
        subst e21 e22
        have := hc2 (ov + j) (by rw [Hnn.out]; omega)
        rw [show ox + ov + j = ox + (ov + j) by omega]
        refine Eq.trans this ?_
        simp [List.getD]
    have HLN : Hid ((bcells (x.drop ov)).length = (n - ov) * 1) := by rw [Hid, bcells_length, List.length_drop, Hnn.out]; omega
    have HLM : Hid (bl + (n - ov) ≤ maxLen) := by unfold Hid maxLen; omega
    have HLB : Hid ((bl + (n - ov)) * 1 ≤ 140737488355328) := by unfold Hid; omega
    have HBB : Hid (B ≤ wc.drew.heap.size) := by have := hc3.size; show B ≤ wc.heap.size; omega
    have HC3 : Hid (Chg (fun k => vb.ownBlock = some k) w wc) := hc3
    have HN3 : Hid (wc.heap[w.heap.size]? = some (.cells #[.int .i64 (q : Int), .slice (some ⟨gx, ox, none⟩) n cap] 91 (0, 0))) := hn3
    have hov0 : (0 : Int) ≤ (ov : Int) := by omega
    have hovc : (ov : Int) ≤ (n : Int) := by omega
    have HPK : Hid (∀ w5 : World, wc.drew.grownBy w5 (Value.slice ab bl cb).ownBlock → w5.heap[p]? = wc.heap[p]?) := fun w5 hg => hg.block p (by show p < wc.heap.size; omega) (fun e => H0.out.hold.d1 (by rw [HE1.out]; exact e.symm))
    clear ho3 hn3 hc3 hal3
    go_upto_region 2 with fail
    go_cut [6] (fun t w5 => t = .int .i64 (ov : Int) ∧ ∃ vb', PF w5 B p { F with bs := layN F.bs q x } vb' vr rv ∧ Chg (Foot p vb vr) w w5 ∧ (∀ k, Foot p vb' vr k → Foot p vb vr k ∨ w.heap.size ≤ k) ∧ w5.heap[w.heap.size]? = some (.cells #[.int .i64 (q : Int), .slice (some ⟨gx, ox, none⟩) n cap] 91 (0, 0)))
    case first =>
      by_cases hco : cap = ov
      · have HSS : Hid (∃ ad, (some ⟨gx, ox, none⟩ : Option Addr) = some ad ∧ ∀ j u, (bcells (x.drop ov))[j]? = some u → wc.drew.cell? (ad.add j) = some u) := by have := HSR.out; rwa [if_pos hco] at this
        have hco' : (cap = ov) = True := by simp [hco]
        clear hco
        go_region_law (refine step_append_src rfl (.tmp 21) (.tmp 25) 25 rfl 5 i0 (.int .u8 0) 1 1 Tryd.underlying25 hi hz0 hz1 hz2 rfl (by decide) B (.slice ab bl cb) bl _ _ (n - ov) (cap - ov) (bcells (x.drop ov)) rfl rfl HO3.out HLN.out HSS.out (bcells_one _) HLM.out HLB.out HBB.out ?_; intro ao5 cap5 w5 ho5 hg5 hb5; have l3 : w5.cell? ⟨p, 3, none⟩ = some (.slice ab bl cb) := (World.cell?_of_block (a := ⟨p, 3, none⟩) (HPK.out w5 hg5)).trans k3; have m3 : w5.frozen? ⟨p, 3, none⟩ = false := (World.frozen?_of_block (a := ⟨p, 3, none⟩) (HPK.out w5 hg5)).trans y3)
        all_goals (go_wp2_with fail)
        all_goals
          go_meet
          refine ⟨rfl, .slice ao5 (bl + (n - ov)) cap5, ?_⟩
          have hL : (F.bs.take q ++ (x.take ov ++ F.bs.drop (q + ov))) ++ x.drop ov = layN F.bs q x := by
            have := lay_two F.bs x q (by rw [Hbl.out]; exact hq)
            rw [Hbl.out, Hnn.out, ← Hov.out] at this
            exact this
          have hLl : (layN F.bs q x).length = bl + (n - ov) := by
            rw [layN_length _ _ _ (by rw [Hbl.out]; exact hq), Hbl.out, Hnn.out]
            have := Hov.out
            omega
          have ho6 : Own w5 B (.slice ao5 (bl + (n - ov)) cap5) (layN F.bs q x) := by
            unfold Own
            rw [hLl, ← hL, bcells_append]
            exact ho5
          have hres := bytes_laid H0.out (L := layN F.bs q x) HC3.out.drew ho6 (by rw [HE1.out]; exact hg5) (by rw [HE1.out]; exact hb5) (by rw [hLl]; have := Hov.out; omega)
          refine ⟨hres.1, hres.2.1, hres.2.2, ?_⟩
          refine (Below.heap_setCell _ _ _ _ hnp).trans ((hg5.block _ hlw (fun e => ?_)).trans HN3.out)
          have := World.ownsRow.lt HO.out w.heap.size (by rw [HE1.out]; exact e.symm)
          omega
      · have HSS : Hid (∃ ad, (some ⟨gx, ox + ov, none⟩ : Option Addr) = some ad ∧ ∀ j u, (bcells (x.drop ov))[j]? = some u → wc.drew.cell? (ad.add j) = some u) := by have := HSR.out; rwa [if_neg hco] at this
        have hco' : (cap = ov) = False := by simp [hco]
        clear hco
        go_region_law (refine step_append_src rfl (.tmp 21) (.tmp 25) 25 rfl 5 i0 (.int .u8 0) 1 1 Tryd.underlying25 hi hz0 hz1 hz2 rfl (by decide) B (.slice ab bl cb) bl _ _ (n - ov) (cap - ov) (bcells (x.drop ov)) rfl rfl HO3.out HLN.out HSS.out (bcells_one _) HLM.out HLB.out HBB.out ?_; intro ao5 cap5 w5 ho5 hg5 hb5; have l3 : w5.cell? ⟨p, 3, none⟩ = some (.slice ab bl cb) := (World.cell?_of_block (a := ⟨p, 3, none⟩) (HPK.out w5 hg5)).trans k3; have m3 : w5.frozen? ⟨p, 3, none⟩ = false := (World.frozen?_of_block (a := ⟨p, 3, none⟩) (HPK.out w5 hg5)).trans y3)
        all_goals (go_wp2_with fail)
        all_goals
          go_meet
          refine ⟨rfl, .slice ao5 (bl + (n - ov)) cap5, ?_⟩
          have hL : (F.bs.take q ++ (x.take ov ++ F.bs.drop (q + ov))) ++ x.drop ov = layN F.bs q x := by
            have := lay_two F.bs x q (by rw [Hbl.out]; exact hq)
            rw [Hbl.out, Hnn.out, ← Hov.out] at this
            exact this
          have hLl : (layN F.bs q x).length = bl + (n - ov) := by
            rw [layN_length _ _ _ (by rw [Hbl.out]; exact hq), Hbl.out, Hnn.out]
            have := Hov.out
            omega
          have ho6 : Own w5 B (.slice ao5 (bl + (n - ov)) cap5) (layN F.bs q x) := by
            unfold Own
            rw [hLl, ← hL, bcells_append]
            exact ho5
          have hres := bytes_laid H0.out (L := layN F.bs q x) HC3.out.drew ho6 (by rw [HE1.out]; exact hg5) (by rw [HE1.out]; exact hb5) (by rw [hLl]; have := Hov.out; omega)
          refine ⟨hres.1, hres.2.1, hres.2.2, ?_⟩
          refine (Below.heap_setCell _ _ _ _ hnp).trans ((hg5.block _ hlw (fun e => ?_)).trans HN3.out)
          have := World.ownsRow.lt HO.out w.heap.size (by rw [HE1.out]; exact e.symm)
          omega
    case rest =>
      obtain ⟨hu6, vb2, hpf, hch, hft, hbx⟩ := hcut
      subst hu6
      have q0 : wc.cell? ⟨w.heap.size, 0, none⟩ = some (.int .i64 (q : Int)) := by simp [World.cell?, hbx]
      have q1 : wc.cell? ⟨w.heap.size, 1, none⟩ = some (.slice (some ⟨gx, ox, none⟩) n cap) := by simp [World.cell?, hbx]
      have HPF : Hid (PF wc B p { F with bs := layN F.bs q x } vb2 vr rv) := hpf
      have HCH : Hid (Chg (Foot p vb vr) w wc) := hch
      have HFO : Hid (∀ k, Foot p vb2 vr k → Foot p vb vr k ∨ w.heap.size ≤ k) := hft
      have HX5 : Hid (Bs wc (.slice (some ⟨gx, ox, none⟩) n cap) x) := HX.out.chg hch (fun g hg => (HA.out g hg).1)
      have HA5 : Hid (Alien wc p vb2 vr (.slice (some ⟨gx, ox, none⟩) n cap)) := fun k hk => ⟨fun hf => by
        rcases hft k hf with e | e
        · exact (HA.out k hk).1 e
        · have := (HA.out k hk).2; omega, Nat.lt_of_lt_of_le (HA.out k hk).2 hch.size⟩
      have HS5 : Hid (w.heap.size ≤ wc.heap.size) := hch.size
      have HL5 : Hid (w.heap.size < wc.heap.size) := (Array.getElem?_eq_some_iff.1 hbx).1
      clear hpf hch hft hbx k3 y3 r0 r1 HO3 HSR HLN HLM HLB HBB HC3 HN3 HPK HX3 hL3
      go_wp2_with (first | (go_at_call 60; refine (pass_any HPF.out hl).mono ?_; rintro e w6 ⟨⟨uu, rfl⟩, hp6, hc6⟩; have q06 : w6.cell? ⟨w.heap.size, 0, none⟩ = some (.int .i64 (q : Int)) := (World.cell?_of_block (a := ⟨w.heap.size, 0, none⟩) (hc6.block _ HL5.out hnp)).trans q0; have q16 : w6.cell? ⟨w.heap.size, 1, none⟩ = some (.slice (some ⟨gx, ox, none⟩) n cap) := (World.cell?_of_block (a := ⟨w.heap.size, 1, none⟩) (hc6.block _ HL5.out hnp)).trans q1) | (go_at_call 47; refine (add_any hp6 (Nat.le_trans hB (Nat.le_trans HS5.out hc6.size)) (q : Int) x _ (HX5.out.chg hc6 (fun g hg e => (HA5.out g hg).1 (.inl e))) (fun k hk => ⟨(HA5.out k hk).1, Nat.lt_of_lt_of_le (HA5.out k hk).2 hc6.size⟩) hn).mono ?_; rintro e w7 ⟨⟨uu2, rfl⟩, vr7, hp7, hc7, hf7, hi7⟩))
      go_end0
      have hc67 := (hc6.mono (S' := Foot p vb2 vr) (fun k e => .inl e)).next hc7
      refine ⟨⟨_, rfl⟩, vb2, vr7, ?_, HCH.out.trans hc67 HFO.out, ?_, hi7⟩
      · exact hp7
      · intro k hk
        rcases hf7 k hk with e | e
        · exact HFO.out k e
        · exact .inr (by have := hc6.size; have := HS5.out; omega)
end Go.Proofs.YtkiccnedmejnaaaDoor
