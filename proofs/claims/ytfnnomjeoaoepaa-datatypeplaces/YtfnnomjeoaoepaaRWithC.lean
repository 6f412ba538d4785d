/-
  The document's within, at compounds. Conditions: what is told of the parts has a contract.
-/
import Derived.Test.YtfnnomjeoaoepaaRWith
import Derived.Deep.RegionHeldLaw
namespace Go.Proofs.Ytfnnomjeoaoepaa
open Go.RowKit Go.Shelf
set_option linter.unusedVariables false
set_option maxRecDepth 100000

/-- A call as a step in a region that draws. -/
theorem step_callP {ops : Array Oper} {o : Oper} {a : Act} {w : World} {K : Act → World → Prop} {Q : Exit → Act → World → Prop} {E : Prop}
    (hg : o.guard = none) (f : FuncId) (he : ∀ args w, (callFunc f args).run Try.prog w = .ok (.enter f args) w) (xs : Array Operand) (ts : Array TypeId) (hop : o.op = Op.call { callee := Callee.value (Operand.func f), args := xs, argTypes := ts })
    (vs : Array Value) (hev : xs.map a.eval = vs) (R : Value → World → Prop) (hC : Calls Try.prog f vs w fun e w' => ∃ v, e = .returned v ∧ R v w') (d : Nat) (hd : o.dst = some d) (hK : ∀ v w', R v w' → K (a.put (some d) v) w') :
    if Region.wanted o (yielded ops a.tmps) = true then Oper.wp Try.prog o a w K Q else E := by
  have hw : Region.wanted o (yielded ops a.tmps) = true := by simp [Region.wanted, hg]
  rw [if_pos hw]
  have hf : a.eval (Operand.func f) = .func (.func f) #[] #[] := rfl
  have hev' : xs.map (fun x => a.eval x) = vs := hev
  unfold Oper.wp
  simp [execOp, hop, resolve, invoke, hev', hf, Oper.upon, Deferred.ofValue, he]
  refine hC.mono ?_
  rintro e w' ⟨v, rfl, h2⟩
  show K (a.put o.dst v) w'
  rw [hd]
  exact hK v w' h2
/-- What tells of a part. -/
def WithR (w0 : World) (n : Nat) : Prop := ∀ (t : Ty n) (U : TV) (p : Int) (d : Nat) (w' : World), TR n w0 U t → Below w0.heap.size w0 w' → 1 ≤ d → sz n t d ≠ 0 → 0 ≤ p → p + sz n t d ≤ 256 → Calls Try.prog 28 #[tyV (hd t) U, .int .i64 p] w' (WtP w' (plF n t p))
theorem OwnRp.below {w w' : World} {B : Nat} {v : Value} {L : List Pl} (h : OwnRp w B v L) (hb : Below w.heap.size w w') : OwnRp w' B v L := ownsRow_below h hb
theorem OwnRp.mono {w : World} {B B' : Nat} {v : Value} {L : List Pl} (h : OwnRp w B v L) (hB : B' ≤ B) : OwnRp w B' v L := by
  obtain ⟨h1, h2 | ⟨g, cap, cur, e, hg, r⟩⟩ := h
  · exact ⟨h1, .inl h2⟩
  · exact ⟨h1, .inr ⟨g, cap, cur, e, Nat.le_trans hB hg, r⟩⟩
theorem bel_own {W w w' : World} {v : Value} {B : Nat} {L : List Pl} (h : Below W.heap.size W w) (hv : OwnRp w B v L) (hB : W.heap.size ≤ B) (hg : w.grownBy w' v.ownBlock) : Below W.heap.size W w' :=
  ⟨hg.os.trans h.os, hg.tape.trans h.tape, hg.output.trans h.output, Nat.le_trans h.size hg.size, fun x hx => by
    refine (hg.block x (Nat.lt_of_lt_of_le hx h.size) (fun e => ?_)).trans (h.block x hx)
    have := (hv.lt x e.symm).1
    omega⟩
theorem Try.infoRp : ∃ i, Try.prog.info? 48 = some i ∧ i.zero = some (.agg #[.int .i64 0, .int .i64 0, .int .i64 0, .bool false]) ∧ i.size = 4 ∧ i.bytes = 32 := by
  refine ⟨_, rfl, ?_⟩
  exact ⟨by kernel_rfl, by kernel_rfl, by kernel_rfl⟩
theorem gcP_len (L : List Pl) : (gc encP L).length = L.length * 4 := by
  induction L with
  | nil => rfl
  | cons q L ih =>
    show (encP q ++ gc encP L).length = _
    rw [List.length_append, ih, List.length_cons, encP_len]
    omega
theorem gcP_one (L : List Pl) : ∀ u ∈ gc encP L, u.oneCell' = true := by
  intro u hu
  obtain ⟨q, _, hq⟩ := List.mem_flatMap.1 hu
  simp [encP] at hq
  rcases hq with rfl | rfl | rfl | rfl <;> rfl
theorem rp_open {w : World} {B : Nat} {v : Value} {L : List Pl} (h : OwnRp w B v L) (hne : L ≠ []) : ∃ g cap, v = .slice (some ⟨g, 0, none⟩) L.length cap ∧ (∀ j u, (gc encP L)[j]? = some u → w.cell? ((⟨g, 0, none⟩ : Addr).add j) = some u) ∧ 1 ≤ L.length := by
  have hl : 1 ≤ L.length := List.length_pos_iff.2 hne
  rcases ownsRow_shape h with ⟨_, h0⟩ | ⟨g, cap, e, _, _, hle, _, _, hc⟩
  · omega
  · refine ⟨g, cap, e, fun j u hu => ?_, hl⟩
    have := hc j u hu
    simp only [Addr.add, Nat.zero_add]
    split
    · rename_i h0
      rw [h0] at this
      exact this
    · exact this
set_option maxHeartbeats 16000000 in
theorem with_cmp {w0 : World} {n : Nat} (ih : WithR w0 n) (T : Ty (n + 1)) (V : TV) (p : Int) (d : Nat) (w : World) (h : TR (n + 1) w0 V T) (hb0 : Below w0.heap.size w0 w) (hd1 : 1 ≤ d) (hc : TyN.c T = 5) (hp : 0 ≤ p ∧ p + TyN.w T ≤ 256) (hw : 1 ≤ TyN.w T ∧ TyN.w T ≤ 256) (E : Int) (hE : endF (fun t => sz n t (d + 1)) (TyN.w T) 0 (TyN.fs T) = some E) :
    Calls Try.prog 28 #[tyV (hd T) V, .int .i64 p] w (WtP w (plF (n + 1) T p)) := by
  obtain ⟨i0, hi, hz, hsz, hby⟩ := Try.infoRp
  have H : Hid (TRN (TR n) hd w0 V T) := h
  obtain ⟨fa, fn, fc, da, dn, dc, ba, bn, bc, na, nn, nc, rfl, ⟨f1, f2, f3⟩, -, -, -⟩ := H.out.open
  have HFN : Hid ((TyN.fs T).length = fn) := f1
  have HPF : Hid (plF (n + 1) T p = (TyN.fs T).flatMap (fun q => plF n q.2.2 (p + q.2.1))) := by rw [Hid, plF, if_neg (by omega), if_pos hc]
  show Calls _ _ #[.agg #[.int .i64 (TyN.c T), .int .i64 (TyN.w T), .bool (TyN.b T), _, _, _, _], _] _ _
  rw [hc]
  obtain ⟨wd, hwd⟩ : ∃ c, TyN.w T = c := ⟨_, rfl⟩
  obtain ⟨b, hb⟩ : ∃ c, TyN.b T = c := ⟨_, rfl⟩
  rw [hwd] at hw hp hE ⊢
  rw [hb]
  obtain ⟨hw1', hw2'⟩ := hw
  obtain ⟨hp1, hp2⟩ := hp
  have HIH : Hid (WithR w0 n) := ih
  have HB0 : Hid (Below w0.heap.size w0 w) := hb0
  have HEE : Hid (endF (fun t => sz n t (d + 1)) wd 0 (TyN.fs T) = some E) := hE
  clear h hc hwd hb ih hb0 f1 hE
  obtain ⟨w1, hw1, hb1, hs1, hx1⟩ := bx_made w 5 wd b (.slice fa fn fc) (.slice da dn dc) (.slice ba bn bc) (.slice na nn nc)
  have HB1 : Hid (Below w.heap.size w w1) := hb1
  have HX1 : Hid (Bx w1 w.heap.size 5 wd b (.slice fa fn fc) (.slice da dn dc) (.slice ba bn bc) (.slice na nn nc)) := hx1
  have HSZ : Hid (w1.heap.size = w.heap.size + 1) := hs1
  obtain ⟨c0, c1, c2, c3, c4, c5, c6⟩ := hx1
  clear hb1 hs1
  go_enter Try.func28, Try.ntmps28
  go_wp2_with fail
  clear c0 c1 c2 c3 c4 c5 c6
  go_loopw [5, 6] (fun x y wr => ∃ (i : Nat) (e : Int) (vi : Value) (Li : List Pl), i ≤ fn ∧ x = vi ∧ y = .int .i64 (i : Int) ∧ Hid (Li = ((TyN.fs T).take i).flatMap (fun q => plF n q.2.2 (p + q.2.1))) ∧ Hid ((Li.length : Int) ≤ e) ∧ Hid (endF (fun t => sz n t (d + 1)) wd e ((TyN.fs T).drop i) = some E) ∧ Hid (OwnRp wr w1.heap.size vi Li) ∧ Hid (Below w1.heap.size w1 wr)) (fun _ y _ => fn - (intOf y).toNat)
  case atStart => exact ⟨0, 0, .slice none 0 0, [], Nat.zero_le _, rfl, by simp, by simp [Hid], by simp [Hid], by rw [Hid, List.drop_zero]; exact HEE.out, ⟨rfl, .inl ⟨rfl, rfl⟩⟩, Below.refl _ _⟩
  case round =>
    obtain ⟨i, e, vi, Li, hin, rfl, rfl, HLi, HLe, HEi, HOi, HBi⟩ := hrel
    have HBw : Hid (Below w.heap.size w wr) := bel_next HB1.out HBi.out
    have HB0r : Hid (Below w0.heap.size w0 wr) := bel_next HB0.out HBw.out
    obtain ⟨c0, c1, c2, c3, c4, c5, c6⟩ := HX1.out.below HBi.out
    clear c0 c1 c2 c4 c5 c6
    by_cases hlt : i < fn
    · obtain ⟨g, o, U, q, rfl, hq, hqr, hu, k0, k1, k2, k3, k4, k5, k6, k7, k8⟩ := H.out.fs.at hlt
      have HST := endF_step (fun t => sz n t (d + 1)) wd e hq
      rw [HEi.out] at HST
      have hnz : sz n q.2.2 (d + 1) ≠ 0 := fun h => by rw [if_pos (.inl h)] at HST; cases HST
      have hfit : e ≤ q.2.1 ∧ q.2.1 ≤ wd - sz n q.2.2 (d + 1) := by
        refine Classical.not_not.1 (fun h => ?_)
        rw [if_pos (.inr h)] at HST; cases HST
      rw [if_neg (fun h => h.elim hnz (fun h => h hfit))] at HST
      have hrg := sz_rng n q.2.2 (d + 1)
      have hord := plF_ord n q.2.2 (d + 1) (p + q.2.1) (by omega) hnz
      have hlen := ord_len hord.1
      have HNXT : Hid (endF (fun t => sz n t (d + 1)) wd (q.2.1 + sz n q.2.2 (d + 1)) ((TyN.fs T).drop (i + 1)) = some E) := HST.symm
      have HTK : Hid (Li ++ plF n q.2.2 (p + q.2.1) = ((TyN.fs T).take (i + 1)).flatMap (fun q => plF n q.2.2 (p + q.2.1))) := by
        rw [Hid, HLi.out, List.take_add_one, hq, List.flatMap_append]
        simp
      have HNE : Hid (plF n q.2.2 (p + q.2.1) ≠ []) := hord.2
      obtain ⟨ga, gn, gk, xa, xn, xc, ya, yn, yc, za, zn, zc, rfl⟩ := hu.sl
      simp only [] at k5 k6 k7 k8
      have HSS : Hid (∀ wz, Below w1.heap.size w1 wz → wz.cell? ⟨w.heap.size, 3, none⟩ = some (.slice (some ⟨g, o, none⟩) fn fc) ∧ wz.cell? ⟨g, o + i * 9 + 1, none⟩ = some (.int .i64 q.2.1) ∧ wz.cell? ⟨g, o + i * 9 + 2, none⟩ = some (.int .i64 (hd q.2.2).1) ∧ wz.cell? ⟨g, o + i * 9 + 3, none⟩ = some (.int .i64 (hd q.2.2).2.1) ∧ wz.cell? ⟨g, o + i * 9 + 4, none⟩ = some (.bool (hd q.2.2).2.2) ∧ wz.cell? ⟨g, o + i * 9 + 5, none⟩ = some (.slice ga gn gk) ∧ wz.cell? ⟨g, o + i * 9 + 6, none⟩ = some (.slice xa xn xc) ∧ wz.cell? ⟨g, o + i * 9 + 7, none⟩ = some (.slice ya yn yc) ∧ wz.cell? ⟨g, o + i * 9 + 8, none⟩ = some (.slice za zn zc)) := fun wz hb => by
        have hbz := bel_next HB0.out (bel_next HB1.out hb)
        have K : ∀ {p : Addr} {x : Value}, w0.cell? p = some x → wz.cell? p = some x := fun h => (hbz.cell (World.block_lt_of_cell? w0 _ h)).trans h
        exact ⟨(HX1.out.below hb).c3, K k1, K k2, K k3, K k4, K k5, K k6, K k7, K k8⟩
      clear k0 k1 k2 k3 k4 k5 k6 k7 k8
      have hat : ∃ at', q.2.1 = at' := ⟨_, rfl⟩
      obtain ⟨at', hat⟩ := hat
      obtain ⟨s, hss⟩ : ∃ s, sz n q.2.2 (d + 1) = s := ⟨_, rfl⟩
      rw [hat, hss] at hfit hlen HNXT
      rw [hss] at hrg hnz
      rw [hat] at HTK HSS HNE
      obtain ⟨hf1, hf2⟩ := hfit
      have HLL : Hid (((Li ++ plF n q.2.2 (p + at')).length : Int) ≤ at' + s) := by
        rw [Hid, List.length_append]
        have := HLe.out
        omega
      have HCL : Hid (∀ w', Below w0.heap.size w0 w' → Calls Try.prog 28 #[.agg #[.int .i64 (hd q.2.2).1, .int .i64 (hd q.2.2).2.1, .bool (hd q.2.2).2.2, .slice ga gn gk, .slice xa xn xc, .slice ya yn yc, .slice za zn zc], .int .i64 (p + at')] w' (WtP w' (plF n q.2.2 (p + at')))) := fun w' hb =>
        HIH.out q.2.2 ⟨.slice ga gn gk, .slice xa xn xc, .slice ya yn yc, .slice za zn zc⟩ (p + at') (d + 1) w' hu hb (by omega) (by rw [hss]; exact hnz) (by have := HLe.out; omega) (by rw [hss]; omega)
      have hwr : IntKind.i64.wrap (p + at') = p + at' := wrap_i64_inD _ (by have := HLe.out; omega) (by omega)
      clear hq hqr hu HST hord hlen hat hss hrg
      generalize plF n q.2.2 (p + at') = PQ at *
      generalize (hd q.2.2).1 = z2' at *
      generalize (hd q.2.2).2.1 = z3 at *
      generalize (hd q.2.2).2.2 = z4 at *
      have hLn : Li.length + PQ.length ≤ 256 := by
        have := HLL.out
        rw [List.length_append] at this
        omega
      have HDR : Hid (Below wr.heap.size wr wr.drew) := (Below.refl _ _).drew
      have HBD : Hid (Below w1.heap.size w1 wr.drew) := HBi.out.drew
      have HOD : Hid (OwnRp wr.drew w1.heap.size u5 Li) := HOi.out.below HDR.out
      have HB0d : Hid (Below w0.heap.size w0 wr.drew) := HB0r.out.drew
      go_wp2_with fail
      clear c3
      go_region_held_law (fun wz => wz.cell? ⟨w.heap.size, 3, none⟩ = some (.slice (some ⟨g, o, none⟩) fn fc) ∧ wz.cell? ⟨g, o + i * 9 + 1, none⟩ = some (.int .i64 at') ∧ wz.cell? ⟨g, o + i * 9 + 2, none⟩ = some (.int .i64 z2') ∧ wz.cell? ⟨g, o + i * 9 + 3, none⟩ = some (.int .i64 z3) ∧ wz.cell? ⟨g, o + i * 9 + 4, none⟩ = some (.bool z4) ∧ wz.cell? ⟨g, o + i * 9 + 5, none⟩ = some (.slice ga gn gk) ∧ wz.cell? ⟨g, o + i * 9 + 6, none⟩ = some (.slice xa xn xc) ∧ wz.cell? ⟨g, o + i * 9 + 7, none⟩ = some (.slice ya yn yc) ∧ wz.cell? ⟨g, o + i * 9 + 8, none⟩ = some (.slice za zn zc)) (first | exact HSS.out _ HB3.out | exact HSS.out _ HB6.out | exact HSS.out _ HBD.out)
        (first
          | (have hg := HO6; clear hg; refine step_append_G 47 rfl rfl (.tmp 31) (.tmp 46) 42 48 rfl i0 Try.underlying42 hi _ hz 4 32 hsz hby rfl (by omega) w1.heap.size u5 Li.length (gc encP Li) ⟨g6, 0, none⟩ PQ.length cap6 (gc encP PQ) rfl rfl HO6.out (gcP_len PQ) HN6.out (gcP_one PQ) (by omega) (by omega) HP6.out HB6.out.size ?_; intro g3 cap3 w3 ho3 hg3 _; have HO3 : Hid (OwnRp w3 w1.heap.size (.slice (some ⟨g3, 0, none⟩) (Li.length + PQ.length) cap3) (Li ++ PQ)) := (by unfold Hid OwnRp; rw [List.length_append, gc_append]; exact ho3); have HB3 : Hid (Below w1.heap.size w1 w3) := bel_own HB6.out HO6.out (Nat.le_refl _) hg3; clear ho3 hg3)
          | (refine step_callP rfl 28 (enters_of Try.func28 (by kernel_rfl) rfl) #[.tmp 37, .tmp 45] _ rfl #[.agg #[.int .i64 z2', .int .i64 z3, .bool z4, .slice ga gn gk, .slice xa xn xc, .slice ya yn yc, .slice za zn zc], .int .i64 (p + at')] (by go_simp) (fun v w' => OwnRp w' wr.drew.heap.size v PQ ∧ Below wr.drew.heap.size wr.drew w') (Calls.mono (HCL.out _ HB0d.out) (by rintro e w' ⟨v, rfl, h1, h2⟩; exact ⟨v, rfl, h1, h2⟩)) 46 rfl ?_; rintro v6 w6 ⟨ho6, hb6⟩; obtain ⟨g6, cap6, rfl, hn6, hm6⟩ := rp_open ho6 HNE.out; have HN6 : Hid (∀ j u, (gc encP PQ)[j]? = some u → w6.cell? ((⟨g6, 0, none⟩ : Addr).add j) = some u) := hn6; have HO6 : Hid (OwnRp w6 w1.heap.size u5 Li) := HOD.out.below hb6; have HB6 : Hid (Below w1.heap.size w1 w6) := bel_next HBD.out hb6; have HP6 : Hid (1 ≤ PQ.length) := hm6; clear hn6 hb6 ho6 hm6))
      all_goals go_wp2_with fail
      go_roundw
      case rel => exact ⟨i + 1, at' + s, _, Li ++ PQ, by omega, rfl, by go_num, HTK.out, HLL.out, HNXT.out, HO3.out, HB3.out⟩
      case measure => simp [intOf]; omega
    · obtain rfl : i = fn := by omega
      have HE : Hid (Li = plF (n + 1) T p) := by rw [Hid, HLi.out, HPF.out, List.take_of_length_le (by rw [HFN.out]; exact Nat.le_refl _)]
      go_wp2_with fail
      go_ret
      exact ⟨_, rfl, by rw [← HE.out]; exact HOi.out.mono (by have := HSZ.out; omega), HBw.out⟩
end Go.Proofs.Ytfnnomjeoaoepaa
