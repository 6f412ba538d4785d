/-
  The program's Places: the closure goes through any type. Conditions: the type may be, and lies in memory ahead of it all.
-/
import Derived.Test.YtojcokdfplldbaaDPlW
import Derived.Test.YtojcokdfplldbaaTail
namespace Go.Proofs.Ytojcokdfplldbaa
open Go.RowKit Go.Shelf
set_option linter.unusedVariables false
set_option maxRecDepth 100000

theorem Bx.mv {w w1 : World} {b pp B : Nat} {v v' : Value} {L : List Pl} {c wd : Int} {x : Bool} {f d y n : Value} (h : Bx w b c wd x f d y n) (m : Mv w w1 pp v v') (hb : b ≠ pp) (hv : ∀ g, v.ownBlock = some g → g ≠ b) : Bx w1 b c wd x f d y n := by
  have K : ∀ {i : Nat} {x : Value}, w.cell? ⟨b, i, none⟩ = some x → w1.cell? ⟨b, i, none⟩ = some x := fun h => m.kp.cell h (fun e => e.elim hb (fun e => hv _ e rfl))
  exact ⟨K h.c0, K h.c1, K h.c2, K h.c3, K h.c4, K h.c5, K h.c6⟩
theorem quo_k {S s : Int} {k : Nat} (h : S = (k : Int) * s) (hs : s ≠ 0) : S.tdiv s = k := by
  rw [h, Int.mul_tdiv_cancel _ hs]
/-- What a call of the closure owes. -/
def WalkPl (w0 : World) (pw pp B n : Nat) : Prop := ∀ (T : Ty n) (V : TV) (p : Int) (d : Nat) (v : Value) (L : List Pl) (w : World), TR n w0 V T → Below w0.heap.size w0 w → B ≤ w.heap.size → PlC w pw pp → PS w pp B v L → 1 ≤ d → sz n T d ≠ 0 → 0 ≤ p → p + sz n T d ≤ 256 → (L.length : Int) ≤ p →
    Calls Try.prog 32 #[tyV (hd T) V, .int .i64 p, .pointer (some ⟨pw, 0, none⟩), .pointer (some ⟨pp, 0, none⟩)] w (PlP w pp B v (L ++ plF n T p))
theorem walkPl_num {w0 : World} {pw pp B n : Nat} (T : Ty (n + 1)) (V : TV) (p : Int) (v : Value) (L : List Pl) (w : World) (h : TR (n + 1) w0 V T) (hB : B ≤ w.heap.size) (hs : PS w pp B v L) (hL : L.length ≤ 256) (hc : TyN.c T = 1 ∨ TyN.c T = 2 ∨ TyN.c T = 3) :
    Calls Try.prog 32 #[tyV (hd T) V, .int .i64 p, .pointer (some ⟨pw, 0, none⟩), .pointer (some ⟨pp, 0, none⟩)] w (PlP w pp B v (L ++ plF (n + 1) T p)) := by
  obtain ⟨fa, fn, fc, da, dn, dc, ba, bn, bc, na, nn, nc, rfl⟩ := TR.sl (n := n + 1) h
  rw [plF, if_neg (by omega), if_neg (by omega), if_neg (by omega)]
  exact numPl_any (TyN.c T) (TyN.w T) (TyN.b T) fa fn fc da dn dc ba bn bc na nn nc p pw pp B v L w hc hB hs hL
set_option maxHeartbeats 16000000 in
theorem walkPl_cpx {w0 : World} {pw pp B n : Nat} (hpw : pw < B) (hne : pw ≠ pp) (T : Ty (n + 1)) (V : TV) (p : Int) (v : Value) (L : List Pl) (w : World) (h : TR (n + 1) w0 V T) (hB : B ≤ w.heap.size) (hW : PlC w pw pp) (hs : PS w pp B v L) (hL : L.length ≤ 255) (hc : TyN.c T = 4) (hp : 0 ≤ p ∧ p ≤ 256) (hw : 1 ≤ TyN.w T ∧ TyN.w T ≤ 8) :
    Calls Try.prog 32 #[tyV (hd T) V, .int .i64 p, .pointer (some ⟨pw, 0, none⟩), .pointer (some ⟨pp, 0, none⟩)] w (PlP w pp B v (L ++ plF (n + 1) T p)) := by
  obtain ⟨i0, hi, hz, hsz, hby⟩ := Try.infoPl
  have eg : ∀ args w, (callFunc 32 args).run Try.prog w = .ok (.enter 32 args) w := enters_of Try.func32 (by kernel_rfl) rfl
  obtain ⟨fa, fn, fc, da, dn, dc, ba, bn, bc, na, nn, nc, rfl⟩ := TR.sl (n := n + 1) h
  rw [plF, if_pos hc]
  show Calls _ _ #[.agg #[.int .i64 (TyN.c T), .int .i64 (TyN.w T), .bool (TyN.b T), _, _, _, _], _, _, _] _ _
  rw [hc]
  clear h hc
  obtain ⟨wd, hwd⟩ : ∃ c, TyN.w T = c := ⟨_, rfl⟩
  obtain ⟨b, hb⟩ : ∃ c, TyN.b T = c := ⟨_, rfl⟩
  rw [hwd] at hw ⊢
  rw [hb]
  obtain ⟨hw1', hw2'⟩ := hw
  obtain ⟨hp1, hp2⟩ := hp
  have hwr : IntKind.i64.wrap (p + wd) = p + wd := wrap_i64_inD _ (by omega) (by omega)
  clear hwd hb
  obtain ⟨w1, hw1, hb1, hs1, hx1⟩ := bx_made w 3 wd b (.slice fa fn fc) (.slice da dn dc) (.slice ba bn bc) (.slice na nn nc)
  have HB1 : Hid (Below w.heap.size w w1) := hb1
  have HC1 : Hid (Calls Try.prog 32 #[.agg #[.int .i64 3, .int .i64 wd, .bool b, .slice fa fn fc, .slice da dn dc, .slice ba bn bc, .slice na nn nc], .int .i64 p, .pointer (some ⟨pw, 0, none⟩), .pointer (some ⟨pp, 0, none⟩)] w1 (PlP w1 pp B v (L ++ [⟨p, 3, wd, b⟩]))) := numPl_any 3 wd b fa fn fc da dn dc ba bn bc na nn nc p pw pp B v L w1 (by omega) (Nat.le_trans hB hb1.size) (hs.below hb1) (by omega)
  have kw : w1.cell? ⟨pw, 0, none⟩ = some (.func (.func 32) #[] #[.pointer (some ⟨pw, 0, none⟩), .pointer (some ⟨pp, 0, none⟩)]) := hW.below hb1
  have HX1 : Hid (Bx w1 w.heap.size 3 wd b (.slice fa fn fc) (.slice da dn dc) (.slice ba bn bc) (.slice na nn nc)) := hx1
  have HV : Hid (∀ g, v.ownBlock = some g → g ≠ w.heap.size) := fun g hg => by have := (hs.lts g hg).2; omega
  have HPP : Hid (w.heap.size ≠ pp) := by have : pp < w.heap.size := World.block_lt_of_cell? w _ hs.cell; rw [Hid]; omega
  have HBS : Hid (B ≤ w1.heap.size) := Nat.le_trans hB hb1.size
  obtain ⟨c0, c1, c2, c3, c4, c5, c6⟩ := hx1
  clear hb1 hs1 hs hW
  go_enter Try.func32, Try.ntmps32
  have HON : Hid (∀ u ∈ [Value.int .i64 (p + wd), .int .i64 3, .int .i64 wd, .bool b], u.oneCell' = true) := by intro u hu; simp at hu; rcases hu with rfl | rfl | rfl | rfl <;> rfl
  have HLL : Hid ((L ++ [(⟨p, 3, wd, b⟩ : Pl)]).length ≤ 256) := by rw [Hid, List.length_append]; simp; omega
  have HJ : Hid (L ++ [(⟨p, 3, wd, b⟩ : Pl)] ++ [⟨p + wd, 3, wd, b⟩] = L ++ [⟨p, 3, wd, b⟩, ⟨p + wd, 3, wd, b⟩]) := by rw [Hid]; simp
  obtain ⟨L1, hL1⟩ : ∃ L1, L ++ [(⟨p, 3, wd, b⟩ : Pl)] = L1 := ⟨_, rfl⟩
  rw [hL1] at HC1 HLL HJ
  clear hL1
  go_wp2_with (first | (go_at_call 32; refine Calls.mono HC1.out ?_; rintro e w5 ⟨rfl, v5, hs5, hm5⟩; have HM5 : Hid (Mv w1 w5 pp v v5) := hm5; obtain ⟨e0, e1, e2, e3, e4, e5, e6⟩ := HX1.out.mv (L := L) (B := B) hm5 HPP.out HV.out; have k0 := hs5.cell; obtain ⟨w6, hw6⟩ : ∃ w6, w5.alloc (.cells #[.int .i64 (p + wd), .int .i64 3, .int .i64 wd, .bool b] 46) = w6 := ⟨_, rfl⟩; have hb6 : Below w5.heap.size w5 w6 := (by rw [← hw6]; exact (Below.refl _ _).alloc (Nat.le_refl _) _); have HG6 : Hid (w6.heap[w5.heap.size]? = some (.cells [Value.int .i64 (p + wd), .int .i64 3, .int .i64 wd, .bool b].toArray 46 (0, 0))) := (by rw [← hw6]; exact heap_alloc_new w5 _); have HS6 : Hid (PS w6 pp B v5 L1) := hs5.below hb6; have HM6 : Hid (Mv w1 w6 pp v v5) := hm5.trans (Mv.of hb6); have HB6 : Hid (B ≤ w6.heap.size) := Nat.le_trans HBS.out HM6.out.kp.size; have HLI := HLL.out; clear hs5 hm5 hb6) | (at_builtin; refine wpList_append_G w6 rfl (.tmp 33) (.tmp 42) 39 rfl 46 i0 Try.underlying39 hi _ hz 4 32 hsz hby rfl (by omega) B v5 L1.length (gc encP L1) ⟨w5.heap.size, 0, none⟩ 1 1 [.int .i64 (p + wd), .int .i64 3, .int .i64 wd, .bool b] rfl rfl HS6.out.own rfl (news_one HG6.out) HON.out (by omega) (by omega) (by omega) HB6.out ?_; intro g3 cap3 w7 ho3 hg3 hat3; obtain ⟨q1, q2, q3, q4⟩ := PS.app (q := ⟨p + wd, 3, wd, b⟩) HS6.out HB6.out ho3 hg3 hat3; have HQ3 : Hid _ := q3; have HQ4 : Hid _ := q4; clear q3 q4 ho3 hg3 hat3))
  go_end0
  exact ⟨rfl, _, by rw [← HJ.out]; exact HQ3.out, (Mv.of HB1.out).trans (HM6.out.trans HQ4.out)⟩
theorem fc_mv {w w1 : World} {b pp : Nat} {v v' : Value} {s : ByteArray} {a g1 g2 : Int} {g3 : Bool} {f d y n : Value} (h : FC w b s a g1 g2 g3 f d y n) (m : Mv w w1 pp v v') (hb : b ≠ pp) (hv : ∀ g, v.ownBlock = some g → g ≠ b) : FC w1 b s a g1 g2 g3 f d y n := by
  have K : ∀ {i : Nat} {x : Value}, w.cell? ⟨b, i, none⟩ = some x → w1.cell? ⟨b, i, none⟩ = some x := fun h => m.kp.cell h (fun e => e.elim hb (fun e => hv _ e rfl))
  exact ⟨K h.c0, K h.c1, K h.c2, K h.c3, K h.c4, K h.c5, K h.c6, K h.c7, K h.c8⟩
set_option maxHeartbeats 16000000 in
theorem walkPl_cmp {w0 : World} {pw pp B n : Nat} (hpw : pw < B) (hne : pw ≠ pp) (h0 : w0.heap.size ≤ pp) (ih : WalkPl w0 pw pp B n) (T : Ty (n + 1)) (V : TV) (p : Int) (d : Nat) (v : Value) (L : List Pl) (w : World) (h : TR (n + 1) w0 V T) (hb0 : Below w0.heap.size w0 w) (hB : B ≤ w.heap.size) (hW : PlC w pw pp) (hs : PS w pp B v L) (hd1 : 1 ≤ d) (hL : (L.length : Int) ≤ p) (hc : TyN.c T = 5) (hp : 0 ≤ p ∧ p + TyN.w T ≤ 256) (hw : 1 ≤ TyN.w T ∧ TyN.w T ≤ 256) (E : Int) (hE : endF (fun t => sz n t (d + 1)) (TyN.w T) 0 (TyN.fs T) = some E) :
    Calls Try.prog 32 #[tyV (hd T) V, .int .i64 p, .pointer (some ⟨pw, 0, none⟩), .pointer (some ⟨pp, 0, none⟩)] w (PlP w pp B v (L ++ plF (n + 1) T p)) := by
  have eg : ∀ args w, (callFunc 32 args).run Try.prog w = .ok (.enter 32 args) w := enters_of Try.func32 (by kernel_rfl) rfl
  have H : Hid (TRN (TR n) hd w0 V T) := h
  obtain ⟨fa, fn, fc, da, dn, dc, ba, bn, bc, na, nn, nc, rfl, ⟨f1, f2, f3⟩, -, -, -⟩ := H.out.open
  have HFN : Hid ((TyN.fs T).length = fn) := f1
  have HPF : Hid (plF (n + 1) T p = (TyN.fs T).flatMap (fun q => plF n q.2.2 (p + q.2.1))) := by rw [Hid, plF, if_neg (by omega), if_pos hc]
  show Calls _ _ #[.agg #[.int .i64 (TyN.c T), .int .i64 (TyN.w T), .bool (TyN.b T), _, _, _, _], _, _, _] _ _
  rw [hc]
  obtain ⟨wd, hwd⟩ : ∃ c, TyN.w T = c := ⟨_, rfl⟩
  obtain ⟨b, hb⟩ : ∃ c, TyN.b T = c := ⟨_, rfl⟩
  rw [hwd] at hw hp hE ⊢
  rw [hb]
  obtain ⟨hw1', hw2'⟩ := hw
  obtain ⟨hp1, hp2⟩ := hp
  have HIH : Hid (WalkPl w0 pw pp B n) := ih
  have HB0 : Hid (Below w0.heap.size w0 w) := hb0
  have HEE : Hid (endF (fun t => sz n t (d + 1)) wd 0 (TyN.fs T) = some E) := hE
  have HND : Hid (pw < B ∧ pw ≠ pp ∧ w0.heap.size ≤ pp ∧ 1 ≤ d) := ⟨hpw, hne, h0, hd1⟩
  clear h hc hwd hb ih hb0 f1 hE hpw hne h0 hd1
  obtain ⟨w1, hw1, hb1, hs1, hx1⟩ := bx_made w 5 wd b (.slice fa fn fc) (.slice da dn dc) (.slice ba bn bc) (.slice na nn nc)
  have HB1 : Hid (Below w.heap.size w w1) := hb1
  have HX1 : Hid (Bx w1 w.heap.size 5 wd b (.slice fa fn fc) (.slice da dn dc) (.slice ba bn bc) (.slice na nn nc)) := hx1
  have HS1 : Hid (PS w1 pp B v L) := hs.below hb1
  have HW1 : Hid (PlC w1 pw pp) := hW.below hb1
  have HV : Hid (∀ g, v.ownBlock = some g → g ≠ w.heap.size) := fun g hg => by have := (hs.lts g hg).2; omega
  have HPP : Hid (w.heap.size ≠ pp) := by have : pp < w.heap.size := World.block_lt_of_cell? w _ hs.cell; rw [Hid]; omega
  have HBS : Hid (B ≤ w1.heap.size ∧ Below w0.heap.size w0 w1 ∧ w.heap.size < w1.heap.size) := ⟨Nat.le_trans hB hb1.size, HB0.out.trans (hb1.mono HB0.out.size), by omega⟩
  obtain ⟨c0, c1, c2, c3, c4, c5, c6⟩ := hx1
  clear hb1 hs1 hs hW hB
  go_enter Try.func32, Try.ntmps32
  go_wp2_with fail
  clear c0 c1 c2 c3 c4 c5 c6
  go_loopw [47] (fun y wr => ∃ (i : Nat) (e : Int) (vi : Value) (Li : List Pl), i ≤ fn ∧ y = .int .i64 (i : Int) ∧ Hid (Li = L ++ ((TyN.fs T).take i).flatMap (fun q => plF n q.2.2 (p + q.2.1))) ∧ Hid ((Li.length : Int) ≤ p + e) ∧ Hid (endF (fun t => sz n t (d + 1)) wd e ((TyN.fs T).drop i) = some E) ∧ Hid (PS wr pp B vi Li) ∧ Hid (Mv w1 wr pp v vi)) (fun y _ => fn - (intOf y).toNat)
  case atStart => exact ⟨0, 0, v, L, Nat.zero_le _, by simp, by simp [Hid], by rw [Hid, Int.add_zero]; exact hL, by rw [Hid, List.drop_zero]; exact HEE.out, HS1.out, Mv.refl _ _ _⟩
  case round =>
    obtain ⟨i, e, vi, Li, hin, rfl, HLi, HLe, HEi, HSi, HMi⟩ := hrel
    have HB0r : Hid (Below w0.heap.size w0 wr) := HMi.out.below0 HS1.out HBS.out.2.1 HND.out.2.2.1
    by_cases hlt : i < fn
    · obtain ⟨g, o, U, q, rfl, hq, hqr, hu, k0, k1, k2, k3, k4, k5, k6, k7, k8⟩ := H.out.fs.at hlt
      have HST := endF_step (fun t => sz n t (d + 1)) wd e hq
      rw [HEi.out] at HST
      have hnz : sz n q.2.2 (d + 1) ≠ 0 := fun h => by rw [if_pos (.inl h)] at HST; cases HST
      have hfit : e ≤ q.2.1 ∧ q.2.1 ≤ wd - sz n q.2.2 (d + 1) := by
        refine Classical.not_not.1 (fun h => ?_)
        rw [if_pos (.inr h)] at HST; cases HST
      rw [if_neg (fun h => h.elim hnz (fun h => h hfit))] at HST
      have hrg := sz_rng n q.2.2 (d + 1)
      have hord := plF_ord n q.2.2 (d + 1) (p + q.2.1) (by omega) hnz
      have hlen := ord_len hord.1
      have HNXT : Hid (endF (fun t => sz n t (d + 1)) wd (q.2.1 + sz n q.2.2 (d + 1)) ((TyN.fs T).drop (i + 1)) = some E) := HST.symm
      have HTK : Hid (Li ++ plF n q.2.2 (p + q.2.1) = L ++ ((TyN.fs T).take (i + 1)).flatMap (fun q => plF n q.2.2 (p + q.2.1))) := by
        rw [Hid, HLi.out, List.take_add_one, hq, List.flatMap_append]
        simp
      obtain ⟨ga, gn, gc, xa, xn, xc, ya, yn, yc, za, zn, zc, rfl⟩ := hu.sl
      simp only [] at k5 k6 k7 k8
      have K : ∀ {p : Addr} {x : Value}, w0.cell? p = some x → wr.cell? p = some x := fun h => (HB0r.out.cell (World.block_lt_of_cell? w0 _ h)).trans h
      replace k0 := K k0
      replace k1 := K k1
      replace k2 := K k2
      replace k3 := K k3
      replace k4 := K k4
      replace k5 := K k5
      replace k6 := K k6
      replace k7 := K k7
      replace k8 := K k8
      obtain ⟨w2, hw2, hb2, hs2, h2⟩ := fc_made wr q.1 q.2.1 (hd q.2.2).1 (hd q.2.2).2.1 (hd q.2.2).2.2 (.slice ga gn gc) (.slice xa xn xc) (.slice ya yn yc) (.slice za zn zc)
      have hM2 : Mv w1 w2 pp v vi := HMi.out.trans (Mv.of hb2)
      have hW2 : PlC w2 pw pp := HW1.out.mv hM2 HS1.out HND.out.2.1 HND.out.1
      have kw : w2.cell? ⟨pw, 0, none⟩ = some (.func (.func 32) #[] #[.pointer (some ⟨pw, 0, none⟩), .pointer (some ⟨pp, 0, none⟩)]) := hW2
      have HM2 : Hid (Mv w1 w2 pp v vi) := hM2
      have hat : ∃ at', q.2.1 = at' := ⟨_, rfl⟩
      obtain ⟨at', hat⟩ := hat
      obtain ⟨s, hss⟩ : ∃ s, sz n q.2.2 (d + 1) = s := ⟨_, rfl⟩
      rw [hat, hss] at hfit hlen HNXT
      rw [hss] at hrg hnz
      rw [hat] at HTK hw2 h2 k1
      obtain ⟨hf1, hf2⟩ := hfit
      have HLL : Hid (((Li ++ plF n q.2.2 (p + at')).length : Int) ≤ p + (at' + s)) := by
        rw [Hid, List.length_append]
        have := HLe.out
        omega
      have HCL : Hid (Calls Try.prog 32 #[.agg #[.int .i64 (hd q.2.2).1, .int .i64 (hd q.2.2).2.1, .bool (hd q.2.2).2.2, .slice ga gn gc, .slice xa xn xc, .slice ya yn yc, .slice za zn zc], .int .i64 (p + at'), .pointer (some ⟨pw, 0, none⟩), .pointer (some ⟨pp, 0, none⟩)] w2 (PlP w2 pp B vi (Li ++ plF n q.2.2 (p + at')))) :=
        HIH.out q.2.2 ⟨.slice ga gn gc, .slice xa xn xc, .slice ya yn yc, .slice za zn zc⟩ (p + at') (d + 1) vi Li w2 hu (HB0r.out.trans (hb2.mono HB0r.out.size)) (Nat.le_trans HBS.out.1 hM2.kp.size) hW2 (HSi.out.below hb2) (by omega) (by rw [hss]; exact hnz) (by have := HLe.out; omega) (by rw [hss]; omega) (by have := HLe.out; omega)
      have hwr : IntKind.i64.wrap (p + at') = p + at' := wrap_i64_inD _ (by have := HLe.out; omega) (by omega)
      obtain ⟨d0, d1, d2, d3, d4, d5, d6, d7, d8⟩ := h2
      clear K hq hqr hu hb2 hs2 HST hord hlen hat hss hM2 hW2 hrg
      generalize plF n q.2.2 (p + at') = PQ at *
      generalize q.1 = z0 at *
      generalize (hd q.2.2).1 = z2' at *
      generalize (hd q.2.2).2.1 = z3 at *
      generalize (hd q.2.2).2.2 = z4 at *
      go_wp2_with (go_at_call 32; refine Calls.mono HCL.out ?_; rintro e' w5 ⟨rfl, v5, hs5, hm5⟩; have HS5 : Hid _ := hs5; have HM5 : Hid (Mv w1 w5 pp v v5) := HM2.out.trans hm5; clear hs5 hm5)
      go_roundw
      case rel => exact ⟨i + 1, at' + s, v5, _, by omega, by go_num, HTK.out, HLL.out, HNXT.out, HS5.out, HM5.out⟩
      case measure => simp [intOf]; omega
    · obtain rfl : i = fn := by omega
      have HE : Hid (Li = L ++ plF (n + 1) T p) := by rw [Hid, HLi.out, HPF.out, List.take_of_length_le (by rw [HFN.out]; exact Nat.le_refl _)]
      go_wp2_with fail
      go_end0
      exact ⟨rfl, _, by rw [← HE.out]; exact HSi.out, (Mv.of HB1.out).trans HMi.out⟩
end Go.Proofs.Ytojcokdfplldbaa
