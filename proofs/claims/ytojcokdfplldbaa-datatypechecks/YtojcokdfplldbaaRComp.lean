/-
  The document's compound. Conditions: the size of a part is told by a contract.
-/
import Derived.Test.YtojcokdfplldbaaRFit2
import Derived.Test.YtojcokdfplldbaaDPlM
namespace Go.Proofs.Ytojcokdfplldbaa
open Go.RowKit Go.Shelf
set_option linter.unusedVariables false
set_option maxRecDepth 100000

/-- What tells the size of a part, in the document. -/
def SzR {n : Nat} (d : Nat) (w : World) : Prop := ∀ (t : Ty n) (U : TV) (w' : World), Below w.heap.size w w' → TR n w' U t → Calls Try.prog 31 #[tyV (hd t) U, .int .i64 (4 - (d : Int))] w' fun e w2 => e = .returned (.int .i64 (sz n t (d + 1))) ∧ Below w'.heap.size w' w2
theorem endF_none {α : Type} {f : α → Int} {wd : Int} {l : List (ByteArray × Int × α)} {i : Nat} {q : ByteArray × Int × α} {e e0 : Int} (hq : l[i]? = some q) (h : endF f wd e0 l = endF f wd e (l.drop i)) (hc : f q.2.2 = 0 ∨ ¬ (e ≤ q.2.1 ∧ q.2.1 ≤ wd - f q.2.2)) : endF f wd e0 l = none := by
  rw [h, endF_step f wd e hq, if_pos hc]
theorem cmpSz_none {α : Type} {f : α → Int} {wd : Int} {l : List (ByteArray × Int × α)} (h : endF f wd 0 l = none) : cmpSz f wd l = 0 := by
  unfold cmpSz
  split
  · rw [h]
  · rfl
theorem cmpSz_names {α : Type} {f : α → Int} {wd : Int} {l : List (ByteArray × Int × α)} (h : namesB (l.map (·.1)) = false) : cmpSz f wd l = 0 := by
  unfold cmpSz
  rw [if_neg (fun h2 => by rw [h] at h2; exact absurd h2.2 (by decide))]
theorem own5 (wd : Int) (b : Bool) (fn dn bn nn : Nat) : ownB 5 wd b fn dn bn nn = decide (b = false ∧ dn = 0 ∧ bn = 0 ∧ nn = 0) := by
  rw [ownB, if_neg (by decide), if_pos rfl]
set_option maxHeartbeats 32000000 in
theorem refComp_any {n : Nat} (d : Nat) (hd4 : d ≤ 4) (T : TyN (Ty n)) (V : TV) (w : World) (h : TRN (TR n) hd w V T) (hin : SzR (n := n) d w) :
    Calls Try.prog 58 #[tyV (T.c, T.w, T.b) V, .int .i64 (5 - (d : Int))] w fun e w' => e = .returned (.int .i64 (if T.b = false ∧ T.ds.length = 0 ∧ T.bs.length = 0 ∧ T.ns.length = 0 then cmpSz (fun t => sz n t (d + 1)) T.w T.fs else 0)) ∧ Below w.heap.size w w' := by
  have H : Hid (TRN (TR n) hd w V T) := h
  have HIN : Hid (SzR (n := n) d w) := hin
  obtain ⟨fa, fn, fc, da, dn, dc, ba, bn, bc, na, nn, nc, rfl, ⟨f1, f2, f3⟩, ⟨d1, d2, d3⟩, ⟨b1, b2, b3⟩, ⟨n1, n2, n3⟩⟩ := H.out.open
  have HFN : Hid (T.fs.length = fn) := f1
  have HNL : Hid ((T.fs.map (·.1)).length = fn) := by rw [Hid, List.length_map]; exact f1
  obtain ⟨c, hc⟩ : ∃ c, T.c = c := ⟨_, rfl⟩
  obtain ⟨wd, hw⟩ : ∃ c, T.w = c := ⟨_, rfl⟩
  obtain ⟨b, hb⟩ : ∃ c, T.b = c := ⟨_, rfl⟩
  show Calls _ _ #[.agg #[.int .i64 T.c, .int .i64 T.w, .bool T.b, _, _, _, _], _] _ _
  rw [hc, hw, hb, d1, b1, n1]
  obtain ⟨k2, hk2⟩ : ∃ k, dn + bn = k := ⟨_, rfl⟩
  obtain ⟨k, hk⟩ : ∃ k, k2 + nn = k := ⟨_, rfl⟩
  have s1 : IntKind.i64.wrap ((dn : Int) + (bn : Int)) = (k2 : Int) := by rw [← Int.natCast_add, hk2]; exact wrap_i64_inD _ (by omega) (by omega)
  have s2 : IntKind.i64.wrap ((k2 : Int) + (nn : Int)) = (k : Int) := by rw [← Int.natCast_add, hk]; exact wrap_i64_inD _ (by omega) (by omega)
  have s3 : IntKind.i64.wrap (5 - (d : Int) - 1) = 4 - (d : Int) := by rw [show 5 - (d : Int) - 1 = 4 - (d : Int) by omega]; exact wrap_i64_inD _ (by omega) (by omega)
  obtain ⟨w1, hw1, hb1, hs1, hx1⟩ := bx_made w c wd b (.slice fa fn fc) (.slice da dn dc) (.slice ba bn bc) (.slice na nn nc)
  have HB1 : Hid (Below w.heap.size w w1) := hb1
  have HX1 : Hid (Bx w1 w.heap.size c wd b (.slice fa fn fc) (.slice da dn dc) (.slice ba bn bc) (.slice na nn nc)) := hx1
  obtain ⟨c0, c1, c2, c3, c4, c5, c6⟩ := hx1
  by_cases hown : b = false ∧ k = 0
  · obtain ⟨rfl, hk0⟩ := hown
    obtain rfl : dn = 0 := by omega
    obtain rfl : bn = 0 := by omega
    obtain rfl : nn = 0 := by omega
    subst hk0
    obtain rfl : k2 = 0 := by omega
    have HG : Hid ((if (false : Bool) = false ∧ 0 = 0 ∧ 0 = 0 ∧ 0 = 0 then cmpSz (fun t => sz n t (d + 1)) wd T.fs else 0) = cmpSz (fun t => sz n t (d + 1)) wd T.fs) := by rw [Hid, if_pos ⟨rfl, rfl, rfl, rfl⟩]
    rw [HG.out]
    clear h hin hc hw hb f1 d1 b1 n1 hb1 hs1 d2 d3 b2 b3 n2 n3 HG hk hk2 c0
    by_cases hr : (1 ≤ wd ∧ wd ≤ 256) ∧ 1 ≤ fn ∧ fn ≤ 16
    · obtain ⟨⟨hr1, hr2⟩, hr3, hr4⟩ := id hr
      have HCM : Hid (cmpSz (fun t => sz n t (d + 1)) wd T.fs = if namesTo (T.fs.map (·.1)) fn = true then (match endF (fun t => sz n t (d + 1)) wd 0 T.fs with | some _ => wd | none => 0) else 0) := by
        rw [Hid, cmpSz, namesB, HNL.out, decide_eq_true ⟨hr3, hr4⟩, Bool.true_and]
        by_cases h5 : namesTo (T.fs.map (·.1)) fn = true
        · rw [if_pos ⟨hr.1, h5⟩, if_pos h5]
          cases endF (fun t => sz n t (d + 1)) wd 0 T.fs <;> rfl
        · rw [if_neg (fun h => h5 h.2), if_neg h5]
      have hfnc : (1 : Int) ≤ (fn : Int) := by omega
      have g1 : ¬ wd < 1 := by omega
      have g2 : ¬ 256 < wd := by omega
      have g3 : ¬ (fn : Int) < 1 := by omega
      have g4 : ¬ 16 < (fn : Int) := by omega
      clear hr
      obtain ⟨NS, hNS⟩ : ∃ NS, T.fs.map (·.1) = NS := ⟨_, rfl⟩
      have HNS : Hid (∀ i q, T.fs[i]? = some q → NS[i]? = some q.1 ∧ (NS.take i).any (fun t => t.toList == q.1.toList) = (T.fs.take i).any (fun t => t.1.toList == q.1.toList)) := fun i q hq => by
        rw [← hNS, List.getElem?_map, hq, ← List.map_take, List.any_map]
        exact ⟨rfl, rfl⟩
      have HNB : Hid (namesB NS = false → cmpSz (fun t => sz n t (d + 1)) wd T.fs = 0) := fun h => cmpSz_names (by rw [hNS]; exact h)
      rw [hNS] at HCM
      clear hNS HNL
      go_enter Try.func58, Try.ntmps58
      go_wp2_with fail
      clear c1 c2 c3 c4 c5 c6
      go_loopw [5, 6] (fun x y wr => ∃ (i : Nat) (e : Int), i ≤ fn ∧ x = .int .i64 e ∧ y = .int .i64 (i : Int) ∧ 0 ≤ e ∧ e ≤ 256 ∧ Hid (namesTo NS i = true) ∧ Hid (endF (fun t => sz n t (d + 1)) wd 0 T.fs = endF (fun t => sz n t (d + 1)) wd e (T.fs.drop i)) ∧ Hid (Below w1.heap.size w1 wr)) (fun _ y _ => fn - (intOf y).toNat)
      case atStart => exact ⟨0, 0, Nat.zero_le _, rfl, by simp, by omega, by omega, rfl, by rw [List.drop_zero]; rfl, Below.refl _ _⟩
      case round =>
        obtain ⟨i, e, hin, rfl, rfl, hz1, hz2, HNT, HP, HB⟩ := hrel
        have HBB : Hid (Below w.heap.size w wr) := bel_next HB1.out HB.out
        obtain ⟨c0, c1, c2, c3, c4, c5, c6⟩ := HX1.out.below HB.out
        clear c0 c1 c2 c4 c5 c6
        by_cases hlt : i < fn
        · obtain ⟨g, o, U, q, rfl, hq, hqr, hu, k0, k1, k2, k3, k4, k5, k6, k7, k8⟩ := H.out.fs.at hlt
          obtain ⟨hn1, hn2⟩ := HNS.out i q hq
          have HNO : Hid ((nameB q.1 && !(T.fs.take i).any (fun t => t.1.toList == q.1.toList)) = false → namesB NS = false) := fun h => namesB_no hn1 (by rw [hn2]; exact h)
          have HSU : Hid ((nameB q.1 && !(T.fs.take i).any (fun t => t.1.toList == q.1.toList)) = true → namesTo NS (i + 1) = true) := fun h => by rw [namesTo_succ hn1, HNT.out, hn2, h]; rfl
          have HST : Hid (sz n q.2.2 (d + 1) = 0 ∨ ¬ (e ≤ q.2.1 ∧ q.2.1 ≤ wd - sz n q.2.2 (d + 1)) → cmpSz (fun t => sz n t (d + 1)) wd T.fs = 0) := fun h => cmpSz_none (endF_none hq HP.out h)
          have HST2 : Hid (¬ (sz n q.2.2 (d + 1) = 0 ∨ ¬ (e ≤ q.2.1 ∧ q.2.1 ≤ wd - sz n q.2.2 (d + 1))) → endF (fun t => sz n t (d + 1)) wd 0 T.fs = endF (fun t => sz n t (d + 1)) wd (q.2.1 + sz n q.2.2 (d + 1)) (T.fs.drop (i + 1))) := fun h => by
            have := endF_step (fun t => sz n t (d + 1)) wd e hq
            rw [if_neg h] at this
            exact HP.out.trans this
          obtain ⟨ga, gn, gc, xa, xn, xc, ya, yn, yc, za, zn, zc, rfl⟩ := hu.sl
          simp only [] at k5 k6 k7 k8
          have K : ∀ {p : Addr} {x : Value}, w.cell? p = some x → wr.cell? p = some x := fun h => (HBB.out.cell (World.block_lt_of_cell? w _ h)).trans h
          replace k0 := K k0
          replace k1 := K k1
          replace k2 := K k2
          replace k3 := K k3
          replace k4 := K k4
          replace k5 := K k5
          replace k6 := K k6
          replace k7 := K k7
          replace k8 := K k8
          clear K hn1 hn2
          obtain ⟨w2, hw2, hb2, hs2, h2⟩ := fc_made wr q.1 q.2.1 (hd q.2.2).1 (hd q.2.2).2.1 (hd q.2.2).2.2 (.slice ga gn gc) (.slice xa xn xc) (.slice ya yn yc) (.slice za zn zc)
          have HB2 : Hid (Below w1.heap.size w1 w2) := bel_next HB.out hb2
          have HBB2 : Hid (Below w.heap.size w w2) := bel_next HB1.out HB2.out
          have HC2 : Hid (∀ w', Below w2.heap.size w2 w' → FC w' wr.heap.size q.1 q.2.1 (hd q.2.2).1 (hd q.2.2).2.1 (hd q.2.2).2.2 (.slice ga gn gc) (.slice xa xn xc) (.slice ya yn yc) (.slice za zn zc) ∧ Bx w' w.heap.size c wd false (.slice (some ⟨g, o, none⟩) fn fc) (.slice da 0 dc) (.slice ba 0 bc) (.slice na 0 nc)) := fun w' hb => ⟨h2.below hb, HX1.out.below (bel_next HB2.out hb)⟩
          have HCL : Hid (Calls Try.prog 31 #[.agg #[.int .i64 (hd q.2.2).1, .int .i64 (hd q.2.2).2.1, .bool (hd q.2.2).2.2, .slice ga gn gc, .slice xa xn xc, .slice ya yn yc, .slice za zn zc], .int .i64 (4 - (d : Int))] w2 fun e w3 => e = .returned (.int .i64 (sz n q.2.2 (d + 1))) ∧ Below w2.heap.size w2 w3) := HIN.out q.2.2 ⟨.slice ga gn gc, .slice xa xn xc, .slice ya yn yc, .slice za zn zc⟩ w2 HBB2.out (hu.below HBB2.out)
          obtain ⟨d0, d1, d2, d3, d4, d5, d6, d7, d8⟩ := h2
          have HFR := sz_rng n q.2.2 (d + 1)
          obtain ⟨s, hs⟩ : ∃ s, sz n q.2.2 (d + 1) = s := ⟨_, rfl⟩
          obtain ⟨at', hat⟩ : ∃ s, q.2.1 = s := ⟨_, rfl⟩
          have HNM : Hid (∀ w', Calls Try.prog 80 #[.string q.1] w' fun e w1 => e = .returned (.bool (nameB q.1)) ∧ w1 = w') := fun w' => refName_any q.1 w'
          rw [hs] at HCL HST HST2 HFR
          rw [hat] at HST HST2 k1 hw2 HC2 d1 hqr
          obtain ⟨hs1', hs2'⟩ := HFR
          obtain ⟨ha1, ha2⟩ := hqr
          obtain ⟨bn, hbn⟩ : ∃ b, nameB q.1 = b := ⟨_, rfl⟩
          rw [hbn] at HNM HNO HSU
          clear hu hb2 hs2 hs hat hbn
          generalize hz0 : q.1 = z0 at *
          generalize (hd q.2.2).1 = z2' at *
          generalize (hd q.2.2).2.1 = z3 at *
          generalize (hd q.2.2).2.2 = z4 at *
          by_cases hs0 : s = 0
          · subst hs0
            have HE : Hid (cmpSz (fun t => sz n t (d + 1)) wd T.fs = 0) := HST.out (.inl rfl)
            clear HST HNO HSU
            go_wp2_with (first | (go_at_call 31; refine Calls.mono HCL.out ?_; rintro e' w6 ⟨rfl, hb6⟩; have HB6 : Hid (Below w2.heap.size w2 w6) := hb6; obtain ⟨⟨g0, g1, g2, g3, g4, g5, g6, g7, g8⟩, ⟨m0, m1, m2, m3, m4, m5, m6⟩⟩ := HC2.out w6 hb6; clear hb6 g2 g3 g4 g5 g6 g7 g8 m0 m2 m4 m5 m6) | (go_at_call 80; refine (HNM.out _).mono ?_; rintro e' w7 ⟨rfl, hw7⟩; obtain rfl := hw7.symm))
            go_ret
            exact ⟨by rw [HE.out]; rfl, bel_next HBB2.out HB6.out⟩
          · have q0 : (s == 0) = false := beq_eq_false_iff_ne.2 hs0
            cases bn with
            | false =>
              have HE : Hid (cmpSz (fun t => sz n t (d + 1)) wd T.fs = 0) := HNB.out (HNO.out rfl)
              clear HST HNO HSU
              go_wp2_with (first | (go_at_call 31; refine Calls.mono HCL.out ?_; rintro e' w6 ⟨rfl, hb6⟩; have HB6 : Hid (Below w2.heap.size w2 w6) := hb6; obtain ⟨⟨g0, g1, g2, g3, g4, g5, g6, g7, g8⟩, ⟨m0, m1, m2, m3, m4, m5, m6⟩⟩ := HC2.out w6 hb6; clear hb6 g2 g3 g4 g5 g6 g7 g8 m0 m2 m4 m5 m6) | (go_at_call 80; refine (HNM.out _).mono ?_; rintro e' w7 ⟨rfl, hw7⟩; obtain rfl := hw7.symm))
              go_ret
              exact ⟨by rw [HE.out]; rfl, bel_next HBB2.out HB6.out⟩
            | true =>
              by_cases h5 : at' < e
              · have h5' : at' < e := h5
                have HE : Hid (cmpSz (fun t => sz n t (d + 1)) wd T.fs = 0) := HST.out (.inr (fun h => by omega))
                clear HST HNO HSU
                go_wp2_with (first | (go_at_call 31; refine Calls.mono HCL.out ?_; rintro e' w6 ⟨rfl, hb6⟩; have HB6 : Hid (Below w2.heap.size w2 w6) := hb6; obtain ⟨⟨g0, g1, g2, g3, g4, g5, g6, g7, g8⟩, ⟨m0, m1, m2, m3, m4, m5, m6⟩⟩ := HC2.out w6 hb6; clear hb6 g2 g3 g4 g5 g6 g7 g8 m0 m2 m4 m5 m6) | (go_at_call 80; refine (HNM.out _).mono ?_; rintro e' w7 ⟨rfl, hw7⟩; obtain rfl := hw7.symm))
                go_ret
                exact ⟨by rw [HE.out]; rfl, bel_next HBB2.out HB6.out⟩
              · by_cases h6 : 256 < at'
                · have h6' : 256 < at' := h6
                  have HE : Hid (cmpSz (fun t => sz n t (d + 1)) wd T.fs = 0) := HST.out (.inr (fun h => by omega))
                  clear HST HNO HSU
                  go_wp2_with (first | (go_at_call 31; refine Calls.mono HCL.out ?_; rintro e' w6 ⟨rfl, hb6⟩; have HB6 : Hid (Below w2.heap.size w2 w6) := hb6; obtain ⟨⟨g0, g1, g2, g3, g4, g5, g6, g7, g8⟩, ⟨m0, m1, m2, m3, m4, m5, m6⟩⟩ := HC2.out w6 hb6; clear hb6 g2 g3 g4 g5 g6 g7 g8 m0 m2 m4 m5 m6) | (go_at_call 80; refine (HNM.out _).mono ?_; rintro e' w7 ⟨rfl, hw7⟩; obtain rfl := hw7.symm))
                  go_ret
                  exact ⟨by rw [HE.out]; rfl, bel_next HBB2.out HB6.out⟩
                · have hwr : IntKind.i64.wrap (at' + s) = at' + s := wrap_i64_inD _ (by omega) (by omega)
                  by_cases h7 : wd < at' + s
                  · have h7' : wd < at' + s := h7
                    have HE : Hid (cmpSz (fun t => sz n t (d + 1)) wd T.fs = 0) := HST.out (.inr (fun h => by omega))
                    clear HST HNO HSU
                    go_wp2_with (first | (go_at_call 31; refine Calls.mono HCL.out ?_; rintro e' w6 ⟨rfl, hb6⟩; have HB6 : Hid (Below w2.heap.size w2 w6) := hb6; obtain ⟨⟨g0, g1, g2, g3, g4, g5, g6, g7, g8⟩, ⟨m0, m1, m2, m3, m4, m5, m6⟩⟩ := HC2.out w6 hb6; clear hb6 g2 g3 g4 g5 g6 g7 g8 m0 m2 m4 m5 m6) | (go_at_call 80; refine (HNM.out _).mono ?_; rintro e' w7 ⟨rfl, hw7⟩; obtain rfl := hw7.symm))
                    go_ret
                    exact ⟨by rw [HE.out]; rfl, bel_next HBB2.out HB6.out⟩
                  · have HNX : Hid (endF (fun t => sz n t (d + 1)) wd 0 T.fs = endF (fun t => sz n t (d + 1)) wd (at' + s) (T.fs.drop (i + 1))) := HST2.out (fun h => h.elim hs0 (fun h => h ⟨by omega, by omega⟩))
                    clear HST HST2
                    go_wp2_with (first | (go_at_call 31; refine Calls.mono HCL.out ?_; rintro e' w6 ⟨rfl, hb6⟩; have HB6 : Hid (Below w2.heap.size w2 w6) := hb6; obtain ⟨⟨g0, g1, g2, g3, g4, g5, g6, g7, g8⟩, ⟨m0, m1, m2, m3, m4, m5, m6⟩⟩ := HC2.out w6 hb6; clear hb6 g2 g3 g4 g5 g6 g7 g8 m0 m2 m4 m5 m6) | (go_at_call 80; refine (HNM.out _).mono ?_; rintro e' w7 ⟨rfl, hw7⟩; obtain rfl := hw7.symm))
                    clear g0 g1 m1 m3
                    go_loopw [9] (fun y wq => ∃ k : Nat, k ≤ i ∧ y = .int .i64 (k : Int) ∧ Hid ((T.fs.take k).any (fun t => t.1.toList == z0.toList) = false) ∧ Hid (Below w6.heap.size w6 wq)) (fun y _ => i - (intOf y).toNat)
                    case atStart => exact ⟨0, Nat.zero_le _, by simp, by simp [Hid], Below.refl _ _⟩
                    case round =>
                      obtain ⟨k, hki, rfl, HAN, HBK⟩ := hrel
                      have HB6k : Hid (Below w2.heap.size w2 wr) := bel_next HB6.out HBK.out
                      obtain ⟨⟨g0, g1, g2', g3', g4', g5', g6', g7', g8'⟩, ⟨m0, m1, m2, m3, m4, m5, m6⟩⟩ := HC2.out wr HB6k.out
                      clear g2' g3' g4' g5' g6' g7' g8' m0 m1 m2 m4 m5 m6
                      by_cases hlk : k < i
                      · have hlf : k < fn := by omega
                        obtain ⟨gp, op, UP, p, hgo, hp, _, _, l0, _⟩ := H.out.fs.at hlf
                        injection hgo with hgo
                        injection hgo with hg1 hg2 _
                        subst hg1 hg2
                        have l0' : wr.cell? ⟨g, o + k * 9, none⟩ = some (.string p.1) := ((bel_next HBB2.out HB6k.out).cell (World.block_lt_of_cell? w _ l0)).trans l0
                        obtain ⟨b, hb⟩ : ∃ b, (p.1.toList == z0.toList) = b := ⟨_, rfl⟩
                        have HAN2 : Hid ((T.fs.take (k + 1)).any (fun t => t.1.toList == z0.toList) = b) := by rw [Hid, List.take_add_one, hp, List.any_append, HAN.out]; simp [hb]
                        have HAB : Hid (b = true → (T.fs.take i).any (fun t => t.1.toList == z0.toList) = true) := fun h => by
                          rw [h] at hb
                          refine List.any_eq_true.2 ⟨p, ?_, hb⟩
                          exact List.mem_of_getElem? (i := k) (by rw [List.getElem?_take_of_lt hlk]; exact hp)
                        clear l0 hp g1
                        generalize p.1 = pn at *
                        cases b with
                        | true =>
                          have HE : Hid (cmpSz (fun t => sz n t (d + 1)) wd T.fs = 0) := HNB.out (HNO.out (by rw [HAB.out rfl]; rfl))
                          clear HNO HSU
                          go_wp2_with fail
                          go_quiet (fail)
                          go_wp2_with fail
                          go_ret
                          exact ⟨by rw [HE.out]; rfl, below_dN (bel_next HBB2.out HB6k.out) _⟩
                        | false =>
                          go_wp2_with fail
                          go_quiet (fail)
                          go_wp2_with fail
                          go_roundw
                          case rel => exact ⟨k + 1, hlk, by go_num, HAN2.out, below_dN HBK.out _⟩
                          case measure => simp [intOf]; omega
                      · obtain rfl : k = i := by omega
                        have HS2 : Hid (namesTo NS (k + 1) = true) := HSU.out (by rw [HAN.out]; rfl)
                        clear HNO HSU
                        go_wp2_with fail
                        go_roundw
                        case rel => exact ⟨k + 1, at' + s, by omega, rfl, by go_num, by omega, by omega, HS2.out, HNX.out, bel_next HB2.out HB6k.out⟩
                        case measure => simp [intOf]; omega
        · obtain rfl : i = fn := by omega
          have HE : Hid (cmpSz (fun t => sz n t (d + 1)) wd T.fs = wd) := by rw [Hid, HCM.out, if_pos HNT.out, HP.out, List.drop_of_length_le (by rw [HFN.out]; exact Nat.le_refl _)]; rfl
          obtain ⟨c0, c1, c2, c3, c4, c5, c6⟩ := HX1.out.below HB.out
          go_wp2_with fail
          go_ret
          exact ⟨by rw [HE.out]; rfl, HBB.out⟩
    · have HE : Hid (cmpSz (fun t => sz n t (d + 1)) wd T.fs = 0) := by
        rw [Hid, cmpSz, if_neg]
        rintro ⟨h5, h6⟩
        rw [namesB, HNL.out, Bool.and_eq_true, decide_eq_true_iff] at h6
        exact hr ⟨h5, h6.1⟩
      have hr' : wd < 1 ∨ (¬ wd < 1 ∧ 256 < wd) ∨ (¬ wd < 1 ∧ ¬ 256 < wd ∧ (fn : Int) < 1) ∨ (¬ wd < 1 ∧ ¬ 256 < wd ∧ ¬ (fn : Int) < 1 ∧ 16 < (fn : Int)) := by omega
      clear hr
      rcases hr' with g1 | ⟨g1, g2⟩ | ⟨g1, g2, g3⟩ | ⟨g1, g2, g3, g4⟩
      all_goals
        go_enter Try.func58, Try.ntmps58
        go_wp2_with fail
        go_ret
        exact ⟨by rw [HE.out]; rfl, HB1.out⟩
  · have HG : Hid ((if b = false ∧ dn = 0 ∧ bn = 0 ∧ nn = 0 then cmpSz (fun t => sz n t (d + 1)) wd T.fs else 0) = 0) := by
      rw [Hid, if_neg]
      rintro ⟨h5, h6, h7, h8⟩
      exact hown ⟨h5, by omega⟩
    rw [HG.out]
    clear h hin hc hw hb f1 d1 b1 n1 hb1 hs1
    have hk' : b = true ∨ (b = false ∧ 0 < (k : Int)) := by
      cases b with
      | true => exact .inl rfl
      | false => exact .inr ⟨rfl, by have : k ≠ 0 := fun e => hown ⟨rfl, e⟩; omega⟩
    clear hown HG hk hk2
    rcases hk' with rfl | ⟨rfl, hkp⟩
    all_goals
      go_enter Try.func58, Try.ntmps58
      go_wp2_with fail
      go_ret
      exact ⟨rfl, HB1.out⟩
end Go.Proofs.Ytojcokdfplldbaa
