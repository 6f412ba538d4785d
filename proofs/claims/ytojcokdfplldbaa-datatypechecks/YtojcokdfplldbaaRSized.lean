/-
  The document's Sized and Size. No conditions.
-/
import Derived.Test.YtojcokdfplldbaaREnum
import Derived.Test.YtojcokdfplldbaaDSize
namespace Go.Proofs.Ytojcokdfplldbaa
open Go.RowKit Go.Shelf
set_option linter.unusedVariables false
set_option maxRecDepth 100000

theorem sz_eq {n : Nat} (T : TyN (Ty n)) (d : Nat) : sz (n + 1) T d = if 4 < d ∨ ownB T.c T.w T.b T.fs.length T.ds.length T.bs.length T.ns.length = false then 0 else if T.c = 5 then cmpSz (fun t => sz n t (d + 1)) T.w T.fs else if T.c = 6 then arrSz (fun t => sz n t (d + 1)) T.ds T.bs else if T.c = 7 then enSz (fun t => sz n t (d + 1)) hd T.bs T.ns else numSz T.c T.w := rfl
theorem own6 (wd : Int) (b : Bool) (fn dn bn nn : Nat) : ownB 6 wd b fn dn bn nn = decide (wd = 0 ∧ b = false ∧ fn = 0 ∧ nn = 0) := by
  rw [ownB, if_neg (by decide), if_neg (by decide), if_pos rfl]
theorem own7 (wd : Int) (b : Bool) (fn dn bn nn : Nat) : ownB 7 wd b fn dn bn nn = decide (wd = 0 ∧ b = false ∧ fn = 0 ∧ dn = 0) := by
  rw [ownB, if_neg (by decide), if_neg (by decide), if_neg (by decide), if_pos rfl]
theorem sz_c5 {n : Nat} (T : TyN (Ty n)) {d : Nat} (h5 : T.c = 5) (h4 : d ≤ 4) : sz (n + 1) T d = if T.b = false ∧ T.ds.length = 0 ∧ T.bs.length = 0 ∧ T.ns.length = 0 then cmpSz (fun t => sz n t (d + 1)) T.w T.fs else 0 := by
  rw [sz_eq, h5, own5, if_pos (show (5 : Int) = 5 from rfl)]
  by_cases h : T.b = false ∧ T.ds.length = 0 ∧ T.bs.length = 0 ∧ T.ns.length = 0
  · rw [if_neg, if_pos h]
    rintro (h6 | h6)
    · omega
    · rw [decide_eq_true h] at h6; cases h6
  · rw [if_pos (.inr (decide_eq_false h)), if_neg h]
theorem sz_c6 {n : Nat} (T : TyN (Ty n)) {d : Nat} (h5 : T.c = 6) (h4 : d ≤ 4) : sz (n + 1) T d = if T.w = 0 ∧ T.b = false ∧ T.fs.length = 0 ∧ T.ns.length = 0 then arrSz (fun t => sz n t (d + 1)) T.ds T.bs else 0 := by
  rw [sz_eq, h5, own6, if_neg (show ¬ (6 : Int) = 5 by decide), if_pos (show (6 : Int) = 6 from rfl)]
  by_cases h : T.w = 0 ∧ T.b = false ∧ T.fs.length = 0 ∧ T.ns.length = 0
  · rw [if_neg, if_pos h]
    rintro (h6 | h6)
    · omega
    · rw [decide_eq_true h] at h6; cases h6
  · rw [if_pos (.inr (decide_eq_false h)), if_neg h]
theorem sz_c7 {n : Nat} (T : TyN (Ty n)) {d : Nat} (h5 : T.c = 7) (h4 : d ≤ 4) : sz (n + 1) T d = if T.w = 0 ∧ T.b = false ∧ T.fs.length = 0 ∧ T.ds.length = 0 then enSz (fun t => sz n t (d + 1)) hd T.bs T.ns else 0 := by
  rw [sz_eq, h5, own7, if_neg (show ¬ (7 : Int) = 5 by decide), if_neg (show ¬ (7 : Int) = 6 by decide), if_pos (show (7 : Int) = 7 from rfl)]
  by_cases h : T.w = 0 ∧ T.b = false ∧ T.fs.length = 0 ∧ T.ds.length = 0
  · rw [if_neg, if_pos h]
    rintro (h6 | h6)
    · omega
    · rw [decide_eq_true h] at h6; cases h6
  · rw [if_pos (.inr (decide_eq_false h)), if_neg h]
theorem sz_no {n : Nat} (T : TyN (Ty n)) {d : Nat} (h5 : ¬ T.c = 5) (h6 : ¬ T.c = 6) (h7 : ¬ T.c = 7) (h4 : d ≤ 4) : sz (n + 1) T d = if numB T.c T.w T.fs.length T.ds.length T.bs.length T.ns.length = true then (if T.c = 4 then 2 * T.w else T.w) else 0 := by
  rw [sz_eq, if_neg h5, if_neg h6, if_neg h7, ownB, if_neg h5, if_neg h6, if_neg h7, numB]
  obtain ⟨c, hc⟩ : ∃ c, T.c = c := ⟨_, rfl⟩
  obtain ⟨wd, hw⟩ : ∃ c, T.w = c := ⟨_, rfl⟩
  rw [hc, hw]
  by_cases h0 : T.fs.length = 0 ∧ T.ds.length = 0 ∧ T.bs.length = 0 ∧ T.ns.length = 0
  · rw [decide_eq_true h0, Bool.true_and]
    by_cases h1 : c = 1 ∨ c = 2 ∨ c = 3 ∨ c = 4
    · rw [if_pos h1, if_neg (by rintro (h | h); · omega
                                · cases h), numSz]
      by_cases hn : ((c = 1 ∨ c = 2) ∧ 1 ≤ wd ∧ wd ≤ 8) ∨ ((c = 3 ∨ c = 4) ∧ (wd = 4 ∨ wd = 8))
      · rw [decide_eq_true hn, if_pos rfl]
        rcases h1 with rfl | rfl | rfl | rfl
        all_goals simp at hn
        all_goals simp [hn]
      · rw [decide_eq_false hn, if_neg (show ¬ false = true by simp)]
        rcases h1 with rfl | rfl | rfl | rfl
        all_goals simp at hn
        all_goals simp
        all_goals omega
    · rw [decide_eq_false (show ¬ (((c = 1 ∨ c = 2) ∧ 1 ≤ wd ∧ wd ≤ 8) ∨ ((c = 3 ∨ c = 4) ∧ (wd = 4 ∨ wd = 8))) by omega), if_neg (show ¬ false = true by simp)]
      have hn0 : numSz c wd = 0 := by rw [numSz, if_neg (by omega), if_neg (by omega), if_neg (by omega)]
      rw [hn0, ite_self]
  · rw [decide_eq_false h0, Bool.false_and, if_neg (show ¬ false = true by simp), if_pos]
    right
    by_cases h1 : c = 1 ∨ c = 2 ∨ c = 3 ∨ c = 4
    · rw [if_pos h1]
    · rw [if_neg h1]
      exact decide_eq_false (fun h => h0 h.2.2)
set_option maxHeartbeats 16000000 in
theorem refSized_step {n : Nat} (d : Nat) (hd5 : d ≤ 5) (T : TyN (Ty n)) (V : TV) (w : World) (h : TRN (TR n) hd w V T) (hin : d ≤ 4 → SzR (n := n) d w) :
    Calls Try.prog 31 #[tyV (T.c, T.w, T.b) V, .int .i64 (5 - (d : Int))] w fun e w' => e = .returned (.int .i64 (sz (n + 1) T d)) ∧ Below w.heap.size w w' := by
  have H : Hid (TRN (TR n) hd w V T) := h
  have HIN : Hid (d ≤ 4 → SzR (n := n) d w) := hin
  obtain ⟨fa, fn, fc, da, dn, dc, ba, bn, bc, na, nn, nc, rfl, ⟨f1, f2, f3⟩, ⟨d1, d2, d3⟩, ⟨b1, b2, b3⟩, ⟨n1, n2, n3⟩⟩ := H.out.open
  have HT : Hid (∀ w', Below w.heap.size w w' → TRN (TR n) hd w' _ T) := fun w' hb => TR.below (n := n + 1) H.out hb
  have HI : Hid (∀ w', Below w.heap.size w w' → d ≤ 4 → SzR (n := n) d w') := fun w' hb h4 t U w2 hb2 hu => HIN.out h4 t U w2 (bel_next hb hb2) hu
  have HCO : Hid (T.c = 5 → d ≤ 4 → ∀ w', Below w.heap.size w w' → Calls Try.prog 58 #[tyV (T.c, T.w, T.b) ⟨.slice fa fn fc, .slice da dn dc, .slice ba bn bc, .slice na nn nc⟩, .int .i64 (5 - (d : Int))] w' fun e w2 => e = .returned (.int .i64 (sz (n + 1) T d)) ∧ Below w'.heap.size w' w2) := fun h5 h4 w' hb => by rw [sz_c5 T h5 h4]; exact refComp_any d h4 T _ w' (HT.out w' hb) (HI.out w' hb h4)
  have HAR : Hid (T.c = 6 → d ≤ 4 → ∀ w', Below w.heap.size w w' → Calls Try.prog 59 #[tyV (T.c, T.w, T.b) ⟨.slice fa fn fc, .slice da dn dc, .slice ba bn bc, .slice na nn nc⟩, .int .i64 (5 - (d : Int))] w' (RawP w' (sz (n + 1) T d))) := fun h5 h4 w' hb => by rw [sz_c6 T h5 h4]; exact refArr_any d h4 T _ w' (HT.out w' hb) (HI.out w' hb h4)
  have HEN : Hid (T.c = 7 → d ≤ 4 → ∀ w', Below w.heap.size w w' → Calls Try.prog 60 #[tyV (T.c, T.w, T.b) ⟨.slice fa fn fc, .slice da dn dc, .slice ba bn bc, .slice na nn nc⟩, .int .i64 (5 - (d : Int))] w' fun e w2 => e = .returned (.int .i64 (sz (n + 1) T d)) ∧ Below w'.heap.size w' w2) := fun h5 h4 w' hb => by rw [sz_c7 T h5 h4]; exact refEnum_any d h4 T _ w' (HT.out w' hb)
  have HNO : Hid (¬ T.c = 5 → ¬ T.c = 6 → ¬ T.c = 7 → d ≤ 4 → sz (n + 1) T d = if numB T.c T.w fn dn bn nn = true then (if T.c = 4 then 2 * T.w else T.w) else 0) := fun h5 h6 h7 h4 => by rw [← f1, ← d1, ← b1, ← n1]; exact sz_no T h5 h6 h7 h4
  have HDP : Hid (4 < d → sz (n + 1) T d = 0) := fun h => sz_deep h
  have HRG := sz_rng (n + 1) T d
  obtain ⟨c, hc⟩ : ∃ c, T.c = c := ⟨_, rfl⟩
  obtain ⟨wd, hw⟩ : ∃ c, T.w = c := ⟨_, rfl⟩
  obtain ⟨b, hb⟩ : ∃ c, T.b = c := ⟨_, rfl⟩
  obtain ⟨s, hs⟩ : ∃ s, sz (n + 1) T d = s := ⟨_, rfl⟩
  obtain ⟨D, hD⟩ : ∃ D, 5 - (d : Int) = D := ⟨_, rfl⟩
  show Calls _ _ #[.agg #[.int .i64 T.c, .int .i64 T.w, .bool T.b, _, _, _, _], _] _ _
  rw [hc, hw, hb, hs, hD]
  rw [hc, hw, hb, hs, hD] at HCO HAR HEN
  rw [hc, hw, hs] at HNO
  rw [hs] at HDP HRG
  obtain ⟨w1, hw1, hb1, hs1, hx1⟩ := bx_made w c wd b (.slice fa fn fc) (.slice da dn dc) (.slice ba bn bc) (.slice na nn nc)
  have HB1 : Hid (Below w.heap.size w w1) := hb1
  have HX1 : Hid (Bx w1 w.heap.size c wd b (.slice fa fn fc) (.slice da dn dc) (.slice ba bn bc) (.slice na nn nc)) := hx1
  obtain ⟨c0, c1, c2, c3, c4, c5, c6⟩ := hx1
  obtain ⟨hr1, hr2⟩ := HRG
  clear h hin hc hw hb hs f1 d1 b1 n1 hb1 hs1
  have hl : fn ≤ 17592186043904 ∧ dn ≤ 17592186043904 ∧ bn ≤ 17592186043904 ∧ nn ≤ 17592186043904 := by omega
  have HNU : Hid (∀ w', Calls Try.prog 61 #[.agg #[.int .i64 c, .int .i64 wd, .bool b, .slice fa fn fc, .slice da dn dc, .slice ba bn bc, .slice na nn nc]] w' fun e w2 => e = .returned (.bool (numB c wd fn dn bn nn)) ∧ Below w'.heap.size w' w2) := fun w' => refNumber_any c wd b fa fn fc da dn dc ba bn bc na nn nc w' hl.1 hl.2.1 hl.2.2.1 hl.2.2.2
  clear hl f2 f3 d2 d3 b2 b3 n2 n3
  by_cases h4 : d ≤ 4
  · have g0 : ¬ D < 1 := by omega
    have g1 : ¬ 256 < s := by omega
    clear HDP hD
    by_cases h5 : c = 5
    · subst h5
      have HCL : Hid (Calls Try.prog 58 #[.agg #[.int .i64 5, .int .i64 wd, .bool b, .slice fa fn fc, .slice da dn dc, .slice ba bn bc, .slice na nn nc], .int .i64 D] w1 fun e w2 => e = .returned (.int .i64 s) ∧ Below w1.heap.size w1 w2) := HCO.out rfl h4 w1 HB1.out
      clear HCO HAR HEN HNO h4
      go_enter Try.func31, Try.ntmps31
      go_wp2_with (go_at_call 58; refine Calls.mono HCL.out ?_; rintro e w5 ⟨rfl, hb5⟩; have HB5 : Hid (Below w.heap.size w w5) := bel_next HB1.out hb5; clear hb5)
      go_ret
      exact ⟨rfl, HB5.out⟩
    · by_cases h6 : c = 6
      · subst h6
        have HCL : Hid (Calls Try.prog 59 #[.agg #[.int .i64 6, .int .i64 wd, .bool b, .slice fa fn fc, .slice da dn dc, .slice ba bn bc, .slice na nn nc], .int .i64 D] w1 (RawP w1 s)) := HAR.out rfl h4 w1 HB1.out
        clear HCO HAR HEN HNO h4 h5
        go_enter Try.func31, Try.ntmps31
        go_wp2_with (go_at_call 59; refine Calls.mono HCL.out ?_; rintro e w5 ⟨⟨r, rfl, hr, -, -⟩, hb5⟩; have HB5 : Hid (Below w.heap.size w w5) := bel_next HB1.out hb5; have HR : Hid ((if 256 < r then 0 else r) = s) := hr; clear hb5 hr; by_cases hg : 256 < r)
        all_goals go_wp2_with fail
        · go_ret
          exact ⟨by rw [← HR.out, if_pos hg]; rfl, HB5.out⟩
        · go_ret
          exact ⟨by rw [← HR.out, if_neg (by omega)]; rfl, HB5.out⟩
      · by_cases h7 : c = 7
        · subst h7
          have HCL : Hid (Calls Try.prog 60 #[.agg #[.int .i64 7, .int .i64 wd, .bool b, .slice fa fn fc, .slice da dn dc, .slice ba bn bc, .slice na nn nc], .int .i64 D] w1 fun e w2 => e = .returned (.int .i64 s) ∧ Below w1.heap.size w1 w2) := HEN.out rfl h4 w1 HB1.out
          clear HCO HAR HEN HNO h4 h5 h6
          go_enter Try.func31, Try.ntmps31
          go_wp2_with (go_at_call 60; refine Calls.mono HCL.out ?_; rintro e w5 ⟨rfl, hb5⟩; have HB5 : Hid (Below w.heap.size w w5) := bel_next HB1.out hb5; clear hb5)
          go_ret
          exact ⟨rfl, HB5.out⟩
        · have HE : Hid (s = if numB c wd fn dn bn nn = true then (if c = 4 then 2 * wd else wd) else 0) := HNO.out h5 h6 h7 h4
          have HWI : Hid (numB c wd fn dn bn nn = true → 1 ≤ wd ∧ wd ≤ 8) := fun h => by
            rw [numB, Bool.and_eq_true, decide_eq_true_iff, decide_eq_true_iff] at h
            have := h.2
            omega
          obtain ⟨bn', hbn⟩ : ∃ b, numB c wd fn dn bn nn = b := ⟨_, rfl⟩
          rw [hbn] at HNU HWI HE
          clear HCO HAR HEN HNO h4 hbn
          cases bn' with
          | true =>
            obtain ⟨hz1, hz2⟩ := HWI.out rfl
            by_cases h8 : c = 4
            · subst h8
              have HE2 : Hid (s = 2 * wd) := HE.out
              obtain ⟨z, hz⟩ : ∃ z, 2 * wd = z := ⟨_, rfl⟩
              have hwr : IntKind.i64.wrap (2 * wd) = z := by rw [hz]; exact wrap_i64_inD _ (by omega) (by omega)
              have g2 : ¬ 256 < z := by omega
              rw [hz] at HE2
              clear HE HWI hz1 hz2 hz h5 h6 h7
              go_enter Try.func31, Try.ntmps31
              go_wp2_with (go_at_call 61; refine Calls.mono (HNU.out _) ?_; rintro e w5 ⟨rfl, hb5⟩; have HB5 : Hid (Below w.heap.size w w5) := bel_next HB1.out hb5; obtain ⟨y0, y1, y2, y3, y4, y5, y6⟩ := HX1.out.below hb5; clear hb5)
              go_ret
              exact ⟨by rw [HE2.out]; rfl, HB5.out⟩
            · have HE2 : Hid (s = wd) := by rw [Hid, HE.out, if_pos rfl, if_neg h8]
              have g2 : ¬ 256 < wd := by omega
              clear HE HWI hz1 hz2
              go_enter Try.func31, Try.ntmps31
              go_wp2_with (go_at_call 61; refine Calls.mono (HNU.out _) ?_; rintro e w5 ⟨rfl, hb5⟩; have HB5 : Hid (Below w.heap.size w w5) := bel_next HB1.out hb5; obtain ⟨y0, y1, y2, y3, y4, y5, y6⟩ := HX1.out.below hb5; clear hb5)
              go_ret
              exact ⟨by rw [HE2.out]; rfl, HB5.out⟩
          | false =>
            have HE2 : Hid (s = 0) := HE.out
            clear HE HWI
            by_cases h8 : c = 4
            · subst h8
              clear h5 h6 h7
              go_enter Try.func31, Try.ntmps31
              go_wp2_with (go_at_call 61; refine Calls.mono (HNU.out _) ?_; rintro e w5 ⟨rfl, hb5⟩; have HB5 : Hid (Below w.heap.size w w5) := bel_next HB1.out hb5; obtain ⟨y0, y1, y2, y3, y4, y5, y6⟩ := HX1.out.below hb5; clear hb5)
              go_ret
              exact ⟨by rw [HE2.out]; rfl, HB5.out⟩
            · go_enter Try.func31, Try.ntmps31
              go_wp2_with (go_at_call 61; refine Calls.mono (HNU.out _) ?_; rintro e w5 ⟨rfl, hb5⟩; have HB5 : Hid (Below w.heap.size w w5) := bel_next HB1.out hb5; obtain ⟨y0, y1, y2, y3, y4, y5, y6⟩ := HX1.out.below hb5; clear hb5)
              go_ret
              exact ⟨by rw [HE2.out]; rfl, HB5.out⟩
  · have HE : Hid (s = 0) := HDP.out (by omega)
    have g0 : D < 1 := by omega
    clear HDP hD h4
    go_enter Try.func31, Try.ntmps31
    go_wp2_with fail
    go_ret
    exact ⟨by rw [HE.out]; rfl, HB1.out⟩
/-- The document's size of a type. -/
theorem refSized_any : ∀ (n : Nat) (d : Nat), d ≤ 5 → ∀ (T : Ty n) (V : TV) (w : World), TR n w V T → Calls Try.prog 31 #[tyV (hd T) V, .int .i64 (5 - (d : Int))] w fun e w' => e = .returned (.int .i64 (sz n T d)) ∧ Below w.heap.size w w'
  | 0, _, _, _, _, _, h => h.elim
  | n + 1, d, hd5, T, V, w, h => refSized_step (n := n) d hd5 T V w h fun h4 t U w' hb hu => by
    have := refSized_any n (d + 1) (by omega) t U w' hu
    rwa [show 5 - ((d + 1 : Nat) : Int) = 4 - (d : Int) by omega] at this
set_option maxHeartbeats 8000000 in
theorem refSize_any (n : Nat) (T : Ty n) (V : TV) (w : World) (h : TR n w V T) : Calls Try.prog 13 #[tyV (hd T) V] w fun e w' => e = .returned (.tuple #[.int .i64 (sz n T 1), .int .i64 (szE T)]) ∧ Below w.heap.size w w' := by
  have HCL : Hid (∀ w', Below w.heap.size w w' → Calls Try.prog 31 #[.agg #[.int .i64 (hd T).1, .int .i64 (hd T).2.1, .bool (hd T).2.2, V.f, V.d, V.b, V.n], .int .i64 4] w' fun e w2 => e = .returned (.int .i64 (sz n T 1)) ∧ Below w'.heap.size w' w2) := fun w' hb => refSized_any n 1 (by omega) T V w' (h.below hb)
  have HE : Hid (szE T = if sz n T 1 = 0 then 15 else 0) := rfl
  unfold tyV
  obtain ⟨S, hS⟩ : ∃ S, sz n T 1 = S := ⟨_, rfl⟩
  rw [hS] at HE HCL
  rw [hS]
  clear h hS
  generalize szE T = er at *
  generalize (hd T).1 = x1 at *
  generalize (hd T).2.1 = x2 at *
  generalize (hd T).2.2 = x3 at *
  obtain ⟨w1, hw1, hb1, hs1, hx1⟩ := bx_made w x1 x2 x3 V.f V.d V.b V.n
  have HB1 : Hid (Below w.heap.size w w1) := hb1
  obtain ⟨c0, c1, c2, c3, c4, c5, c6⟩ := hx1
  clear hb1 hs1
  by_cases h0 : S = 0
  · subst h0
    have HE2 : Hid (er = 15) := HE.out
    go_enter Try.func13, Try.ntmps13
    go_wp2_with (go_at_call 31; refine Calls.mono (HCL.out _ HB1.out) ?_; rintro e w5 ⟨rfl, hb5⟩; have HB5 : Hid (Below w.heap.size w w5) := bel_next HB1.out hb5; clear hb5)
    go_ret2
    exact ⟨by rw [HE2.out]; rfl, HB5.out⟩
  · have HE2 : Hid (er = 0) := by rw [Hid, HE.out, if_neg h0]
    have h0' : (S == 0) = false := beq_eq_false_iff_ne.2 h0
    go_enter Try.func13, Try.ntmps13
    go_wp2_with (go_at_call 31; refine Calls.mono (HCL.out _ HB1.out) ?_; rintro e w5 ⟨rfl, hb5⟩; have HB5 : Hid (Below w.heap.size w w5) := bel_next HB1.out hb5; clear hb5)
    go_ret2
    exact ⟨by rw [HE2.out]; rfl, HB5.out⟩
end Go.Proofs.Ytojcokdfplldbaa
