/-
  The program's sizeOf, Size and Check: the size of a type, or none. Conditions: what is handed in lies in memory as a type.
-/
import Derived.Test.YtojcokdfplldbaaDEnumS
import Derived.Laws.EntriesVeiled
namespace Go.Proofs.Ytojcokdfplldbaa
open Go.RowKit Go.Shelf
set_option linter.unusedVariables false
set_option maxRecDepth 100000

/-- The cell of the closure that calls itself. -/
def WkC (w : World) (pw : Nat) : Prop := w.cell? ⟨pw, 0, none⟩ = some (.func (.func 51) #[] #[.pointer (some ⟨pw, 0, none⟩)])
theorem WkC.below {w w' : World} {pw : Nat} (h : WkC w pw) (hb : Below w.heap.size w w') : WkC w' pw := (hb.cell (World.block_lt_of_cell? w _ h)).trans h
theorem inner_any {n : Nat} (d pw pd : Nat) (t : Ty n) (U : TV) (w : World) (hd4 : d ≤ 4) (hw : WkC w pw) (hp : w.cell? ⟨pd, 0, none⟩ = some (.int .i64 (d : Int))) (ht : TR n w U t)
    (ih : ∀ w', Below w.heap.size w w' → Calls Try.prog 51 #[tyV (hd t) U, .int .i64 ((d + 1 : Nat) : Int), .pointer (some ⟨pw, 0, none⟩)] w' fun e w2 => e = .returned (.int .i64 (sz n t (d + 1))) ∧ Below w'.heap.size w' w2) :
    Calls Try.prog 53 #[tyV (hd t) U, .pointer (some ⟨pw, 0, none⟩), .pointer (some ⟨pd, 0, none⟩)] w fun e w2 => e = .returned (.int .i64 (sz n t (d + 1))) ∧ Below w.heap.size w w2 := by
  have eg : ∀ args w, (callFunc 51 args).run Try.prog w = .ok (.enter 51 args) w := enters_of Try.func51 (by kernel_rfl) rfl
  obtain ⟨s, hs⟩ : ∃ s, sz n t (d + 1) = s := ⟨_, rfl⟩
  rw [hs] at ih ⊢
  have HIH : Hid (∀ w', Below w.heap.size w w' → Calls Try.prog 51 #[.agg #[.int .i64 (hd t).1, .int .i64 (hd t).2.1, .bool (hd t).2.2, U.f, U.d, U.b, U.n], .int .i64 ((d : Int) + 1), .pointer (some ⟨pw, 0, none⟩)] w' fun e w2 => e = .returned (.int .i64 s) ∧ Below w'.heap.size w' w2) := ih
  unfold tyV
  clear ih ht hs
  generalize (hd t).1 = x1 at *
  generalize (hd t).2.1 = x2 at *
  generalize (hd t).2.2 = x3 at *
  obtain ⟨w1, hw1, hb1, hs1, c0, c1, c2, c3, c4, c5, c6⟩ := bx_made w x1 x2 x3 U.f U.d U.b U.n
  have HB1 : Hid (Below w.heap.size w w1) := hb1
  have k1 : w1.cell? ⟨pw, 0, none⟩ = some (.func (.func 51) #[] #[.pointer (some ⟨pw, 0, none⟩)]) := hw.below hb1
  have k2 : w1.cell? ⟨pd, 0, none⟩ = some (.int .i64 (d : Int)) := (hb1.cell (World.block_lt_of_cell? w _ hp)).trans hp
  have hwr : IntKind.i64.wrap ((d : Int) + 1) = (d : Int) + 1 := wrap_i64_inD _ (by omega) (by omega)
  clear hb1 hs1 hw hp
  go_enter Try.func53, Try.ntmps53
  go_wp2_with (go_at_call 51; refine Calls.mono (HIH.out _ HB1.out) ?_; rintro e w5 ⟨rfl, hb5⟩; have HB5 : Hid (Below w.heap.size w w5) := bel_next HB1.out hb5; clear hb5)
  go_ret
  exact ⟨rfl, HB5.out⟩
theorem tm48 {wd : Int} (h : wd.tmod 4 = 0) (h1 : 1 ≤ wd ∧ wd ≤ 8) : wd = 4 ∨ wd = 8 := by
  have : wd = 1 ∨ wd = 2 ∨ wd = 3 ∨ wd = 4 ∨ wd = 5 ∨ wd = 6 ∨ wd = 7 ∨ wd = 8 := by omega
  rcases this with rfl | rfl | rfl | rfl | rfl | rfl | rfl | rfl <;> first | exact .inl rfl | exact .inr rfl | (exact absurd h (by decide))
theorem sz_wide {n : Nat} (t : Ty n) (d : Nat) (h : sz n t d ≠ 0) (hc : (hd t).1 = 1 ∨ (hd t).1 = 2) : 1 ≤ (hd t).2.1 ∧ (hd t).2.1 ≤ 8 := by
  cases n with
  | zero => exact absurd rfl h
  | succ n =>
    have hc' : TyN.c t = 1 ∨ TyN.c t = 2 := hc
    rw [sz] at h
    by_cases h1 : 4 < d ∨ ownB (TyN.c t) (TyN.w t) (TyN.b t) (TyN.fs t).length (TyN.ds t).length (TyN.bs t).length (TyN.ns t).length = false
    · rw [if_pos h1] at h; exact absurd rfl h
    · rw [if_neg h1, if_neg (by omega), if_neg (by omega), if_neg (by omega), numSz, if_pos hc'] at h
      by_cases h2 : 1 ≤ TyN.w t ∧ TyN.w t ≤ 8
      · exact h2
      · rw [if_neg h2] at h; exact absurd rfl h
set_option maxHeartbeats 16000000 in
theorem walkSz_any : ∀ (n : Nat) (T : Ty n) (V : TV) (d pw : Nat) (w : World), d ≤ 5 → WkC w pw → TR n w V T →
    Calls Try.prog 51 #[tyV (hd T) V, .int .i64 (d : Int), .pointer (some ⟨pw, 0, none⟩)] w fun e w2 => e = .returned (.int .i64 (sz n T d)) ∧ Below w.heap.size w w2
  | 0, T, V, d, pw, w, _, _, h => h.elim
  | n + 1, T, V, d, pw, w, hd5, hw, h => by
    have ih := walkSz_any n
    have IH : Hid _ := ih
    have H : Hid (TRN (TR n) hd w V T) := h
    have HW : Hid (WkC w pw) := hw
    obtain ⟨fa, fn, fc, da, dn, dc, ba, bn, bc, na, nn, nc, rfl, ⟨f1, f2, f3⟩, ⟨d1, d2, d3⟩, ⟨b1, b2, b3⟩, ⟨n1, n2, n3⟩⟩ := H.out.open
    have HSZ : Hid (sz (n + 1) T d = if 4 < d ∨ ownB (TyN.c T) (TyN.w T) (TyN.b T) fn dn bn nn = false then 0
      else if TyN.c T = 5 then cmpSz (fun t => sz n t (d + 1)) (TyN.w T) (TyN.fs T)
      else if TyN.c T = 6 then arrSz (fun t => sz n t (d + 1)) (TyN.ds T) (TyN.bs T)
      else if TyN.c T = 7 then enSz (fun t => sz n t (d + 1)) hd (TyN.bs T) (TyN.ns T)
      else numSz (TyN.c T) (TyN.w T)) := by rw [Hid, sz, f1, d1, b1, n1]
    obtain ⟨c, hc⟩ : ∃ c, TyN.c T = c := ⟨_, rfl⟩
    obtain ⟨wd, hwd⟩ : ∃ c, TyN.w T = c := ⟨_, rfl⟩
    obtain ⟨b, hb⟩ : ∃ c, TyN.b T = c := ⟨_, rfl⟩
    have HCW : Hid (TyN.c T = c ∧ TyN.w T = wd ∧ TyN.b T = b) := ⟨hc, hwd, hb⟩
    show Calls _ _ #[.agg #[.int .i64 (TyN.c T), .int .i64 (TyN.w T), .bool (TyN.b T), _, _, _, _], _, _] _ _
    rw [hc, hwd, hb]
    rw [hc, hwd, hb] at HSZ
    obtain ⟨S, hS⟩ : ∃ S, sz (n + 1) T d = S := ⟨_, rfl⟩
    rw [hS] at HSZ ⊢
    have HOW : Hid (∀ w', Calls Try.prog 52 #[.agg #[.int .i64 c, .int .i64 wd, .bool b, .slice fa fn fc, .slice da dn dc, .slice ba bn bc, .slice na nn nc]] w' fun e w2 => e = .returned (.bool (ownB c wd b fn dn bn nn)) ∧ Below w'.heap.size w' w2) := fun w' => hasOwn_any c wd b fa fn fc da dn dc ba bn bc na nn nc w'
    have HWI : Hid (∀ w', Calls Try.prog 54 #[.int .i64 wd, .int .i64 1, .int .i64 8] w' fun e w1 => e = .returned (.bool (decide (1 ≤ wd ∧ wd ≤ 8))) ∧ w1 = w') := fun w' => within_any wd 1 8 w'
    have HWD : Hid (I64 wd) := by rw [← hwd]; exact h.wd
    clear h ih hw f1 d1 b1 n1 hc hwd hb hS f2 f3 d2 d3 b2 b3 n2 n3
    obtain ⟨w1, hw1, hb1, hs1, hx1⟩ := bx_made w c wd b (.slice fa fn fc) (.slice da dn dc) (.slice ba bn bc) (.slice na nn nc)
    obtain ⟨w2, hw2, hb2, hs2, hx2⟩ : ∃ w2, w1.alloc (.cells #[.int .i64 (d : Int)] 3) = w2 ∧ Below w1.heap.size w1 w2 ∧ w2.heap.size = w1.heap.size + 1 ∧ w2.cell? ⟨w1.heap.size, 0, none⟩ = some (.int .i64 (d : Int)) := ⟨_, rfl, (Below.refl _ _).alloc (Nat.le_refl _) _, World.size_alloc _ _, by rw [World.cell?_alloc_mark]; rfl⟩
    have HB2 : Hid (Below w.heap.size w w2) := bel_next hb1 hb2
    have HX2 : Hid (∀ w', Below w2.heap.size w2 w' → Bx w' w.heap.size c wd b (.slice fa fn fc) (.slice da dn dc) (.slice ba bn bc) (.slice na nn nc) ∧ w'.cell? ⟨w1.heap.size, 0, none⟩ = some (.int .i64 (d : Int))) := fun w' hb => ⟨hx1.below (bel_next hb2 hb), (hb.cell (World.block_lt_of_cell? w2 _ hx2)).trans hx2⟩
    obtain ⟨c0, c1, c2, c3, c4, c5, c6⟩ := hx1.below hb2
    clear hb1 hs1 hb2 hs2 hx1
    by_cases hdp : 4 < d
    · have hdp' : (4 : Int) < (d : Int) := by omega
      have HE : Hid (S = 0) := by rw [Hid, HSZ.out, if_pos (.inl hdp)]
      clear HSZ
      go_enter Try.func51, Try.ntmps51
      go_wp2_with fail
      go_ret
      exact ⟨by rw [HE.out]; rfl, HB2.out⟩
    · have hdp' : ¬ (4 : Int) < (d : Int) := by omega
      obtain ⟨ob, hob⟩ : ∃ ob, ownB c wd b fn dn bn nn = ob := ⟨_, rfl⟩
      rw [hob] at HSZ HOW
      clear hob
      cases ob with
      | false =>
        have HE : Hid (S = 0) := by rw [Hid, HSZ.out, if_pos (.inr rfl)]
        clear HSZ
        go_enter Try.func51, Try.ntmps51
        go_wp2_with (go_at_call 52; refine Calls.mono (HOW.out _) ?_; rintro e w5 ⟨rfl, hb5⟩; have HB5 : Hid (Below w.heap.size w w5) := bel_next HB2.out hb5; clear hb5)
        go_ret
        exact ⟨by rw [HE.out]; rfl, HB5.out⟩
      | true =>
        have HS1 : Hid (S = if c = 5 then cmpSz (fun t => sz n t (d + 1)) wd (TyN.fs T) else if c = 6 then arrSz (fun t => sz n t (d + 1)) (TyN.ds T) (TyN.bs T) else if c = 7 then enSz (fun t => sz n t (d + 1)) hd (TyN.bs T) (TyN.ns T) else numSz c wd) := by rw [Hid, HSZ.out, if_neg (fun h => h.elim hdp (fun h => by cases h))]
        clear HSZ
        have HINN : Hid (Inn (fun t : Ty n => sz n t (d + 1)) pw w1.heap.size w2) := fun t U w' hb ht => inner_any d pw w1.heap.size t U w' (by omega) (HW.out.below (bel_next HB2.out hb)) (HX2.out w' hb).2 ht (fun w3 hb3 => IH.out t U (d + 1) pw w3 (by omega) (HW.out.below (bel_next (bel_next HB2.out hb) hb3)) (ht.below hb3))
        by_cases h5 : c = 5
        · subst h5
          have HCC : Hid (∀ w', Below w2.heap.size w2 w' → Calls Try.prog 55 #[.agg #[.int .i64 5, .int .i64 wd, .bool b, .slice fa fn fc, .slice da dn dc, .slice ba bn bc, .slice na nn nc], .func (.func 53) #[] #[.pointer (some ⟨pw, 0, none⟩), .pointer (some ⟨w1.heap.size, 0, none⟩)]] w' fun e w3 => e = .returned (.int .i64 S) ∧ Below w'.heap.size w' w3) := fun w' hb => by
            have := compSz_any (f := fun t : Ty n => sz n t (d + 1)) (fun t => sz_rng n t (d + 1)) pw w1.heap.size T ⟨.slice fa fn fc, .slice da dn dc, .slice ba bn bc, .slice na nn nc⟩ w' (TR.below (n := n + 1) H.out (bel_next HB2.out hb)) (HINN.out.below hb)
            rw [HCW.out.1, HCW.out.2.1, HCW.out.2.2] at this
            rw [HS1.out, if_pos rfl]
            exact this
          clear HS1
          go_enter Try.func51, Try.ntmps51
          go_wp2_with (first | (go_at_call 52; refine Calls.mono (HOW.out _) ?_; rintro e w5 ⟨rfl, hb5⟩; have HB5 : Hid (Below w2.heap.size w2 w5) := hb5; obtain ⟨⟨e0, e1, e2, e3, e4, e5, e6⟩, e7⟩ := HX2.out w5 hb5; clear hb5) | (go_at_call 55; refine Calls.mono (HCC.out _ HB5.out) ?_; rintro e w6 ⟨rfl, hb6⟩; have HB6 : Hid (Below w.heap.size w w6) := bel_next (bel_next HB2.out HB5.out) hb6; clear hb6))
          go_ret
          exact ⟨rfl, HB6.out⟩
        by_cases h6 : c = 6
        · subst h6
          have HCC : Hid (∀ w', Below w2.heap.size w2 w' → Calls Try.prog 56 #[.agg #[.int .i64 6, .int .i64 wd, .bool b, .slice fa fn fc, .slice da dn dc, .slice ba bn bc, .slice na nn nc], .func (.func 53) #[] #[.pointer (some ⟨pw, 0, none⟩), .pointer (some ⟨w1.heap.size, 0, none⟩)]] w' fun e w3 => e = .returned (.int .i64 S) ∧ Below w'.heap.size w' w3) := fun w' hb => by
            have := arrSz_any (f := fun t : Ty n => sz n t (d + 1)) (fun t => sz_rng n t (d + 1)) pw w1.heap.size T ⟨.slice fa fn fc, .slice da dn dc, .slice ba bn bc, .slice na nn nc⟩ w' (TR.below (n := n + 1) H.out (bel_next HB2.out hb)) (HINN.out.below hb)
            rw [HCW.out.1, HCW.out.2.1, HCW.out.2.2] at this
            rw [HS1.out, if_neg (by omega), if_pos rfl]
            exact this
          clear HS1
          go_enter Try.func51, Try.ntmps51
          go_wp2_with (first | (go_at_call 52; refine Calls.mono (HOW.out _) ?_; rintro e w5 ⟨rfl, hb5⟩; have HB5 : Hid (Below w2.heap.size w2 w5) := hb5; obtain ⟨⟨e0, e1, e2, e3, e4, e5, e6⟩, e7⟩ := HX2.out w5 hb5; clear hb5) | (go_at_call 56; refine Calls.mono (HCC.out _ HB5.out) ?_; rintro e w6 ⟨rfl, hb6⟩; have HB6 : Hid (Below w.heap.size w w6) := bel_next (bel_next HB2.out HB5.out) hb6; clear hb6))
          go_ret
          exact ⟨rfl, HB6.out⟩
        by_cases h7 : c = 7
        · subst h7
          have HCC : Hid (∀ w', Below w2.heap.size w2 w' → Calls Try.prog 57 #[.agg #[.int .i64 7, .int .i64 wd, .bool b, .slice fa fn fc, .slice da dn dc, .slice ba bn bc, .slice na nn nc], .func (.func 53) #[] #[.pointer (some ⟨pw, 0, none⟩), .pointer (some ⟨w1.heap.size, 0, none⟩)]] w' fun e w3 => e = .returned (.int .i64 S) ∧ Below w'.heap.size w' w3) := fun w' hb => by
            have := enSz_any (f := fun t : Ty n => sz n t (d + 1)) (fun t => sz_rng n t (d + 1)) (fun t ht hc => sz_wide t (d + 1) ht hc) pw w1.heap.size T ⟨.slice fa fn fc, .slice da dn dc, .slice ba bn bc, .slice na nn nc⟩ w' (TR.below (n := n + 1) H.out (bel_next HB2.out hb)) (HINN.out.below hb)
            rw [HCW.out.1, HCW.out.2.1, HCW.out.2.2] at this
            rw [HS1.out, if_neg (by omega), if_neg (by omega), if_pos rfl]
            exact this
          clear HS1
          go_enter Try.func51, Try.ntmps51
          go_wp2_with (first | (go_at_call 52; refine Calls.mono (HOW.out _) ?_; rintro e w5 ⟨rfl, hb5⟩; have HB5 : Hid (Below w2.heap.size w2 w5) := hb5; obtain ⟨⟨e0, e1, e2, e3, e4, e5, e6⟩, e7⟩ := HX2.out w5 hb5; clear hb5) | (go_at_call 57; refine Calls.mono (HCC.out _ HB5.out) ?_; rintro e w6 ⟨rfl, hb6⟩; have HB6 : Hid (Below w.heap.size w w6) := bel_next (bel_next HB2.out HB5.out) hb6; clear hb6))
          go_ret
          exact ⟨rfl, HB6.out⟩
        have HS2 : Hid (S = numSz c wd) := by rw [Hid, HS1.out, if_neg h5, if_neg h6, if_neg h7]
        clear HS1 HINN
        obtain ⟨hwd1, hwd2⟩ := HWD.out
        by_cases h1 : c = 1 ∨ c = 2
        · by_cases hr : 1 ≤ wd ∧ wd ≤ 8
          · have HE : Hid (S = wd) := by rw [Hid, HS2.out, numSz, if_pos h1, if_pos hr]
            have hw64 : IntKind.i64.wrap wd = wd := wrap_i64_inD _ hwd1 hwd2
            rw [decide_eq_true hr] at HWI
            clear HS2
            rcases h1 with rfl | rfl
            all_goals
              go_enter Try.func51, Try.ntmps51
              go_wp2_with (first | (go_at_call 52; refine Calls.mono (HOW.out _) ?_; rintro e w5 ⟨rfl, hb5⟩; have HB5 : Hid (Below w2.heap.size w2 w5) := hb5; obtain ⟨⟨e0, e1, e2, e3, e4, e5, e6⟩, e7⟩ := HX2.out w5 hb5; clear hb5) | (go_at_call 54; refine (HWI.out _).mono ?_; rintro e w7 ⟨rfl, hw7⟩; obtain rfl := hw7.symm))
              go_ret
              exact ⟨by rw [HE.out]; rfl, bel_next HB2.out HB5.out⟩
          · have HE : Hid (S = 0) := by rw [Hid, HS2.out, numSz, if_pos h1, if_neg hr]
            rw [decide_eq_false hr] at HWI
            clear HS2
            rcases h1 with rfl | rfl
            all_goals
              go_enter Try.func51, Try.ntmps51
              go_wp2_with (first | (go_at_call 52; refine Calls.mono (HOW.out _) ?_; rintro e w5 ⟨rfl, hb5⟩; have HB5 : Hid (Below w2.heap.size w2 w5) := hb5; obtain ⟨⟨e0, e1, e2, e3, e4, e5, e6⟩, e7⟩ := HX2.out w5 hb5; clear hb5) | (go_at_call 54; refine (HWI.out _).mono ?_; rintro e w7 ⟨rfl, hw7⟩; obtain rfl := hw7.symm))
              go_ret
              exact ⟨by rw [HE.out]; rfl, bel_next HB2.out HB5.out⟩
        · by_cases h3 : c = 3
          · subst h3
            by_cases h48 : wd = 4 ∨ wd = 8
            · have HE : Hid (S = wd) := by rw [Hid, HS2.out, numSz, if_neg h1, if_pos rfl, if_pos h48]
              rw [decide_eq_true (by omega)] at HWI
              clear HS2
              rcases h48 with rfl | rfl
              all_goals
                go_enter Try.func51, Try.ntmps51
                go_wp2_with (first | (go_at_call 52; refine Calls.mono (HOW.out _) ?_; rintro e w5 ⟨rfl, hb5⟩; have HB5 : Hid (Below w2.heap.size w2 w5) := hb5; obtain ⟨⟨e0, e1, e2, e3, e4, e5, e6⟩, e7⟩ := HX2.out w5 hb5; clear hb5) | (go_at_call 54; refine (HWI.out _).mono ?_; rintro e w7 ⟨rfl, hw7⟩; obtain rfl := hw7.symm))
                go_ret
                exact ⟨by rw [HE.out]; rfl, bel_next HB2.out HB5.out⟩
            · have HE : Hid (S = 0) := by rw [Hid, HS2.out, numSz, if_neg h1, if_pos rfl, if_neg h48]
              clear HS2
              by_cases hm : wd.tmod 4 = 0
              · rw [decide_eq_false (fun h => h48 (tm48 hm h))] at HWI
                go_enter Try.func51, Try.ntmps51
                go_wp2_with (first | (go_at_call 52; refine Calls.mono (HOW.out _) ?_; rintro e w5 ⟨rfl, hb5⟩; have HB5 : Hid (Below w2.heap.size w2 w5) := hb5; obtain ⟨⟨e0, e1, e2, e3, e4, e5, e6⟩, e7⟩ := HX2.out w5 hb5; clear hb5) | (go_at_call 54; refine (HWI.out _).mono ?_; rintro e w7 ⟨rfl, hw7⟩; obtain rfl := hw7.symm))
                go_ret
                exact ⟨by rw [HE.out]; rfl, bel_next HB2.out HB5.out⟩
              · have hm' : ¬ wd.tmod 4 = 0 := hm
                go_enter Try.func51, Try.ntmps51
                go_wp2_with (first | (go_at_call 52; refine Calls.mono (HOW.out _) ?_; rintro e w5 ⟨rfl, hb5⟩; have HB5 : Hid (Below w2.heap.size w2 w5) := hb5; obtain ⟨⟨e0, e1, e2, e3, e4, e5, e6⟩, e7⟩ := HX2.out w5 hb5; clear hb5) | (go_at_call 54; refine (HWI.out _).mono ?_; rintro e w7 ⟨rfl, hw7⟩; obtain rfl := hw7.symm))
                go_ret
                exact ⟨by rw [HE.out]; rfl, bel_next HB2.out HB5.out⟩
          · by_cases h4 : c = 4
            · subst h4
              by_cases h48 : wd = 4 ∨ wd = 8
              · have HE : Hid (S = 2 * wd) := by rw [Hid, HS2.out, numSz, if_neg h1, if_neg h3, if_pos rfl, if_pos h48]
                rw [decide_eq_true (by omega)] at HWI
                clear HS2
                rcases h48 with rfl | rfl
                all_goals
                  go_enter Try.func51, Try.ntmps51
                  go_wp2_with (first | (go_at_call 52; refine Calls.mono (HOW.out _) ?_; rintro e w5 ⟨rfl, hb5⟩; have HB5 : Hid (Below w2.heap.size w2 w5) := hb5; obtain ⟨⟨e0, e1, e2, e3, e4, e5, e6⟩, e7⟩ := HX2.out w5 hb5; clear hb5) | (go_at_call 54; refine (HWI.out _).mono ?_; rintro e w7 ⟨rfl, hw7⟩; obtain rfl := hw7.symm))
                  go_ret
                  exact ⟨by rw [HE.out]; rfl, bel_next HB2.out HB5.out⟩
              · have HE : Hid (S = 0) := by rw [Hid, HS2.out, numSz, if_neg h1, if_neg h3, if_pos rfl, if_neg h48]
                clear HS2
                by_cases hm : wd.tmod 4 = 0
                · rw [decide_eq_false (fun h => h48 (tm48 hm h))] at HWI
                  go_enter Try.func51, Try.ntmps51
                  go_wp2_with (first | (go_at_call 52; refine Calls.mono (HOW.out _) ?_; rintro e w5 ⟨rfl, hb5⟩; have HB5 : Hid (Below w2.heap.size w2 w5) := hb5; obtain ⟨⟨e0, e1, e2, e3, e4, e5, e6⟩, e7⟩ := HX2.out w5 hb5; clear hb5) | (go_at_call 54; refine (HWI.out _).mono ?_; rintro e w7 ⟨rfl, hw7⟩; obtain rfl := hw7.symm))
                  go_ret
                  exact ⟨by rw [HE.out]; rfl, bel_next HB2.out HB5.out⟩
                · have hm' : ¬ wd.tmod 4 = 0 := hm
                  go_enter Try.func51, Try.ntmps51
                  go_wp2_with (first | (go_at_call 52; refine Calls.mono (HOW.out _) ?_; rintro e w5 ⟨rfl, hb5⟩; have HB5 : Hid (Below w2.heap.size w2 w5) := hb5; obtain ⟨⟨e0, e1, e2, e3, e4, e5, e6⟩, e7⟩ := HX2.out w5 hb5; clear hb5) | (go_at_call 54; refine (HWI.out _).mono ?_; rintro e w7 ⟨rfl, hw7⟩; obtain rfl := hw7.symm))
                  go_ret
                  exact ⟨by rw [HE.out]; rfl, bel_next HB2.out HB5.out⟩
            · have HE : Hid (S = 0) := by rw [Hid, HS2.out, numSz, if_neg h1, if_neg h3, if_neg h4]
              have g1 : ¬ c = 1 := fun h => h1 (.inl h)
              have g2 : ¬ c = 2 := fun h => h1 (.inr h)
              clear HS2 h1
              go_enter Try.func51, Try.ntmps51
              go_wp2_with (first | (go_at_call 52; refine Calls.mono (HOW.out _) ?_; rintro e w5 ⟨rfl, hb5⟩; have HB5 : Hid (Below w2.heap.size w2 w5) := hb5; obtain ⟨⟨e0, e1, e2, e3, e4, e5, e6⟩, e7⟩ := HX2.out w5 hb5; clear hb5) | (go_at_call 54; refine (HWI.out _).mono ?_; rintro e w7 ⟨rfl, hw7⟩; obtain rfl := hw7.symm))
              go_ret
              exact ⟨by rw [HE.out]; rfl, bel_next HB2.out HB5.out⟩
theorem free_of {w : World} {g : Nat} {v : Value} {T : TypeId} (h : w.heap[g]? = some (.cells #[v] T (0, 0))) : w.frozen? ⟨g, 0, none⟩ = false := by simp [World.frozen?, h]
theorem wk_made (w : World) (F : Value) (T : TypeId) : ∃ w2 w3, w.alloc (.cells #[.nilFunc] T) = w2 ∧ w2.setCell ⟨w.heap.size, 0, none⟩ F = w3 ∧ w2.cell? ⟨w.heap.size, 0, none⟩ = some .nilFunc ∧ w2.frozen? ⟨w.heap.size, 0, none⟩ = false ∧ Below w.heap.size w w2 ∧ Below w.heap.size w w3 ∧ w3.cell? ⟨w.heap.size, 0, none⟩ = some F ∧ w3.heap[w.heap.size]? = some (.cells #[F] T (0, 0)) := by
  have h2 : (w.alloc (.cells #[.nilFunc] T)).heap[w.heap.size]? = some (.cells #[.nilFunc] T (0, 0)) := heap_alloc_new w _
  have hb : Below w.heap.size w (w.alloc (.cells #[.nilFunc] T)) := (Below.refl _ _).alloc (Nat.le_refl _) _
  have h3 : ((w.alloc (.cells #[.nilFunc] T)).setCell ⟨w.heap.size, 0, none⟩ F).heap[w.heap.size]? = some (.cells #[F] T (0, 0)) := by
    rw [heap_setCell_same _ _ 0 _ _ _ h2]; rfl
  refine ⟨_, _, rfl, rfl, cell_of_row _ _ 0 _ _ _ h2, free_of h2, hb, Below.setCell (p := ⟨w.heap.size, 0, none⟩) hb (Nat.le_refl _) _, cell_of_row _ _ 0 _ _ _ h3, h3⟩
theorem sizeOf_any (n : Nat) (T : Ty n) (V : TV) (w : World) (h : TR n w V T) :
    Calls Try.prog 30 #[tyV (hd T) V] w fun e w2 => e = .returned (.int .i64 (sz n T 1)) ∧ Below w.heap.size w w2 := by
  have eg : ∀ args w, (callFunc 51 args).run Try.prog w = .ok (.enter 51 args) w := enters_of Try.func51 (by kernel_rfl) rfl
  obtain ⟨S, hS⟩ : ∃ S, sz n T 1 = S := ⟨_, rfl⟩
  have HL : Hid (∀ pw w', Below w.heap.size w w' → WkC w' pw → Calls Try.prog 51 #[.agg #[.int .i64 (hd T).1, .int .i64 (hd T).2.1, .bool (hd T).2.2, V.f, V.d, V.b, V.n], .int .i64 1, .pointer (some ⟨pw, 0, none⟩)] w' fun e w2 => e = .returned (.int .i64 S) ∧ Below w'.heap.size w' w2) := fun pw w' hb hw => by rw [← hS]; exact walkSz_any n T V 1 pw w' (by omega) hw (h.below hb)
  rw [hS]
  clear h hS
  unfold tyV
  generalize (hd T).1 = x1 at *
  generalize (hd T).2.1 = x2 at *
  generalize (hd T).2.2 = x3 at *
  obtain ⟨w1, hw1, hb1, hs1, hx1⟩ := bx_made w x1 x2 x3 V.f V.d V.b V.n
  obtain ⟨w2, w3, hw2, hw3, k0, kf, hb2, hb3, k1, -⟩ := wk_made w1 (.func (.func 51) #[] #[.pointer (some ⟨w1.heap.size, 0, none⟩)]) 63
  have HB2 : Hid (Below w.heap.size w w3) := bel_next hb1 hb3
  have HWK : Hid (WkC w3 w1.heap.size) := k1
  obtain ⟨c0, c1, c2, c3, c4, c5, c6⟩ := hx1.below hb3
  clear hb1 hs1 hb2 hb3 hx1
  go_enter Try.func30, Try.ntmps30
  go_wp2_with (go_at_call 51; refine Calls.mono (HL.out _ _ HB2.out HWK.out) ?_; rintro e w5 ⟨rfl, hb5⟩; have HB5 : Hid (Below w.heap.size w w5) := bel_next HB2.out hb5; clear hb5)
  go_ret
  exact ⟨rfl, HB5.out⟩
/-- What Size tells. -/
def szT {n : Nat} (T : Ty n) : Int := sz n T 1
def szE {n : Nat} (T : Ty n) : Int := if sz n T 1 = 0 then 15 else 0
theorem size_any (n : Nat) (T : Ty n) (V : TV) (w : World) (h : TR n w V T) :
    Calls Try.prog 12 #[tyV (hd T) V] w fun e w2 => e = .returned (.tuple #[.int .i64 (szT T), .int .i64 (szE T)]) ∧ Below w.heap.size w w2 := by
  obtain ⟨S, hS⟩ : ∃ S, sz n T 1 = S := ⟨_, rfl⟩
  have HL : Hid (∀ w', Below w.heap.size w w' → Calls Try.prog 30 #[.agg #[.int .i64 (hd T).1, .int .i64 (hd T).2.1, .bool (hd T).2.2, V.f, V.d, V.b, V.n]] w' fun e w2 => e = .returned (.int .i64 S) ∧ Below w'.heap.size w' w2) := fun w' hb => by rw [← hS]; exact sizeOf_any n T V w' (h.below hb)
  have HE : Hid (szT T = S ∧ szE T = if S = 0 then 15 else 0) := by rw [Hid, szT, szE, hS]; exact ⟨rfl, rfl⟩
  clear h hS
  unfold tyV
  generalize (hd T).1 = x1 at *
  generalize (hd T).2.1 = x2 at *
  generalize (hd T).2.2 = x3 at *
  obtain ⟨w1, hw1, hb1, hs1, c0, c1, c2, c3, c4, c5, c6⟩ := bx_made w x1 x2 x3 V.f V.d V.b V.n
  have HB1 : Hid (Below w.heap.size w w1) := hb1
  clear hb1 hs1
  by_cases h0 : S = 0
  · subst h0
    go_enter Try.func12, Try.ntmps12
    go_wp2_with (go_at_call 30; refine Calls.mono (HL.out _ HB1.out) ?_; rintro e w5 ⟨rfl, hb5⟩; have HB5 : Hid (Below w.heap.size w w5) := bel_next HB1.out hb5; clear hb5)
    go_ret2
    exact ⟨by rw [HE.out.1, HE.out.2]; rfl, HB5.out⟩
  · have h0' : ¬ S = 0 := h0
    have HE2 : Hid (szT T = S ∧ szE T = 0) := by rw [Hid, HE.out.1, HE.out.2, if_neg h0]; exact ⟨rfl, rfl⟩
    go_enter Try.func12, Try.ntmps12
    go_wp2_with (go_at_call 30; refine Calls.mono (HL.out _ HB1.out) ?_; rintro e w5 ⟨rfl, hb5⟩; have HB5 : Hid (Below w.heap.size w w5) := bel_next HB1.out hb5; clear hb5)
    go_ret2
    exact ⟨by rw [HE2.out.1, HE2.out.2]; rfl, HB5.out⟩
theorem check_any (n : Nat) (T : Ty n) (V : TV) (w : World) (h : TR n w V T) :
    Calls Try.prog 14 #[tyV (hd T) V] w fun e w2 => e = .returned (.int .i64 (szE T)) ∧ Below w.heap.size w w2 := by
  have HL : Hid (∀ w', Below w.heap.size w w' → Calls Try.prog 12 #[.agg #[.int .i64 (hd T).1, .int .i64 (hd T).2.1, .bool (hd T).2.2, V.f, V.d, V.b, V.n]] w' fun e w2 => e = .returned (.tuple #[.int .i64 (szT T), .int .i64 (szE T)]) ∧ Below w'.heap.size w' w2) := fun w' hb => size_any n T V w' (h.below hb)
  clear h
  unfold tyV
  generalize szT T = s1 at *
  generalize szE T = s2 at *
  generalize (hd T).1 = x1 at *
  generalize (hd T).2.1 = x2 at *
  generalize (hd T).2.2 = x3 at *
  obtain ⟨w1, hw1, hb1, hs1, c0, c1, c2, c3, c4, c5, c6⟩ := bx_made w x1 x2 x3 V.f V.d V.b V.n
  have HB1 : Hid (Below w.heap.size w w1) := hb1
  clear hb1 hs1
  go_enter Try.func14, Try.ntmps14
  go_wp2_with (go_at_call 12; refine Calls.mono (HL.out _ HB1.out) ?_; rintro e w5 ⟨rfl, hb5⟩; have HB5 : Hid (Below w.heap.size w w5) := bel_next HB1.out hb5; clear hb5)
  go_ret
  exact ⟨rfl, HB5.out⟩
end Go.Proofs.Ytojcokdfplldbaa
