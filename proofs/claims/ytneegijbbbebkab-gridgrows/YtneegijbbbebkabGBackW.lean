/-
  What was cut and is pasted again changes nothing; what was pasted is cut again: the law's walk. No conditions.
-/
import Derived.Test.YtneegijbbbebkabGBack
import Derived.Test.YtneegijbbbebkabFrameCs
import Derived.Test.YtneegijbbbebkabGLives
import Derived.Test.YtneegijbbbebkabCopyMin
import Derived.Test.YtneegijbbbebkabWalkF
namespace Go.Proofs.Ytneegijbbbebkab
open Go.RowKit Go.Shelf
set_option linter.unusedVariables false
set_option maxRecDepth 100000

theorem row_dst {w : World} {g : Nat} {l : List Int} (h : Row w g l) : Dst w g l := ⟨_, h, by rw [← bcells_take, List.take_length]⟩
/-- The six cells of a case in memory. -/
def Cs6 (w : World) (b : Nat) (v0 v1 v2 v3 v4 v5 : Value) : Prop := w.cell? ⟨b, 0, none⟩ = some v0 ∧ w.cell? ⟨b, 1, none⟩ = some v1 ∧ w.cell? ⟨b, 2, none⟩ = some v2 ∧ w.cell? ⟨b, 3, none⟩ = some v3 ∧ w.cell? ⟨b, 4, none⟩ = some v4 ∧ w.cell? ⟨b, 5, none⟩ = some v5
theorem cs_next {w1 w2 : World} {b : Nat} {v0 v1 v2 v3 v4 v5 : Value} (hb : Below w1.heap.size w1 w2) (h : Cs6 w1 b v0 v1 v2 v3 v4 v5) : Cs6 w2 b v0 v1 v2 v3 v4 v5 := by
  obtain ⟨t0, t1, t2, t3, t4, t5⟩ := h
  exact ⟨(hb.cell (World.block_lt_of_cell? _ _ t0)).trans t0, (hb.cell (World.block_lt_of_cell? _ _ t1)).trans t1, (hb.cell (World.block_lt_of_cell? _ _ t2)).trans t2, (hb.cell (World.block_lt_of_cell? _ _ t3)).trans t3, (hb.cell (World.block_lt_of_cell? _ _ t4)).trans t4, (hb.cell (World.block_lt_of_cell? _ _ t5)).trans t5⟩
/-- What Cut and Paste tell where nothing is at fault. -/
def OkB (w : World) (n : Nat) (R : List Int) (e : Ending) (w' : World) : Prop := ∃ g cap, e = .returned (.tuple #[.slice (some ⟨g, 0, none⟩) n cap, .int .i64 0]) ∧ Bs w' (.slice (some ⟨g, 0, none⟩) n cap) R ∧ Below w.heap.size w w'
theorem okB_of {w : World} {n : Nat} {R : List Int} {e : Ending} {w' : World} (h : ByP w 0 R e w') (hn : R.length = n) : OkB w n R e w' := by
  obtain ⟨v, rfl, hb, _, h2⟩ := h
  obtain ⟨g, cap, rfl, hc, hd, _⟩ := h2 rfl
  subst hn
  exact ⟨g, cap, rfl, hd.bs cap hc, hb⟩
/-- The plain side of the law. -/
theorem back_plain {data own chunk D S C : List Int} {z : Int} (h : cutE data.length z D S C own.length = 0) : ∃ R : List Int, ∃ n : Nat, cutR data own D S C z.toNat = R ∧ R.length = n ∧ n ≤ 65536 ∧ pasE data.length z D S C n = 0 ∧ pasR data R D S C z.toNat = data ∧
    (∀ W : List Int, W.length = n → ∃ P, pasR data W D S C z.toNat = P ∧ P.length = data.length ∧ ∃ Q, cutR P own D S C z.toNat = Q ∧ Q.length = n ∧ pasR P R D S C z.toNat = data ∧ pasR data Q D S C z.toNat = P) := by
  unfold cutE at h
  by_cases h1 : fbE D S z = 0
  · rw [if_neg (by simpa using h1)] at h
    obtain ⟨f1, f2, f3, f4, f5, f6, z1, z2, p1, p2, p3⟩ := fb_ok h1
    obtain ⟨zn, rfl⟩ : ∃ zn : Nat, z = (zn : Int) := ⟨z.toNat, by omega⟩
    by_cases h2 : (data.length : Int) = elN D * (zn : Int) ∧ (own.length : Int) = (zn : Int) ∧ okB D.length C = true
    · obtain ⟨hd, ho, hc⟩ := h2
      obtain ⟨o1, o2⟩ := okB_iff.1 hc
      obtain ⟨bx1, bx2⟩ := clip_box (D := D) (S := S) (C := C) (r := D.length) rfl (by omega) o1 (fun x hx => ((dims_of (elE_ok f1).1).2 x hx).1) (fun x hx => (f4 x hx).1) o2
      rw [f5] at hd
      have hz1 : 1 ≤ zn := by omega
      have hof : own.length = zn := by omega
      have pS : 0 ≤ prd S := by omega
      rw [show ((zn : Int)).toNat = zn from rfl]
      have hcut := fun d (hd : (d.length : Int) = prd D * zn) => (cut_wr (data := d) (fill := own) bx1 bx2 hz1 hd hof f6 pS).2
      have hR := hcut data hd
      have key := fun (d e : List Int) hd he hag => paste_cut (d := d) (e := e) (fill := own) bx1 bx2 hz1 hd he hof f6 pS hag
      refine ⟨_, _, rfl, rfl, by have := hR; omega, ?_, key data data hd hd (fun _ _ => rfl), fun W hW => ?_⟩
      · rw [pasE, h1, if_neg (by simp), if_pos]
        exact ⟨by rw [f5]; exact hd, by rw [f6]; exact hR, hc⟩
      · obtain ⟨hP, hPl⟩ := pas_out (data := data) (chunk := W) bx1 bx2 hz1 hd (by rw [hW]; exact hR)
        refine ⟨_, rfl, by have := hd; omega, _, rfl, ?_, key _ data hPl hd (fun m hm => hP m hm), key data _ hd hPl (fun m hm => (hP m hm).symm)⟩
        have := hcut _ hPl
        omega
    · rw [if_neg h2] at h; cases h
  · rw [if_pos h1] at h; exact absurd h h1
set_option maxHeartbeats 32000000 in
theorem gridBack_walk (dv : Value) (z : Int) (vd vs vc ov : Value) (data D S C own : List Int) (kv : Value) (chunk : List Int) (w : World) (hc : CsOk w dv z vd vs vc ov data D S C own) (hk : Bs w kv chunk) (hkb : Byt chunk) (hkl : chunk.length ≤ 140737488351232) :
    Calls Try.prog 3 #[caseV dv z vd vs vc ov, kv] w fun e w' => e = .returned (.bool true) ∧ Below w.heap.size w w' := by
  obtain ⟨hda, hdb, hdl, hz, hD, hS, hC, hoa, hob, hol⟩ := hc
  have HDA : Hid (Bs w dv data) := hda
  have HOA : Hid (Bs w ov own) := hoa
  have HKA : Hid (Bs w kv chunk) := hk
  have HD : Hid (Is w vd D) := hD
  have HS : Hid (Is w vs S) := hS
  have HC : Hid (Is w vc C) := hC
  obtain ⟨da, dc, rfl, dl1, dl2, _⟩ := hda
  obtain ⟨oa, oc, rfl, ol1, ol2, _⟩ := hoa
  obtain ⟨ka, kc, rfl, kl1, kl2, _⟩ := hk
  obtain ⟨a1, m1, c1, rfl, _⟩ := hD.open
  obtain ⟨a2, m2, c2, rfl, _⟩ := hS.open
  obtain ⟨a3, m3, c3, rfl, _⟩ := hC.open
  obtain ⟨dl, HDL⟩ : ∃ dl, Hid (data.length = dl) := ⟨_, rfl⟩
  obtain ⟨ol, HOL⟩ : ∃ ol, Hid (own.length = ol) := ⟨_, rfl⟩
  obtain ⟨kl, HKL⟩ : ∃ kl, Hid (chunk.length = kl) := ⟨_, rfl⟩
  rw [HDL.out] at HDA hdl dl1 ⊢
  rw [HOL.out] at HOA hol ol1 ⊢
  rw [HKL.out] at HKA hkl kl1 ⊢
  obtain ⟨hv, HHV⟩ : ∃ hv, Hid (hvB dl ol D S = hv) := ⟨_, rfl⟩
  obtain ⟨w1, hw1, b1, s1, t0, t1, t2, t3, t4, t5⟩ := box_case w (.slice da dl dc) z (.slice a1 m1 c1) (.slice a2 m2 c2) (.slice a3 m3 c3) (.slice oa ol oc)
  have HB1 : Hid (Below w.heap.size w w1) := b1
  have HH : Hid (∀ w2, Below w.heap.size w w2 → Calls Try.prog 5 #[.agg #[.slice da dl dc, .int .i64 z, .slice a1 m1 c1, .slice a2 m2 c2, .slice a3 m3 c3, .slice oa ol oc]] w2 fun e w' => e = .returned (.bool hv) ∧ Below w2.heap.size w2 w') := fun w2 h => by
    have := heavy_any D S da dl dc oa ol oc (.slice a1 m1 c1) (.slice a2 m2 c2) a3 m3 c3 z w2 (HD.out.below h) (HS.out.below h)
    rwa [HHV.out] at this
  have HT1 : Hid (Cs6 w1 w.heap.size (.slice da dl dc) (.int .i64 z) (.slice a1 m1 c1) (.slice a2 m2 c2) (.slice a3 m3 c3) (.slice oa ol oc)) := ⟨t0, t1, t2, t3, t4, t5⟩
  unfold caseV
  clear hD hS hC b1 s1
  have HH1 : Hid _ := HH.out w1 HB1.out
  cases hv with
  | true =>
    go_enter Try.func3, Try.ntmps3
    go_wp2_with (first
      | (have hg := HB2; clear hg; go_at_call 6; refine (lives13_any _).mono ?_; rintro e w3 ⟨rfl, hb3⟩; have HB3 : Hid (Below w.heap.size w w3) := HB2.out.trans (hb3.mono HB2.out.size); clear hb3)
      | (go_at_call 5; refine Calls.mono HH1.out ?_; rintro e w2 ⟨rfl, hb2⟩; have HB2 : Hid (Below w.heap.size w w2) := HB1.out.trans (hb2.mono HB1.out.size); clear hb2))
    go_ret
    exact ⟨rfl, HB3.out⟩
  | false =>
    have hhv := HHV.out
    simp only [hvB, Bool.or_eq_false_iff, decide_eq_false_iff_not] at hhv
    obtain ⟨⟨⟨hh1, hh2⟩, hh3⟩, hh4⟩ := hhv
    by_cases hkc : 10000 < kl
    · have d1 : decide (10000 < (kl : Int)) = true := by simp; omega
      clear hkc hh1 hh2 hh3 hh4
      go_enter Try.func3, Try.ntmps3
      go_wp2_with (first
        | (have hg := HB2; clear hg; go_at_call 6; refine (lives13_any _).mono ?_; rintro e w3 ⟨rfl, hb3⟩; have HB3 : Hid (Below w.heap.size w w3) := HB2.out.trans (hb3.mono HB2.out.size); clear hb3)
        | (go_at_call 5; refine Calls.mono HH1.out ?_; rintro e w2 ⟨rfl, hb2⟩; have HB2 : Hid (Below w.heap.size w w2) := HB1.out.trans (hb2.mono HB1.out.size); clear hb2))
      go_ret
      exact ⟨rfl, HB3.out⟩
    have d1 : decide (10000 < (kl : Int)) = false := by simp; omega
    obtain ⟨ce, HCE⟩ : ∃ ce, Hid (cutE dl z D S C ol = ce) := ⟨_, rfl⟩
    have HC0 : Hid (∀ w2, Below w.heap.size w w2 → Calls Try.prog 7 #[.slice da dl dc, .int .i64 z, .slice a1 m1 c1, .slice a2 m2 c2, .slice a3 m3 c3, .slice oa ol oc] w2 (ByP w2 ce (cutR data own D S C z.toNat))) := fun w2 h => by
      have := cut_any data own D S C _ _ _ _ _ z w2 (HDA.out.below h) (by rw [HDL.out]; exact hdl) (HOA.out.below h) (by rw [HOL.out]; exact hol) (HD.out.below h) (HS.out.below h) (HC.out.below h) hz
      rwa [HDL.out, HOL.out, HCE.out] at this
    by_cases hce : ce = 0
    · subst hce
      obtain ⟨R, n, hR, hn, hn6, hpe, hpd, hall⟩ := back_plain (data := data) (own := own) (chunk := []) (D := D) (S := S) (C := C) (z := z) (by rw [HDL.out, HOL.out]; exact HCE.out)
      have HC1 : Hid (∀ w2, Below w.heap.size w w2 → Calls Try.prog 7 #[.slice da dl dc, .int .i64 z, .slice a1 m1 c1, .slice a2 m2 c2, .slice a3 m3 c3, .slice oa ol oc] w2 (OkB w2 n R)) := fun w2 h => (HC0.out w2 h).mono fun e w' h9 => okB_of (by rw [← hR]; exact h9) hn
      rw [HDL.out] at hpe
      have HPA : Hid (∀ (w2 : World) (X : List Int) (v : Value), Below w.heap.size w w2 → Bs w2 v X → X.length = n → Calls Try.prog 8 #[.slice da dl dc, .int .i64 z, .slice a1 m1 c1, .slice a2 m2 c2, .slice a3 m3 c3, v] w2 (ByP w2 0 (pasR data X D S C z.toNat))) := fun w2 X v h hX hl => by
        have := paste_any data X D S C _ _ _ _ _ z w2 (HDA.out.below h) (by rw [HDL.out]; exact hdl) hX (by rw [hl]; omega) (HD.out.below h) (HS.out.below h) (HC.out.below h) hz
        rwa [HDL.out, hl, hpe] at this
      obtain ⟨i0, hi, hz0, hz1, hz2⟩ := info_parts Try.info5
      have HCUT : Hid (∀ (w2 : World) (X : List Int) (v : Value) (Q : List Int), Below w.heap.size w w2 → Bs w2 v X → X.length = dl → cutR X own D S C z.toNat = Q → Q.length = n → Calls Try.prog 7 #[v, .int .i64 z, .slice a1 m1 c1, .slice a2 m2 c2, .slice a3 m3 c3, .slice oa ol oc] w2 (OkB w2 n Q)) := fun w2 X v Q h hX hl hQ hQn => by
        have := cut_any X own D S C _ _ _ _ _ z w2 hX (by rw [hl]; exact hdl) (HOA.out.below h) (by rw [HOL.out]; exact hol) (HD.out.below h) (HS.out.below h) (HC.out.below h) hz
        rw [hl, HOL.out, HCE.out, hQ] at this
        exact this.mono fun e w' h9 => okB_of h9 hQn
      have HPAS : Hid (∀ (w2 : World) (Y X : List Int) (u v : Value) (P : List Int), Below w.heap.size w w2 → Bs w2 u Y → Y.length = dl → Bs w2 v X → X.length = n → pasR Y X D S C z.toNat = P → P.length = dl → Calls Try.prog 8 #[u, .int .i64 z, .slice a1 m1 c1, .slice a2 m2 c2, .slice a3 m3 c3, v] w2 (OkB w2 dl P)) := fun w2 Y X u v P h hY hl hX hXn hP hPn => by
        have := paste_any Y X D S C _ _ _ _ _ z w2 hY (by rw [hl]; exact hdl) hX (by rw [hXn]; omega) (HD.out.below h) (HS.out.below h) (HC.out.below h) hz
        rw [hl, hXn, hpe, hP] at this
        exact this.mono fun e w' h9 => okB_of h9 hPn
      have HALL : Hid _ := hall
      have HDATA : Hid (pasR data R D S C z.toNat = data) := hpd
      have HRN : Hid (R.length = n) := hn
      have hn0 : n ≤ 281474976710656 := by omega
      have HN6 : Hid (n ≤ 65536) := hn6
      clear hall hpd hn hpe hR hn6 hh1 hh2 hh3 hh4 hkc
      go_enter Try.func3, Try.ntmps3
      go_wp2_with fail
      clear t0 t1 t2 t3 t4 t5
      refine Calls.mono HH1.out ?_
      rintro e w2 ⟨rfl, hb2⟩
      have HB2 : Hid (Below w.heap.size w w2) := HB1.out.trans (hb2.mono HB1.out.size)
      have HT2 : Hid _ := cs_next hb2 HT1.out
      obtain ⟨t0, t1, t2, t3, t4, t5⟩ := HT2.out
      clear hb2
      go_wp2_with fail
      clear t0 t1 t2 t3 t4 t5
      refine Calls.mono (HC1.out w2 HB2.out) ?_
      rintro e w3 ⟨g3, cap3, rfl, hx3, hb3⟩
      have HX3 : Hid (Bs w3 (.slice (some ⟨g3, 0, none⟩) n cap3) R) := hx3
      have HN3 : Hid (Below w2.heap.size w2 w3) := hb3
      have HB3 : Hid (Below w.heap.size w w3) := HB2.out.trans (hb3.mono HB2.out.size)
      have HT3 : Hid _ := cs_next hb3 HT2.out
      obtain ⟨t0, t1, t2, t3, t4, t5⟩ := HT3.out
      clear hx3 hb3
      go_wp2_with fail
      clear t0 t1 t2 t3 t4 t5
      refine Calls.mono (HPAS.out w3 data R _ _ data HB3.out (HDA.out.below HB3.out) HDL.out HX3.out HRN.out HDATA.out HDL.out) ?_
      rintro e w4 ⟨g4, cap4, rfl, hx4, hb4⟩
      have HX4 : Hid (Bs w4 (.slice (some ⟨g4, 0, none⟩) dl cap4) data) := hx4
      have HN4 : Hid (Below w3.heap.size w3 w4) := hb4
      have HB4 : Hid (Below w.heap.size w w4) := HB3.out.trans (hb4.mono HB3.out.size)
      have HT4 : Hid _ := cs_next hb4 HT3.out
      obtain ⟨t0, t1, t2, t3, t4, t5⟩ := HT4.out
      have q1 := Bs.str (P := Try.prog) hx4 Try.underlying22 Try.underlying5 (dst := 9) Try.underlying9
      have q2 := Bs.str (P := Try.prog) hx4.drew Try.underlying22 Try.underlying5 (dst := 9) Try.underlying9
      have q3 := Bs.str (P := Try.prog) (HDA.out.below HB4.out) Try.underlying22 Try.underlying5 (dst := 9) Try.underlying9
      have q4 := Bs.str (P := Try.prog) (HDA.out.below HB4.out).drew Try.underlying22 Try.underlying5 (dst := 9) Try.underlying9
      clear hx4 hb4
      obtain ⟨W, HWE⟩ : ∃ W, Hid ((List.replicate n (0 : Int)).take 0 ++ (chunk.take n ++ (List.replicate n (0 : Int)).drop (0 + (chunk.take n).length)) = W) := ⟨_, rfl⟩
      have HWN : Hid (W.length = n) := by rw [Hid, ← HWE.out]; simp; omega
      go_wp2_with (first
        | (at_make; refine wpList_make_bytes _ rfl _ _ 22 rfl i0 Try.underlying22 hi hz0 hz1 hz2 _ _ _ _ n rfl rfl rfl rfl (by omega) ?_; intro w5 hr5 hg5; have HR5 : Hid (Row w5 w4.heap.size (List.replicate n 0) ∧ Below w4.heap.size w4 w5) := ⟨hr5, below_of_grown hg5⟩; clear hr5 hg5)
        | (refine wpList_copy_min rfl (.tmp 78) (.tmp 79) 22 rfl Try.underlying22 Try.size5 w4.heap.size 0 n n _ rfl _ rfl (List.replicate n 0) chunk (chunk.take n) rfl (fun _ => rfl) HR5.out.1 (HKA.out.below (HB4.out.trans (HR5.out.2.mono HB4.out.size))) (by simp; omega) W HWE.out w4.heap.size w4 HR5.out.2 (Nat.le_refl _) ?_; intro w6 hr6 hb6; have HR6 : Hid (Row w6 w4.heap.size W) := hr6; have HT6 : Hid _ := cs_next hb6 HT4.out; have HB6 : Hid (Below w.heap.size w w6) := HB4.out.trans (hb6.mono HB4.out.size); have HN6' : Hid (Below w4.heap.size w4 w6) := hb6; obtain ⟨s0, s1, s2, s3, s4, s5⟩ := HT6.out; clear hr6 hb6)
        | fail)
      clear t0 t1 t2 t3 t4 t5 q1 q2 q3 q4
      have t0 := s0
      have t1 := s1
      have t2 := s2
      have t3 := s3
      have t4 := s4
      have t5 := s5
      clear s0 s1 s2 s3 s4 s5
      obtain ⟨P, hP, hPl, Q, hQ, hQl, hV, hU⟩ := HALL.out W HWN.out
      have HWB : Hid (Bs w6 (.slice (some ⟨w4.heap.size, 0, none⟩) n n) W) := by
        have := HR6.out.whole
        rwa [HWN.out] at this
      have HPI : Hid (pasR data W D S C z.toNat = P ∧ P.length = dl ∧ cutR P own D S C z.toNat = Q ∧ Q.length = n ∧ pasR P R D S C z.toNat = data ∧ pasR data Q D S C z.toNat = P) := ⟨hP, by rw [hPl, HDL.out], hQ, hQl, hV, hU⟩
      clear hP hPl hQ hQl hV hU
      clear t0 t1 t2 t3 t4 t5
      refine Calls.mono (HPAS.out w6 data W _ _ P HB6.out (HDA.out.below HB6.out) HDL.out HWB.out HWN.out HPI.out.1 HPI.out.2.1) ?_
      rintro e w7 ⟨g7, cap7, rfl, hx7, hb7⟩
      have HX7 : Hid (Bs w7 (.slice (some ⟨g7, 0, none⟩) dl cap7) P) := hx7
      have HN7 : Hid (Below w6.heap.size w6 w7) := hb7
      have HB7 : Hid (Below w.heap.size w w7) := HB6.out.trans (hb7.mono HB6.out.size)
      have HT7 : Hid _ := cs_next hb7 HT6.out
      obtain ⟨t0, t1, t2, t3, t4, t5⟩ := HT7.out
      clear hx7 hb7
      go_wp2_with fail
      clear t0 t1 t2 t3 t4 t5
      refine Calls.mono (HCUT.out w7 P _ Q HB7.out HX7.out HPI.out.2.1 HPI.out.2.2.1 HPI.out.2.2.2.1) ?_
      rintro e w8 ⟨g8, cap8, rfl, hx8, hb8⟩
      have HX8 : Hid (Bs w8 (.slice (some ⟨g8, 0, none⟩) n cap8) Q) := hx8
      have HN8 : Hid (Below w7.heap.size w7 w8) := hb8
      have HB8 : Hid (Below w.heap.size w w8) := HB7.out.trans (hb8.mono HB7.out.size)
      have HT8 : Hid _ := cs_next hb8 HT7.out
      obtain ⟨t0, t1, t2, t3, t4, t5⟩ := HT8.out
      clear hx8 hb8
      go_wp2_with fail
      have HX3' : Hid (Bs w8 (.slice (some ⟨g3, 0, none⟩) n cap3) R) := ((((HX3.out.below HN4.out).below HN6'.out).below HN7.out).below HN8.out)
      clear t0 t1 t2 t3 t4 t5
      refine Calls.mono (HPAS.out w8 P R _ _ data HB8.out (HX7.out.below HN8.out) HPI.out.2.1 HX3'.out HRN.out HPI.out.2.2.2.2.1 HDL.out) ?_
      rintro e w9 ⟨g9, cap9, rfl, hx9, hb9⟩
      have HX9 : Hid (Bs w9 (.slice (some ⟨g9, 0, none⟩) dl cap9) data) := hx9
      have HN9 : Hid (Below w8.heap.size w8 w9) := hb9
      have HB9 : Hid (Below w.heap.size w w9) := HB8.out.trans (hb9.mono HB8.out.size)
      have HT9 : Hid _ := cs_next hb9 HT8.out
      obtain ⟨t0, t1, t2, t3, t4, t5⟩ := HT9.out
      clear hx9 hb9
      go_wp2_with fail
      clear t0 t1 t2 t3 t4 t5
      refine Calls.mono (HPAS.out w9 data Q _ _ P HB9.out (HDA.out.below HB9.out) HDL.out (HX8.out.below HN9.out) HPI.out.2.2.2.1 HPI.out.2.2.2.2.2 HPI.out.2.1) ?_
      rintro e w10 ⟨g10, cap10, rfl, hx10, hb10⟩
      have HX10 : Hid (Bs w10 (.slice (some ⟨g10, 0, none⟩) dl cap10) P) := hx10
      have HN10 : Hid (Below w9.heap.size w9 w10) := hb10
      have HB10 : Hid (Below w.heap.size w w10) := HB9.out.trans (hb10.mono HB9.out.size)
      have HT10 : Hid _ := cs_next hb10 HT9.out
      obtain ⟨t0, t1, t2, t3, t4, t5⟩ := HT10.out
      have q1 := Bs.str (P := Try.prog) hx10 Try.underlying22 Try.underlying5 (dst := 9) Try.underlying9
      have q2 := Bs.str (P := Try.prog) hx10.drew Try.underlying22 Try.underlying5 (dst := 9) Try.underlying9
      have q3 := Bs.str (P := Try.prog) (HDA.out.below HB10.out) Try.underlying22 Try.underlying5 (dst := 9) Try.underlying9
      have q4 := Bs.str (P := Try.prog) (HDA.out.below HB10.out).drew Try.underlying22 Try.underlying5 (dst := 9) Try.underlying9
      have q5 := Bs.str (P := Try.prog) (HX9.out.below hb10) Try.underlying22 Try.underlying5 (dst := 9) Try.underlying9
      have q6 := Bs.str (P := Try.prog) (HX9.out.below hb10).drew Try.underlying22 Try.underlying5 (dst := 9) Try.underlying9
      have q7 := Bs.str (P := Try.prog) (((HX7.out.below HN8.out).below HN9.out).below hb10) Try.underlying22 Try.underlying5 (dst := 9) Try.underlying9
      have q8 := Bs.str (P := Try.prog) (((HX7.out.below HN8.out).below HN9.out).below hb10).drew Try.underlying22 Try.underlying5 (dst := 9) Try.underlying9
      clear hx10 hb10
      go_wp2_with (go_at_call 6; refine (lives13_any _).mono ?_; rintro e w11 ⟨rfl, hb11⟩; have HB11 : Hid (Below w.heap.size w w11) := HB10.out.trans (hb11.mono HB10.out.size); clear hb11)
      go_ret
      exact ⟨rfl, HB11.out⟩
    · have HCNO : Hid (ce ≠ 0) := hce
      have b2 : (ce != 0) = true := by simpa using hce
      clear hce hh1 hh2 hh3 hh4 hkc
      go_enter Try.func3, Try.ntmps3
      go_wp2_with fail
      clear t0 t1 t2 t3 t4 t5
      refine Calls.mono HH1.out ?_
      rintro e w2 ⟨rfl, hb2⟩
      have HB2 : Hid (Below w.heap.size w w2) := HB1.out.trans (hb2.mono HB1.out.size)
      have HT2 : Hid _ := cs_next hb2 HT1.out
      obtain ⟨t0, t1, t2, t3, t4, t5⟩ := HT2.out
      clear hb2
      go_wp2_with fail
      clear t0 t1 t2 t3 t4 t5
      refine Calls.mono (HC0.out w2 HB2.out) ?_
      rintro e w3 ⟨v, rfl, hb3, hv, _⟩
      obtain rfl := hv HCNO.out
      have HB3 : Hid (Below w.heap.size w w3) := HB2.out.trans (hb3.mono HB2.out.size)
      clear hb3 hv
      go_wp2_with (go_at_call 6; refine (lives13_any _).mono ?_; rintro e w11 ⟨rfl, hb11⟩; have HB11 : Hid (Below w.heap.size w w11) := HB3.out.trans (hb11.mono HB3.out.size); clear hb11)
      go_ret
      exact ⟨rfl, HB11.out⟩
end Go.Proofs.Ytneegijbbbebkab
