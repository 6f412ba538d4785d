/-
  The walk of StoreReplays: what stood there at first, with all raw writes laid down in order, is the file.
-/
import Derived.Test.YtkdmcdkjfkllkaaReplayMath
import Derived.Test.YtkdmcdkjfkllkaaRefFile
import Derived.Test.YtkdmcdkjfkllkaaReadsWalk
import Derived.Test.YtkdmcdkjfkllkaaFrameA
import Derived.Deep.CutBlock
namespace Go.Proofs.Ytkdmcdkjfkllkaa
open Go.RowKit
set_option linter.unusedVariables false

theorem wf_i64 {n : Int} (h : (Lit.int .i64 n).wf = true) : -9223372036854775808 ≤ n ∧ n ≤ 9223372036854775807 := bounds_i64 h

set_option maxRecDepth 100000 in
set_option maxHeartbeats 16000000 in
theorem storeReplays_walk (v0 : Value) (l0 : List Int) (v1 : Value) (qs : List ActV) (w : World) (b0 : Bs w v0 l0) (y0 : Byt l0) (z0 : l0.length ≤ 140737488351232) (b1 : As w v1 qs) :
    Calls Try.prog 7 #[v0, v1] w fun e w' => e = .returned (.bool true) ∧ Below w.heap.size w w' := by
  obtain ⟨i0, hi, hz0, hz1, hz2⟩ := info_parts Try.info5
  have HB0 : Hid (Bs w v0 l0) := b0
  obtain ⟨ao0, cap0, rfl, hc0, _⟩ := b0
  obtain ⟨ao1, cap1, rfl, hc1, hcm, hq⟩ := b1
  have HQ : Hid (∀ i a, qs[i]? = some a → a.ok w ∧ ∃ g o, ao1 = some ⟨g, o, none⟩ ∧ w.cell? ⟨g, o + i * 4, none⟩ = some (.int .i64 a.ki) ∧ w.cell? ⟨g, o + i * 4 + 1, none⟩ = some (.int .i64 a.pl) ∧ w.cell? ⟨g, o + i * 4 + 2, none⟩ = some (.int .i64 a.n) ∧ w.cell? ⟨g, o + i * 4 + 3, none⟩ = some a.v) := hq
  clear hq
  obtain ⟨n, Hn⟩ : ∃ n, Hid (l0.length = n) := ⟨_, rfl⟩
  obtain ⟨NQ, HNQ⟩ : ∃ NQ, Hid (qs.length = NQ) := ⟨_, rfl⟩
  rw [Hn.out] at HB0 hc0 z0 ⊢
  rw [HNQ.out] at hc1 ⊢
  have hcm' : cap1 ≤ 9223372036854775807 := by unfold maxLen at hcm; omega
  clear hcm
  clear y0
  by_cases hbig : (4194304 : Int) < (n : Int)
  · have H1 : Hid ((4194304 : Int) < 0 ∨ (4194304 : Int) < 4194304 ∨ (4194304 : Int) < (n : Int)) := .inr (.inr hbig)
    go_enter Try.func7, Try.ntmps7
    go_wp2_with (first | (go_at_call 9; refine (of_none _ _ _ _ _ (by exact H1.out)).mono ?_; rintro e w4 ⟨rfl, hw4⟩; obtain rfl := hw4.symm) | (go_at_call 15; refine (lives_any _).mono ?_; rintro e w3 ⟨rfl, hb3⟩))
    go_ret
    exact ⟨rfl, hb3⟩
  go_enter Try.func7, Try.ntmps7
  go_wp2_with fail
  refine (of_some _ l0 4194304 w HB0.out (by omega) (by omega) (by rw [Hn.out]; omega)).mono ?_
  rintro e w3 ⟨p, vb3, rfl, hp3, hb3⟩
  have HP3 : Hid (PF w3 w.heap.size p (newM l0 4194304) vb3 (.slice none 0 0) []) := hp3
  have HB3 : Hid (Below w.heap.size w w3) := hb3
  clear hp3 hb3
  go_upto_block 0 with fail
  go_cut [6] (fun i wc => (∃ z, i = z) ∧ ∃ (F : Mdl) (vb vr : Value) (rv : List RawV), PF wc w.heap.size p F vb vr rv ∧ Below w.heap.size w wc ∧ Made l0 F ∧ F.rs.length ≤ 200000)
  case first =>
    rename_i K1 a3 K0 a2 J K2 a1 a0
    clear a3 a2
    go_wp2_with fail
    go_loopw [6] (fun i wr => ∃ (k : Nat) (F : Mdl) (vb vr : Value) (rv : List RawV), k ≤ NQ ∧ k ≤ 40 ∧ i = .int .i64 (k : Int) ∧ PF wr w.heap.size p F vb vr rv ∧ Below w.heap.size w wr ∧ Made l0 F ∧ F.rs.length ≤ 5000 * k) (fun i _ => 40 - (intOf i).toNat)
    case atStart => exact ⟨0, newM l0 4194304, vb3, _, [], Nat.zero_le _, Nat.zero_le _, rfl, HP3.out, HB3.out, Made.start _ _, by simp [newM]⟩
    case round =>
      obtain ⟨k, F, vb, vr, rv, hk, hk40, rfl, hpf, hbr, hmd, hrc⟩ := hrel
      have HP : Hid (PF wr w.heap.size p F vb vr rv) := hpf
      have HBR : Hid (Below w.heap.size w wr) := hbr
      have HMD : Hid (Made l0 F) := hmd
      have HRC : Hid (F.rs.length ≤ 5000 * k) := hrc
      clear hpf hbr hmd hrc
      by_cases hlt : k < NQ ∧ k < 40
      · obtain ⟨hlt1, hlt2⟩ := hlt
        obtain ⟨a, ha⟩ : ∃ a, qs[k]? = some a := ⟨qs[k]'(by rw [HNQ.out]; exact hlt1), List.getElem?_eq_getElem _⟩
        obtain ⟨hok, g, o, rfl, c0, c1, c2, c3⟩ := HQ.out k a ha
        have HCL : Hid (∀ w', Below w.heap.size w w' → w'.cell? ⟨g, o + k * 4, none⟩ = some (.int .i64 a.ki) ∧ w'.cell? ⟨g, o + k * 4 + 1, none⟩ = some (.int .i64 a.pl) ∧ w'.cell? ⟨g, o + k * 4 + 2, none⟩ = some (.int .i64 a.n) ∧ w'.cell? ⟨g, o + k * 4 + 3, none⟩ = some a.v ∧ Below w.heap.size w w') := fun w' hb => ⟨cell_later hb c0, cell_later hb c1, cell_later hb c2, cell_later hb c3, hb⟩
        have HBS : Hid (Bs w a.v a.l) := hok.bs
        have hwn := wf_i64 hok.wn
        have hwp := wf_i64 hok.wpl
        have hml := hok.len
        have hml2 : a.l.length ≤ 9223372036854775807 := by unfold maxLen at hml; omega
        clear hml
        obtain ⟨av, hav⟩ : ∃ av, a.v = av := ⟨_, rfl⟩
        obtain ⟨ki, hki⟩ : ∃ ki, a.ki = ki := ⟨_, rfl⟩
        obtain ⟨pl, hpl⟩ : ∃ pl, a.pl = pl := ⟨_, rfl⟩
        obtain ⟨an, han⟩ : ∃ an, a.n = an := ⟨_, rfl⟩
        obtain ⟨x, hx⟩ : ∃ x, a.l = x := ⟨_, rfl⟩
        rw [hav, hki, hpl, han] at HCL
        rw [hav, hx] at HBS
        rw [hpl] at hwp
        rw [han] at hwn
        rw [hx] at hml2
        clear hav hki hpl han hx c0 c1 c2 c3 hok ha
        have hbs := HBS.out
        obtain ⟨ax, cx, rfl, hcx, _⟩ := hbs
        obtain ⟨m, Hm⟩ : ∃ m, Hid (x.length = m) := ⟨_, rfl⟩
        rw [Hm.out] at HCL HBS hml2 hcx
        have hk0 : (0 : Int) ≤ (k : Int) := by omega
        have hk1 : (k : Int) < (NQ : Int) := by omega
        obtain ⟨d0, d1, d2, d3, _⟩ := HCL.out _ HBR.out
        by_cases h2 : ki = 2
        · subst h2
          by_cases hneg : an < 0
          · go_wp2_with (go_at_call 22; refine (cut_neg HP.out _ hneg).mono ?_; rintro e w4 ⟨rfl, hw4⟩; obtain rfl := hw4.symm)
            go_roundw
            case rel => exact ⟨k + 1, F, vb, vr, rv, by omega, by omega, by go_num, HP.out, HBR.out, HMD.out, by have := HRC.out; omega⟩
            case measure => simp [intOf]; omega
          · go_wp2_with (go_at_call 22; refine (cut_any HP.out _ (by omega) (by omega)).mono ?_; rintro e w4 ⟨rfl, hp4, hc4⟩; have HP4 : Hid (PF w4 w.heap.size p { F with pl := true, left := an } vb vr rv) := hp4; have HB4 : Hid (Below w.heap.size w w4) := HBR.out.trans (hc4.below (fun k hk => by have hk' : k = p := hk; rw [hk']; exact hp4.hold.bp) HBR.out.size); clear hp4 hc4)
            go_roundw
            case rel => exact ⟨k + 1, _, vb, vr, rv, by omega, by omega, by go_num, HP4.out, HB4.out, HMD.out.turn rfl rfl, by have := HRC.out; show F.rs.length ≤ _; omega⟩
            case measure => simp [intOf]; omega
        · have h2b : (ki == 2) = false := by simp [h2]
          by_cases hlen : (m : Int) ≤ 5000
          · have HW : Hid (∀ w', Below w.heap.size w w' → Below wr.heap.size wr w' → Calls Try.prog 18 #[.pointer (some ⟨p, 0, none⟩), .int .i64 pl, .slice ax m cx] w' fun e w2 => ∃ vb' vr' rv', e = .returned (.int .i64 (wrM F pl x).1) ∧ PF w2 w.heap.size p (wrM F pl x).2 vb' vr' rv' ∧ Below w.heap.size w w2) := fun w' hb hb2 => by
              have hpw := HP.out.below hb2
              refine (write_any hpw hb.size pl x _ (HBS.out.below hb) (alien_old hpw hb HBS.out) (by have := HRC.out; rw [HP.out.rs, plain_length] at this; omega) (by rw [Hm.out]; omega) (by omega)).mono ?_
              rintro e w2 ⟨vb', vr', rv', rfl, h1, h3⟩
              exact ⟨vb', vr', rv', rfl, h1, hb.trans (h3.below hpw hb.size)⟩
            have HD : Hid (Below w.heap.size w wr.drew) := HBR.out.drew
            have HD2 : Hid (Below wr.heap.size wr wr.drew) := (Below.refl _ _).drew
            obtain ⟨e0, Hrs⟩ : ∃ e0, Hid ((wrM F pl x).1 = e0) := ⟨_, rfl⟩
            rw [Hrs.out] at HW
            go_wp2_with fail
            go_region_held (fun w' => w'.cell? ⟨g, o + k * 4, none⟩ = some (.int .i64 ki) ∧ w'.cell? ⟨g, o + k * 4 + 1, none⟩ = some (.int .i64 pl) ∧ w'.cell? ⟨g, o + k * 4 + 2, none⟩ = some (.int .i64 an) ∧ w'.cell? ⟨g, o + k * 4 + 3, none⟩ = some (.slice ax m cx) ∧ Below w.heap.size w w') (exact HCL.out _ (by first | exact HD.out | assumption)) ((go_at_call 18; refine (HW.out _ HD.out HD2.out).mono ?_; rintro e w4 ⟨vb4, vr4, rv4, rfl, hp4, hb4⟩))
            all_goals
              have HP4 : Hid (PF w4 w.heap.size p (wrM F pl x).2 vb4 vr4 rv4) := hp4
              have HB4 : Hid (Below w.heap.size w w4) := hb4
              clear hp4 hb4
              go_wp2
              go_roundw
              case rel => exact ⟨k + 1, _, vb4, vr4, rv4, by omega, by omega, by go_num, HP4.out, HB4.out, wrM_made HMD.out _ _, by have := HRC.out; have := wrM_count F pl x; rw [Hm.out] at this; omega⟩
              case measure => simp [intOf]; omega
          · go_wp2_with fail
            go_roundw
            case rel => exact ⟨k + 1, F, vb, vr, rv, by omega, by omega, by go_num, HP.out, HBR.out, HMD.out, by have := HRC.out; omega⟩
            case measure => simp [intOf]; omega
      · have hx : NQ ≤ k ∨ (k < NQ ∧ 40 ≤ k) := by omega
        clear hlt
        rcases hx with hx | ⟨hx, hx2⟩
        all_goals
          go_wp2
          go_meet
          exact ⟨⟨_, rfl⟩, F, vb, vr, rv, HP.out, HBR.out, HMD.out, by have := HRC.out; omega⟩
  case rest =>
    obtain ⟨_, F, vb, vr, rv, hpf, hbr, hmd, hrs⟩ := hcut
    have HP : Hid (PF wc w.heap.size p F vb vr rv) := hpf
    have HBR : Hid (Below w.heap.size w wc) := hbr
    have HMD : Hid (Made l0 F) := hmd
    clear hpf hbr hmd
    obtain ⟨M, HM⟩ : ∃ M, Hid (F.rs.length = M) := ⟨_, rfl⟩
    rw [HM.out] at hrs
    have HCR : Hid (∀ w', Below wc.heap.size wc w' → Calls Try.prog 27 #[.pointer (some ⟨p, 0, none⟩)] w' fun e w2 => ∃ ao cap rk, e = .returned (.slice ao M cap) ∧ Fresh w2 w'.heap.size (.slice ao M cap) rk ∧ plain rk = F.rs ∧ rk.length = M ∧ Below w'.heap.size w' w2) := fun w' hb => by
      have hrl : rv.length = M := by have := HM.out; rw [HP.out.rs, plain_length] at this; exact this
      refine (raws_any (HP.out.below hb) (by omega) (fun r hr => ?_)).mono ?_
      · have hm : (r.1, r.2.1) ∈ F.rs := by rw [HP.out.rs]; exact List.mem_map.2 ⟨r, hr, rfl⟩
        obtain ⟨j, hj, hj2⟩ := List.getElem_of_mem hm
        have := (HMD.out.each j _ (by rw [List.getElem?_eq_getElem hj, hj2])).2.2.2
        dsimp only at this
        omega
      · rintro e w2 ⟨ao, cap, rk, rfl, h1, h3, h4⟩
        have hkl : rk.length = M := by rw [← plain_length, h3]; exact HM.out
        rw [hkl] at h1 ⊢
        exact ⟨ao, cap, rk, rfl, h1, h3, hkl, h4⟩
    go_wp2_with (at_builtin; refine wpList_append_bytes _ rfl (.tmp 64) (.tmp 65) 22 rfl i0 Try.underlying22 hi hz0 hz1 hz2 wc.heap.size _ _ [] l0 rfl rfl (Own.empty _ _ (Nat.le_refl _)) ((HB0.out.below HBR.out).below ((Below.refl _ wc).alloc (Nat.le_refl _) _)) (by rw [Hn.out]; simp; omega) wc ((Below.refl _ wc).alloc (Nat.le_refl _) _) (by simp) ?_; intro ao4 cap4 w4 ho4 hb4 _ _; simp only [List.length_nil, Nat.zero_add, List.nil_append, Hn.out] at ho4; have HO4 : Hid (Own w4 wc.heap.size (.slice ao4 n cap4) l0) := ho4; have HB4 : Hid (Below wc.heap.size wc w4) := hb4; clear ho4 hb4; simp only [List.length_nil, Nat.zero_add, Hn.out])
    refine (HCR.out _ HB4.out).mono ?_
    rintro e w5 ⟨ao5, cap5, rk, rfl, hfr, hpl, hkl, hb5⟩
    have HFR : Hid (Fresh w5 w4.heap.size (.slice ao5 M cap5) rk) := hfr
    have HPL : Hid (plain rk = F.rs) := hpl
    have HKL : Hid (rk.length = M) := hkl
    have HO5 : Hid (Bs w5 (.slice ao4 n cap4) l0) := HO4.out.bs.below hb5
    have HB5 : Hid (Below wc.heap.size wc w5) := HB4.out.trans (hb5.mono HB4.out.size)
    clear hfr hpl hkl hb5 HCR
    go_wp2_with fail
    go_loopw [7, 9] (fun all i wr => ∃ k : Nat, k ≤ M ∧ i = .int .i64 (k : Int) ∧ Bs wr all (repl l0 (F.rs.take k)) ∧ Below w5.heap.size w5 wr) (fun _ i _ => M - (intOf i).toNat)
    case atStart => exact ⟨0, Nat.zero_le _, rfl, by simpa [repl] using HO5.out, Below.refl _ _⟩
    case round =>
      obtain ⟨k2, hk2, rfl, hall, hbr2⟩ := hrel
      have hall' := hall
      obtain ⟨aoA, capA, rfl, hcA, _⟩ := hall'
      obtain ⟨LL, HLL⟩ : ∃ LL, Hid ((repl l0 (F.rs.take k2)).length = LL) := ⟨_, rfl⟩
      have hLL : LL ≤ n + 16 * k2 := by
        have := repl_length l0 F HMD.out k2 (by rw [HM.out]; exact hk2)
        rw [HLL.out, Hn.out] at this
        exact this
      rw [HLL.out] at hall hcA ⊢
      have HAL : Hid (Bs wr (.slice aoA LL capA) (repl l0 (F.rs.take k2))) := hall
      have HBR2 : Hid (Below w5.heap.size w5 wr) := hbr2
      clear hall hbr2
      by_cases hlt : k2 < M
      · obtain ⟨x1, hx1⟩ : ∃ x, rk[k2]? = some x := ⟨rk[k2]'(by rw [HKL.out]; exact hlt), List.getElem?_eq_getElem _⟩
        have hF : F.rs[k2]? = some (x1.1, x1.2.1) := by rw [← HPL.out]; simp [plain, hx1]
        obtain ⟨e1, e2, e3, e4⟩ := HMD.out.each k2 _ hF
        obtain ⟨ao6, cap6, f1, f2, f3⟩ := row_open HFR.out.row HKL.out
        obtain ⟨g1, f4, d1, d2⟩ := f3 k2 x1 hx1
        subst f4
        injection f1 with f5 f6 f7
        subst f5
        subst f7
        have hb1 : Bs w5 x1.2.2 x1.2.1 := (HFR.out.inn x1 (List.mem_of_getElem? hx1)).bs
        obtain ⟨ra, rx, v1⟩ := x1
        dsimp only at d1 d2 hb1 e1 e2 e3 e4 hF
        obtain ⟨q, rfl⟩ : ∃ q : Nat, ra = (q : Int) := ⟨ra.toNat, by omega⟩
        rw [Int.toNat_natCast, HLL.out] at e2
        have HT1 : Hid (Bs w5 v1 rx) := hb1
        obtain ⟨a1, c1, rfl, hc1', _⟩ := hb1
        obtain ⟨m1, Hm1⟩ : ∃ m1, Hid (rx.length = m1) := ⟨_, rfl⟩
        rw [Hm1.out] at d2 HT1 e3 e4 hc1'
        have HE : Hid (repl l0 (F.rs.take (k2 + 1)) = layN (repl l0 (F.rs.take k2)) q rx) := by
          rw [Hid, repl_succ _ _ _ _ hF, Int.toNat_natCast]
        have HS : Hid (∀ w', Below w5.heap.size w5 w' → w'.cell? ⟨g1, k2 * 2, none⟩ = some (.int .i64 (q : Int)) ∧ w'.cell? ⟨g1, k2 * 2 + 1, none⟩ = some (.slice a1 m1 c1) ∧ Below w5.heap.size w5 w') := fun w' hb => ⟨cell_later hb d1, cell_later hb d2, hb⟩
        have HLY : Hid _ := refLay_any _ _ (repl l0 (F.rs.take k2)) rx q wr.drew HAL.out.drew ((HT1.out.below HBR2.out).drew) (by rw [HLL.out]; exact e2) (by rw [HLL.out, Hm1.out]; omega)
        have hbd : Below w5.heap.size w5 wr.drew := HBR2.out.drew
        obtain ⟨c6, c7, _⟩ := HS.out _ HBR2.out
        have hq0 : (0 : Int) ≤ (q : Int) := by omega
        have hq1 : (q : Int) ≤ (LL : Int) := by omega
        have hm0 : (1 : Int) ≤ (m1 : Int) := by omega
        have hm1 : (m1 : Int) ≤ 16 := by omega
        have hk0 : (0 : Int) ≤ (k2 : Int) := by omega
        have hk1 : (k2 : Int) < (M : Int) := by omega
        clear d1 d2 hx1 f2 f3 f6 hF e1
        go_wp2_with fail
        go_region_held (fun w' => w'.cell? ⟨g1, k2 * 2, none⟩ = some (.int .i64 (q : Int)) ∧ w'.cell? ⟨g1, k2 * 2 + 1, none⟩ = some (.slice a1 m1 c1) ∧ Below w5.heap.size w5 w') (exact HS.out _ (by assumption)) ((go_at_call 29; refine Calls.mono HLY.out ?_; rintro e w6 ⟨ao7, cap7, rfl, ho7, hb7⟩; have hb7w : Below w5.heap.size w5 w6 := hbd.trans (hb7.mono hbd.size)))
        all_goals
          have HO7 : Hid (Bs w6 (.slice ao7 (layN (repl l0 (F.rs.take k2)) q rx).length cap7) (layN (repl l0 (F.rs.take k2)) q rx)) := ho7.bs
          have HB7 : Hid (Below w5.heap.size w5 w6) := hb7w
          clear ho7 hb7 hb7w
          go_wp2
          go_roundw
          case rel => exact ⟨k2 + 1, by omega, by go_num, by rw [HE.out]; exact HO7.out, HB7.out⟩
          case measure => simp [intOf]; omega
      · obtain rfl : k2 = M := by omega
        have hE : repl l0 (F.rs.take k2) = F.bs := by rw [List.take_of_length_le (by rw [HM.out]; exact Nat.le_refl _)]; exact HMD.out.bs.symm
        rw [hE] at HAL
        have hsA := txt_of HAL.out
        unfold Txt at hsA
        have HBW : Hid (Below wc.heap.size wc wr) := HB5.out.trans (HBR2.out.mono HB5.out.size)
        have HBY : Hid _ := bytes_txt (HP.out.below HBW.out) _ rfl
        have hrd : Below wr.heap.size wr wr.drew := (Below.refl _ _).drew
        go_wp2_with fail
        go_region_with (first | (go_at_call 26; refine (HBY.out _ (by assumption)).mono ?_; rintro e w7 ⟨ao7, cap7, rfl, hs7, hd7, hp7, hz7⟩) | (go_at_call 15; refine (lives_any _).mono ?_; rintro e w9 ⟨rfl, hb9⟩))
        all_goals
          go_wp2
          go_ret
          exact ⟨rfl, HBR.out.trans ((HBW.out.trans ((hd7.trans (hb9.mono hd7.size)).mono HBW.out.size)).mono HBR.out.size)⟩
end Go.Proofs.Ytkdmcdkjfkllkaa
