/-
  The walk of StoreActs: whatever is written, read, cut, started and copied, bytes, recorded writes and errors are the document's.
-/
import Derived.Test.YtkdmcdkjfkllkaaActsMath
import Derived.Test.YtkdmcdkjfkllkaaReadsWalk
import Derived.Test.YtkdmcdkjfkllkaaReplayMath
import Derived.Test.YtkdmcdkjfkllkaaFrameA
import Derived.Deep.CutBlock
namespace Go.Proofs.Ytkdmcdkjfkllkaa
open Go.RowKit
set_option linter.unusedVariables false

def Short (F : Mdl) : Prop := ∀ x ∈ F.rs, x.2.length ≤ 16
theorem wrN_short : ∀ (m : Nat) (F : Mdl) (q : Nat) (x : List Int), Short F → Short (wrN m F q x).2
  | 0, F, q, x, h => by simpa [wrN] using h
  | m + 1, F, q, x, h => by
    rw [wrN]
    split
    · exact h
    · split
      · exact h
      · refine wrN_short m _ _ _ (fun r hr => ?_)
        have hr' : r ∈ F.rs ++ [((q : Int), x.take 16)] := hr
        rcases List.mem_append.1 hr' with h1 | h1
        · exact h r h1
        · simp at h1
          rw [h1]
          simp [List.length_take]
          omega
theorem wrM_short {F : Mdl} (h : Short F) (at' : Int) (x : List Int) : Short (wrM F at' x).2 := by
  unfold wrM
  split
  · exact wrN_short _ _ _ _ h
  · exact h

/-- The four files behind so many acts. -/
def Acted (w : World) (k : Nat) (fv rv gv sv : Value) (W : World) : Prop :=
  ∃ (F G : Mdl) (f g r s : Loc), fv = .pointer (some ⟨f.p, 0, none⟩) ∧ rv = .pointer (some ⟨r.p, 0, none⟩) ∧ gv = .pointer (some ⟨g.p, 0, none⟩) ∧ sv = .pointer (some ⟨s.p, 0, none⟩) ∧
    St W w.heap.size F G F G f g r s ∧ Below w.heap.size w W ∧ F.rs.length ≤ 5000 * k ∧ G.rs.length ≤ 5000 * k ∧ Short F ∧ Short G
def ALoop (w : World) (NQ : Nat) (fv rv gv sv iv : Value) (W : World) : Prop := ∃ k : Nat, iv = .int .i64 (k : Int) ∧ k ≤ NQ ∧ k ≤ 40 ∧ Acted w k fv rv gv sv W

/-- The first of the four, each with a step of its own. -/
theorem St.self {W W' : World} {B : Nat} {Ff Fg Fr Fs F' : Mdl} {f g r s : Loc} (h : St W B Ff Fg Fr Fs f g r s) (hp : PF W' B f.p F' f.vb f.vr f.rv) (hc : Chg (fun k => k = f.p) W W') : St W' B F' Fg Fr Fs f g r s :=
  h.stepF hp (Moved.of_self _ _ _ _ hc)
theorem St.selfR {W W' : World} {B : Nat} {Ff Fg Fr Fs F' : Mdl} {f g r s : Loc} (h : St W B Ff Fg Fr Fs f g r s) (hp : RF W' B r.p F' r.vb r.vr r.rv) (hc : Chg (fun k => k = r.p) W W') : St W' B Ff Fg F' Fs f g r s :=
  h.stepR hp (Moved.of_self _ _ _ _ hc)
theorem count_of {rs : List (Int × List Int)} {rv : List RawV} (h : rs = plain rv) {n : Nat} (hn : rs.length ≤ n) : rv.length ≤ n := by rw [h, plain_length] at hn; exact hn

set_option maxRecDepth 100000 in
set_option maxHeartbeats 16000000 in
theorem storeActs_walk (v0 : Value) (l0 : List Int) (a1 : Int) (v2 : Value) (qs : List ActV) (w : World) (b0 : Bs w v0 l0) (y0 : Byt l0) (z0 : l0.length ≤ 140737488351232) (w1 : (Lit.int .i64 a1).wf = true) (b2 : As w v2 qs) :
    Calls Try.prog 4 #[v0, .int .i64 a1, v2] w fun e w' => e = .returned (.bool true) ∧ Below w.heap.size w w' := by
  obtain ⟨i0, hi, hz0, hz1, hz2⟩ := info_parts Try.info5
  have HB0 : Hid (Bs w v0 l0) := b0
  obtain ⟨ao0, cap0, rfl, hc0, _⟩ := b0
  obtain ⟨ao1, cap1, rfl, hc1, hcm, hq⟩ := b2
  have HQ : Hid (∀ i a, qs[i]? = some a → a.ok w ∧ ∃ g o, ao1 = some ⟨g, o, none⟩ ∧ w.cell? ⟨g, o + i * 4, none⟩ = some (.int .i64 a.ki) ∧ w.cell? ⟨g, o + i * 4 + 1, none⟩ = some (.int .i64 a.pl) ∧ w.cell? ⟨g, o + i * 4 + 2, none⟩ = some (.int .i64 a.n) ∧ w.cell? ⟨g, o + i * 4 + 3, none⟩ = some a.v) := hq
  clear hq
  obtain ⟨n, Hn⟩ : ∃ n, Hid (l0.length = n) := ⟨_, rfl⟩
  obtain ⟨NQ, HNQ⟩ : ∃ NQ, Hid (qs.length = NQ) := ⟨_, rfl⟩
  rw [Hn.out] at HB0 hc0 z0 ⊢
  rw [HNQ.out] at hc1 ⊢
  have hcm' : cap1 ≤ 9223372036854775807 := by unfold maxLen at hcm; omega
  clear hcm y0
  by_cases hbad : a1 < 0 ∨ 4194304 < a1 ∨ a1 < (n : Int)
  · have H1 : Hid (a1 < 0 ∨ 4194304 < a1 ∨ a1 < (n : Int)) := hbad
    clear hbad
    go_enter Try.func4, Try.ntmps4
    go_wp2_with (first | (go_at_call 9; refine (of_none _ _ _ _ _ (by exact H1.out)).mono ?_; rintro e w4 ⟨rfl, hw4⟩; obtain rfl := hw4.symm) | (go_at_call 10; refine (refOf_none _ _ _ _ _ (by exact H1.out)).mono ?_; rintro e w5 ⟨rfl, hw5⟩; obtain rfl := hw5.symm) | (go_at_call 15; refine (lives_any _).mono ?_; rintro e w3 ⟨rfl, hb3⟩))
    go_ret
    exact ⟨rfl, hb3⟩
  have hm0 : 0 ≤ a1 := by omega
  have hm1 : a1 ≤ 4194304 := by omega
  have hm2 : (n : Int) ≤ a1 := by omega
  clear hbad
  go_enter Try.func4, Try.ntmps4
  go_wp2_with fail
  refine (of_some _ l0 a1 w HB0.out hm0 hm1 (by rw [Hn.out]; exact hm2)).mono ?_
  rintro e w3 ⟨p, vb3, rfl, hp3, hb3⟩
  have HP3 : Hid (PF w3 w.heap.size p (newM l0 a1) vb3 (.slice none 0 0) []) := hp3
  have HB3 : Hid (Below w.heap.size w w3) := hb3
  clear hp3 hb3
  go_wp2_with fail
  refine (refOf_some _ l0 a1 w3 (HB0.out.below HB3.out) hm0 hm1 (by rw [Hn.out]; exact hm2)).mono ?_
  rintro e w4 ⟨r, rb4, rfl, hr4, hb4⟩
  have HR4 : Hid (RF w4 w3.heap.size r (newM l0 a1) rb4 (.slice none 0 0) []) := hr4
  have HP4 : Hid (PF w4 w.heap.size p (newM l0 a1) vb3 (.slice none 0 0) []) := HP3.out.below hb4
  have HB4 : Hid (Below w.heap.size w w4) := HB3.out.trans (hb4.mono HB3.out.size)
  have HC : Hid _ := copy_any HP4.out (by simp)
  have HS34 : Hid (w3.heap.size ≤ w4.heap.size) := hb4.size
  have HPL : Hid (∀ k, Foot p vb3 (.slice none 0 0) k → k < w3.heap.size) := fun k hk => (HP3.out.hold.foot k hk).2
  clear hr4 hb4 HP3
  go_wp2_with fail
  refine Calls.mono HC.out ?_
  rintro e w5 ⟨p2, vb5, vr5, rfl, hp5, hb5⟩
  clear HC
  have HR5 : Hid (RF w5 w3.heap.size r (newM l0 a1) rb4 (.slice none 0 0) []) := HR4.out.below hb5
  have HP5 : Hid (PF w5 w.heap.size p (newM l0 a1) vb3 (.slice none 0 0) []) := HP4.out.below hb5
  have HG5 : Hid (PF w5 w4.heap.size p2 (newM l0 a1) vb5 vr5 []) := hp5
  have HB5 : Hid (Below w.heap.size w w5) := HB4.out.trans (hb5.mono HB4.out.size)
  have HC : Hid _ := refCopy_any HR5.out (by simp)
  have HS5 : Hid (w4.heap.size ≤ w5.heap.size) := hb5.size
  clear hp5 hb5
  go_wp2_with fail
  refine Calls.mono HC.out ?_
  rintro e w6 ⟨s6, sb6, sr6, rfl, hs6, hb6⟩
  clear HC
  have HST : Hid (Acted w 0 (.pointer (some ⟨p, 0, none⟩)) (.pointer (some ⟨r, 0, none⟩)) (.pointer (some ⟨p2, 0, none⟩)) (.pointer (some ⟨s6, 0, none⟩)) w6) := by
    have hP6 := HP5.out.below hb6
    have hG6 := HG5.out.below hb6
    have hR6 := HR5.out.below hb6
    have h34 := HS34.out
    have nof : ∀ k, ¬ Inn [] k := fun k ⟨r, hr, _⟩ => by simp at hr
    have ff := HPL.out
    have fr : ∀ k, Foot r rb4 (.slice none 0 0) k → w3.heap.size ≤ k ∧ k < w4.heap.size := fun k hk => HR4.out.hold.foot k hk
    have fg : ∀ k, Foot p2 vb5 vr5 k → w4.heap.size ≤ k ∧ k < w5.heap.size := fun k hk => HG5.out.hold.foot k hk
    have fs : ∀ k, Foot s6 sb6 sr6 k → w5.heap.size ≤ k := fun k hk => (hs6.hold.foot k hk).1
    have h45 := HS5.out
    refine ⟨newM l0 a1, newM l0 a1, ⟨p, vb3, .slice none 0 0, []⟩, ⟨p2, vb5, vr5, []⟩, ⟨r, rb4, .slice none 0 0, []⟩, ⟨s6, sb6, sr6, []⟩, rfl, rfl, rfl, rfl, ⟨hP6, hG6.lower (by have := HB4.out.size; omega), hR6.lower HB3.out.size, hs6.lower HB5.out.size, ?_, ?_, ?_, ?_, ?_, ?_, ?_, ?_, ?_, ?_, ?_, ?_⟩, HB5.out.trans (hb6.mono HB5.out.size), by simp [newM], by simp [newM], fun x hx => by simp [newM] at hx, fun x hx => by simp [newM] at hx⟩
    · exact fun k hk => ⟨fun e => by have := ff k hk; have := fg k e; omega, nof k⟩
    · exact fun k hk => ⟨fun e => by have := fg k hk; have := ff k e; omega, nof k⟩
    · exact fun k hk => ⟨fun e => by have := ff k hk; have := fr k e; omega, nof k⟩
    · exact fun k hk => ⟨fun e => by have := fr k hk; have := ff k e; omega, nof k⟩
    · exact fun k hk => ⟨fun e => by have := ff k hk; have := fs k e; omega, nof k⟩
    · exact fun k hk => ⟨fun e => by have := fs k hk; have := ff k e; omega, nof k⟩
    · exact fun k hk => ⟨fun e => by have := fg k hk; have := fr k e; omega, nof k⟩
    · exact fun k hk => ⟨fun e => by have := fr k hk; have := fg k e; omega, nof k⟩
    · exact fun k hk => ⟨fun e => by have := fg k hk; have := fs k e; omega, nof k⟩
    · exact fun k hk => ⟨fun e => by have := fs k hk; have := fg k e; omega, nof k⟩
    · exact fun k hk => ⟨fun e => by have := fr k hk; have := fs k e; omega, nof k⟩
    · exact fun k hk => ⟨fun e => by have := fs k hk; have := fr k e; omega, nof k⟩
  clear hs6 hb6 HP4 HR4 HP5 HR5 HG5 HPL
  go_wp2_with fail
  go_loopw [7, 8, 9, 10, 11] (fun fv rv gv sv iv wr => ALoop w NQ fv rv gv sv iv wr) (fun _ _ _ _ i _ => 40 - (intOf i).toNat)
  case atStart => exact ⟨0, rfl, Nat.zero_le _, Nat.zero_le _, HST.out⟩
  case round =>
    obtain ⟨k, rfl, hk, hk40, F, G, f, g, r, s, rfl, rfl, rfl, rfl, hst, hbr, hrc, hgc, hsf, hsg⟩ := hrel
    have HS : Hid (St wr w.heap.size F G F G f g r s) := hst
    have HBR : Hid (Below w.heap.size w wr) := hbr
    have HRC : Hid (F.rs.length ≤ 5000 * k ∧ G.rs.length ≤ 5000 * k) := ⟨hrc, hgc⟩
    have HSH : Hid (Short F ∧ Short G) := ⟨hsf, hsg⟩
    clear hst hbr hrc hgc hsf hsg HST
    by_cases hlt : k < NQ ∧ k < 40
    · obtain ⟨hlt1, hlt2⟩ := hlt
      obtain ⟨a, ha⟩ : ∃ a, qs[k]? = some a := ⟨qs[k]'(by rw [HNQ.out]; exact hlt1), List.getElem?_eq_getElem _⟩
      obtain ⟨hok, ga, oa, rfl, c0, c1, c2, c3⟩ := HQ.out k a ha
      have d0 := cell_later HBR.out c0
      have d1 := cell_later HBR.out c1
      have d2 := cell_later HBR.out c2
      have d3 := cell_later HBR.out c3
      have HBS : Hid (Bs w a.v a.l) := hok.bs
      have hwn := bounds_i64 hok.wn
      have hwp := bounds_i64 hok.wpl
      obtain ⟨av, hav⟩ : ∃ av, a.v = av := ⟨_, rfl⟩
      obtain ⟨ki, hki⟩ : ∃ ki, a.ki = ki := ⟨_, rfl⟩
      obtain ⟨pl, hpl⟩ : ∃ pl, a.pl = pl := ⟨_, rfl⟩
      obtain ⟨an, han⟩ : ∃ an, a.n = an := ⟨_, rfl⟩
      obtain ⟨x, hx⟩ : ∃ x, a.l = x := ⟨_, rfl⟩
      have hml : a.l.length ≤ 9223372036854775807 := by have := hok.len; unfold maxLen at this; omega
      rw [hki] at d0
      rw [hpl] at d1 hwp
      rw [han] at d2 hwn
      rw [hav] at d3 HBS
      rw [hx] at HBS hml
      clear hav hki hpl han hx c0 c1 c2 c3 hok ha
      have hbs := HBS.out
      obtain ⟨ax, cx, rfl, hcx, _⟩ := hbs
      obtain ⟨m, Hm⟩ : ∃ m, Hid (x.length = m) := ⟨_, rfl⟩
      rw [Hm.out] at d3 HBS hml hcx
      have hk0 : (0 : Int) ≤ (k : Int) := by omega
      have hk1 : (k : Int) < (NQ : Int) := by omega
      have hk2 : ((k : Int) < 40) = True := by simp; omega
      have hk3 : (k < 40) = True := by simp; omega
      obtain ⟨W, HW⟩ : ∃ W, Hid (W = wr.alloc (.cells #[.int .i64 ki, .int .i64 pl, .int .i64 an, .slice ax m cx] 36)) := ⟨_, rfl⟩
      have HBW : Hid (Below wr.heap.size wr W) := by rw [Hid, HW.out]; exact (Below.refl _ wr).alloc (Nat.le_refl _) _
      have HCW : Hid (W.heap[wr.heap.size]? = some (.cells #[.int .i64 ki, .int .i64 pl, .int .i64 an, .slice ax m cx] 36 (0, 0))) := by rw [Hid, HW.out]; exact heap_alloc_new wr _
      have HSW : Hid (St W w.heap.size F G F G f g r s) := HS.out.below HBW.out
      have HBX : Hid (Below w.heap.size w W) := HBR.out.trans (HBW.out.mono HBR.out.size)
      go_upto_block 2 with fail
      go_cut [7, 8, 9, 10, 13, 14, 15, 16, 17, 18] (fun fv rv gv sv c13 c14 c15 c16 c17 c18 wc => Acted w (k + 1) fv rv gv sv wc)
      case first =>
        rename_i K1 a3 K0 a2 J K2 a1' a0'
        rw [← HW.out]
        have hacted : Acted w (k + 1) (.pointer (some ⟨f.p, 0, none⟩)) (.pointer (some ⟨r.p, 0, none⟩)) (.pointer (some ⟨g.p, 0, none⟩)) (.pointer (some ⟨s.p, 0, none⟩)) W :=
          ⟨F, G, f, g, r, s, rfl, rfl, rfl, rfl, HSW.out, HBX.out, by have := HRC.out; omega, by have := HRC.out; omega, HSH.out.1, HSH.out.2⟩
        have HAC : Hid _ := hacted
        clear hacted
        have e0 : W.cell? ⟨wr.heap.size, 0, none⟩ = some (.int .i64 ki) := by simp [World.cell?, HCW.out]
        have e1 : W.cell? ⟨wr.heap.size, 1, none⟩ = some (.int .i64 pl) := by simp [World.cell?, HCW.out]
        have e2 : W.cell? ⟨wr.heap.size, 2, none⟩ = some (.int .i64 an) := by simp [World.cell?, HCW.out]
        have e3 : W.cell? ⟨wr.heap.size, 3, none⟩ = some (.slice ax m cx) := by simp [World.cell?, HCW.out]
        have hfb : f.p < wr.heap.size := HS.out.hf.hold.plt
        have hrb : r.p < wr.heap.size := HS.out.hr.hold.plt
        clear d0 d1 d2 d3
        by_cases k0 : ki = 0
        · subst k0
          by_cases hbig : (5000 : Int) < (m : Int)
          · go_wp2_with (go_at_call 15; refine (lives_any _).mono ?_; rintro e w9 ⟨rfl, hb9⟩)
            go_ret
            exact ⟨rfl, HBX.out.trans (hb9.mono HBX.out.size)⟩
          have hWs : wr.heap.size < W.heap.size := (Array.getElem?_eq_some_iff.1 HCW.out).1
          have HXW : Hid (Bs W (.slice ax m cx) x) := HBS.out.below HBX.out
          go_upto_region 16 with (first | (at_builtin; refine wpList_append_bytes _ rfl (.tmp 60) (.tmp 62) 22 rfl i0 Try.underlying22 hi hz0 hz1 hz2 W.heap.size _ _ [] x rfl rfl (Own.empty _ _ (Nat.le_refl _)) (HXW.out.below ((Below.refl _ W).alloc (Nat.le_refl _) _)) (by rw [Hm.out]; simp; omega) W ((Below.refl _ W).alloc (Nat.le_refl _) _) (by simp) ?_; intro aoa capa w2 hoa hba _ _; simp only [List.length_nil, Nat.zero_add, List.nil_append, Hm.out] at hoa; have HOA : Hid (Own w2 W.heap.size (.slice aoa m capa) x) := hoa; have HBA : Hid (Below W.heap.size W w2) := hba; clear hoa hba; simp only [List.length_nil, Nat.zero_add, Hm.out]) | (at_builtin; refine wpList_append_bytes _ rfl (.tmp 63) (.tmp 64) 22 rfl i0 Try.underlying22 hi hz0 hz1 hz2 W.heap.size _ _ x [90] rfl rfl (HOA.out.alloc _) (Bs.one _ _) (by rw [Hm.out]; simp; omega) W (HBA.out.alloc HBA.out.size _) (by have := HBA.out.size; simp; omega) ?_; intro aoi capi w3 hoi hbi hgi hci; simp only [List.length_cons, List.length_nil, Nat.zero_add, Hm.out] at hoi hgi hci; have HOI : Hid (Own w3 W.heap.size (.slice aoi (m + 1) capi) (x ++ [90])) := hoi; have HBI : Hid (Below W.heap.size W w3) := hbi; have HGI : Hid (0 < m + 1 → ∃ g, aoi = some ⟨g, 0, none⟩ ∧ W.heap.size ≤ g ∧ g < w3.heap.size) := hgi; clear hoi hbi hgi; simp only [List.length_cons, List.length_nil, Nat.zero_add, Hm.out]))
          obtain ⟨gi, rfl, hg1, hg2⟩ := HGI.out (by omega)
          obtain ⟨z, Hz0⟩ : ∃ z, (x ++ [90]).getD 0 0 = z := ⟨_, rfl⟩
          have Hz : Hid ((x ++ [90]).getD 0 0 = z) := Hz0
          obtain ⟨e0', He0⟩ : ∃ e0', Hid ((wrM F pl x).1 = e0') := ⟨_, rfl⟩
          have HSI : Hid (St w3.drew w.heap.size F G F G f g r s) := (HSW.out.below HBI.out).below (Below.refl _ _).drew
          have HB3' : Hid (Below w.heap.size w w3.drew) := (HBX.out.trans (HBI.out.mono HBX.out.size)).drew
          have HO3 : Hid (Own w3.drew W.heap.size (.slice (some ⟨gi, 0, none⟩) (m + 1) capi) (x ++ [90])) := HOI.out.below (Below.refl _ _).drew
          have HIN : Hid (Bs w3.drew (.slice (some ⟨gi, 0, none⟩) m capi) x) := by
            have := bs_take HO3.out.bs m (by simp [Hm.out])
            rwa [List.take_left' Hm.out] at this
          have HFW : Hid (∀ k, f.foot k → k < wr.heap.size) := fun k hk => (HS.out.hf.hold.foot k hk).2
          have HRW : Hid (∀ k, r.foot k → k < wr.heap.size) := fun k hk => (HS.out.hr.hold.foot k hk).2
          have hcnt : f.rv.length ≤ 5000 * k := count_of HSI.out.hf.rs HRC.out.1
          have hcntr : r.rv.length ≤ 5000 * k := count_of HSI.out.hr.rs HRC.out.1
          have HC : Hid _ := write_any HSI.out.hf HB3'.out.size pl x _ HIN.out (fun _ k hk => by
            simp [Value.ownBlock] at hk
            subst hk
            exact ⟨fun hf => by have := HFW.out _ hf; omega, hg2⟩) (by omega) (by rw [Hm.out]; omega) (by omega)
          rw [He0.out] at HC
          have b3 : w3.heap[wr.heap.size]? = W.heap[wr.heap.size]? := HBI.out.block _ hWs
          have HBX3 : Hid (w3.drew.cell? ⟨wr.heap.size, 1, none⟩ = some (.int .i64 pl) ∧ w3.drew.cell? ⟨wr.heap.size, 3, none⟩ = some (.slice ax m cx)) := ⟨cell_later HBI.out.drew e1, cell_later HBI.out.drew e3⟩
          have HN4 : Hid (∀ w4 vb4 vr4 rv4, PF w4 w.heap.size f.p (wrM F pl x).2 vb4 vr4 rv4 → Moved w3.drew w4 f.p f.vb f.vr f.rv vb4 vr4 rv4 → St w4 w.heap.size (wrM F pl x).2 G F G ⟨f.p, vb4, vr4, rv4⟩ g r s ∧ Below w.heap.size w w4 ∧ (w4.cell? ⟨wr.heap.size, 1, none⟩ = some (.int .i64 pl) ∧ w4.cell? ⟨wr.heap.size, 3, none⟩ = some (.slice ax m cx)) ∧ Own w4 W.heap.size (.slice (some ⟨gi, 0, none⟩) (m + 1) capi) (x ++ [90]) ∧ St.Out ⟨f.p, vb4, vr4, rv4⟩ g r s W.heap.size w3.heap.size ∧ w3.heap.size ≤ w4.heap.size) := fun w4 vb4 vr4 rv4 hp4 hm4 => by
            have ho := HSW.out.out w3.heap.size
            have hbx : w4.heap[wr.heap.size]? = w3.drew.heap[wr.heap.size]? := hm4.chg.block _ (by show wr.heap.size < w3.heap.size; have := HBI.out.size; omega) (fun e => by have := HFW.out _ e; omega)
            refine ⟨HSI.out.stepF hp4 hm4, HB3'.out.trans (hm4.below HSI.out.hf HB3'.out.size), ⟨(World.cell?_of_block (a := ⟨wr.heap.size, 1, none⟩) hbx).trans HBX3.out.1, (World.cell?_of_block (a := ⟨wr.heap.size, 3, none⟩) hbx).trans HBX3.out.2⟩, owns_chg HO3.out hm4.chg (fun k hk e => ?_), ⟨moved_out hm4 ho.hf (Nat.le_refl _), ho.hg, ho.hr, ho.hs⟩, hm4.chg.size⟩
            simp [Value.ownBlock] at hk
            subst hk
            have := HFW.out _ e
            omega
          have HN5 : Hid (∀ w4 vb4 vr4 rv4 w5 rb5 rr5 rw5, St w4 w.heap.size (wrM F pl x).2 G F G ⟨f.p, vb4, vr4, rv4⟩ g r s ∧ Below w.heap.size w w4 ∧ (w4.cell? ⟨wr.heap.size, 1, none⟩ = some (.int .i64 pl) ∧ w4.cell? ⟨wr.heap.size, 3, none⟩ = some (.slice ax m cx)) ∧ Own w4 W.heap.size (.slice (some ⟨gi, 0, none⟩) (m + 1) capi) (x ++ [90]) ∧ St.Out ⟨f.p, vb4, vr4, rv4⟩ g r s W.heap.size w3.heap.size ∧ w3.heap.size ≤ w4.heap.size → RF w5 w.heap.size r.p (wrM F pl x).2 rb5 rr5 rw5 → Moved w4 w5 r.p r.vb r.vr r.rv rb5 rr5 rw5 →
              (w5.cell? ⟨wr.heap.size, 1, none⟩ = some (.int .i64 pl) ∧ w5.cell? ⟨wr.heap.size, 3, none⟩ = some (.slice ax m cx)) ∧ Sem.run Try.prog (convert 22 9 (.slice (some ⟨gi, 0, none⟩) (m + 1) capi)) w5 = .ok (.string (strOfNums (x ++ [90]))) w5 ∧ Sem.run Try.prog (convert 22 9 (.slice ax m cx)) w5 = .ok (.string (strOfNums x)) w5 ∧ w5.cell? ⟨gi, 0, none⟩ = some (.int .u8 z) ∧ w5.frozen? ⟨gi, 0, none⟩ = false ∧ Acted w (k + 1) (.pointer (some ⟨f.p, 0, none⟩)) (.pointer (some ⟨r.p, 0, none⟩)) (.pointer (some ⟨g.p, 0, none⟩)) (.pointer (some ⟨s.p, 0, none⟩)) (w5.setCell ⟨gi, 0, none⟩ (.int .u8 ((z + 1) % 256)))) := fun w4 vb4 vr4 rv4 w5 rb5 rr5 rw5 ⟨h1, h2, h3, h4, h5, h6⟩ hp5 hm5 => by
            have hbx : w5.heap[wr.heap.size]? = w4.heap[wr.heap.size]? := hm5.chg.block _ (World.block_lt_of_cell? w4 _ h3.1) (fun e => by have := HRW.out _ e; omega)
            have hst := h1.stepR hp5 hm5
            have hb5 : Below w.heap.size w w5 := h2.trans (hm5.chg.below (fun k hk => (h1.hr.hold.foot k hk).1) h2.size)
            have hoi : Own w5 W.heap.size (.slice (some ⟨gi, 0, none⟩) (m + 1) capi) (x ++ [90]) := owns_chg h4 hm5.chg (fun k hk e => by
              simp [Value.ownBlock] at hk
              subst hk
              have := HRW.out _ e
              omega)
            have hcf := hoi.at (by simp [Hm.out]) 0 (by omega)
            rw [Hz.out] at hcf
            have hout : St.Out ⟨f.p, vb4, vr4, rv4⟩ g ⟨r.p, rb5, rr5, rw5⟩ s W.heap.size w3.heap.size := ⟨h5.hf, h5.hg, moved_out hm5 h5.hr h6, h5.hs⟩
            obtain ⟨p1, p2', p3, p4⟩ := hout.ap (S := fun k => k = gi) (fun k hk => by have hk' : k = gi := hk; omega)
            have hfin := hst.chg (Chg.cell w5 gi 0 (.int .u8 ((z + 1) % 256))) p1 p2' p3 p4
            have hcM := wrM_count F pl x
            rw [Hm.out] at hcM
            have hr0 := HRC.out
            exact ⟨⟨(World.cell?_of_block (a := ⟨wr.heap.size, 1, none⟩) hbx).trans h3.1, (World.cell?_of_block (a := ⟨wr.heap.size, 3, none⟩) hbx).trans h3.2⟩, str_of hoi.bs, str_of (HBS.out.below hb5), hcf.1, hcf.2,
              (wrM F pl x).2, G, ⟨f.p, vb4, vr4, rv4⟩, g, ⟨r.p, rb5, rr5, rw5⟩, s, rfl, rfl, rfl, rfl, hfin, hb5.setCell (p := ⟨gi, 0, none⟩) (by show w.heap.size ≤ gi; have := HBX.out.size; omega) _, by omega, by omega, wrM_short HSH.out.1 pl x, HSH.out.2⟩
          have HRC5 : Hid (∀ w4 vb4 vr4 rv4, St w4 w.heap.size (wrM F pl x).2 G F G ⟨f.p, vb4, vr4, rv4⟩ g r s ∧ Below w.heap.size w w4 ∧ (w4.cell? ⟨wr.heap.size, 1, none⟩ = some (.int .i64 pl) ∧ w4.cell? ⟨wr.heap.size, 3, none⟩ = some (.slice ax m cx)) ∧ Own w4 W.heap.size (.slice (some ⟨gi, 0, none⟩) (m + 1) capi) (x ++ [90]) ∧ St.Out ⟨f.p, vb4, vr4, rv4⟩ g r s W.heap.size w3.heap.size ∧ w3.heap.size ≤ w4.heap.size → Calls Try.prog 19 #[.pointer (some ⟨r.p, 0, none⟩), .int .i64 pl, .slice ax m cx] w4 fun e w' => e = .returned (.int .i64 e0') ∧ ∃ vb' vr' rv', RF w' w.heap.size r.p (wrM F pl x).2 vb' vr' rv' ∧ Moved w4 w' r.p r.vb r.vr r.rv vb' vr' rv') := fun w4 vb4 vr4 rv4 ⟨h1, h2, h3, h4, h5, h6⟩ => by
            have := refWrite_any h1.hr h2.size pl x _ (HBS.out.below h2) (fun h0 k hk => by
              obtain ⟨b, off, cap, q1, hc, hcell⟩ := HBS.out.opened h0
              injection q1 with q2 q3 q4
              subst q2
              simp [Value.ownBlock] at hk
              subst hk
              have h7 := World.block_lt_of_cell? w _ (hcell 0 h0)
              dsimp only at h7
              exact ⟨fun hf => by have := (h1.hr.hold.foot _ hf).1; omega, Nat.lt_of_lt_of_le h7 h2.size⟩) (by omega) (by rw [Hm.out]; omega) (by omega)
            rwa [He0.out] at this
          have hadd : ∀ w', (Op.stringOp .add (strOfNums x) ⟨#[90]⟩).run Try.prog w' = .ok (.string (strOfNums (x ++ [90]))) w' := fun w' => str_add x 90 ⟨#[90]⟩ rfl (by rw [Hm.out]; omega) w'
          have hmc : (m : Int) ≤ (capi : Int) := by omega
          have hm00 : (0 : Int) ≤ (m : Int) := by omega
          clear Hz0 b3 HGI HOA HBA HXW
          go_region_held (fun w' => w'.cell? ⟨wr.heap.size, 1, none⟩ = some (.int .i64 pl) ∧ w'.cell? ⟨wr.heap.size, 3, none⟩ = some (.slice ax m cx)) (first | assumption | exact HBX3.out) (first | (go_at_call 18; refine Calls.mono HC.out ?_; rintro e w4 ⟨vb4, vr4, rv4, rfl, hp4, hm4⟩; have HS4 : Hid _ := HN4.out w4 vb4 vr4 rv4 hp4 hm4; have hq4 := HS4.out.2.2.1; have HC5 : Hid _ := HRC5.out w4 vb4 vr4 rv4 HS4.out; clear hp4 hm4) | (go_at_call 19; refine Calls.mono HC5.out ?_; rintro e w5 ⟨rfl, rb5, rr5, rw5, hp5, hm5⟩; obtain ⟨hq5, hs5, hs6, hc5, hf5, ha5⟩ := HN5.out w4 vb4 vr4 rv4 w5 rb5 rr5 rw5 HS4.out hp5 hm5; have HA5 : Hid _ := ha5; clear hp5 hm5 ha5))
          all_goals
            go_wp2
            go_meet
            exact HA5.out
        have k0' : (ki == 0) = false := by simp [k0]
        by_cases k1 : ki = 1
        · subst k1
          obtain ⟨L1, HL1⟩ : ∃ L1, Hid ((rdList F pl an).length = L1) := ⟨_, rfl⟩
          obtain ⟨er, Her⟩ : ∃ er, Hid (rdErr F pl an = er) := ⟨_, rfl⟩
          have HC : Hid _ := read_any HSW.out.hf pl an (by omega) (by omega)
          rw [HL1.out, Her.out] at HC
          have hL1 : L1 ≤ 4194304 := by
            have := HL1.out
            have hle : (rdList F pl an).length ≤ F.bs.length := by
              unfold rdList
              split
              · rw [List.length_take, List.length_drop]; omega
              · simp
            obtain ⟨f1, f2, f3, f4, f5⟩ := HSW.out.hf.fit
            omega
          go_wp2_with fail
          refine Calls.mono HC.out ?_
          rintro e W2 ⟨aox, capx, rfl, hox, hb2⟩
          clear HC
          have q1 := cell_later hb2 e1
          have q2 := cell_later hb2 e2
          have HOX : Hid (Own W2 W.heap.size (.slice aox L1 capx) (rdList F pl an)) := hox
          have HB2 : Hid (Below W.heap.size W W2) := hb2
          have HC : Hid _ := refRead_any (HSW.out.below hb2).hr pl an (by omega) (by omega)
          rw [HL1.out, Her.out] at HC
          clear hox hb2
          go_wp2_with fail
          refine Calls.mono HC.out ?_
          rintro e W3 ⟨aoy, capy, rfl, hoy, hb3⟩
          clear HC
          have HB3 : Hid (Below W.heap.size W W3) := HB2.out.trans (hb3.mono HB2.out.size)
          have HO3 : Hid (Own W3 W.heap.size (.slice aox L1 capx) (rdList F pl an)) := HOX.out.below hb3
          have hsx := str_of HO3.out.bs
          have hsy := str_of hoy
          have HLT : Hid (∀ k, (Value.slice aox L1 capx).ownBlock = some k → W.heap.size ≤ k ∧ k < W3.heap.size) := fun k hk => World.ownsRow.lt HO3.out k hk
          clear hoy hb3 q1 q2 HOX HB2
          generalize wr = wa at *
          go_wp2_with fail
          go_loopw [18] (fun i wr => ∃ (t : Nat) (T : List Int), t ≤ L1 ∧ i = .int .i64 (t : Int) ∧ Own wr W.heap.size (.slice aox L1 capx) T ∧ T.length = L1 ∧ W3.grownBy wr (Value.slice aox L1 capx).ownBlock) (fun i _ => L1 - (intOf i).toNat)
          case atStart => exact ⟨0, rdList F pl an, Nat.zero_le _, rfl, HO3.out, HL1.out, World.grownBy.refl _ _⟩
          case round =>
            obtain ⟨t, T, ht, rfl, hrr, hT, hgr⟩ := hrel
            have HT : Hid (T.length = L1) := hT
            have HRR : Hid (Own wr W.heap.size (.slice aox L1 capx) T) := hrr
            have HGR : Hid (W3.grownBy wr (Value.slice aox L1 capx).ownBlock) := hgr
            clear hsx hsy
            by_cases htl : t < L1
            · obtain ⟨ao', cap', q1, _, hgg⟩ := hrr.opened
              injection q1 with q2 q3 q4
              subst q2
              subst q4
              obtain ⟨gx, rfl, hg1, hg2⟩ := hgg (by rw [hT]; omega)
              obtain ⟨hb1, hf1⟩ := hrr.at hT t htl
              have ht0 : (0 : Int) ≤ (t : Int) := by omega
              have ht1 : (t : Int) < (L1 : Int) := by omega
              clear hT hrr hgr hgg q3
              go_wp2
              go_roundw
              case rel => exact ⟨t + 1, T.set t _, by omega, by go_num, (HRR.out.put HT.out t _).1, by simp [HT.out], grown_set HGR.out _ _⟩
              case measure => simp [intOf]; omega
            · clear hT hrr hgr
              obtain ⟨p1, p2', p3, p4⟩ := (HSW.out.out W3.heap.size).ap (S := fun k => (Value.slice aox L1 capx).ownBlock = some k) (fun k hk => HLT.out k hk)
              have hstr := (HSW.out.below HB3.out).chg (Chg.of_grown (S := fun k => (Value.slice aox L1 capx).ownBlock = some k) HGR.out (fun k e => e)) p1 p2' p3 p4
              have HA : Hid (Acted w (k + 1) (.pointer (some ⟨f.p, 0, none⟩)) (.pointer (some ⟨r.p, 0, none⟩)) (.pointer (some ⟨g.p, 0, none⟩)) (.pointer (some ⟨s.p, 0, none⟩)) wr) :=
                ⟨F, G, f, g, r, s, rfl, rfl, rfl, rfl, hstr, HBX.out.trans ((HB3.out.grown HGR.out HB3.out.size (fun k hk => (HLT.out k hk).1)).mono HBX.out.size), by have := HRC.out; omega, by have := HRC.out; omega, HSH.out.1, HSH.out.2⟩
              clear hstr p1 p2' p3 p4
              go_wp2
              go_meet
              exact HA.out
        have k1' : (ki == 1) = false := by simp [k1]
        by_cases k2 : ki = 2
        · subst k2
          have HDR : Hid (Below W.heap.size W W.drew) := (Below.refl _ _).drew
          have HSD : Hid (St W.drew w.heap.size F G F G f g r s) := HSW.out.below HDR.out
          have HBD : Hid (Below w.heap.size w W.drew) := HBX.out.drew
          have HBL : Hid (∀ W2, Chg (fun k => k = f.p) W.drew W2 → W2.cell? ⟨wr.heap.size, 2, none⟩ = some (.int .i64 an)) := fun W2 hc => (World.cell?_of_block (a := ⟨wr.heap.size, 2, none⟩) (hc.block _ (Array.getElem?_eq_some_iff.1 HCW.out).1 (by show ¬ wr.heap.size = f.p; omega))).trans e2
          have HBL2 : Hid (∀ W2 W3, W2.cell? ⟨wr.heap.size, 2, none⟩ = some (.int .i64 an) → Chg (fun k => k = r.p) W2 W3 → W3.cell? ⟨wr.heap.size, 2, none⟩ = some (.int .i64 an)) := fun W2 W3 h2 hc => (World.cell?_of_block (a := ⟨wr.heap.size, 2, none⟩) (hc.block _ (World.block_lt_of_cell? W2 _ h2) (by show ¬ wr.heap.size = r.p; omega))).trans h2
          by_cases hneg : an < 0
          · have HA : Hid (Acted w (k + 1) (.pointer (some ⟨f.p, 0, none⟩)) (.pointer (some ⟨r.p, 0, none⟩)) (.pointer (some ⟨g.p, 0, none⟩)) (.pointer (some ⟨s.p, 0, none⟩)) W.drew) :=
              ⟨F, G, f, g, r, s, rfl, rfl, rfl, rfl, HSD.out, HBD.out, by have := HRC.out; omega, by have := HRC.out; omega, HSH.out.1, HSH.out.2⟩
            go_wp2_with fail
            go_region_held (fun w' => w'.cell? ⟨wr.heap.size, 2, none⟩ = some (.int .i64 an)) (first | assumption | exact e2) (first | (go_at_call 22; refine (cut_neg HSD.out.hf _ hneg).mono ?_; rintro e W2 ⟨rfl, hw2⟩; obtain rfl := hw2.symm) | (go_at_call 23; refine (refCut_neg _ _ _ hneg).mono ?_; rintro e W3 ⟨rfl, hw3⟩; obtain rfl := hw3.symm))
            all_goals
              go_wp2
              go_meet
              exact HA.out
          · have HC : Hid _ := cut_any HSD.out.hf an (by omega) (by omega)
            have HC2 : Hid (∀ W2, PF W2 w.heap.size f.p { F with pl := true, left := an } f.vb f.vr f.rv → Chg (fun k => k = f.p) W.drew W2 → St W2 w.heap.size { F with pl := true, left := an } G F G f g r s ∧ Below w.heap.size w W2) := fun W2 hp2 hc2 =>
              ⟨HSD.out.self hp2 hc2, HBD.out.trans (hc2.below (fun k hk => by have hk' : k = f.p := hk; rw [hk']; exact hp2.hold.bp) HBD.out.size)⟩
            go_wp2_with fail
            go_region_held (fun w' => w'.cell? ⟨wr.heap.size, 2, none⟩ = some (.int .i64 an)) (first | assumption | exact e2) (first | (go_at_call 22; refine Calls.mono HC.out ?_; rintro e W2 ⟨rfl, hp2, hc2⟩; have q2 := HBL.out W2 hc2; have HS2 : Hid _ := HC2.out W2 hp2 hc2; have HC3 : Hid _ := refCut_any HS2.out.1.hr an (by omega) (by omega); clear hp2 hc2) | (go_at_call 23; refine Calls.mono HC3.out ?_; rintro e W3 ⟨rfl, hp3, hc3⟩; have q3 := HBL2.out W2 W3 q2 hc3; have HA : Hid (Acted w (k + 1) (.pointer (some ⟨f.p, 0, none⟩)) (.pointer (some ⟨r.p, 0, none⟩)) (.pointer (some ⟨g.p, 0, none⟩)) (.pointer (some ⟨s.p, 0, none⟩)) W3) := ⟨_, G, f, g, r, s, rfl, rfl, rfl, rfl, HS2.out.1.selfR hp3 hc3, HS2.out.2.trans (hc3.below (fun k hk => by have hk' : k = r.p := hk; rw [hk']; exact hp3.hold.bp) HS2.out.2.size), by have := HRC.out; show F.rs.length ≤ _; omega, by have := HRC.out; omega, HSH.out.1, HSH.out.2⟩; clear hp3 hc3))
            all_goals
              go_wp2
              go_meet
              exact HA.out
        have k2' : (ki == 2) = false := by simp [k2]
        by_cases k3 : ki = 3
        · subst k3
          have HC : Hid _ := start_any HSW.out.hf
          go_wp2_with fail
          refine Calls.mono HC.out ?_
          rintro e W2 ⟨⟨u2, rfl⟩, hp2, hc2⟩
          clear HC
          have hst2 := HSW.out.self hp2 hc2
          have HB2 : Hid (Below w.heap.size w W2) := HBX.out.trans (hc2.below (fun k hk => by have hk' : k = f.p := hk; rw [hk']; exact hp2.hold.bp) HBX.out.size)
          have HC : Hid _ := refStart_any hst2.hr
          have HS2 : Hid _ := hst2
          clear hst2 hp2 hc2
          go_wp2_with fail
          refine Calls.mono HC.out ?_
          rintro e W3 ⟨⟨u3, rfl⟩, hp3, hc3⟩
          clear HC
          have hst3 := HS2.out.selfR hp3 hc3
          have HA : Hid (Acted w (k + 1) (.pointer (some ⟨f.p, 0, none⟩)) (.pointer (some ⟨r.p, 0, none⟩)) (.pointer (some ⟨g.p, 0, none⟩)) (.pointer (some ⟨s.p, 0, none⟩)) W3) :=
            ⟨_, G, f, g, r, s, rfl, rfl, rfl, rfl, hst3, HB2.out.trans (hc3.below (fun k hk => by have hk' : k = r.p := hk; rw [hk']; exact hp3.hold.bp) HB2.out.size), by have := HRC.out; show F.rs.length ≤ _; omega, by have := HRC.out; omega, HSH.out.1, HSH.out.2⟩
          clear hst3 hp3 hc3
          go_wp2
          go_meet
          exact HA.out
        have k3' : (ki == 3) = false := by simp [k3]
        by_cases k4 : ki = 4
        · subst k4
          have HA : Hid (Acted w (k + 1) (.pointer (some ⟨g.p, 0, none⟩)) (.pointer (some ⟨s.p, 0, none⟩)) (.pointer (some ⟨f.p, 0, none⟩)) (.pointer (some ⟨r.p, 0, none⟩)) W) :=
            ⟨G, F, g, f, s, r, rfl, rfl, rfl, rfl, HSW.out.swap, HBX.out, by have := HRC.out; omega, by have := HRC.out; omega, HSH.out.2, HSH.out.1⟩
          go_wp2
          go_meet
          exact HA.out
        have k4' : (ki == 4) = false := by simp [k4]
        by_cases k5 : ki = 5
        · subst k5
          have HC : Hid _ := copy_any HSW.out.hf (by have := count_of HSW.out.hf.rs HRC.out.1; omega)
          go_wp2_with fail
          refine Calls.mono HC.out ?_
          rintro e W2 ⟨p2', vb2, vr2, rfl, hp2, hb2⟩
          clear HC
          have hst2 := HSW.out.copyG hb2 HBX.out.size hp2
          have HB2 : Hid (Below w.heap.size w W2) := HBX.out.trans (hb2.mono HBX.out.size)
          have HC : Hid _ := refCopy_any hst2.hr (by have := count_of hst2.hr.rs HRC.out.1; omega)
          have HS2 : Hid _ := hst2
          clear hst2 hp2 hb2
          go_wp2_with fail
          refine Calls.mono HC.out ?_
          rintro e W3 ⟨s3, sb3, sr3, rfl, hp3, hb3⟩
          clear HC
          have HA : Hid (Acted w (k + 1) (.pointer (some ⟨f.p, 0, none⟩)) (.pointer (some ⟨r.p, 0, none⟩)) (.pointer (some ⟨p2', 0, none⟩)) (.pointer (some ⟨s3, 0, none⟩)) W3) :=
            ⟨F, F, f, ⟨p2', vb2, vr2, f.rv⟩, r, ⟨s3, sb3, sr3, r.rv⟩, rfl, rfl, rfl, rfl, HS2.out.copyS hb3 HB2.out.size hp3, HB2.out.trans (hb3.mono HB2.out.size), by have := HRC.out; omega, by have := HRC.out; omega, HSH.out.1, HSH.out.1⟩
          clear hp3 hb3
          go_wp2
          go_meet
          exact HA.out
        have k5' : (ki == 5) = false := by simp [k5]
        go_wp2
        go_meet
        exact HAC.out
      case rest =>
        obtain ⟨F2, G2, f2, g2, r2, s2, rfl, rfl, rfl, rfl, hst, hbr, hrc, hgc, hsf, hsg⟩ := hcut
        have HAL : Hid _ := alike_any hst.hf hst.hr (by omega) (fun x hx => by have := hsf x hx; omega)
        have HA : Hid (∀ w9, Below wc.heap.size wc w9 → Acted w (k + 1) (.pointer (some ⟨f2.p, 0, none⟩)) (.pointer (some ⟨r2.p, 0, none⟩)) (.pointer (some ⟨g2.p, 0, none⟩)) (.pointer (some ⟨s2.p, 0, none⟩)) w9) := fun w9 hb9 =>
          ⟨F2, G2, f2, g2, r2, s2, rfl, rfl, rfl, rfl, hst.below hb9, hbr.trans (hb9.mono hbr.size), hrc, hgc, hsf, hsg⟩
        clear hst hbr hrc hgc hsf hsg
        go_wp2_with (go_at_call 12; refine Calls.mono HAL.out ?_; rintro e w9 ⟨rfl, hb9⟩; have HA9 : Hid _ := HA.out _ hb9; clear hb9)
        go_roundw
        case rel => exact ⟨k + 1, by go_num, by omega, by omega, HA9.out⟩
        case measure => simp [intOf]; omega
    · have hx : NQ ≤ k ∨ (k < NQ ∧ 40 ≤ k) := by omega
      have HAL : Hid _ := alike_any HS.out.hg HS.out.hs (by have := HRC.out.2; omega) (fun x hx => by have := HSH.out.2 x hx; omega)
      clear hlt
      rcases hx with hx | ⟨hx, hx2⟩
      all_goals
        go_wp2_with (first | (go_at_call 12; refine Calls.mono HAL.out ?_; rintro e w9 ⟨rfl, hb9⟩) | (go_at_call 15; refine (lives_any _).mono ?_; rintro e w10 ⟨rfl, hb10⟩))
        go_ret
        exact ⟨rfl, HBR.out.trans ((hb9.trans (hb10.mono hb9.size)).mono HBR.out.size)⟩
end Go.Proofs.Ytkdmcdkjfkllkaa
