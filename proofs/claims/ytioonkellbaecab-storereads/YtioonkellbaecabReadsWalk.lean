/-
  The walk of StoreReads: what was written is read, and what lies beside it stays, for all bytes and places.
-/
import Derived.Test.YtioonkellbaecabLives
namespace Go.Proofs.Ytioonkellbaecab
open Go.RowKit
set_option linter.unusedVariables false

/-- A place within n and its end, whatever number is asked. -/
theorem place_in (a : Int) (n : Nat) : ∃ k : Nat, k ≤ n ∧ (a.tmod ((n : Int) + 1) + (n : Int) + 1).tmod ((n : Int) + 1) = (k : Int) ∧ -((n : Int) + 1) ≤ a.tmod ((n : Int) + 1) ∧ a.tmod ((n : Int) + 1) < (n : Int) + 1 := by
  have hp : (0 : Int) < (n : Int) + 1 := by omega
  have h1 : a.tmod ((n : Int) + 1) < (n : Int) + 1 := Int.tmod_lt_of_pos a hp
  have h2 : -((n : Int) + 1) ≤ a.tmod ((n : Int) + 1) := by
    have e := Int.tmod_eq_emod (a := a) (b := (n : Int) + 1)
    have := Int.emod_nonneg a (show (n : Int) + 1 ≠ 0 by omega)
    rw [e]
    split
    · omega
    · have : (((n : Int) + 1).natAbs : Int) = (n : Int) + 1 := by omega
      omega
  have h3 := Int.emod_nonneg (a.tmod ((n : Int) + 1) + (n : Int) + 1) (show (n : Int) + 1 ≠ 0 by omega)
  have h4 := Int.emod_lt_of_pos (a.tmod ((n : Int) + 1) + (n : Int) + 1) hp
  refine ⟨((a.tmod ((n : Int) + 1) + (n : Int) + 1) % ((n : Int) + 1)).toNat, by omega, ?_, h2, h1⟩
  rw [Int.tmod_eq_emod_of_nonneg (by omega)]
  omega

/-- Without a planned cut all is laid down. -/
theorem wrN_plain : ∀ (m : Nat) (F : Mdl) (q : Nat) (x : List Int), F.pl = false → x.length ≤ m → q ≤ F.bs.length → ∃ F', wrN m F q x = (0, F') ∧ F'.bs = layN F.bs q x ∧ F'.most = F.most ∧ F'.off = F.off ∧ F'.pl = false
  | 0, F, q, x, hp, hm, hq => by
    have : x = [] := List.eq_nil_of_length_eq_zero (by omega)
    subst this
    exact ⟨F, rfl, (layN_nil _ _).symm, rfl, rfl, hp⟩
  | m + 1, F, q, x, hp, hm, hq => by
    by_cases h0 : x.length = 0
    · have : x = [] := List.eq_nil_of_length_eq_zero h0
      subst this
      exact ⟨F, wrN_done (m + 1) F q [] rfl, (layN_nil _ _).symm, rfl, rfl, hp⟩
    · have ht : (x.take 16).length = min 16 x.length := List.length_take
      have hl : (step1 F q (x.take 16)).bs.length = max F.bs.length (q + min 16 x.length) := by
        show (layN F.bs q (x.take 16)).length = _
        rw [layN_length _ _ _ hq, ht]
      have hstep := wrN_step m F q x (by omega) (by simp [hp])
      have hdl : (x.drop 16).length = x.length - 16 := List.length_drop
      rcases Nat.lt_or_ge x.length 16 with h1 | h1
      · have hd : x.drop 16 = [] := List.eq_nil_of_length_eq_zero (by omega)
        rw [hd, wrN_done m _ _ [] rfl, List.take_of_length_le (by omega)] at hstep
        exact ⟨_, hstep, rfl, rfl, rfl, hp⟩
      · obtain ⟨F', h2, h3, h4, h5, h6⟩ := wrN_plain m (step1 F q (x.take 16)) (q + 16) (x.drop 16) hp (by omega) (by omega)
        refine ⟨F', hstep.trans h2, ?_, h4, h5, h6⟩
        rw [h3]
        show layN (layN F.bs q (x.take 16)) (q + 16) (x.drop 16) = _
        have := layN_more F.bs q (x.take 16) (x.drop 16) hq
        rw [ht, Nat.min_eq_left h1, List.take_append_drop] at this
        exact this
theorem wErr_free {F : Mdl} {q n : Nat} (h1 : F.off = false) (h2 : q ≤ F.bs.length) (h3 : (n : Int) ≤ F.most - q) : wErr F (q : Int) n = 0 := by
  unfold wErr
  rw [h1, if_neg (by simp), if_neg (by omega), if_neg (by omega)]
theorem wrM_plain {F : Mdl} {q : Nat} {x : List Int} (hp : F.pl = false) (h1 : F.off = false) (h2 : q ≤ F.bs.length) (h3 : (x.length : Int) ≤ F.most - q) : ∃ F', wrM F (q : Int) x = (0, F') ∧ F'.bs = layN F.bs q x ∧ F'.most = F.most ∧ F'.off = false ∧ F'.pl = false := by
  obtain ⟨F', h4, h5, h6, h7, h8⟩ := wrN_plain x.length F q x hp (Nat.le_refl _) h2
  refine ⟨F', ?_, h5, h6, h7.trans h1, h8⟩
  unfold wrM
  rw [if_pos (wErr_free h1 h2 h3), Int.toNat_natCast]
  exact h4
theorem rd_ok {F : Mdl} {a m : Nat} (h1 : F.off = false) (h2 : a + m ≤ F.bs.length) : rdErr F (a : Int) (m : Int) = 0 ∧ rdList F (a : Int) (m : Int) = (F.bs.drop a).take m := by
  have h : rdErr F (a : Int) (m : Int) = 0 := by
    unfold rdErr
    rw [h1, if_neg (by simp), if_neg (by omega), if_neg (by omega)]
  refine ⟨h, ?_⟩
  unfold rdList
  rw [if_pos h, Int.toNat_natCast, Int.toNat_natCast]
/-- Bytes that lay there ahead of the file are none of its own. -/
theorem alien_old {w w1 : World} {p : Nat} {F : Mdl} {vb vr v : Value} {rv : List RawV} {l : List Int} (hf : PF w1 w.heap.size p F vb vr rv) (hb : Below w.heap.size w w1) (hl : Bs w v l) : 0 < l.length → Alien w1 p vb vr v := by
  intro h0 k hk
  obtain ⟨b, off, cap, rfl, hc, hcell⟩ := hl.opened h0
  simp [Value.ownBlock] at hk
  subst hk
  have h1 := World.block_lt_of_cell? w _ (hcell 0 h0)
  dsimp only at h1
  exact ⟨fun hfo => by have := (hf.hold.foot _ hfo).1; omega, Nat.lt_of_lt_of_le h1 hb.size⟩

theorem bs_take {w : World} {ao : Option Addr} {n cap : Nat} {l : List Int} (h : Bs w (.slice ao n cap) l) (k : Nat) (hk : k ≤ l.length) : Bs w (.slice ao k cap) (l.take k) := by
  obtain ⟨ao', cap', e, hc, hn, hcell⟩ := h
  injection e with e1 e2 e3
  subst e1 e3
  have hl : (l.take k).length = k := by rw [List.length_take]; omega
  refine ⟨ao, cap, by rw [hl], by omega, hn, fun ad ha i hi => ?_⟩
  rw [hl] at hi
  rw [hcell ad ha i (by omega)]
  simp [List.getD, hi]
set_option maxHeartbeats 8000000 in
theorem storeReads_walk (v0 : Value) (l0 : List Int) (a1 : Int) (v2 : Value) (l2 : List Int) (w : World) (b0 : Bs w v0 l0) (y0 : Byt l0) (z0 : l0.length ≤ 140737488351232) (w1 : (Lit.int .i64 a1).wf = true) (b2 : Bs w v2 l2) (y2 : Byt l2) (z2 : l2.length ≤ 140737488351232) :
    Calls Try.prog 3 #[v0, .int .i64 a1, v2] w fun e w' => e = .returned (.bool true) ∧ Below w.heap.size w w' := by
  have HB0 : Hid (Bs w v0 l0) := b0
  have HB2 : Hid (Bs w v2 l2) := b2
  obtain ⟨ao0, cap0, rfl, hc0, _⟩ := b0
  obtain ⟨ao2, cap2, rfl, hc2, _⟩ := b2
  obtain ⟨n, Hn⟩ : ∃ n, Hid (l0.length = n) := ⟨_, rfl⟩
  obtain ⟨m, Hm⟩ : ∃ m, Hid (l2.length = m) := ⟨_, rfl⟩
  rw [Hn.out] at HB0 hc0 z0 ⊢
  rw [Hm.out] at HB2 hc2 z2 ⊢
  clear y0 y2
  by_cases hbig : (10000 : Int) < (n : Int) + (m : Int)
  · go_enter Try.func3, Try.ntmps3
    go_wp2_with (go_at_call 4; refine (lives_any _).mono ?_; rintro e w3 ⟨rfl, hb3⟩)
    go_ret
    exact ⟨rfl, hb3⟩
  · obtain ⟨k, hk, hk1, hk2, hk3⟩ := place_in a1 n
    obtain ⟨F', h1, h2, h3, h4, h5⟩ := wrM_plain (F := newM l0 20000) (q := k) (x := l2) rfl rfl (by show k ≤ l0.length; rw [Hn.out]; exact hk) (by show (l2.length : Int) ≤ 20000 - k; rw [Hm.out]; omega)
    have hbs : F'.bs = layN l0 k l2 := h2
    have hlen : F'.bs.length = max n (k + m) := by rw [hbs, layN_length _ _ _ (by rw [Hn.out]; exact hk), Hn.out, Hm.out]
    have HWR : Hid (wrM (newM l0 20000) (k : Int) l2 = (0, F')) := h1
    have HBSS : Hid (F'.bs = layN l0 k l2) := hbs
    have HLEN : Hid (F'.bs.length = max n (k + m)) := hlen
    have HOF : Hid (F'.off = false) := h4
    have HR1 : Hid (rdErr F' (k : Int) (m : Int) = 0 ∧ rdList F' (k : Int) (m : Int) = l2) := by
      have := rd_ok (F := F') (a := k) (m := m) h4 (by omega)
      have e := layN_mid l0 k l2 (by rw [Hn.out]; exact hk)
      rw [Hm.out] at e
      rw [hbs, e] at this
      exact this
    have HR2 : Hid (rdErr F' 0 (k : Int) = 0 ∧ rdList F' 0 (k : Int) = l0.take k) := by
      have := rd_ok (F := F') (a := 0) (m := k) h4 (by omega)
      rw [List.drop_zero, hbs, layN_head l0 k l2 (by rw [Hn.out]; exact hk)] at this
      exact this
    have HLk : Hid ((l0.take k).length = k) := by rw [Hid, List.length_take, Hn.out]; omega
    clear h1 h2 h3 h4 h5 hbs hlen
    by_cases hend : (n : Int) ≤ (k : Int) + (m : Int)
    · have HLE : Hid (F'.bs.length = k + m) := by rw [Hid, HLEN.out]; omega
      go_enter Try.func3, Try.ntmps3
      go_wp2_with fail
      refine (of_some _ l0 20000 w HB0.out (by decide) (by decide) (by rw [Hn.out]; omega)).mono ?_
      rintro e w3 ⟨p, vb3, rfl, hp3, hb3⟩
      have HC : Hid _ := write_any hp3 hb3.size (k : Int) l2 _ (HB2.out.below hb3) (alien_old hp3 hb3 HB2.out) (by simp) (by rw [Hm.out]; omega) (by omega)
      rw [HWR.out] at HC
      have HP3 : Hid (PF w3 w.heap.size p (newM l0 20000) vb3 (.slice none 0 0) []) := hp3
      have HB3 : Hid (Below w.heap.size w w3) := hb3
      clear hp3 hb3
      go_wp2_with fail
      refine Calls.mono HC.out ?_
      rintro e w4 ⟨vb4, vr4, rv4, rfl, hp4, hm4⟩
      clear HC
      have HB4 : Hid (Below w.heap.size w w4) := HB3.out.trans (hm4.below HP3.out HB3.out.size)
      have HC : Hid _ := read_any hp4 (k : Int) (m : Int) (by omega) (by omega)
      rw [HR1.out.1, HR1.out.2, Hm.out] at HC
      have HP4 : Hid (PF w4 w.heap.size p F' vb4 vr4 rv4) := hp4
      clear hp4 hm4 HP3
      go_wp2_with fail
      refine Calls.mono HC.out ?_
      rintro e w5 ⟨aoy, capy, rfl, hoy, hb5⟩
      clear HC
      have HB5 : Hid (Below w.heap.size w w5) := HB4.out.trans (hb5.mono HB4.out.size)
      have HP5 : Hid (PF w5 w.heap.size p F' vb4 vr4 rv4) := HP4.out.below hb5
      have HOY : Hid (Own w5 w4.heap.size (.slice aoy m capy) l2) := hoy
      have HC : Hid _ := read_any HP5.out 0 (k : Int) (by omega) (by omega)
      rw [HR2.out.1, HR2.out.2, HLk.out] at HC
      clear hoy hb5 HP4
      go_wp2_with fail
      refine Calls.mono HC.out ?_
      rintro e w6 ⟨aoz, capz, rfl, hoz, hb6⟩
      clear HC
      have HB6 : Hid (Below w.heap.size w w6) := HB5.out.trans (hb6.mono HB5.out.size)
      have HP6 : Hid (PF w6 w.heap.size p F' vb4 vr4 rv4) := HP5.out.below hb6
      have HS : Hid (∀ w', Below w6.heap.size w6 w' → Sem.run Try.prog (convert 22 9 (.slice aoy m capy)) w' = .ok (.string (strOfNums l2)) w' ∧ Sem.run Try.prog (convert 22 9 (.slice ao2 m cap2)) w' = .ok (.string (strOfNums l2)) w' ∧ Sem.run Try.prog (convert 22 9 (.slice aoz k capz)) w' = .ok (.string (strOfNums (l0.take k))) w' ∧ Sem.run Try.prog (convert 22 9 (.slice ao0 k cap0)) w' = .ok (.string (strOfNums (l0.take k))) w') := fun w' hb =>
        have hbw := HB6.out.trans (hb.mono HB6.out.size)
        ⟨str_of ((HOY.out.bs.below hb6).below hb), str_of (HB2.out.below hbw), str_of (hoz.bs.below hb), str_of ((bs_take (HB0.out.below hbw) k (by rw [Hn.out]; exact hk)))⟩
      have HBR : Hid (Below w6.heap.size w6 w6) := Below.refl _ _
      clear hoz hb6 HP5 HOY
      have hkn : (k : Int) ≤ (n : Int) := by omega
      have hkc : (k : Int) ≤ (cap0 : Int) := by omega
      go_wp2_with fail
      go_region_held (fun w' => (Sem.run Try.prog (convert 22 9 (.slice aoy m capy)) w' = .ok (.string (strOfNums l2)) w' ∧ Sem.run Try.prog (convert 22 9 (.slice ao2 m cap2)) w' = .ok (.string (strOfNums l2)) w' ∧ Sem.run Try.prog (convert 22 9 (.slice aoz k capz)) w' = .ok (.string (strOfNums (l0.take k))) w' ∧ Sem.run Try.prog (convert 22 9 (.slice ao0 k cap0)) w' = .ok (.string (strOfNums (l0.take k))) w') ∧ Below w6.heap.size w6 w') (exact ⟨HS.out _ (by first | assumption | exact HBR.out.drew), by first | assumption | exact HBR.out.drew⟩) (fail)
      have HC : Hid _ := len_any (HP6.out.below (Below.refl _ _).drew)
      rw [HLE.out] at HC
      clear HS HBR
      go_wp2_with fail
      refine Calls.mono HC.out ?_
      rintro e w7 ⟨rfl, hw7⟩
      obtain rfl := hw7.symm
      clear HC
      go_wp2_with (go_at_call 4; refine (lives_any _).mono ?_; rintro e w8 ⟨rfl, hb8⟩)
      go_ret
      exact ⟨rfl, HB6.out.trans ((Below.refl _ _).drew.trans (hb8.mono (by show w.heap.size ≤ w6.heap.size; exact HB6.out.size)))⟩
    · have hlt : k + m < n := by omega
      obtain ⟨en, Hen⟩ : ∃ en, Hid (k + m = en) := ⟨_, rfl⟩
      have hke : (k : Int) + (m : Int) = (en : Int) := by have := Hen.out; omega
      have hen : en < n := by have := Hen.out; omega
      have hend' : (en : Int) < (n : Int) := by omega
      have hen0 : (0 : Int) ≤ (en : Int) := by omega
      have HLE : Hid (F'.bs.length = n) := by rw [Hid, HLEN.out]; omega
      have HR3 : Hid (rdErr F' (en : Int) ((n : Int) - (en : Int)) = 0 ∧ rdList F' (en : Int) ((n : Int) - (en : Int)) = l0.drop en) := by
        have := rd_ok (F := F') (a := en) (m := n - en) HOF.out (by rw [HLE.out]; omega)
        have e := layN_tail l0 k l2 (by rw [Hn.out]; exact hk)
        rw [Hm.out, Hen.out] at e
        rw [HBSS.out, e, List.take_of_length_le (by rw [List.length_drop, Hn.out]; omega)] at this
        rw [show ((n - en : Nat) : Int) = (n : Int) - (en : Int) by omega] at this
        exact this
      have HLD : Hid ((l0.drop en).length = n - en) := by rw [Hid, List.length_drop, Hn.out]
      go_enter Try.func3, Try.ntmps3
      go_wp2_with fail
      refine (of_some _ l0 20000 w HB0.out (by decide) (by decide) (by rw [Hn.out]; omega)).mono ?_
      rintro e w3 ⟨p, vb3, rfl, hp3, hb3⟩
      have HC : Hid _ := write_any hp3 hb3.size (k : Int) l2 _ (HB2.out.below hb3) (alien_old hp3 hb3 HB2.out) (by simp) (by rw [Hm.out]; omega) (by omega)
      rw [HWR.out] at HC
      have HP3 : Hid (PF w3 w.heap.size p (newM l0 20000) vb3 (.slice none 0 0) []) := hp3
      have HB3 : Hid (Below w.heap.size w w3) := hb3
      clear hp3 hb3
      go_wp2_with fail
      refine Calls.mono HC.out ?_
      rintro e w4 ⟨vb4, vr4, rv4, rfl, hp4, hm4⟩
      clear HC
      have HB4 : Hid (Below w.heap.size w w4) := HB3.out.trans (hm4.below HP3.out HB3.out.size)
      have HC : Hid _ := read_any hp4 (k : Int) (m : Int) (by omega) (by omega)
      rw [HR1.out.1, HR1.out.2, Hm.out] at HC
      have HP4 : Hid (PF w4 w.heap.size p F' vb4 vr4 rv4) := hp4
      clear hp4 hm4 HP3
      go_wp2_with fail
      refine Calls.mono HC.out ?_
      rintro e w5 ⟨aoy, capy, rfl, hoy, hb5⟩
      clear HC
      have HB5 : Hid (Below w.heap.size w w5) := HB4.out.trans (hb5.mono HB4.out.size)
      have HP5 : Hid (PF w5 w.heap.size p F' vb4 vr4 rv4) := HP4.out.below hb5
      have HOY : Hid (Own w5 w4.heap.size (.slice aoy m capy) l2) := hoy
      have HC : Hid _ := read_any HP5.out 0 (k : Int) (by omega) (by omega)
      rw [HR2.out.1, HR2.out.2, HLk.out] at HC
      clear hoy hb5 HP4
      go_wp2_with fail
      refine Calls.mono HC.out ?_
      rintro e w6 ⟨aoz, capz, rfl, hoz, hb6⟩
      clear HC
      have HB6 : Hid (Below w.heap.size w w6) := HB5.out.trans (hb6.mono HB5.out.size)
      have HP6 : Hid (PF w6 w.heap.size p F' vb4 vr4 rv4) := HP5.out.below hb6
      have HS : Hid (∀ w', Below w6.heap.size w6 w' → Sem.run Try.prog (convert 22 9 (.slice aoy m capy)) w' = .ok (.string (strOfNums l2)) w' ∧ Sem.run Try.prog (convert 22 9 (.slice ao2 m cap2)) w' = .ok (.string (strOfNums l2)) w' ∧ Sem.run Try.prog (convert 22 9 (.slice aoz k capz)) w' = .ok (.string (strOfNums (l0.take k))) w' ∧ Sem.run Try.prog (convert 22 9 (.slice ao0 k cap0)) w' = .ok (.string (strOfNums (l0.take k))) w') := fun w' hb =>
        have hbw := HB6.out.trans (hb.mono HB6.out.size)
        ⟨str_of ((HOY.out.bs.below hb6).below hb), str_of (HB2.out.below hbw), str_of (hoz.bs.below hb), str_of ((bs_take (HB0.out.below hbw) k (by rw [Hn.out]; exact hk)))⟩
      have HBR : Hid (Below w6.heap.size w6 w6) := Below.refl _ _
      clear hoz hb6 HP5 HOY
      have hkn : (k : Int) ≤ (n : Int) := by omega
      have hkc : (k : Int) ≤ (cap0 : Int) := by omega
      go_wp2_with fail
      go_region_held (fun w' => (Sem.run Try.prog (convert 22 9 (.slice aoy m capy)) w' = .ok (.string (strOfNums l2)) w' ∧ Sem.run Try.prog (convert 22 9 (.slice ao2 m cap2)) w' = .ok (.string (strOfNums l2)) w' ∧ Sem.run Try.prog (convert 22 9 (.slice aoz k capz)) w' = .ok (.string (strOfNums (l0.take k))) w' ∧ Sem.run Try.prog (convert 22 9 (.slice ao0 k cap0)) w' = .ok (.string (strOfNums (l0.take k))) w') ∧ Below w6.heap.size w6 w') (exact ⟨HS.out _ (by first | assumption | exact HBR.out.drew), by first | assumption | exact HBR.out.drew⟩) (fail)
      have HP7 : Hid (PF w6.drew w.heap.size p F' vb4 vr4 rv4) := HP6.out.below (Below.refl _ _).drew
      have HB7 : Hid (Below w.heap.size w w6.drew) := HB6.out.drew
      have HC : Hid _ := read_any HP7.out (en : Int) ((n : Int) - (en : Int)) (by omega) (by omega)
      rw [HR3.out.1, HR3.out.2, HLD.out] at HC
      clear HS HBR hend
      go_wp2_with fail
      refine Calls.mono HC.out ?_
      rintro e w8 ⟨aow, capw, rfl, how, hb8⟩
      clear HC
      have HP8 : Hid (PF w8 w.heap.size p F' vb4 vr4 rv4) := HP7.out.below hb8
      have HB8 : Hid (Below w.heap.size w w8) := HB7.out.trans (hb8.mono HB7.out.size)
      have HCL : Hid (∀ w', Below w8.heap.size w8 w' → Calls Try.prog 8 #[.pointer (some ⟨p, 0, none⟩)] w' fun e w2 => e = .returned (.int .i64 (n : Int)) ∧ w2 = w') := fun w' hb => by
        have := len_any (HP8.out.below hb)
        rwa [HLE.out] at this
      have HS : Hid (∀ w', Below w8.heap.size w8 w' → Sem.run Try.prog (convert 22 9 (.slice aow (n - en) capw)) w' = .ok (.string (strOfNums (l0.drop en))) w' ∧ Sem.run Try.prog (convert 22 9 (.slice (Option.map (fun x => x.add en) ao0) (n - en) (cap0 - en))) w' = .ok (.string (strOfNums (l0.drop en))) w') := fun w' hb =>
        ⟨str_of (how.bs.below hb), by
          have h0 := HB0.out.below (HB8.out.trans (hb.mono HB8.out.size))
          obtain ⟨bb, ob, capx, e0, _, _⟩ := h0.opened (by rw [Hn.out]; omega)
          injection e0 with e1 e2 e3
          rw [e1] at h0 ⊢
          have h1 := h0.part en (n - en) (cap0 - en) (by rw [Hn.out]; omega) (by omega)
          rw [List.take_of_length_le (by rw [List.length_drop, Hn.out]; omega)] at h1
          rw [Option.map_some, addr_add]
          exact str_of h1⟩
      have HBR : Hid (Below w8.heap.size w8 w8.drew) := (Below.refl _ _).drew
      clear how hb8 HP7 HP8
      go_wp2_with fail
      go_region_held (fun w' => (Sem.run Try.prog (convert 22 9 (.slice aow (n - en) capw)) w' = .ok (.string (strOfNums (l0.drop en))) w' ∧ Sem.run Try.prog (convert 22 9 (.slice (Option.map (fun x => x.add en) ao0) (n - en) (cap0 - en))) w' = .ok (.string (strOfNums (l0.drop en))) w') ∧ Below w8.heap.size w8 w') (exact ⟨HS.out _ (by first | exact HBR.out | assumption), by first | exact HBR.out | assumption⟩) (first | (go_at_call 8; refine (HCL.out _ (by first | exact HBR.out | assumption)).mono ?_; rintro e w9 ⟨rfl, hw9⟩; obtain rfl := hw9.symm) | (go_at_call 4; refine (lives_any _).mono ?_; rintro e w10 ⟨rfl, hb10⟩; have hb8x : Below w8.heap.size w8 w10 := HBR.out.trans (hb10.mono (by show w8.heap.size ≤ w8.heap.size; exact Nat.le_refl _))))
      all_goals
        go_wp2
        go_ret
        exact ⟨rfl, HB8.out.trans (hb8x.mono HB8.out.size)⟩
end Go.Proofs.Ytioonkellbaecab
