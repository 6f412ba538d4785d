/-
  The walk of StoreCuts: a write that is cut behind so many raw writes has laid down just their bytes; behind a start it can be done whole.
-/
import Derived.Test.YtkdmcdkjfkllkaaTold
import Derived.Test.YtkdmcdkjfkllkaaReadsWalk
namespace Go.Proofs.Ytkdmcdkjfkllkaa
open Go.RowKit
set_option linter.unusedVariables false

set_option maxRecDepth 100000 in
set_option maxHeartbeats 8000000 in
theorem storeCuts_walk (v0 : Value) (l0 : List Int) (a1 : Int) (v2 : Value) (l2 : List Int) (a3 : Int) (w : World) (b0 : Bs w v0 l0) (y0 : Byt l0) (z0 : l0.length ≤ 140737488351232) (w1 : (Lit.int .i64 a1).wf = true) (b2 : Bs w v2 l2) (y2 : Byt l2) (z2 : l2.length ≤ 140737488351232) (w3 : (Lit.int .i64 a3).wf = true) :
    Calls Try.prog 8 #[v0, .int .i64 a1, v2, .int .i64 a3] w fun e w' => e = .returned (.bool true) ∧ Below w.heap.size w w' := by
  have HB0 : Hid (Bs w v0 l0) := b0
  have HB2 : Hid (Bs w v2 l2) := b2
  obtain ⟨ao0, cap0, rfl, hc0, _⟩ := b0
  obtain ⟨ao2, cap2, rfl, hc2, _⟩ := b2
  obtain ⟨n, Hn⟩ : ∃ n, Hid (l0.length = n) := ⟨_, rfl⟩
  obtain ⟨m, Hm⟩ : ∃ m, Hid (l2.length = m) := ⟨_, rfl⟩
  rw [Hn.out] at HB0 hc0 z0 ⊢
  rw [Hm.out] at HB2 hc2 z2 ⊢
  clear y0 y2
  by_cases hbig : (10000 : Int) < (n : Int) + (m : Int)
  · go_enter Try.func8, Try.ntmps8
    go_wp2_with (go_at_call 15; refine (lives_any _).mono ?_; rintro e w3 ⟨rfl, hb3⟩)
    go_ret
    exact ⟨rfl, hb3⟩
  by_cases hneg : a3 < 0
  · go_enter Try.func8, Try.ntmps8
    go_wp2_with (go_at_call 15; refine (lives_any _).mono ?_; rintro e w3 ⟨rfl, hb3⟩)
    go_ret
    exact ⟨rfl, hb3⟩
  by_cases htoo : 10000 < a3
  · go_enter Try.func8, Try.ntmps8
    go_wp2_with (go_at_call 15; refine (lives_any _).mono ?_; rintro e w3 ⟨rfl, hb3⟩)
    go_ret
    exact ⟨rfl, hb3⟩
  obtain ⟨c, rfl⟩ : ∃ c : Nat, a3 = (c : Int) := ⟨a3.toNat, by omega⟩
  obtain ⟨k, hk, hk1, hk2, hk3⟩ := place_in a1 n
  have hcm : c ≤ 10000 := by omega
  clear hneg htoo w3
  by_cases hfit : (m : Int) ≤ (c : Int) * 16
  · obtain ⟨F', h1, h2, h3, h4⟩ := wrM_whole (F := { newM l0 ((n : Int) + (m : Int)) with pl := true, left := (c : Int) }) (q := k) (c := c) (x := l2) rfl rfl rfl (by show k ≤ l0.length; rw [Hn.out]; exact hk) (by show (l2.length : Int) ≤ ((n : Int) + (m : Int)) - k; rw [Hm.out]; omega) (by rw [Hm.out]; omega)
    have HWR : Hid (wrM { newM l0 ((n : Int) + (m : Int)) with pl := true, left := (c : Int) } (k : Int) l2 = (0, F')) := h1
    have HBSS : Hid (F'.bs = layN l0 k l2) := h2
    have HOF : Hid (F'.off = false) := h4
    clear h1 h2 h3 h4
    go_enter Try.func8, Try.ntmps8
    go_wp2_with fail
    refine (of_some _ l0 ((n : Int) + (m : Int)) w HB0.out (by omega) (by omega) (by rw [Hn.out]; omega)).mono ?_
    rintro e w3 ⟨p, vb3, rfl, hp3, hb3⟩
    have HC : Hid _ := cut_any hp3 (c : Int) (by omega) (by omega)
    have HB3 : Hid (Below w.heap.size w w3) := hb3
    clear hp3 hb3
    go_wp2_with fail
    refine Calls.mono HC.out ?_
    rintro e w4 ⟨rfl, hp4, hc4⟩
    clear HC
    have hb4 : Below w.heap.size w w4 := HB3.out.trans (hc4.below (fun k hk => by have hk' : k = p := hk; rw [hk']; exact hp4.hold.bp) HB3.out.size)
    have HC : Hid _ := write_any hp4 hb4.size (k : Int) l2 _ (HB2.out.below hb4) (alien_old hp4 hb4 HB2.out) (by simp) (by rw [Hm.out]; omega) (by omega)
    rw [HWR.out] at HC
    have HP4 : Hid (PF w4 w.heap.size p { newM l0 ((n : Int) + (m : Int)) with pl := true, left := (c : Int) } vb3 (.slice none 0 0) []) := hp4
    have HB4 : Hid (Below w.heap.size w w4) := hb4
    clear hp4 hb4 hc4
    go_wp2_with fail
    refine Calls.mono HC.out ?_
    rintro e w5 ⟨vb5, vr5, rv5, rfl, hp5, hm5⟩
    clear HC
    have hb5 : Below w.heap.size w w5 := HB4.out.trans (hm5.below HP4.out HB4.out.size)
    have HON : Hid (∀ w', Below w5.heap.size w5 w' → Calls Try.prog 28 #[.pointer (some ⟨p, 0, none⟩)] w' fun e w2 => e = .returned (.bool true) ∧ w2 = w') := fun w' hb => by
      have := on_any (hp5.below hb)
      rwa [HOF.out] at this
    have HBY : Hid _ := bytes_txt hp5 _ rfl
    rw [HBSS.out] at HBY
    have HLY : Hid _ := refLay_txt (HB0.out.below hb5) (HB2.out.below hb5) (q := k) (by rw [Hn.out]; exact hk) (by rw [Hn.out, Hm.out]; omega) _ rfl
    have HB5 : Hid (Below w.heap.size w w5) := hb5
    have hr5 : Below w5.heap.size w5 w5.drew := (Below.refl _ _).drew
    clear hp5 hm5 hb5
    go_wp2_with fail
    go_region_with (first | (go_at_call 28; refine (HON.out _ (by assumption)).mono ?_; rintro e w6 ⟨rfl, rfl⟩) | (go_at_call 26; refine (HBY.out _ (by assumption)).mono ?_; rintro e w7 ⟨ao7, cap7, rfl, hs7, hd7, hp7, hz7⟩) | (go_at_call 29; refine (HLY.out _ (by assumption)).mono ?_; rintro e w8 ⟨ao8, n8, cap8, rfl, hs8, hd8, hp8, hz8⟩) | (go_at_call 15; refine (lives_any _).mono ?_; rintro e w9 ⟨rfl, hb9⟩))
    all_goals
      go_wp2
      go_ret
      exact ⟨rfl, HB5.out.trans ((hd8.trans (hb9.mono hd8.size)).mono HB5.out.size)⟩
  · obtain ⟨F', h1, h2, h3, h4, h5⟩ := wrM_cut (F := { newM l0 ((n : Int) + (m : Int)) with pl := true, left := (c : Int) }) (q := k) (c := c) (x := l2) rfl rfl rfl (by show k ≤ l0.length; rw [Hn.out]; exact hk) (by show (l2.length : Int) ≤ ((n : Int) + (m : Int)) - k; rw [Hm.out]; omega) (by rw [Hm.out]; omega)
    obtain ⟨c16, Hc16⟩ : ∃ c16, Hid (16 * c = c16) := ⟨_, rfl⟩
    have hc16 : (c : Int) * 16 = (c16 : Int) := by have := Hc16.out; omega
    have hcl : (c16 : Int) < (m : Int) := by omega
    have hcl0 : (0 : Int) ≤ (c16 : Int) := by omega
    have hcl1 : (c16 : Int) ≤ (m : Int) := by omega
    have hcl2 : (c16 : Int) ≤ (cap2 : Int) := by omega
    have hwr1 : IntKind.i64.wrap (c16 : Int) = (c16 : Int) := wrap_i64_in _ (by omega) (by omega)
    have hwr2 : IntKind.i64.wrap ((c : Int) * 16) = (c16 : Int) := by rw [hc16]; exact hwr1
    rw [Hc16.out] at h2
    have hLL : (layN l0 k (l2.take c16)).length = max n (k + c16) := by rw [layN_length _ _ _ (by rw [Hn.out]; exact hk), Hn.out, List.length_take, Hm.out]; omega
    obtain ⟨F2, g1, g2, g3, g4, g5⟩ := wrM_plain (F := { F' with off := false }) (q := k) (x := l2) h5 rfl (by show k ≤ F'.bs.length; rw [h2]; show k ≤ (layN l0 k (l2.take c16)).length; rw [hLL]; omega) (by show (l2.length : Int) ≤ F'.most - k; rw [h3, Hm.out]; show (m : Int) ≤ (n : Int) + (m : Int) - k; omega)
    have HWR : Hid (wrM { newM l0 ((n : Int) + (m : Int)) with pl := true, left := (c : Int) } (k : Int) l2 = (6, F')) := h1
    have HBSS : Hid (F'.bs = layN l0 k (l2.take c16)) := h2
    have HOF : Hid (F'.off = true) := h4
    have HRC : Hid (F'.rs.length ≤ 10000) := by
      have := wrM_count { newM l0 ((n : Int) + (m : Int)) with pl := true, left := (c : Int) } (k : Int) l2
      rw [h1, Hm.out] at this
      have e : (newM l0 ((n : Int) + (m : Int))).rs.length = 0 := rfl
      show F'.rs.length ≤ 10000
      dsimp only at this
      omega
    have HWR2 : Hid (wrM { F' with off := false } (k : Int) l2 = (0, F2)) := g1
    have HBS2 : Hid (F2.bs = layN l0 k l2) := by
      show F2.bs = _
      rw [g2]
      show layN F'.bs k l2 = _
      rw [h2]
      exact layN_again l0 k c16 l2 (by rw [Hn.out]; exact hk) (by rw [Hm.out]; omega)
    clear h1 h2 h3 h4 h5 g1 g2 g3 g4 g5 hLL
    go_enter Try.func8, Try.ntmps8
    go_wp2_with fail
    refine (of_some _ l0 ((n : Int) + (m : Int)) w HB0.out (by omega) (by omega) (by rw [Hn.out]; omega)).mono ?_
    rintro e w3 ⟨p, vb3, rfl, hp3, hb3⟩
    have HC : Hid _ := cut_any hp3 (c : Int) (by omega) (by omega)
    have HB3 : Hid (Below w.heap.size w w3) := hb3
    clear hp3 hb3
    go_wp2_with fail
    refine Calls.mono HC.out ?_
    rintro e w4 ⟨rfl, hp4, hc4⟩
    clear HC
    have hb4 : Below w.heap.size w w4 := HB3.out.trans (hc4.below (fun k hk => by have hk' : k = p := hk; rw [hk']; exact hp4.hold.bp) HB3.out.size)
    have HC : Hid _ := write_any hp4 hb4.size (k : Int) l2 _ (HB2.out.below hb4) (alien_old hp4 hb4 HB2.out) (by simp) (by rw [Hm.out]; omega) (by omega)
    rw [HWR.out] at HC
    have HP4 : Hid (PF w4 w.heap.size p { newM l0 ((n : Int) + (m : Int)) with pl := true, left := (c : Int) } vb3 (.slice none 0 0) []) := hp4
    have HB4 : Hid (Below w.heap.size w w4) := hb4
    clear hp4 hb4 hc4
    go_wp2_with fail
    refine Calls.mono HC.out ?_
    rintro e w5 ⟨vb5, vr5, rv5, rfl, hp5, hm5⟩
    clear HC
    have hb5 : Below w.heap.size w w5 := HB4.out.trans (hm5.below HP4.out HB4.out.size)
    have HON : Hid (∀ w', Below w5.heap.size w5 w' → Calls Try.prog 28 #[.pointer (some ⟨p, 0, none⟩)] w' fun e w2 => e = .returned (.bool false) ∧ w2 = w') := fun w' hb => by
      have := on_any (hp5.below hb)
      rwa [HOF.out] at this
    have HWN : Hid (∀ w', Below w5.heap.size w5 w' → Calls Try.prog 18 #[.pointer (some ⟨p, 0, none⟩), .int .i64 0, .slice none 0 0] w' fun e w2 => e = .returned (.int .i64 6) ∧ Below w5.heap.size w5 w2) := fun w' hb => by
      have hE : wErr F' 0 0 = 6 := by unfold wErr; rw [HOF.out]; simp
      refine (write_refused (hp5.below hb) 0 none 0 0 (by omega) (by omega) (by omega)).mono ?_
      rintro e w2 ⟨rfl, h2⟩
      rw [hE]
      exact ⟨rfl, hb.trans (h2.mono hb.size)⟩
    have HBY : Hid _ := bytes_txt hp5 _ rfl
    rw [HBSS.out] at HBY
    have HLY : Hid _ := refLay_txt (HB0.out.below hb5) (bs_take (HB2.out.below hb5) c16 (by rw [Hm.out]; omega)) (q := k) (by rw [Hn.out]; exact hk) (by rw [List.length_take, Hn.out, Hm.out]; omega) _ rfl
    have HP5 : Hid (PF w5 w.heap.size p F' vb5 vr5 rv5) := hp5
    have HB5 : Hid (Below w.heap.size w w5) := hb5
    have hr5 : Below w5.heap.size w5 w5.drew := (Below.refl _ _).drew
    clear hp5 hm5 hb5
    go_upto_region 10 with fail
    go_cut [107] (fun t wc => t = .bool false ∧ Below w5.heap.size w5 wc)
    case first =>
      rename_i K1 a3 K0 a2 J K2 a1 a0
      clear a3 a2
      go_region_held (fun w' => Below w5.heap.size w5 w') (assumption) (first | (go_at_call 28; refine (HON.out _ (by assumption)).mono ?_; rintro e w6 ⟨rfl, rfl⟩) | (go_at_call 26; refine (HBY.out _ (by assumption)).mono ?_; rintro e w7 ⟨ao7, cap7, rfl, hs7, hd7, hp7, hz7⟩) | (go_at_call 29; refine (HLY.out _ (by assumption)).mono ?_; rintro e w8 ⟨ao8, n8, cap8, rfl, hs8, hd8, hp8, hz8⟩) | (go_at_call 18; refine (HWN.out _ (by assumption)).mono ?_; rintro e w9 ⟨rfl, hd9⟩))
      all_goals (go_wp2_with fail; go_meet; exact ⟨rfl, by assumption⟩)
    case rest =>
      obtain ⟨rfl, hb6⟩ := hcut
      have HC : Hid _ := start_any (HP5.out.below hb6)
      have HB6 : Hid (Below w.heap.size w wc) := HB5.out.trans (hb6.mono HB5.out.size)
      have hrl : rv5.length ≤ 10000 := by have := HRC.out; rw [HP5.out.rs, plain_length] at this; exact this
      clear HON HWN HBY HLY hr5 hb6
      go_wp2_with fail
      refine Calls.mono HC.out ?_
      rintro e w7 ⟨⟨u7, rfl⟩, hp7, hc7⟩
      clear HC
      have hb7 : Below w.heap.size w w7 := HB6.out.trans (hc7.below (fun k hk => by have hk' : k = p := hk; rw [hk']; exact hp7.hold.bp) HB6.out.size)
      have HWR3 : Hid _ := write_any (hp7.below (Below.refl _ _).drew) (by exact hb7.size) (k : Int) l2 _ ((HB2.out.below hb7).drew) (alien_old (hp7.below (Below.refl _ _).drew) hb7.drew HB2.out) (by omega) (by rw [Hm.out]; omega) (by omega)
      rw [HWR2.out] at HWR3
      have HM7 : Hid (∀ w8 vb' vr' rv', PF w8 w.heap.size p F2 vb' vr' rv' → Moved w7.drew w8 p vb5 vr5 rv5 vb' vr' rv' → Below w.heap.size w w8) := fun w8 vb' vr' rv' h1 h2 => hb7.drew.trans (h2.below (hp7.below (Below.refl _ _).drew) hb7.size)
      have HLYA : Hid (∀ w', Below w.heap.size w w' → Bs w' (.slice ao0 n cap0) l0 ∧ Bs w' (.slice ao2 m cap2) l2) := fun w' hb => ⟨HB0.out.below hb, HB2.out.below hb⟩
      clear hp7 hc7 hb7
      go_wp2_with fail
      go_region_with (first | (go_at_call 18; refine Calls.mono HWR3.out ?_; rintro e w8 ⟨vb8, vr8, rv8, rfl, hp8, hm8⟩; have hb8 := HM7.out _ _ _ _ hp8 hm8; have HB8 : Hid (Below w.heap.size w w8) := hb8; have HBY : Hid _ := bytes_txt hp8 _ rfl; rw [HBS2.out] at HBY; have HLY : Hid _ := refLay_txt (HLYA.out _ hb8).1 (HLYA.out _ hb8).2 (q := k) (by rw [Hn.out]; exact hk) (by rw [Hn.out, Hm.out]; omega) _ rfl; have hr8 : Below w8.heap.size w8 w8 := Below.refl _ _; clear hp8 hm8 hb8) | (go_at_call 26; refine (HBY.out _ (by assumption)).mono ?_; rintro e w9 ⟨ao9, cap9, rfl, hs9, hd9, hp9, hz9⟩) | (go_at_call 29; refine (HLY.out _ (by assumption)).mono ?_; rintro e w10 ⟨ao10, n10, cap10, rfl, hs10, hd10, hp10, hz10⟩) | (go_at_call 15; refine (lives_any _).mono ?_; rintro e w11 ⟨rfl, hb11⟩))
      all_goals
        go_wp2
        go_ret
        exact ⟨rfl, HB8.out.trans ((hd10.trans (hb11.mono hd10.size)).mono HB8.out.size)⟩
end Go.Proofs.Ytkdmcdkjfkllkaa
