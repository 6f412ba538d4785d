/-
  Where a sum is the last filter, bytes of which one is another one are not undone: the law's walk. No conditions.
-/
import Derived.Test.YtgodoogmbdgeoabFiLives
import Derived.Test.YtgodoogmbdgeoabFiSame
import Derived.Test.YtgodoogmbdgeoabTurned
import Derived.Test.YtgodoogmbdgeoabPlace
namespace Go.Proofs.Ytgodoogmbdgeoab
open Go.RowKit
set_option linter.unusedVariables false
set_option maxRecDepth 100000

theorem Try.infoFilT : ∃ i, Try.prog.info? 26 = some i ∧ i.zero = some (.agg #[.int .i64 0, .int .i64 0]) ∧ i.size = 2 ∧ i.bytes = 16 := by
  refine ⟨_, rfl, ?_⟩
  exact ⟨by kernel_rfl, by kernel_rfl, by kernel_rfl⟩
theorem bel_grownT {W w w' : World} {r : Option Nat} (h : Below W.heap.size W w) (hg : w.grownBy w' r) (hr : ∀ k, r = some k → W.heap.size ≤ k) : Below W.heap.size W w' :=
  ⟨hg.os.trans h.os, hg.tape.trans h.tape, hg.output.trans h.output, Nat.le_trans h.size hg.size, fun x hx => by
    refine (hg.block x (Nat.lt_of_lt_of_le hx h.size) (fun e => ?_)).trans (h.block x hx)
    have := hr x e.symm
    omega⟩
theorem empty_ownT (w : World) : ∃ w1, w.alloc (.cells #[] 26) = w1 ∧ Below w.heap.size w w1 ∧ w.heap.size ≤ w1.heap.size ∧ OwnF w1 w.heap.size 26 (.slice (some ⟨w.heap.size, 0, none⟩) 0 0) [] :=
  ⟨_, rfl, (Below.refl _ _).alloc (Nat.le_refl _) _, by rw [World.size_alloc]; omega, OwnF.empty w _ _ (Nat.le_refl _)⟩
theorem OwnF.belowT {w w' : World} {B : Nat} {T : TypeId} {v : Value} {l : List Fil} (h : OwnF w B T v l) (hb : Below w.heap.size w w') : OwnF w' B T v l := by
  have h' : w.ownsRow B T 2 v l.length (fcells l) := h
  obtain ⟨h1, h2 | ⟨g, cap, cur, rfl, hB, hg, r⟩⟩ := h
  · exact ⟨h1, .inl h2⟩
  · exact ⟨h1, .inr ⟨g, cap, cur, rfl, hB, (hb.block g (h'.lt g rfl).2).trans hg, r⟩⟩
theorem xor_otherT {p y : Nat} (h : y ≠ 0) : p ≠ p ^^^ y := fun e => by
  have h1 : p ^^^ (p ^^^ y) = y := by rw [← Nat.xor_assoc, Nat.xor_self, Nat.zero_xor]
  rw [← e, Nat.xor_self] at h1
  exact h h1.symm
theorem set_splitT (l : List Int) (k : Nat) (x : Int) (h : k < l.length) : l = l.take k ++ l.getD k 0 :: l.drop (k + 1) ∧ l.set k x = l.take k ++ x :: l.drop (k + 1) := by
  have e : l.getD k 0 = l[k] := by simp [List.getD, h]
  refine ⟨?_, ?_⟩
  · rw [e, ← List.drop_eq_getElem_cons h, List.take_append_drop]
  · rw [List.set_eq_take_append_cons_drop, if_pos h]
theorem fletch_setT (l : List Int) (k : Nat) (t : Int) (h : k < l.length) (hp : 0 ≤ l.getD k 0 ∧ l.getD k 0 ≤ 255) (ht : 0 ≤ t ∧ t ≤ 255) (hne : l.getD k 0 ≠ t) : fletch (l.set k t) ≠ fletch l := by
  obtain ⟨e1, e2⟩ := set_splitT l k t h
  have h9 := fletch_turned (l.take k) (l.drop (k + 1)) (l.getD k 0) t hp ht hne
  rw [← e2] at h9
  rw [← e1] at h9
  exact fun e => h9 e.symm
/-- What bears its sum, with one byte that is another one, does not bear it. -/
theorem sum_turned {A : List Int} (hA : Byt A) {k : Nat} (hk : k < (A ++ smB A).length) {t : Int} (ht : 0 ≤ t ∧ t ≤ 255) (hne : (A ++ smB A).getD k 0 ≠ t) (z : Int) : unF (4, z) ((A ++ smB A).set k t) = ([], 5) := by
  have hl : (A ++ smB A).length = A.length + 4 := by rw [List.length_append, smB_len]
  rw [un_4, List.length_set, hl, Nat.add_sub_cancel, if_pos]
  refine .inr ?_
  by_cases h : k < A.length
  · have e : (A ++ smB A).getD k 0 = A.getD k 0 := by rw [List.getD, List.getElem?_append_left h]; rfl
    rw [e] at hne
    rw [List.set_append_left _ _ h, List.drop_left' (by rw [List.length_set]), List.take_left' (by rw [List.length_set])]
    intro hs
    have := congrArg (val true) hs
    rw [smB_val, smB_val] at this
    exact fletch_setT A k t h (hA k) ht hne this.symm
  · rw [List.set_append_right _ _ (by omega), List.drop_left, List.take_left]
    intro hs
    have h4 : k - A.length < (smB A).length := by rw [smB_len]; omega
    have e : (A ++ smB A).getD k 0 = (smB A).getD (k - A.length) 0 := by rw [List.getD, List.getElem?_append_right (by omega)]; rfl
    rw [e] at hne
    have := congrArg (fun l : List Int => l[k - A.length]?) hs
    rw [List.getElem?_set_self h4, List.getElem?_eq_getElem h4] at this
    refine hne ?_
    rw [List.getD, List.getElem?_eq_getElem h4]
    exact (Option.some.inj this).symm
theorem turned_no {L : List Fil} (h0 : chE (L ++ [(4, 0)]) = 0) {b : List Int} (hb : Byt b) (hl : b.length ≤ 4096) {k : Nat} (hk : k < (apL (L ++ [(4, 0)]) b).length) {t : Int} (ht : 0 ≤ t ∧ t ≤ 255) (hne : (apL (L ++ [(4, 0)]) b).getD k 0 ≠ t) :
    udE (L ++ [(4, 0)]) ((apL (L ++ [(4, 0)]) b).set k t) b.length = 5 ∧ udR (L ++ [(4, 0)]) ((apL (L ++ [(4, 0)]) b).set k t) b.length = [] := by
  rw [apL_snoc, do_4] at *
  have h := sum_turned (byt_ap L hb) hk ht hne 0
  refine ud_no h0 (by omega) ?_
  have e : (L ++ [(4, 0)] : List Fil).length = L.length + 1 := by rw [List.length_append]; rfl
  have eg : (L ++ [(4, 0)] : List Fil).getD L.length (0, 0) = (4, 0) := by rw [List.getD, List.getElem?_append_right (Nat.le_refl _), Nat.sub_self]; rfl
  rw [e, udN, eg, h, if_neg (by simp)]
  rintro ⟨h5, _⟩
  simp at h5
theorem turned_len (L : List Fil) (b : List Int) : 4 ≤ (apL (L ++ [(4, 0)]) b).length := by
  rw [apL_snoc, do_4, List.length_append, smB_len]; omega
set_option maxHeartbeats 4000000 in
theorem check_big (v : Value) (L : List Fil) (w : World) (hl : Fls w v L) (h : 4 < L.length) (hlb : L.length ≤ 9000000000000) : Calls Try.prog 7 #[v] w fun e w' => e = .returned (.int .i64 3) ∧ Below w.heap.size w w' := by
  obtain ⟨ao, cap, rfl, hc, hcell⟩ := hl.opened
  obtain ⟨n, hn⟩ : ∃ n, L.length = n := ⟨_, rfl⟩
  rw [hn] at hlb hc h ⊢
  have hbi : (4 : Int) < (n : Int) := by omega
  clear hl hcell hn
  go_enter Try.func7, Try.ntmps7
  go_wp2_with fail
  go_ret
  exact ⟨rfl, Below.refl _ _⟩
set_option maxHeartbeats 4000000 in
theorem apply_wide (v x : Value) (L : List Fil) (b : List Int) (w : World) (hl : Fls w v L) (hb : Bs w x b) (hby : Byt b) (hlb : L.length ≤ 9000000000000) (hbl : b.length ≤ 140737488351232) :
    Calls Try.prog 4 #[v, x] w (TlP w (apE L b.length) (apR L b)) := by
  by_cases h : 4 < L.length
  · have HK : Hid _ := check_big v L w hl h hlb
    have hc : chE L = 3 := chE_big h
    obtain ⟨e1, e2⟩ := ap_bad (by rw [hc]; omega) b
    rw [e1, e2, hc]
    clear hl hb e1 e2
    go_enter Try.func4, Try.ntmps4
    go_wp2_with fail
    refine Calls.mono HK.out ?_
    rintro e w2 ⟨rfl, hb2⟩
    go_wp2_with fail
    go_ret2
    exact ⟨_, rfl, Own.nil _ _, hb2⟩
  · exact apply_any v x L b w hl hb hby (by omega) hbl
set_option maxHeartbeats 64000000 in
theorem filterTurned_walk (u : Value) (L : List Fil) (v : Value) (l : List Int) (a2 a3 : Int) (w : World) (hf : Fls w u L) (hfl : L.length ≤ 8796093021952) (hl : Bs w v l) (hby : Byt l) (hlb : l.length ≤ 140737488351232) (w2 : (Lit.int .i64 a2).wf = true) (w3 : (Lit.int .u8 a3).wf = true) :
    Calls Try.prog 3 #[u, v, .int .i64 a2, .int .u8 a3] w fun e w' => e = .returned (.bool true) ∧ Below w.heap.size w w' := by
  obtain ⟨iF, hiF, hzF, hsF, hbF⟩ := Try.infoFilT
  have ha := bounds_i64 w2
  have hy := bounds_u8 w3
  clear w2 w3
  have HV : Hid (Bs w v l) := hl
  have HLB : Hid (l.length ≤ 140737488351232) := hlb
  have HFL : Hid (Fls w u L) := hf
  have HFB : Hid (L.length ≤ 8796093021952) := hfl
  obtain ⟨vo, vc, rfl, hq1, hq2, hq3⟩ := id hl
  clear hq1 hq2 hq3
  obtain ⟨m, hm⟩ : ∃ m, l.length = m := ⟨_, rfl⟩
  have HM : Hid (l.length = m) := hm
  rw [hm] at HV ⊢
  have HLL : Hid ((L ++ [(4, 0)]).length ≤ 8796093021953) := by rw [Hid, List.length_append]; simp; omega
  have HBY : Hid (Byt l) := hby
  obtain ⟨wE, hwE, bE, sE, oE⟩ := empty_ownT w
  have HOE : Hid _ := oE
  have HBE : Hid (Below w.heap.size w wE) := bE
  have HFE : Hid (Fls wE u L) := HFL.out.below bE
  have HSE : Hid (w.heap.size ≤ wE.heap.size) := sE
  clear bE oE sE hf hl hlb hfl hby hm
  go_enter Try.func3, Try.ntmps3
  go_wp2_with (first | (at_builtin; refine wpList_append_f _ rfl (.tmp 15) (.tmp 16) 22 26 rfl iF Try.underlying22 hiF hzF hsF hbF w.heap.size _ u [] L rfl rfl HOE.out HFE.out (by have := HFB.out; simp only [List.length_nil]; omega) HSE.out ?_; intro ao1 cap1 wA hoA hgA _ _; rw [List.nil_append] at hoA; have HN1 : Hid (([] : List Fil).length + L.length = L.length) := Nat.zero_add _; rw [HN1.out] at hoA ⊢; have HOA : Hid (OwnF wA w.heap.size 26 (.slice ao1 L.length cap1) L) := hoA; have HBA : Hid (Below w.heap.size w wA) := bel_grownT HBE.out hgA (fun k hk => by have hk' : some w.heap.size = some k := hk; injection hk' with hk'; omega); clear hoA hgA) | (at_builtin; refine wpList_append_f _ rfl (.tmp 17) (.tmp 19) 22 26 rfl iF Try.underlying22 hiF hzF hsF hbF w.heap.size _ _ L [(4, 0)] rfl rfl (HOA.out.belowT ((Below.refl _ _).alloc (Nat.le_refl _) _)) (fls_lit _ _ _ _) (by have := HFB.out; simp only [List.length_cons, List.length_nil]; omega) (by rw [World.size_alloc]; have := HBA.out.size; omega) ?_; intro ao2 cap2 wB hoB hgB _ _; have HGB : Hid (Fls wB _ (L ++ [(4, 0)])) := hoB.fls; have HBB : Hid (Below w.heap.size w wB) := bel_grownT (HBA.out.alloc HBA.out.size _) hgB (fun k hk => (World.ownsRow.lt HOA.out k hk).1); clear hoB hgB))
  have HA : Hid _ := apply_wide _ _ (L ++ [(4, 0)]) l wB HGB.out (HV.out.below HBB.out) HBY.out (by have := HLL.out; omega) HLB.out
  rw [HM.out] at HA
  by_cases hE : apE (L ++ [(4, 0)]) m = 0
  · obtain ⟨hc0, hm4⟩ : chE (L ++ [(4, 0)]) = 0 ∧ m ≤ 4096 := by
      unfold apE at hE
      split at hE
      · rename_i h
        split at hE
        · omega
        · exact ⟨h, by omega⟩
      · rename_i h; exact absurd hE h
    have hR : apR (L ++ [(4, 0)]) l = apL (L ++ [(4, 0)]) l := by rw [apR, if_pos (by rw [HM.out]; exact hE)]
    rw [hE, hR] at HA
    have HTN : Hid (∀ k t, k < (apL (L ++ [(4, 0)]) l).length → (0 ≤ t ∧ t ≤ 255) → (apL (L ++ [(4, 0)]) l).getD k 0 ≠ t → udE (L ++ [(4, 0)]) ((apL (L ++ [(4, 0)]) l).set k t) m = 5 ∧ udR (L ++ [(4, 0)]) ((apL (L ++ [(4, 0)]) l).set k t) m = []) := fun k t h1 h2 h3 => by
      have := turned_no hc0 HBY.out (by rw [HM.out]; exact hm4) h1 h2 h3
      rwa [HM.out] at this
    have hlen := turned_len L l
    have hbyR := byt_ap (L ++ [(4, 0)]) HBY.out
    have hlb := ap_len (L ++ [(4, 0)]) l
    have hl4 := (chE_ok hc0).1
    rw [HM.out] at hlb
    clear hR hE
    generalize apL (L ++ [(4, 0)]) l = R at *
    go_wp2_with fail
    refine Calls.mono HA.out ?_
    rintro e w2 ⟨x2, rfl, ho2, hb2⟩
    obtain ⟨a2', c2, rfl, hc2, hsh⟩ := ho2.opened
    obtain ⟨g, rfl, hgB, hgl⟩ := hsh (by omega)
    obtain ⟨n, hn⟩ : ∃ n, R.length = n := ⟨_, rfl⟩
    rw [hn] at ho2 hlen hlb hc2 ⊢
    have HRN : Hid (R.length = n) := hn
    have HO2 : Hid (Own w2 wB.heap.size (.slice (some ⟨g, 0, none⟩) n c2) R) := ho2
    have HB2 : Hid (Below wB.heap.size wB w2) := hb2
    have HW2 : Hid (Below w.heap.size w w2) := box_next HBB.out HBB.out.size hb2
    have HGG : Hid (wB.heap.size ≤ g) := hgB
    have hn4 : ¬ (n : Int) < 4 := by omega
    have hnb : n ≤ 5000 := by omega
    clear hsh hgl ho2 hb2 hgB hn
    by_cases hy0 : a3 = 0
    · subst hy0
      have HLV : Hid _ := lives16_any w2
      go_wp2_with fail
      refine Calls.mono HLV.out ?_
      rintro e w4 ⟨rfl, hb4⟩
      have HB4 : Hid (Below w.heap.size w w4) := box_next HW2.out HW2.out.size hb4
      clear hb4
      go_wp2_with fail
      go_ret
      exact ⟨rfl, HB4.out⟩
    · obtain ⟨k, hk, hk1, hk2, hk3⟩ := place_any a2 n (by omega)
      obtain ⟨y, rfl⟩ := Int.eq_ofNat_of_zero_le hy.1
      obtain ⟨p, hpe⟩ : ∃ p : Nat, R.getD k 0 = (p : Int) := ⟨(R.getD k 0).toNat, by have := hbyR k; omega⟩
      have hpb := hbyR k
      rw [hpe] at hpb
      obtain ⟨t, HTE, hxor, htb⟩ : ∃ t, Hid (t = p ^^^ y) ∧ bits .xor .u8 (p : Int) (y : Int) = ((t : Nat) : Int) ∧ t < 256 := ⟨_, (show p ^^^ y = p ^^^ y from rfl), u8_xor_nat _ _ (by omega) (by omega), Nat.xor_lt_two_pow (n := 8) (by omega) (by omega)⟩
      have hpt : p ≠ t := by rw [HTE.out]; exact xor_otherT (by omega)
      obtain ⟨u1, u2⟩ := HTN.out k (t : Int) (by rw [HRN.out]; exact hk) (by omega) (by rw [hpe]; omega)
      obtain ⟨hcx, hfx⟩ := HO2.out.cell HRN.out k hk
      rw [hpe] at hcx
      obtain ⟨hs3, hg3⟩ := HO2.out.stored HRN.out k (t : Int)
      obtain ⟨w3, hw3⟩ : ∃ w3, w2.setCell ⟨g, k, none⟩ (.int .u8 (t : Int)) = w3 := ⟨_, rfl⟩
      rw [hw3] at hs3 hg3
      have HB3 : Hid (Below wB.heap.size wB w3) := bel_grownT HB2.out hg3 (fun j hj => by have hj' : some g = some j := hj; injection hj' with hj'; have := HGG.out; omega)
      have HW3 : Hid (Below w.heap.size w w3) := box_next HBB.out HBB.out.size HB3.out
      have HUD : Hid _ := undo_any _ _ (L ++ [(4, 0)]) (R.set k (t : Int)) (m : Int) w3 (HGB.out.below HB3.out) hs3.bs (byt_set hbyR k (by omega)) (by omega) (by rw [List.length_set, HRN.out]; omega)
      rw [u1, u2] at HUD
      have hyb : ((y : Int) == 0) = false := by simp; omega
      have hn0 : (n : Int) ≠ 0 := by omega
      clear hs3 hg3 u1 u2 hpe hpb hpt hbyR hy0 hlb hl4 hlen HTN hc0
      go_wp2_with fail
      refine Calls.mono HUD.out ?_
      rintro e w4 ⟨x4, rfl, ho4, hb4⟩
      obtain ⟨a4, c4, rfl, hc4, hsh4⟩ := ho4.opened
      have HW4 : Hid (Below w.heap.size w w4) := box_next HW3.out HW3.out.size hb4
      have HLV : Hid _ := lives16_any w4
      clear ho4 hb4 hc4 hsh4
      go_wp2_with fail
      refine Calls.mono HLV.out ?_
      rintro e w5 ⟨rfl, hb5⟩
      have HB5 : Hid (Below w.heap.size w w5) := box_next HW4.out HW4.out.size hb5
      clear hb5
      go_wp2_with fail
      go_ret
      exact ⟨rfl, HB5.out⟩
  · obtain ⟨c, hce⟩ : ∃ c, apE (L ++ [(4, 0)]) m = c := ⟨_, rfl⟩
    have hR : apR (L ++ [(4, 0)]) l = [] := by rw [apR, if_neg (by rw [HM.out]; exact hE)]
    rw [hce] at HA hE
    rw [hR] at HA
    have hne : (c != 0) = true := by simp [hE]
    clear hce hR hE
    go_wp2_with fail
    refine Calls.mono HA.out ?_
    rintro e w2 ⟨x2, rfl, ho2, hb2⟩
    obtain ⟨a2', c2, rfl, hc2, hsh⟩ := ho2.opened
    have HW2 : Hid (Below w.heap.size w w2) := box_next HBB.out HBB.out.size hb2
    have HLV : Hid _ := lives16_any w2
    clear ho2 hb2 hc2 hsh
    go_wp2_with fail
    refine Calls.mono HLV.out ?_
    rintro e w4 ⟨rfl, hb4⟩
    have HB4 : Hid (Below w.heap.size w w4) := box_next HW2.out HW2.out.size hb4
    clear hb4
    go_wp2_with fail
    go_ret
    exact ⟨rfl, HB4.out⟩
end Go.Proofs.Ytgodoogmbdgeoab
