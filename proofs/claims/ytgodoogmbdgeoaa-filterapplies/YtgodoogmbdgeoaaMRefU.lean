/-
  The document's Unpack. Conditions: bytes are bytes; their number is one that memory bears.
-/
import Derived.Test.YtgodoogmbdgeoaaMUn
namespace Go.Proofs.Ytgodoogmbdgeoaa
open Go.RowKit
set_option linter.unusedVariables false
set_option maxRecDepth 100000

theorem drop_at {l : List Int} {p : Nat} (h : p < l.length) : l.drop p = l.getD p 0 :: l.drop (p + 1) := by
  rw [List.drop_eq_getElem_cons h, List.getD, List.getElem?_eq_getElem h]; rfl
theorem refUnpack_arg (v : Value) (most : Int) (w : World) (h : most < 0 ∨ 65536 < most) : Calls Try.prog 29 #[v, .int .i64 most] w (TlP w 2 []) := by
  by_cases h1 : most < 0
  · go_enter Try.func29, Try.ntmps29
    go_wp2_with fail
    go_ret2
    exact ⟨_, rfl, Own.nil _ _, Below.refl _ _⟩
  · have h2 : 65536 < most := by omega
    go_enter Try.func29, Try.ntmps29
    go_wp2_with fail
    go_ret2
    exact ⟨_, rfl, Own.nil _ _, Below.refl _ _⟩
set_option maxHeartbeats 64000000 in
theorem refUnpack_tok (v : Value) (t : List Int) (m : Nat) (w : World) (hl : Bs w v (1 :: t)) (hby : Byt (1 :: t)) (hm : m ≤ 65536) (hlb : t.length ≤ 140737488351232) :
    Calls Try.prog 29 #[v, .int .i64 (m : Int)] w (TlP w (decF m (t.length + 1) t []).2 (decF m (t.length + 1) t []).1) := by
  obtain ⟨i0, hi, hi0, hi1, hi2⟩ := info_parts Try.info5
  obtain ⟨l, hll⟩ : ∃ l, 1 :: t = l := ⟨_, rfl⟩
  have hdr : l.drop 1 = t := by rw [← hll]; rfl
  obtain ⟨RE, hRE⟩ : ∃ RE, decF m (t.length + 1) t [] = RE := ⟨_, rfl⟩
  have hlen : l.length = t.length + 1 := by rw [← hll]; rfl
  have h0 : l.getD 0 0 = 1 := by rw [← hll]; rfl
  have HRE : Hid (RE = decF m (t.length + 1) (l.drop 1) []) := by rw [hdr]; exact hRE.symm
  rw [hRE]
  rw [hll] at hl hby
  obtain ⟨ao, cap, rfl, _⟩ := id hl
  obtain ⟨n, hn⟩ : ∃ n, l.length = n := ⟨_, rfl⟩
  have HN : Hid (l.length = n) := hn
  rw [hn] at hl ⊢
  obtain ⟨_, hnc, _⟩ := bs_n hl
  obtain ⟨b, off, rfl, hcl⟩ := bs_some hl (by omega)
  have c0 : w.cell? ⟨b, off, none⟩ = some (.int .u8 1) := by have := hcl 0 (by omega); rwa [h0] at this
  have HCL : Hid (∀ i, i < n → w.cell? ⟨b, off + i, none⟩ = some (.int .u8 (l.getD i 0))) := hcl
  have HL : Hid (Bs w (.slice (some ⟨b, off, none⟩) n cap) l) := hl
  have HBY : Hid (Byt l) := hby
  have n0 : 0 < n := by omega
  have n1 : 1 ≤ n := by omega
  have n2 : (n : Int) ≠ 0 := by omega
  have n3 : n ≤ 140737488351233 := by omega
  have HT : Hid (t.length + 1 = n) := by rw [Hid, ← hn, hlen]
  have g1 : ¬ (m : Int) < 0 := by omega
  have g2 : ¬ (65536 : Int) < (m : Int) := by omega
  clear hl hby hRE hdr hlen h0 hll hcl hn hlb
  go_enter Try.func29, Try.ntmps29
  go_wp2_with fail
  go_loopw [6, 7] (fun o a wr => ∃ (L : List Int) (p f : Nat), 1 ≤ p ∧ p ≤ n ∧ a = .int .i64 p ∧ Hid (Own wr w.heap.size o L) ∧ Hid (RE = decF m f (l.drop p) L) ∧ n < p + f ∧ Hid (L.length ≤ m) ∧ Hid (Below w.heap.size w wr)) (fun _ a _ => n - (intOf a).toNat)
  case atStart => exact ⟨[], 1, t.length + 1, Nat.le_refl _, n1, rfl, Own.nil _ _, HRE.out, by have := HT.out; omega, Nat.zero_le _, Below.refl _ _⟩
  case round =>
    obtain ⟨L, p, f, hp1, hpn, rfl, HO, HD, hf, HLM, HB⟩ := hrel
    by_cases hlt : p < n
    · cases f with
      | zero => omega
      | succ f =>
      obtain ⟨kn, hkb, hk⟩ : ∃ kn : Nat, kn ≤ 255 ∧ l.getD p 0 = (kn : Int) := ⟨(l.getD p 0).toNat, by have := HBY.out p; omega, by have := HBY.out p; omega⟩
      have cp := bel_cell HB.out (HCL.out p hlt)
      rw [hk] at cp
      have hdec : RE = decF m (f + 1) (l.drop p) L := HD.out
      rw [drop_at (by rw [HN.out]; exact hlt), hk, decF] at hdec
      have htl : (l.drop (p + 1)).length = n - (p + 1) := by rw [List.length_drop, HN.out]
      obtain ⟨aoO, capO, rfl, _, _⟩ := HO.out.opened
      obtain ⟨len, hlen⟩ : ∃ len, L.length = len := ⟨_, rfl⟩
      have HLEN : Hid (L.length = len) := hlen
      have hlm : len ≤ m := by rw [← hlen]; exact HLM.out
      rw [hlen] at HO ⊢
      obtain ⟨p1, hp1e⟩ : ∃ p1, p + 1 = p1 := ⟨_, rfl⟩
      have e1 : IntKind.i64.wrap ((p : Int) + 1) = (p1 : Int) := by rw [show (p : Int) + 1 = (p1 : Int) by omega]; exact wrap_i64_in _ (by omega) (by omega)
      have e2 : IntKind.i64.wrap ((p : Int) + 2) = ((p + 2 : Nat) : Int) := by rw [show (p : Int) + 2 = ((p + 2 : Nat) : Int) by omega]; exact wrap_i64_in _ (by omega) (by omega)
      obtain ⟨p2, hp2e⟩ : ∃ p2, p + 2 = p2 := ⟨_, rfl⟩
      have ek : IntKind.i64.wrap (kn : Int) = (kn : Int) := wrap_i64_in _ (by omega) (by omega)
      rw [hp2e] at e2
      rw [hp1e] at htl hdec
      have hlti : (p : Int) < (n : Int) := by omega
      have hbs := HB.out.size
      clear hk hlen
      by_cases h128 : kn < 128
      · rw [if_pos (by omega), htl] at hdec
        have k128 : (kn : Int) < 128 := by omega
        have e3 : IntKind.i64.wrap ((p1 : Int) + (kn : Int)) = ((p1 + kn : Nat) : Int) := by rw [← Int.natCast_add]; exact wrap_i64_in _ (by omega) (by omega)
        have e4 : IntKind.i64.wrap ((p2 : Int) + (kn : Int)) = ((p2 + kn : Nat) : Int) := by rw [← Int.natCast_add]; exact wrap_i64_in _ (by omega) (by omega)
        obtain ⟨q1, hq1⟩ : ∃ q1, p1 + kn = q1 := ⟨_, rfl⟩
        obtain ⟨q2, hq2⟩ : ∃ q2, p2 + kn = q2 := ⟨_, rfl⟩
        rw [hq1] at e3
        rw [hq2] at e4
        by_cases hno : n ≤ q1
        · have HE : Hid (RE = ([], 5)) := by rw [Hid, hdec, if_pos (by omega)]
          have hnoi : (n : Int) ≤ (q1 : Int) := by omega
          clear hdec HD htl hq1 hq2 hp1e hp2e
          go_wp2_with fail
          go_ret2
          exact ⟨_, by rw [HE.out]; rfl, by rw [HE.out]; exact Own.nil _ _, HB.out⟩
        · have hnoi : ¬ (n : Int) ≤ (q1 : Int) := by omega
          obtain ⟨c, hc⟩ : ∃ c, kn + 1 = c := ⟨_, rfl⟩
          have hct : ((l.drop p1).take c).length = c := by rw [List.length_take, htl]; omega
          rw [if_neg (by omega), Int.toNat_natCast, hc, List.length_append, hct, List.drop_drop, show p1 + c = q2 by omega, HLEN.out] at hdec
          have HCT : Hid (((l.drop p1).take c).length = c) := hct
          have hsub : q2 - p1 = c := by omega
          have hq2n : q2 ≤ n := by omega
          have hq2c : q2 ≤ cap := by omega
          have hp12 : p1 ≤ q2 := by omega
          have HQ : Hid (p < q2) := by rw [Hid]; omega
          have HF : Hid (n < q2 + f) := by rw [Hid]; omega
          have hcap : (cap = p1) = False := by simp; omega
          have HSL : Hid (Bs w (.slice (some ⟨b, off + p1, none⟩) c (cap - p1)) ((l.drop p1).take c)) := by
            have := bs_part HL.out (lo := p1) (hi := q2) hp12 hq2n
            rw [hsub, List.drop_take, hsub] at this
            exact this
          have HLC : Hid (len + c ≤ 140737488355328) := by rw [Hid]; omega
          have HDEC : Hid _ := hdec
          have hlc : len + c ≤ 70000 := by omega
          clear hdec HD htl hct hq1 hq2 hp1e hp2e hc
          by_cases hbig : m < len + c
          · have hbi : (m : Int) < ((len + c : Nat) : Int) := by omega
            have HE : Hid (RE = ([], 3)) := by rw [Hid, HDEC.out, if_pos hbig]
            clear HDEC
            go_wp2_with (at_builtin; refine wpList_append_bytes _ rfl (.tmp 56) (.tmp 64) 28 rfl i0 Try.underlying28 hi hi0 hi1 hi2 w.heap.size _ (.slice (some ⟨b, off + p1, none⟩) c (cap - p1)) L ((l.drop p1).take c) rfl rfl HO.out (HSL.out.below HB.out) (by rw [HCT.out, HLEN.out]; exact HLC.out) w HB.out hbs ?_; intro ao1 cap1 w5 ho1 hb1 _ _; rw [HCT.out, HLEN.out] at ho1 ⊢; have HO5 : Hid (Own w5 w.heap.size (.slice ao1 (len + c) cap1) _) := ho1; have HB5 : Hid (Below w.heap.size w w5) := hb1; clear ho1 hb1)
            go_ret2
            exact ⟨_, by rw [HE.out]; rfl, by rw [HE.out]; exact Own.nil _ _, HB5.out⟩
          · have hbi : ¬ (m : Int) < ((len + c : Nat) : Int) := by omega
            have HE : Hid (RE = decF m f (l.drop q2) (L ++ (l.drop p1).take c)) := by rw [Hid, HDEC.out, if_neg hbig]
            clear HDEC
            go_wp2_with (at_builtin; refine wpList_append_bytes _ rfl (.tmp 56) (.tmp 64) 28 rfl i0 Try.underlying28 hi hi0 hi1 hi2 w.heap.size _ (.slice (some ⟨b, off + p1, none⟩) c (cap - p1)) L ((l.drop p1).take c) rfl rfl HO.out (HSL.out.below HB.out) (by rw [HCT.out, HLEN.out]; exact HLC.out) w HB.out hbs ?_; intro ao1 cap1 w5 ho1 hb1 _ _; rw [HCT.out, HLEN.out] at ho1 ⊢; have HO5 : Hid (Own w5 w.heap.size (.slice ao1 (len + c) cap1) _) := ho1; have HB5 : Hid (Below w.heap.size w w5) := hb1; clear ho1 hb1)
            go_roundw
            case rel => exact ⟨L ++ (l.drop p1).take c, q2, f, by have := HQ.out; omega, hq2n, rfl, HO5.out, HE.out, HF.out, by rw [Hid, List.length_append, HCT.out, HLEN.out]; omega, HB5.out⟩
            case measure => simp [intOf]; have := HQ.out; omega
      · have k128 : ¬ (kn : Int) < 128 := by omega
        rw [if_neg (by omega)] at hdec
        by_cases hno : n ≤ p1
        · have hnil : l.drop p1 = [] := List.eq_nil_of_length_eq_zero (by omega)
          have HE : Hid (RE = ([], 5)) := by rw [Hid, hdec, if_pos (.inl hnil)]
          have hnoi : (n : Int) ≤ (p1 : Int) := by omega
          clear hdec HD htl hp1e hp2e hnil
          go_wp2_with fail
          go_ret2
          exact ⟨_, by rw [HE.out]; rfl, by rw [HE.out]; exact Own.nil _ _, HB.out⟩
        · have hnoi : ¬ (n : Int) ≤ (p1 : Int) := by omega
          have hp1n : p1 < n := by omega
          obtain ⟨dn, hdb, hd⟩ : ∃ dn : Nat, dn ≤ 255 ∧ l.getD p1 0 = (dn : Int) := ⟨(l.getD p1 0).toNat, by have := HBY.out p1; omega, by have := HBY.out p1; omega⟩
          have cd := bel_cell HB.out (HCL.out p1 hp1n)
          have HCD : Hid (w.cell? ⟨b, off + p1, none⟩ = some (.int .u8 (dn : Int))) := by have := HCL.out p1 hp1n; rwa [hd] at this
          rw [hd] at cd
          have ed : IntKind.i64.wrap (dn : Int) = (dn : Int) := wrap_i64_in _ (by omega) (by omega)
          obtain ⟨c, hc⟩ : ∃ c, kn - 124 = c := ⟨_, rfl⟩
          have ec1 : IntKind.i64.wrap ((kn : Int) - 128) = (kn : Int) - 128 := wrap_i64_in _ (by omega) (by omega)
          have ec2 : IntKind.i64.wrap ((kn : Int) - 128 + 4) = (c : Int) := by rw [show (kn : Int) - 128 + 4 = (c : Int) by omega]; exact wrap_i64_in _ (by omega) (by omega)
          rw [drop_at (by rw [HN.out]; exact hp1n), hd, List.headD_cons, List.tail_cons, Int.toNat_natCast, Int.toNat_natCast, hc, cpOut_len, HLEN.out, show p1 + 1 = p2 by omega] at hdec
          have HDEC : Hid _ := hdec
          have hp2n : p2 ≤ n := by omega
          have HQ : Hid (p < p2) := by rw [Hid]; omega
          have HF : Hid (n < p2 + f) := by rw [Hid]; omega
          have hcM : c ≤ 131 := by omega
          clear hdec HD htl hp1e hp2e hc hd
          by_cases hd0 : dn = 0
          · have HE : Hid (RE = ([], 5)) := by rw [Hid, HDEC.out, if_pos (.inr (.inl (by omega)))]
            have hdz : ((dn : Int) == 0) = true := by simp [hd0]
            clear HDEC hd0
            go_wp2_with fail
            go_ret2
            exact ⟨_, by rw [HE.out]; rfl, by rw [HE.out]; exact Own.nil _ _, HB.out⟩
          · have hdz : ((dn : Int) == 0) = false := by simp [hd0]
            by_cases hdl : len < dn
            · have HE : Hid (RE = ([], 5)) := by rw [Hid, HDEC.out, if_pos (.inr (.inr (by omega)))]
              have hdli : (len : Int) < (dn : Int) := by omega
              clear HDEC
              go_wp2_with fail
              go_ret2
              exact ⟨_, by rw [HE.out]; rfl, by rw [HE.out]; exact Own.nil _ _, HB.out⟩
            · have hdli : ¬ (len : Int) < (dn : Int) := by omega
              have HDEC2 : Hid (RE = if m < len + c then ([], 3) else decF m f (l.drop p2) (cpOut dn c L)) := by
                rw [Hid, HDEC.out, if_neg (by intro h; rcases h with h | h | h; cases h; omega; omega)]
              clear HDEC
              have ec3 : IntKind.i64.wrap ((len : Int) - (dn : Int)) = ((len - dn : Nat) : Int) := by rw [show (len : Int) - (dn : Int) = ((len - dn : Nat) : Int) by omega]; exact wrap_i64_in _ (by omega) (by omega)
              go_wp2_with fail
              clear cp cd
              go_loopw [6, 9] (fun o i wi => ∃ (j lj cap' : Nat) (ao : Option Addr) (M : List Int), j ≤ c ∧ i = .int .i64 j ∧ o = .slice ao lj cap' ∧ lj = len + j ∧ Hid (M.length = lj) ∧ Hid (Own wi w.heap.size (.slice ao lj cap') M) ∧ Hid (cpOut dn (c - j) M = cpOut dn c L) ∧ Hid (Below w.heap.size w wi)) (fun _ i _ => c - (intOf i).toNat)
              case atStart => exact ⟨0, len, capO, aoO, L, Nat.zero_le _, rfl, rfl, rfl, HLEN.out, HO.out, rfl, HB.out⟩
              case round =>
                obtain ⟨j, lj, cap', ao', M, hj, rfl, rfl, hlj, HM, HOM, HCP, HBM⟩ := hrel
                have HLJ : Hid (lj = len + j) := hlj
                by_cases hjc : j < c
                · obtain ⟨b', off', rfl, hcm⟩ := bs_some HOM.out.bs (by omega)
                  obtain ⟨q, hq⟩ : ∃ q, lj - dn = q := ⟨_, rfl⟩
                  have hql : q < lj := by omega
                  have hc1 := hcm q hql
                  obtain ⟨x, hx⟩ : ∃ x, M.getD q 0 = x := ⟨_, rfl⟩
                  rw [hx] at hc1
                  have e5 : IntKind.i64.wrap ((lj : Int) - (dn : Int)) = (q : Int) := by rw [show (lj : Int) - (dn : Int) = (q : Int) by omega]; exact wrap_i64_in _ (by omega) (by omega)
                  have HNX : Hid (cpOut dn (c - (j + 1)) (M ++ [x]) = cpOut dn c L) := by
                    rw [Hid, ← HCP.out, show c - j = (c - (j + 1)) + 1 by omega, cpOut, HM.out, hq, hx]
                  have cd2 := bel_cell HBM.out HCD.out
                  have hlM : lj + 1 ≤ 140737488355328 := by omega
                  have hjci : (j : Int) < (c : Int) := by omega
                  have hbs2 := HBM.out.size
                  clear hcm hx hq hlj ec3
                  go_wp2_with (at_builtin; refine wpList_append_bytes _ rfl (.tmp 101) (.tmp 114) 28 rfl i0 Try.underlying28 hi hi0 hi1 hi2 w.heap.size _ _ M [x] rfl rfl (HOM.out.alloc _) (Bs.one _ _) (by rw [HM.out]; simp only [List.length_cons, List.length_nil]; omega) w (HBM.out.alloc hbs2 _) (by simp; omega) ?_; intro ao1 cap1 w5 ho1 hb1 _ _; rw [HM.out] at ho1 ⊢; simp only [List.length_cons, List.length_nil, Nat.zero_add] at ho1 ⊢; have HO5 : Hid (Own w5 w.heap.size (.slice ao1 (lj + 1) cap1) _) := ho1; have HB5 : Hid (Below w.heap.size w w5) := hb1; clear ho1 hb1)
                  go_roundw
                  case rel => exact ⟨j + 1, lj + 1, cap1, ao1, M ++ [x], by omega, by go_num, rfl, by have := HLJ.out; omega, by rw [Hid, List.length_append, HM.out]; rfl, HO5.out, HNX.out, HB5.out⟩
                  case measure => simp [intOf]; omega
                · obtain rfl : c = j := by omega
                  have HCE : Hid (M = cpOut dn c L) := by rw [Hid, ← HCP.out, Nat.sub_self]; rfl
                  by_cases hbig : m < lj
                  · have hbi : (m : Int) < (lj : Int) := by omega
                    have HE : Hid (RE = ([], 3)) := by rw [Hid, HDEC2.out, if_pos (by omega)]
                    clear hlj HDEC2
                    go_wp2_with fail
                    go_ret2
                    exact ⟨_, by rw [HE.out]; rfl, by rw [HE.out]; exact Own.nil _ _, HBM.out⟩
                  · have hbi : ¬ (m : Int) < (lj : Int) := by omega
                    have HE : Hid (RE = decF m f (l.drop p2) M) := by rw [Hid, HDEC2.out, if_neg (by omega), HCE.out]
                    clear hlj HDEC2
                    go_wp2_with fail
                    go_roundw
                    case rel => exact ⟨M, p2, f, by have := HQ.out; omega, hp2n, by go_num, HOM.out, HE.out, HF.out, by rw [Hid, HM.out]; omega, HBM.out⟩
                    case measure => simp [intOf]; have := HQ.out; omega
    · obtain rfl : p = n := by omega
      have HE : Hid (RE = (L, 0)) := by
        rw [Hid, HD.out, List.drop_of_length_le (by rw [HN.out]; exact Nat.le_refl _)]
        cases f with
        | zero => rfl
        | succ f => rfl
      clear HD
      go_wp2_with fail
      go_ret2
      exact ⟨_, by rw [HE.out]; rfl, by rw [HE.out]; exact HO.out, HB.out⟩
end Go.Proofs.Ytgodoogmbdgeoaa
