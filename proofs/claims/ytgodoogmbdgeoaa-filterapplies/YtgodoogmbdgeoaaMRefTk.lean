/-
  The document's Tokens and Pack. Conditions: at most MaxData bytes where tokens are told.
-/
import Derived.Test.YtgodoogmbdgeoaaMRefT
namespace Go.Proofs.Ytgodoogmbdgeoaa
open Go.RowKit
set_option linter.unusedVariables false
set_option maxRecDepth 100000

/-- The tokens' bytes, from a place on. -/
def tkB (b : List Int) (f p q : Nat) : List Int := (tokF b f p q).flatMap Tok.byt
theorem tkB_step (b : List Int) (f p q : Nat) : tkB b (f + 1) p q = if p < b.length then (if 4 ≤ (bst b p).1 then rnB ((b.take p).drop q) ++ [((bst b p).1 : Int) + 124, ((bst b p).2 : Int)] ++ tkB b f (p + (bst b p).1) (p + (bst b p).1) else if p + 1 - q = 128 then rnB ((b.take (p + 1)).drop q) ++ tkB b f (p + 1) (p + 1) else tkB b f (p + 1) q) else rnB (b.drop q) := by
  unfold tkB
  rw [tokF]
  split
  · split
    · rw [List.flatMap_append, List.flatMap_cons, rnB]; simp [Tok.byt]
    · split
      · rw [List.flatMap_append, rnB]
      · rfl
  · rfl
set_option maxHeartbeats 32000000 in
theorem refTokens_any (v : Value) (l : List Int) (w : World) (hl : Bs w v l) (hlb : l.length ≤ 65536) :
    Calls Try.prog 40 #[v] w (ApP w (tokB l)) := by
  obtain ⟨i0, hi, hi0, hi1, hi2⟩ := info_parts Try.info5
  obtain ⟨ao, cap, rfl, _⟩ := id hl
  obtain ⟨len, hll⟩ : ∃ len, l.length = len := ⟨_, rfl⟩
  have HLL : Hid (l.length = len) := hll
  rw [hll] at hl hlb ⊢
  obtain ⟨_, hlc, hao⟩ := bs_n hl
  have HX : Hid (Bs w (.slice ao len cap) l) := hl
  have HP0 : Hid (tkB l (len + 1) 0 0 = tokB l) := by rw [Hid, ← HLL.out]; rfl
  have HPS : Hid (∀ f p q, tkB l (f + 1) p q = if p < len then (if 4 ≤ (bst l p).1 then rnB ((l.take p).drop q) ++ [((bst l p).1 : Int) + 124, ((bst l p).2 : Int)] ++ tkB l f (p + (bst l p).1) (p + (bst l p).1) else if p + 1 - q = 128 then rnB ((l.take (p + 1)).drop q) ++ tkB l f (p + 1) (p + 1) else tkB l f (p + 1) q) else rnB (l.drop q)) := fun f p q => by rw [tkB_step, HLL.out]
  clear hl hll hao
  go_enter Try.func40, Try.ntmps40
  go_wp2_with fail
  go_loopw [3, 4, 5] (fun o qq pp wr => ∃ (D : List Int) (q p f : Nat), q ≤ p ∧ p ≤ len ∧ p - q < 128 ∧ qq = .int .i64 q ∧ pp = .int .i64 p ∧ Hid (Own wr w.heap.size o D) ∧ Hid (tokB l = D ++ tkB l f p q) ∧ len < f + p ∧ Hid (D.length ≤ 2 * q) ∧ Hid (Below w.heap.size w wr)) (fun _ _ pp _ => len - (intOf pp).toNat)
  case atStart => exact ⟨[], 0, 0, len + 1, Nat.le_refl _, Nat.zero_le _, by omega, rfl, rfl, Own.nil _ _, HP0.out.symm, by omega, Nat.le_refl _, Below.refl _ _⟩
  case round =>
    obtain ⟨D, q, p, f, hqp, hpl, hpq, rfl, rfl, HO, HT, hf, HD, HB⟩ := hrel
    by_cases hlt : p < len
    · obtain ⟨b, off, rfl, _⟩ := bs_some HX.out (by omega)
      cases f with
      | zero => omega
      | succ f =>
        have HLO : Hid _ := refBest_any _ l p _ (HX.out.below HB.out) (by rw [HLL.out]; omega) (by rw [HLL.out]; exact hpl)
        obtain ⟨n, hn⟩ : ∃ n, (bst l p).1 = n := ⟨_, rfl⟩
        obtain ⟨d, hd⟩ : ∃ d, (bst l p).2 = d := ⟨_, rfl⟩
        have hps := HPS.out f p q
        rw [if_pos hlt, hn, hd] at hps
        rw [hn, hd] at HLO
        have hroom := bst_room (b := l) (p := p) (by rw [HLL.out]; exact hpl)
        have hble := bstF_le l p (min 255 p)
        have hn2 : n ≤ 131 := by rw [← hn]; exact hble.1
        have hd2 : d ≤ 255 := by rw [← hd]; have := hble.2; exact Nat.le_trans this (Nat.min_le_left _ _)
        rw [hn, HLL.out] at hroom
        have HPP : Hid _ := hps
        have hlti : (p : Int) < (len : Int) := by omega
        clear hn hd hps hble
        go_wp2_with fail
        refine Calls.mono HLO.out ?_
        rintro e w2 ⟨rfl, hb2⟩
        have HB2 : Hid (Below w.heap.size w w2) := HB.out.trans (hb2.mono HB.out.size)
        have HO2 : Hid (Own w2 w.heap.size _ D) := HO.out.below hb2
        clear hb2 HLO
        by_cases h4 : 4 ≤ n
        · have h4i : 4 ≤ (n : Int) := by omega
          have hrc : (cap = q) = False := by simp; omega
          have HSL : Hid (Bs w2 (.slice (some ⟨b, off + q, none⟩) (p - q) (cap - q)) ((l.take p).drop q)) := (bs_part HX.out hqp (by omega)).below HB2.out
          have hsl : ((l.take p).drop q).length = p - q := by rw [List.length_drop, List.length_take, HLL.out]; omega
          have HRU : Hid _ := refRun_any _ ((l.take p).drop q) w2 HSL.out (by rw [hsl]; omega)
          obtain ⟨RR, hRR⟩ : ∃ RR, rnB ((l.take p).drop q) = RR := ⟨_, rfl⟩
          have HRL : Hid (RR.length ≤ 2 * (p - q)) := by rw [Hid, ← hRR, ← hsl]; exact rnB_len _
          have HT2 : Hid (tokB l = D ++ RR ++ [(n : Int) + 124, (d : Int)] ++ tkB l f (p + n) (p + n)) := by rw [Hid, HT.out, HPP.out, if_pos h4, hRR]; simp
          rw [hRR] at HRU
          have hw1 : IntKind.u8.wrap ((n : Int) + 124) = (n : Int) + 124 := by rw [IntKind.wrap_u8]; omega
          have hw2 : IntKind.u8.wrap (d : Int) = (d : Int) := by rw [IntKind.wrap_u8]; omega
          have hw3 : IntKind.i64.wrap (128 + (n : Int)) = 128 + (n : Int) := wrap_i64_in _ (by omega) (by omega)
          have hw4 : IntKind.i64.wrap (128 + (n : Int) - 4) = (n : Int) + 124 := by rw [show 128 + (n : Int) - 4 = (n : Int) + 124 by omega]; exact wrap_i64_in _ (by omega) (by omega)
          have hw5 : IntKind.i64.wrap ((p : Int) + (n : Int)) = ((p + n : Nat) : Int) := by rw [← Int.natCast_add]; exact wrap_i64_in _ (by omega) (by omega)
          have HLN : Hid (D.length + RR.length + 2 ≤ 140737488351232) := by have := HD.out; have := HRL.out; rw [Hid]; omega
          clear hRR hsl HPP
          go_wp2_with fail
          refine Calls.mono HRU.out ?_
          rintro e w3 ⟨x3, rfl, ho3, hb3⟩
          obtain ⟨a3, c3, rfl, -, -⟩ := ho3.opened
          have HX3 : Hid (Bs w3 (.slice a3 RR.length c3) RR) := ho3.bs
          have HO3 : Hid (Own w3 w.heap.size _ D) := HO2.out.below hb3
          have HB3 : Hid (Below w.heap.size w w3) := HB2.out.trans (hb3.mono HB2.out.size)
          have hsz := HB3.out.size
          clear ho3 hb3
          go_wp2_with (first | (at_builtin; refine wpList_append_bytes _ rfl (.tmp 20) (.tmp 25) 28 rfl i0 Try.underlying28 hi hi0 hi1 hi2 w.heap.size _ (.slice a3 RR.length c3) D RR rfl rfl HO3.out HX3.out (by have := HLN.out; omega) w HB3.out hsz ?_; intro ao1 cap1 w4 ho1 hb1 hx1 hx2; clear hx1 hx2; generalize D.length + RR.length = N1 at ho1 ⊢; have HO4 : Hid (Own w4 w.heap.size _ (D ++ RR)) := ho1; have HB4 : Hid (Below w.heap.size w w4) := hb1; have hsz4 := hb1.size; clear ho1 hb1) | (at_builtin; refine wpList_append_bytes _ rfl (.tmp 27) (.tmp 34) 28 rfl i0 Try.underlying28 hi hi0 hi1 hi2 w.heap.size _ _ (D ++ RR) [(n : Int) + 124, (d : Int)] rfl rfl (HO4.out.alloc _) (Bs.litM _ _ (0, 0) _ 2 rfl rfl) (by have := HLN.out; rw [List.length_append]; simp only [List.length_cons, List.length_nil]; omega) w (HB4.out.alloc hsz4 _) (by simp; omega) ?_; intro ao1 cap1 w5 ho1 hb1 hx1 hx2; clear hx1 hx2; generalize (D ++ RR).length + [(n : Int) + 124, (d : Int)].length = N1 at ho1 ⊢; have HO5 : Hid (Own w5 w.heap.size _ _) := ho1; have HB5 : Hid (Below w.heap.size w w5) := hb1; clear ho1 hb1))
          go_roundw
          case rel => exact ⟨_, p + n, p + n, f, Nat.le_refl _, by omega, by omega, rfl, rfl, HO5.out, HT2.out, by omega, by have := HD.out; have := HRL.out; rw [Hid, List.length_append, List.length_append]; simp only [List.length_cons, List.length_nil]; omega, HB5.out⟩
          case measure => simp [intOf]; omega
        · have h4i : ¬ 4 ≤ (n : Int) := by omega
          obtain ⟨p1, hp1⟩ : ∃ p1, p + 1 = p1 := ⟨_, rfl⟩
          have hw : IntKind.i64.wrap ((p : Int) + 1) = (p1 : Int) := by rw [show (p : Int) + 1 = (p1 : Int) by omega]; exact wrap_i64_in _ (by omega) (by omega)
          by_cases h128 : p1 - q = 128
          · have hw2 : IntKind.i64.wrap ((p1 : Int) - (q : Int)) = 128 := by rw [show (p1 : Int) - (q : Int) = 128 by omega]; exact wrap_i64_in _ (by omega) (by omega)
            have hrc : (cap = q) = False := by simp; omega
            have hp1l : p1 ≤ len := by omega
            have HSL : Hid (Bs w2 (.slice (some ⟨b, off + q, none⟩) 128 (cap - q)) ((l.take p1).drop q)) := by rw [← h128]; exact (bs_part HX.out (by omega) (by omega)).below HB2.out
            have hsl : ((l.take p1).drop q).length = p1 - q := by rw [List.length_drop, List.length_take, HLL.out]; omega
            have HRU : Hid _ := refRun_any _ ((l.take p1).drop q) w2 HSL.out (by rw [hsl]; omega)
            obtain ⟨RR, hRR⟩ : ∃ RR, rnB ((l.take p1).drop q) = RR := ⟨_, rfl⟩
            have HRL : Hid (RR.length ≤ 2 * (p1 - q)) := by rw [Hid, ← hRR, ← hsl]; exact rnB_len _
            have HT2 : Hid (tokB l = D ++ RR ++ tkB l f p1 p1) := by rw [Hid, HT.out, HPP.out, if_neg h4, if_pos (by omega), hp1, hRR]; simp
            rw [hRR] at HRU
            have HLN : Hid (D.length + RR.length + 2 ≤ 140737488351232) := by have := HD.out; have := HRL.out; rw [Hid]; omega
            clear hRR hsl HPP
            go_wp2_with fail
            refine Calls.mono HRU.out ?_
            rintro e w3 ⟨x3, rfl, ho3, hb3⟩
            obtain ⟨a3, c3, rfl, -, -⟩ := ho3.opened
            have HX3 : Hid (Bs w3 (.slice a3 RR.length c3) RR) := ho3.bs
            have HO3 : Hid (Own w3 w.heap.size _ D) := HO2.out.below hb3
            have HB3 : Hid (Below w.heap.size w w3) := HB2.out.trans (hb3.mono HB2.out.size)
            have hsz := HB3.out.size
            clear ho3 hb3
            go_wp2_with (at_builtin; refine wpList_append_bytes _ rfl (.tmp 46) (.tmp 51) 28 rfl i0 Try.underlying28 hi hi0 hi1 hi2 w.heap.size _ (.slice a3 RR.length c3) D RR rfl rfl HO3.out HX3.out (by have := HLN.out; omega) w HB3.out hsz ?_; intro ao1 cap1 w4 ho1 hb1 hx1 hx2; clear hx1 hx2; generalize D.length + RR.length = N1 at ho1 ⊢; have HO4 : Hid (Own w4 w.heap.size _ (D ++ RR)) := ho1; have HB4 : Hid (Below w.heap.size w w4) := hb1; clear ho1 hb1)
            go_roundw
            case rel => exact ⟨_, p1, p1, f, Nat.le_refl _, by omega, by omega, rfl, rfl, HO4.out, HT2.out, by omega, by have := HD.out; have := HRL.out; rw [Hid, List.length_append]; omega, HB4.out⟩
            case measure => simp [intOf]; omega
          · obtain ⟨s, hs⟩ : ∃ s, p1 - q = s := ⟨_, rfl⟩
            have hw2 : IntKind.i64.wrap ((p1 : Int) - (q : Int)) = (s : Int) := by rw [show (p1 : Int) - (q : Int) = (s : Int) by omega]; exact wrap_i64_in _ (by omega) (by omega)
            have hs128 : ¬ (s : Int) = 128 := by omega
            have HT2 : Hid (tokB l = D ++ tkB l f p1 q) := by rw [Hid, HT.out, HPP.out, if_neg h4, if_neg (by omega), hp1]
            clear HPP
            go_wp2_with fail
            go_roundw
            case rel => exact ⟨D, q, p1, f, by omega, by omega, by omega, rfl, rfl, HO2.out, HT2.out, by omega, HD.out, HB2.out⟩
            case measure => simp [intOf]; omega
    · obtain rfl : p = len := by omega
      have HE : Hid (D ++ rnB (l.drop q) = tokB l) := by
        cases f with
        | zero => omega
        | succ f => rw [Hid, HT.out, HPS.out, if_neg (Nat.lt_irrefl _)]
      have hdl : (l.drop q).length = p - q := by rw [List.length_drop, HLL.out]
      have HFIN : Hid (∀ y w1, Bs w1 y (l.drop q) → Calls Try.prog 56 #[y] w1 (ApP w1 (rnB (l.drop q)))) := fun y w1 hy => refRun_any y _ w1 hy (by rw [hdl]; omega)
      have HLN : Hid (D.length + (rnB (l.drop q)).length + 2 ≤ 140737488351232) := by have h1 := HD.out; have h2 := rnB_len (l.drop q); rw [hdl] at h2; rw [Hid]; omega
      obtain ⟨RR, hRR⟩ : ∃ RR, rnB (l.drop q) = RR := ⟨_, rfl⟩
      rw [hRR] at HE HFIN HLN
      clear hdl hRR
      have FIN : ∀ (y : Value) (w1 : World), True := fun _ _ => True.intro
      rcases Nat.eq_zero_or_pos p with h0 | h0
      · subst h0
        obtain rfl : q = 0 := by omega
        have HC : Hid _ := HFIN.out (.slice ao 0 cap) _ (HX.out.below HB.out)
        clear HFIN
        go_wp2_with fail
        refine Calls.mono HC.out ?_
        rintro e w3 ⟨x3, rfl, ho3, hb3⟩
        obtain ⟨a3, c3, rfl, -, -⟩ := ho3.opened
        have HX3 : Hid (Bs w3 (.slice a3 RR.length c3) RR) := ho3.bs
        have HO3 : Hid (Own w3 w.heap.size _ D) := HO.out.below hb3
        have HB3 : Hid (Below w.heap.size w w3) := HB.out.trans (hb3.mono HB.out.size)
        have hsz := HB3.out.size
        clear ho3 hb3
        go_wp2_with (at_builtin; refine wpList_append_bytes _ rfl (.tmp 54) (.tmp 58) 28 rfl i0 Try.underlying28 hi hi0 hi1 hi2 w.heap.size _ (.slice a3 RR.length c3) D RR rfl rfl HO3.out HX3.out (by have := HLN.out; omega) w HB3.out hsz ?_; intro ao1 cap1 w4 ho1 hb1 hx1 hx2; clear hx1 hx2; rw [HE.out] at ho1; generalize D.length + RR.length = N1 at ho1 ⊢; have HO4 : Hid (Own w4 w.heap.size _ (tokB l)) := ho1; have HB4 : Hid (Below w.heap.size w w4) := hb1; clear ho1 hb1)
        go_ret
        exact ⟨_, rfl, HO4.out, HB4.out⟩
      · obtain ⟨b, off, rfl, _⟩ := bs_some HX.out h0
        by_cases hcr : cap = q
        · have hpr : p = q := by omega
          subst hpr
          subst hcr
          have hc0 : (cap = 0) = False := by simp; omega
          have HC : Hid _ := HFIN.out (.slice (some ⟨b, off, none⟩) 0 0) wr (by rw [List.drop_of_length_le (by rw [HLL.out]; exact Nat.le_refl _)]; exact bs_none _ _ _ (fun _ => rfl))
          clear HFIN
          go_wp2_with fail
          refine Calls.mono HC.out ?_
          rintro e w3 ⟨x3, rfl, ho3, hb3⟩
          obtain ⟨a3, c3, rfl, -, -⟩ := ho3.opened
          have HX3 : Hid (Bs w3 (.slice a3 RR.length c3) RR) := ho3.bs
          have HO3 : Hid (Own w3 w.heap.size _ D) := HO.out.below hb3
          have HB3 : Hid (Below w.heap.size w w3) := HB.out.trans (hb3.mono HB.out.size)
          have hsz := HB3.out.size
          clear ho3 hb3
          go_wp2_with (at_builtin; refine wpList_append_bytes _ rfl (.tmp 54) (.tmp 58) 28 rfl i0 Try.underlying28 hi hi0 hi1 hi2 w.heap.size _ (.slice a3 RR.length c3) D RR rfl rfl HO3.out HX3.out (by have := HLN.out; omega) w HB3.out hsz ?_; intro ao1 cap1 w4 ho1 hb1 hx1 hx2; clear hx1 hx2; rw [HE.out] at ho1; generalize D.length + RR.length = N1 at ho1 ⊢; have HO4 : Hid (Own w4 w.heap.size _ (tokB l)) := ho1; have HB4 : Hid (Below w.heap.size w w4) := hb1; clear ho1 hb1)
          go_ret
          exact ⟨_, rfl, HO4.out, HB4.out⟩
        · have hcr' : (cap = q) = False := by simp [hcr]
          have HC : Hid _ := HFIN.out _ _ ((bs_rest HX.out hqp).below HB.out)
          clear HFIN
          go_wp2_with fail
          refine Calls.mono HC.out ?_
          rintro e w3 ⟨x3, rfl, ho3, hb3⟩
          obtain ⟨a3, c3, rfl, -, -⟩ := ho3.opened
          have HX3 : Hid (Bs w3 (.slice a3 RR.length c3) RR) := ho3.bs
          have HO3 : Hid (Own w3 w.heap.size _ D) := HO.out.below hb3
          have HB3 : Hid (Below w.heap.size w w3) := HB.out.trans (hb3.mono HB.out.size)
          have hsz := HB3.out.size
          clear ho3 hb3
          go_wp2_with (at_builtin; refine wpList_append_bytes _ rfl (.tmp 54) (.tmp 58) 28 rfl i0 Try.underlying28 hi hi0 hi1 hi2 w.heap.size _ (.slice a3 RR.length c3) D RR rfl rfl HO3.out HX3.out (by have := HLN.out; omega) w HB3.out hsz ?_; intro ao1 cap1 w4 ho1 hb1 hx1 hx2; clear hx1 hx2; rw [HE.out] at ho1; generalize D.length + RR.length = N1 at ho1 ⊢; have HO4 : Hid (Own w4 w.heap.size _ (tokB l)) := ho1; have HB4 : Hid (Below w.heap.size w w4) := hb1; clear ho1 hb1)
          go_ret
          exact ⟨_, rfl, HO4.out, HB4.out⟩
theorem refPack_big (v : Value) (l : List Int) (w : World) (hl : Bs w v l) (hlb : 65536 < l.length) :
    Calls Try.prog 24 #[v] w (TlP w 3 []) := by
  obtain ⟨ao, cap, rfl, _⟩ := id hl
  obtain ⟨len, hll⟩ : ∃ len, l.length = len := ⟨_, rfl⟩
  rw [hll] at hlb ⊢
  have hb : (65536 : Int) < (len : Int) := by omega
  go_enter Try.func24, Try.ntmps24
  go_wp2_with fail
  go_ret2
  exact ⟨_, rfl, Own.nil _ _, Below.refl _ _⟩
set_option maxHeartbeats 16000000 in
theorem refPack_any (v : Value) (l : List Int) (w : World) (hl : Bs w v l) (hlb : l.length ≤ 65536) :
    Calls Try.prog 24 #[v] w (TlP w 0 (pkX 0 l)) := by
  obtain ⟨i0, hi, hi0, hi1, hi2⟩ := info_parts Try.info5
  obtain ⟨ao, cap, rfl, _⟩ := id hl
  obtain ⟨len, hll⟩ : ∃ len, l.length = len := ⟨_, rfl⟩
  have HLL : Hid (l.length = len) := hll
  have HL : Hid (Bs w (.slice ao len cap) l) := by rw [← hll]; exact hl
  rw [hll] at hlb ⊢
  have hb : ¬ (65536 : Int) < (len : Int) := by omega
  have HC : Hid _ := refTokens_any (.slice ao len cap) l w HL.out (by rw [HLL.out]; exact hlb)
  clear hl hll
  go_enter Try.func24, Try.ntmps24
  go_wp2_with fail
  refine Calls.mono HC.out ?_
  rintro e w3 ⟨x3, rfl, ho3, hb3⟩
  obtain ⟨k, hk⟩ : ∃ k, (tokB l).length = k := ⟨_, rfl⟩
  obtain ⟨ao3, cap3, rfl, _, _⟩ := ho3.opened
  have HLN : Hid ((tokB l).length = k) := hk
  rw [HLN.out] at ho3 ⊢
  have HO3 : Hid (Bs w3 (.slice ao3 k cap3) (tokB l)) := ho3.bs
  have HB3 : Hid (Below w.heap.size w w3) := hb3
  clear ho3
  by_cases hlt : k < len
  · have HR : Hid ([1] ++ tokB l = pkX 0 l) := pkX_packed (by rw [hk, HLL.out]; exact hlt)
    have hlti : (k : Int) < (len : Int) := by omega
    obtain ⟨w4, hw4, b4, s4, o4, n4⟩ := own_one w w3 1 hb3
    have HO4 : Hid (Own w4 w.heap.size (.slice (some ⟨w3.heap.size, 0, none⟩) 1 1) [1]) := o4
    have HB4 : Hid (Below w.heap.size w w4) := b4
    have HL4 : Hid (Bs w4 (.slice ao3 k cap3) (tokB l)) := HO3.out.below n4
    clear hk b4 o4 hb3 n4
    go_wp2_with (at_builtin; refine wpList_append_bytes _ rfl (.tmp 15) (.tmp 16) 28 rfl i0 Try.underlying28 hi hi0 hi1 hi2 w.heap.size _ (.slice ao3 k cap3) [1] (tokB l) rfl rfl HO4.out HL4.out (by rw [HLN.out]; simp only [List.length_cons, List.length_nil]; omega) w HB4.out s4 ?_; intro ao1 cap1 w5 ho1 hb1 hx1 hx2; clear hx1 hx2; rw [HR.out] at ho1; generalize [(1 : Int)].length + (tokB l).length = N1 at ho1 ⊢; have HO5 : Hid (Own w5 w.heap.size _ _) := ho1; have HB5 : Hid (Below w.heap.size w w5) := hb1; clear ho1 hb1)
    go_ret2
    exact ⟨_, rfl, HO5.out, HB5.out⟩
  · have HR : Hid ([0] ++ l = pkX 0 l) := pkX_plain (by rw [hk, HLL.out]; exact hlt)
    have hlti : ¬ (k : Int) < (len : Int) := by omega
    obtain ⟨w4, hw4, b4, s4, o4, n4⟩ := own_one w w3 0 hb3
    have HO4 : Hid (Own w4 w.heap.size (.slice (some ⟨w3.heap.size, 0, none⟩) 1 1) [0]) := o4
    have HB4 : Hid (Below w.heap.size w w4) := b4
    have HL4 : Hid (Bs w4 (.slice ao len cap) l) := HL.out.below b4
    clear hk b4 o4 hb3 n4
    go_wp2_with (at_builtin; refine wpList_append_bytes _ rfl (.tmp 18) (.tmp 19) 28 rfl i0 Try.underlying28 hi hi0 hi1 hi2 w.heap.size _ (.slice ao len cap) [0] l rfl rfl HO4.out HL4.out (by rw [HLL.out]; simp only [List.length_cons, List.length_nil]; omega) w HB4.out s4 ?_; intro ao1 cap1 w5 ho1 hb1 hx1 hx2; clear hx1 hx2; rw [HR.out] at ho1; generalize [(0 : Int)].length + l.length = N1 at ho1 ⊢; have HO5 : Hid (Own w5 w.heap.size _ _) := ho1; have HB5 : Hid (Below w.heap.size w w5) := hb1; clear ho1 hb1)
    go_ret2
    exact ⟨_, rfl, HO5.out, HB5.out⟩
end Go.Proofs.Ytgodoogmbdgeoaa
