/-
  The program's appendTokens and Pack. Conditions: at most MaxData bytes where tokens are told.
-/
import Derived.Test.YtgodoogmbdgeoabMRuns
namespace Go.Proofs.Ytgodoogmbdgeoab
open Go.RowKit
set_option linter.unusedVariables false
set_option maxRecDepth 100000

theorem bs_rest {w : World} {b off n cap : Nat} {l : List Int} (h : Bs w (.slice (some ⟨b, off, none⟩) n cap) l) {lo : Nat} (h1 : lo ≤ n) : Bs w (.slice (some ⟨b, off + lo, none⟩) (n - lo) (cap - lo)) (l.drop lo) := by
  have := bs_part h h1 (Nat.le_refl _)
  rwa [List.take_of_length_le (by rw [(bs_n h).1]; exact Nat.le_refl _)] at this
set_option maxHeartbeats 32000000 in
theorem toks_any (v x : Value) (m l : List Int) (w0 w : World) (hb : Below w0.heap.size w0 w) (hv : Own w w0.heap.size v m) (hx : Bs w0 x l) (hm : m.length ≤ 10) (hlb : l.length ≤ 65536) :
    Calls Try.prog 32 #[v, x] w (ApP w0 (m ++ tokB l)) := by
  obtain ⟨i0, hi, hi0, hi1, hi2⟩ := info_parts Try.info5
  have HV : Hid (Own w w0.heap.size v m) := hv
  obtain ⟨ao, cap, rfl, _⟩ := id hx
  obtain ⟨len, hll⟩ : ∃ len, l.length = len := ⟨_, rfl⟩
  have HLL : Hid (l.length = len) := hll
  rw [hll] at hx hlb ⊢
  obtain ⟨_, hlc, hao⟩ := bs_n hx
  have HX : Hid (Bs w0 (.slice ao len cap) l) := hx
  have HB0 : Hid (Below w0.heap.size w0 w) := hb
  have HAO : Hid (ao = none → cap = 0) := hao
  have HP0 : Hid (ptkF l (len + 1) 0 0 = tokB l) := by rw [Hid, ← HLL.out]; exact ptk_all l
  have HPS : Hid (∀ f p r, ptkF l (f + 1) p r = if p < len then (if (bst l p).1 < 4 then ptkF l f (p + 1) r else runsL ((l.take p).drop r) ++ [((bst l p).1 : Int) + 124, ((bst l p).2 : Int)] ++ ptkF l f (p + (bst l p).1) (p + (bst l p).1)) else runsL (l.drop r)) := fun f p r => by rw [← HLL.out]; rfl
  clear hv hx hb hll hao
  go_enter Try.func32, Try.ntmps32
  go_wp2_with fail
  go_loopw [0, 5, 6] (fun o rn pp wr => ∃ (D : List Int) (r p f : Nat), r ≤ p ∧ p ≤ len ∧ rn = .int .i64 r ∧ pp = .int .i64 p ∧ Hid (Own wr w0.heap.size o (m ++ D)) ∧ Hid (tokB l = D ++ ptkF l f p r) ∧ len < f + p ∧ Hid (D.length ≤ 2 * r) ∧ Hid (Below w0.heap.size w0 wr)) (fun _ _ pp _ => len - (intOf pp).toNat)
  case atStart => exact ⟨[], 0, 0, len + 1, Nat.le_refl _, Nat.zero_le _, rfl, rfl, by rw [Hid, List.append_nil]; exact HV.out, HP0.out.symm, by omega, Nat.le_refl _, HB0.out⟩
  case round =>
    obtain ⟨D, r, p, f, hrp, hpl, rfl, rfl, HO, HT, hf, HD, HB⟩ := hrel
    by_cases hlt : p < len
    · obtain ⟨b, off, rfl, _⟩ := bs_some HX.out (by omega)
      cases f with
      | zero => omega
      | succ f =>
        have HLO : Hid _ := longest_any _ l p _ (HX.out.below HB.out) (by rw [HLL.out]; omega) (by rw [HLL.out]; exact hpl)
        obtain ⟨n, hn⟩ : ∃ n, (bst l p).1 = n := ⟨_, rfl⟩
        obtain ⟨d, hd⟩ : ∃ d, (bst l p).2 = d := ⟨_, rfl⟩
        have hps := HPS.out f p r
        rw [if_pos hlt, hn, hd] at hps
        rw [hn, hd] at HLO
        have hroom := bst_room (b := l) (p := p) (by rw [HLL.out]; exact hpl)
        have hble := bstF_le l p (min 255 p)
        have hn2 : n ≤ 131 := by rw [← hn]; exact hble.1
        have hd2 : d ≤ 255 := by rw [← hd]; have := hble.2; exact Nat.le_trans this (Nat.min_le_left _ _)
        rw [hn, HLL.out] at hroom
        have HPP : Hid _ := hps
        have hlti : (p : Int) < (len : Int) := by omega
        clear hn hd hps hble
        go_wp2_with fail
        refine Calls.mono HLO.out ?_
        rintro e w2 ⟨rfl, hb2⟩
        have HB2 : Hid (Below w0.heap.size w0 w2) := HB.out.trans (hb2.mono HB.out.size)
        have HO2 : Hid (Own w2 w0.heap.size _ (m ++ D)) := HO.out.below hb2
        clear hb2
        by_cases h4 : n < 4
        · have h4i : (n : Int) < 4 := by omega
          go_wp2_with fail
          go_roundw
          case rel => exact ⟨D, r, p + 1, f, by omega, by omega, rfl, by go_num, HO2.out, by rw [Hid, HT.out, HPP.out, if_pos h4], by omega, HD.out, HB2.out⟩
          case measure => simp [intOf]; omega
        · have h4i : ¬ (n : Int) < 4 := by omega
          have hrc : (cap = r) = False := by simp; omega
          have HSL : Hid (Bs w0 (.slice (some ⟨b, off + r, none⟩) (p - r) (cap - r)) ((l.take p).drop r)) := bs_part HX.out hrp (by omega)
          have hsl : ((l.take p).drop r).length = p - r := by rw [List.length_drop, List.length_take, HLL.out]; omega
          have HRU : Hid _ := runs_any _ _ (m ++ D) ((l.take p).drop r) w0 w2 HB2.out HO2.out HSL.out (by rw [List.length_append, hsl]; have := HD.out; omega)
          obtain ⟨RR, hRR⟩ : ∃ RR, runsL ((l.take p).drop r) = RR := ⟨_, rfl⟩
          have HRL : Hid (RR.length ≤ 2 * (p - r)) := by rw [Hid, ← hRR, ← hsl]; exact runsL_le _
          have HT2 : Hid (tokB l = D ++ RR ++ [(n : Int) + 124, (d : Int)] ++ ptkF l f (p + n) (p + n)) := by rw [Hid, HT.out, HPP.out, if_neg h4, hRR]; simp
          rw [hRR] at HRU
          have hw1 : IntKind.u8.wrap ((n : Int) + 124) = (n : Int) + 124 := by rw [IntKind.wrap_u8]; omega
          have hw2 : IntKind.u8.wrap (d : Int) = (d : Int) := by rw [IntKind.wrap_u8]; omega
          have hw3 : IntKind.i64.wrap (128 + (n : Int)) = 128 + (n : Int) := wrap_i64_in _ (by omega) (by omega)
          have hw4 : IntKind.i64.wrap (128 + (n : Int) - 4) = (n : Int) + 124 := by rw [show 128 + (n : Int) - 4 = (n : Int) + 124 by omega]; exact wrap_i64_in _ (by omega) (by omega)
          have hw5 : IntKind.i64.wrap ((p : Int) + (n : Int)) = ((p + n : Nat) : Int) := by rw [← Int.natCast_add]; exact wrap_i64_in _ (by omega) (by omega)
          clear hRR hsl
          go_wp2_with fail
          refine Calls.mono HRU.out ?_
          rintro e w3 ⟨x3, rfl, ho3, hb3⟩
          obtain ⟨L, hL⟩ : ∃ L, m ++ D ++ RR = L := ⟨_, rfl⟩
          have HLN : Hid (L.length + 2 ≤ 140737488351232) := by rw [Hid, ← hL, List.length_append, List.length_append]; have := HD.out; have := HRL.out; omega
          have HJ : Hid (L ++ [(n : Int) + 124, (d : Int)] = m ++ (D ++ RR ++ [(n : Int) + 124, (d : Int)])) := by rw [Hid, ← hL]; simp
          have HO3 : Hid (Own w3 w0.heap.size x3 L) := by rw [← hL]; exact ho3
          have HB3 : Hid (Below w0.heap.size w0 w3) := hb3
          have hsz := hb3.size
          clear ho3 hb3 hL
          go_wp2_with (first | (at_builtin; refine wpList_append_bytes _ rfl (.tmp 29) (.tmp 36) 23 rfl i0 Try.underlying23 hi hi0 hi1 hi2 w0.heap.size _ _ L [(n : Int) + 124, (d : Int)] rfl rfl (HO3.out.alloc _) (Bs.litM _ _ (0, 0) _ 2 rfl rfl) (by have := HLN.out; simp only [List.length_cons, List.length_nil]; omega) w0 (HB3.out.alloc hsz _) (by simp; omega) ?_; intro ao1 cap1 w1 ho1 hb1 _ _; rw [HJ.out] at ho1; generalize L.length + [(n : Int) + 124, (d : Int)].length = N1 at ho1 ⊢; have HO4 : Hid (Own w1 w0.heap.size _ _) := ho1; have HB4 : Hid (Below w0.heap.size w0 w1) := hb1; clear ho1 hb1))
          go_roundw
          case rel => exact ⟨_, p + n, p + n, f, Nat.le_refl _, by omega, rfl, rfl, HO4.out, HT2.out, by omega, by have := HD.out; have := HRL.out; rw [Hid, List.length_append, List.length_append]; simp only [List.length_cons, List.length_nil]; omega, HB4.out⟩
          case measure => simp [intOf]; omega
    · obtain rfl : p = len := by omega
      have HE : Hid (tokB l = D ++ runsL (l.drop r)) := by
        cases f with
        | zero => omega
        | succ f => rw [Hid, HT.out, HPS.out, if_neg (Nat.lt_irrefl _)]
      have HFIN : Hid (∀ y, Bs w0 y (l.drop r) → Calls Try.prog 42 #[_, y] _ (ApP w0 (m ++ D ++ runsL (l.drop r)))) := fun y hy => runs_any _ y (m ++ D) (l.drop r) w0 _ HB.out HO.out hy (by rw [List.length_append, List.length_drop, HLL.out]; have := HD.out; omega)
      rcases Nat.eq_zero_or_pos p with h0 | h0
      · subst h0
        obtain rfl : r = 0 := by omega
        have HC : Hid _ := HFIN.out (.slice ao 0 cap) HX.out
        clear HFIN
        go_wp2_with fail
        refine Calls.mono HC.out ?_
        rintro e w3 ⟨x3, rfl, ho3, hb3⟩
        have HO3 : Hid (Own w3 w0.heap.size x3 (m ++ tokB l)) := by rw [Hid, HE.out, ← List.append_assoc]; exact ho3
        have HB3 : Hid (Below w0.heap.size w0 w3) := hb3
        clear ho3 hb3
        go_wp2_with fail
        go_ret
        exact ⟨x3, rfl, HO3.out, HB3.out⟩
      · obtain ⟨b, off, rfl, _⟩ := bs_some HX.out h0
        by_cases hcr : cap = r
        · have hpr : p = r := by omega
          subst hpr
          subst hcr
          have hc0 : (cap = 0) = False := by simp; omega
          have HC : Hid _ := HFIN.out (.slice (some ⟨b, off, none⟩) 0 0) (by rw [List.drop_of_length_le (by rw [HLL.out]; exact Nat.le_refl _)]; exact bs_none _ _ _ (fun _ => rfl))
          clear HFIN
          go_wp2_with fail
          refine Calls.mono HC.out ?_
          rintro e w3 ⟨x3, rfl, ho3, hb3⟩
          have HO3 : Hid (Own w3 w0.heap.size x3 (m ++ tokB l)) := by rw [Hid, HE.out, ← List.append_assoc]; exact ho3
          have HB3 : Hid (Below w0.heap.size w0 w3) := hb3
          clear ho3 hb3
          go_wp2_with fail
          go_ret
          exact ⟨x3, rfl, HO3.out, HB3.out⟩
        · have hcr' : (cap = r) = False := by simp [hcr]
          have HC : Hid _ := HFIN.out _ (bs_rest HX.out hrp)
          clear HFIN
          go_wp2_with fail
          refine Calls.mono HC.out ?_
          rintro e w3 ⟨x3, rfl, ho3, hb3⟩
          have HO3 : Hid (Own w3 w0.heap.size x3 (m ++ tokB l)) := by rw [Hid, HE.out, ← List.append_assoc]; exact ho3
          have HB3 : Hid (Below w0.heap.size w0 w3) := hb3
          clear ho3 hb3
          go_wp2_with fail
          go_ret
          exact ⟨x3, rfl, HO3.out, HB3.out⟩
/-- What Pack tells: the byte 1 and the tokens, if they (and c) are fewer than the bytes. -/
def pkX (c : Nat) (b : List Int) : List Int := if (tokB b).length + c < b.length then 1 :: tokB b else 0 :: b
/-- What is told: nil beside an error, else the call's own. -/
def TlP (w : World) (er : Int) (R : List Int) (e : Ending) (w' : World) : Prop := ∃ x, e = .returned (.tuple #[x, .int .i64 er]) ∧ Own w' w.heap.size x R ∧ Below w.heap.size w w'
theorem pack_big (v : Value) (l : List Int) (w : World) (hl : Bs w v l) (hlb : 65536 < l.length) :
    Calls Try.prog 27 #[v] w (TlP w 3 []) := by
  obtain ⟨ao, cap, rfl, _⟩ := id hl
  obtain ⟨len, hll⟩ : ∃ len, l.length = len := ⟨_, rfl⟩
  rw [hll] at hlb ⊢
  have hb : (65536 : Int) < (len : Int) := by omega
  go_enter Try.func27, Try.ntmps27
  go_wp2_with fail
  go_ret2
  exact ⟨_, rfl, Own.nil _ _, Below.refl _ _⟩
theorem pkX_packed {l : List Int} (h : (tokB l).length < l.length) : [1] ++ tokB l = pkX 0 l := by rw [pkX, Nat.add_zero, if_pos h]; rfl
theorem pkX_plain {l : List Int} (h : ¬ (tokB l).length < l.length) : [0] ++ l = pkX 0 l := by rw [pkX, Nat.add_zero, if_neg h]; rfl
theorem own_one (w w1 : World) (c : Int) (h : Below w.heap.size w w1) : ∃ w4, w1.alloc (.cells #[.int .u8 c] 5) = w4 ∧ Below w.heap.size w w4 ∧ w.heap.size ≤ w4.heap.size ∧ Own w4 w.heap.size (.slice (some ⟨w1.heap.size, 0, none⟩) 1 1) [c] ∧ Below w1.heap.size w1 w4 := by
  have hsz := h.size
  refine ⟨_, rfl, h.alloc hsz _, by rw [World.size_alloc]; omega, ?_, (Below.refl _ _).alloc (Nat.le_refl _) _⟩
  have hr : Row (w1.alloc (.cells #[.int .u8 c] 5)) w1.heap.size [c] := heap_alloc_new w1 _
  exact hr.own hsz (by unfold maxLen; simp)
set_option maxHeartbeats 16000000 in
theorem pack_any (v : Value) (l : List Int) (w : World) (hl : Bs w v l) (hlb : l.length ≤ 65536) :
    Calls Try.prog 27 #[v] w (TlP w 0 (pkX 0 l)) := by
  obtain ⟨i0, hi, hi0, hi1, hi2⟩ := info_parts Try.info5
  obtain ⟨ao, cap, rfl, _⟩ := id hl
  obtain ⟨len, hll⟩ : ∃ len, l.length = len := ⟨_, rfl⟩
  have HLL : Hid (l.length = len) := hll
  have HL : Hid (Bs w (.slice ao len cap) l) := by rw [← hll]; exact hl
  rw [hll] at hlb ⊢
  have hb : ¬ (65536 : Int) < (len : Int) := by omega
  have HC : Hid _ := toks_any (.slice none 0 0) (.slice ao len cap) [] l w w (Below.refl _ _) (Own.nil _ _) HL.out (by simp) (by rw [HLL.out]; exact hlb)
  clear hl hll
  go_enter Try.func27, Try.ntmps27
  go_wp2_with fail
  refine Calls.mono HC.out ?_
  rintro e w3 ⟨x3, rfl, ho3, hb3⟩
  rw [List.nil_append] at ho3
  obtain ⟨k, hk⟩ : ∃ k, (tokB l).length = k := ⟨_, rfl⟩
  obtain ⟨ao3, cap3, rfl, _, _⟩ := ho3.opened
  have HLN : Hid ((tokB l).length = k) := hk
  rw [HLN.out] at ho3 ⊢
  have HO3 : Hid (Bs w3 (.slice ao3 k cap3) (tokB l)) := ho3.bs
  have HB3 : Hid (Below w.heap.size w w3) := hb3
  clear ho3
  by_cases hlt : k < len
  · have HR : Hid ([1] ++ tokB l = pkX 0 l) := pkX_packed (by rw [hk, HLL.out]; exact hlt)
    have hlti : (k : Int) < (len : Int) := by omega
    obtain ⟨w4, hw4, b4, s4, o4, n4⟩ := own_one w w3 1 hb3
    have HO4 : Hid (Own w4 w.heap.size (.slice (some ⟨w3.heap.size, 0, none⟩) 1 1) [1]) := o4
    have HB4 : Hid (Below w.heap.size w w4) := b4
    have HL4 : Hid (Bs w4 (.slice ao3 k cap3) (tokB l)) := HO3.out.below n4
    clear hk b4 o4 hb3 n4
    go_wp2_with (at_builtin; refine wpList_append_bytes _ rfl (.tmp 15) (.tmp 16) 23 rfl i0 Try.underlying23 hi hi0 hi1 hi2 w.heap.size _ (.slice ao3 k cap3) [1] (tokB l) rfl rfl HO4.out HL4.out (by rw [HLN.out]; simp only [List.length_cons, List.length_nil]; omega) w HB4.out s4 ?_; intro ao1 cap1 w5 ho1 hb1 _ _; rw [HR.out] at ho1; generalize [(1 : Int)].length + (tokB l).length = N1 at ho1 ⊢; have HO5 : Hid (Own w5 w.heap.size _ _) := ho1; have HB5 : Hid (Below w.heap.size w w5) := hb1; clear ho1 hb1)
    go_ret2
    exact ⟨_, rfl, HO5.out, HB5.out⟩
  · have HR : Hid ([0] ++ l = pkX 0 l) := pkX_plain (by rw [hk, HLL.out]; exact hlt)
    have hlti : ¬ (k : Int) < (len : Int) := by omega
    obtain ⟨w4, hw4, b4, s4, o4, n4⟩ := own_one w w3 0 hb3
    have HO4 : Hid (Own w4 w.heap.size (.slice (some ⟨w3.heap.size, 0, none⟩) 1 1) [0]) := o4
    have HB4 : Hid (Below w.heap.size w w4) := b4
    have HL4 : Hid (Bs w4 (.slice ao len cap) l) := HL.out.below b4
    clear hk b4 o4 hb3 n4
    go_wp2_with (at_builtin; refine wpList_append_bytes _ rfl (.tmp 18) (.tmp 19) 23 rfl i0 Try.underlying23 hi hi0 hi1 hi2 w.heap.size _ (.slice ao len cap) [0] l rfl rfl HO4.out HL4.out (by rw [HLL.out]; simp only [List.length_cons, List.length_nil]; omega) w HB4.out s4 ?_; intro ao1 cap1 w5 ho1 hb1 _ _; rw [HR.out] at ho1; generalize [(0 : Int)].length + l.length = N1 at ho1 ⊢; have HO5 : Hid (Own w5 w.heap.size _ _) := ho1; have HB5 : Hid (Below w.heap.size w w5) := hb1; clear ho1 hb1)
    go_ret2
    exact ⟨_, rfl, HO5.out, HB5.out⟩
end Go.Proofs.Ytgodoogmbdgeoab
