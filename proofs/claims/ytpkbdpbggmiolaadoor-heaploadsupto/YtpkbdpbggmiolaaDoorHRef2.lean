/-
  The walks of the document's Get and Bytes. Conditions: lengths are such as memory bears.
-/
import Derived.Test.YtpkbdpbggmiolaaDoorHRef
namespace Go.Proofs.YtpkbdpbggmiolaaDoor
open Go.RowKit Go.Maps
set_option linter.unusedVariables false
set_option maxRecDepth 100000

set_option maxHeartbeats 1000000 in
theorem refPutBytes_wide (v y : Value) (l lx : List Int) (w : World) (hl : Bs w v l) (hy : Bs w y lx) (hb : l.length ≤ 1099511627776) (h : lx.length ≤ 65536) :
    Calls Tryd.prog 47 #[v, y] w fun e w' => ∃ x, e = .returned (.tuple #[x, .int .i64 0]) ∧ Own w' w.heap.size x (l ++ (dig2 true lx.length 4 ++ lx)) ∧ Below w.heap.size w w' := by
  obtain ⟨i0, hi, hz0, hz1, hz2⟩ := info_parts Tryd.info5
  have HL : Hid (Bs w v l) := hl
  have HY : Hid (Bs w y lx) := hy
  have HD : Hid ((dig2 true lx.length 4).length = 4) := dig2_length _ _ _
  have HE : Hid (l ++ dig2 true lx.length 4 ++ lx = l ++ (dig2 true lx.length 4 ++ lx)) := List.append_assoc _ _ _
  have HEl : Hid ((l ++ dig2 true lx.length 4).length = l.length + 4) := by show _ = _; rw [List.length_append, HD.out]
  obtain ⟨ao, cap, rfl, hc, hn, hcell⟩ := hl
  obtain ⟨ao', cap', rfl, hc', hn', hcell'⟩ := hy
  clear hcell hn hcell' hn'
  go_enter Tryd.func47, Tryd.ntmps47
  go_wp2_with (first | (at_builtin; refine wpList_append_bytes _ rfl (.tmp 9) (.tmp 10) 29 rfl i0 Tryd.underlying29 hi hz0 hz1 hz2 w.heap.size _ _ [] l rfl rfl (Own.empty _ _ (Nat.le_refl _)) (HL.out.below ((Below.refl _ _).alloc (Nat.le_refl _) _)) (by simp; omega) w ((Below.refl _ _).alloc (Nat.le_refl _) _) (by simp) ?_; intro ao1 cap1 w1 ho1 hb1 _ _; simp only [List.length_nil, Nat.zero_add, List.nil_append] at ho1) | (go_at_call 46; refine (refDigits_four lx.length _ (by omega) (by omega)).mono ?_; rintro e w2 ⟨v2, rfl, ho2, hb2⟩) | (at_builtin; refine wpList_append_bytes _ rfl (.tmp 11) (.tmp 15) 29 rfl i0 Tryd.underlying29 hi hz0 hz1 hz2 w.heap.size _ _ l (dig2 true lx.length 4) rfl rfl (ho1.below hb2) ho2.bs (by rw [HD.out]; omega) w (hb1.trans (hb2.mono hb1.size)) (by have := hb1.size; have := hb2.size; omega) ?_; intro ao3 cap3 w3 ho3 hb3 _ _; rw [HD.out] at ho3) | (at_builtin; refine wpList_append_bytes _ rfl (.tmp 16) (.tmp 17) 29 rfl i0 Tryd.underlying29 hi hz0 hz1 hz2 w.heap.size _ _ (l ++ dig2 true lx.length 4) lx rfl rfl (by rw [HD.out]; exact ho3) (HY.out.below hb3) (by rw [HEl.out]; omega) w hb3 (by have := hb3.size; omega) ?_; intro ao4 cap4 w4 ho4 hb4 _ _; rw [HE.out, List.length_append] at ho4))
  go_ret2
  exact ⟨_, rfl, ho4, hb4⟩


theorem refGet6_none {w : World} {B p : Nat} {vL : Value} {S : List SV} (h : RH w B p vL S) (hn : S.length ≤ 2097152) (i : Int) (h0 : -9223372036854775808 ≤ i) (h1 : i ≤ 9223372036854775807) (hT : tS S i = none) :
    Calls Tryd.prog 10 #[.pointer (some ⟨p, 0, none⟩), .int .i64 i] w fun e w' => e = .returned (.tuple #[.slice none 0 0, .int .i64 10]) ∧ w' = w := by
  obtain ⟨ao, cap, hv, hcap⟩ := h.shape
  have c0 := h.c0.1
  by_cases hi : i < 0
  · subst hv
    clear h hT
    go_enter Tryd.func10, Tryd.ntmps10
    go_wp2_with fail
    go_ret2
    exact ⟨rfl, rfl⟩
  · obtain ⟨k, rfl⟩ := Int.eq_ofNat_of_zero_le (show 0 ≤ i by omega)
    by_cases hk : S.length ≤ k
    · obtain ⟨n, hN⟩ : ∃ n, S.length = n := ⟨_, rfl⟩
      rw [hN] at hv hcap hn hk
      subst hv
      clear h hT hN
      go_enter Tryd.func10, Tryd.ntmps10
      go_wp2_with fail
      go_ret2
      exact ⟨rfl, rfl⟩
    · obtain ⟨s, hs⟩ : ∃ s, S[k]? = some s := ⟨S[k]'(by omega), List.getElem?_eq_getElem _⟩
      rw [tS_nat, hs] at hT
      obtain ⟨g, cp, e, _, _, _, ha, _, _, _⟩ := h.at hs
      have hT' : s.1 = none := hT
      rw [hT'] at ha
      simp only [Option.isSome_none] at ha
      obtain ⟨n, hN⟩ : ∃ n, S.length = n := ⟨_, rfl⟩
      rw [e] at hv
      injection hv with e1 _ e3
      subst e1; subst e3
      rw [hN] at e hcap hn hk
      subst e
      clear h hT hN hs hT'
      go_enter Tryd.func10, Tryd.ntmps10
      go_wp2_with fail
      go_ret2
      exact ⟨rfl, rfl⟩
theorem refGet6_some {w : World} {B p : Nat} {vL : Value} {S : List SV} (h : RH w B p vL S) (hn : S.length ≤ 2097152) (i : Int) (b : List Int) (hT : tS S i = some b) :
    Calls Tryd.prog 10 #[.pointer (some ⟨p, 0, none⟩), .int .i64 i] w fun e w' => ∃ ao cap, e = .returned (.tuple #[.slice ao b.length cap, .int .i64 0]) ∧ Own w' w.heap.size (.slice ao b.length cap) b ∧ Below w.heap.size w w' := by
  obtain ⟨i0, hi, hz0, hz1, hz2⟩ := info_parts Tryd.info5
  obtain ⟨h0, h1⟩ := tS_bd hT
  obtain ⟨k, rfl⟩ := Int.eq_ofNat_of_zero_le h0
  obtain ⟨s, hs⟩ : ∃ s, S[k]? = some s := ⟨S[k]'(by omega), List.getElem?_eq_getElem _⟩
  rw [tS_nat, hs] at hT
  have hT' : s.1 = some b := hT
  obtain ⟨g, cp, e, hcp, hgl, _, ha, hb', _, _⟩ := h.at hs
  rw [hT'] at ha
  simp only [Option.isSome_some] at ha
  have hgood := h.good s (List.mem_of_getElem? hs) b hT'
  have c0 := h.c0.1
  obtain ⟨n, hN⟩ : ∃ n, S.length = n := ⟨_, rfl⟩
  rw [hN] at e hcp hn h1
  subst e
  have HB : Hid (Bs w s.2 b) := hgood.1
  have HLB : Hid (b.length ≤ 65536) := hgood.2.2.1
  obtain ⟨ao, cap, hv2, hcap2, _, _⟩ := hgood.1
  rw [hv2] at hb' HB
  clear h hT hN hs hT' hgood hv2
  go_enter Tryd.func10, Tryd.ntmps10
  have hgne : (w.alloc (.cells #[] 5)).cell? ⟨g, k * 2 + 1, none⟩ = some (.slice ao b.length cap) := (Below.cell ((Below.refl w.heap.size w).alloc (Nat.le_refl _) _) (World.block_lt_of_cell? w _ hb')).trans hb'
  have hcne : (w.alloc (.cells #[] 5)).cell? ⟨p, 0, none⟩ = some (.slice (some ⟨g, 0, none⟩) n cp) := (Below.cell ((Below.refl w.heap.size w).alloc (Nat.le_refl _) _) (World.block_lt_of_cell? w _ c0)).trans c0
  go_wp2_with (at_builtin; refine wpList_append_bytes _ rfl (.tmp 28) (.tmp 36) 29 rfl i0 Tryd.underlying29 hi hz0 hz1 hz2 w.heap.size _ _ [] b rfl rfl (Own.empty _ _ (Nat.le_refl _)) (HB.out.below ((Below.refl _ _).alloc (Nat.le_refl _) _)) (by have := HLB.out; simp; omega) w ((Below.refl _ _).alloc (Nat.le_refl _) _) (by simp) ?_; intro ao2 cap2 w2 ho2 hb2 _ hc2; simp only [List.length_nil, Nat.zero_add, List.nil_append] at ho2 hc2)
  go_ret2
  exact ⟨ao2, cap2, by simp, ho2, hb2⟩

/-- The document's bytes ahead of the seal. -/
def plainR (S : List SV) : List Int := dig2 true (S.length : Int) 4 ++ encN (tS S) S.length
theorem entN_byt {T : Int → Option (List Int)} (h : ∀ i b, T i = some b → Byt b) (j : Nat) : Byt (entN T j) := by
  unfold entN
  cases hT : T (j : Int) with
  | none => exact byt_lit [0] rfl
  | some b => exact byt_append (byt_lit [1] rfl) (pb_byt (byt_lit [] rfl) (h _ _ hT))
theorem encN_byt {T : Int → Option (List Int)} (h : ∀ i b, T i = some b → Byt b) : ∀ j, Byt (encN T j)
  | 0 => byt_lit [] rfl
  | j + 1 => byt_append (encN_byt h j) (entN_byt h j)
theorem entN_len {T : Int → Option (List Int)} (j : Nat) : (entN T j).length ≤ 65541 := by
  unfold entN
  cases hT : T (j : Int) with
  | none => simp
  | some b => have := pbList_length [] b; simp at this ⊢; omega
theorem encN_len {T : Int → Option (List Int)} : ∀ j, (encN T j).length ≤ j * 65541
  | 0 => by simp [encN]
  | j + 1 => by have := encN_len (T := T) j; have := entN_len (T := T) j; rw [encN, List.length_append, Nat.succ_mul]; omega
theorem RH.bytT {w : World} {B p : Nat} {vL : Value} {S : List SV} (h : RH w B p vL S) : ∀ i b, tS S i = some b → Byt b ∧ b.length ≤ 65536 := fun i b hb => by
  obtain ⟨h0, h1⟩ := tS_bd hb
  obtain ⟨k, rfl⟩ := Int.eq_ofNat_of_zero_le h0
  obtain ⟨s, hs⟩ : ∃ s, S[k]? = some s := ⟨S[k]'(by omega), List.getElem?_eq_getElem _⟩
  rw [tS_nat, hs] at hb
  have := h.good s (List.mem_of_getElem? hs) b hb
  exact ⟨this.2.1, this.2.2.1⟩

set_option maxHeartbeats 4000000 in
theorem refBytes6_any {w : World} {B p : Nat} {vL : Value} {S : List SV} (h : RH w B p vL S) (hn : S.length ≤ 1048576) :
    Calls Tryd.prog 34 #[.pointer (some ⟨p, 0, none⟩)] w fun e w' => ∃ x, e = .returned x ∧ Own w' w.heap.size x (sealN (plainR S)) ∧ Below w.heap.size w w' := by
  obtain ⟨i0, hi, hz0, hz1, hz2⟩ := info_parts Tryd.info5
  have HH : Hid (RH w B p vL S) := h
  have HBT : Hid _ := h.bytT
  obtain ⟨ao, cap, hv, hcap⟩ := h.shape
  have HP : Hid (plainR S = dig2 true (S.length : Int) 4 ++ encN (tS S) S.length) := rfl
  obtain ⟨n, HN⟩ : ∃ n, Hid (S.length = n) := ⟨_, rfl⟩
  rw [HN.out] at hv hcap hn HP
  obtain ⟨T, HT⟩ : ∃ T, Hid (tS S = T) := ⟨_, rfl⟩
  rw [HT.out] at HP HBT
  subst hv
  have HL : Hid (∀ k, k ≤ n → (dig2 true (n : Int) 4 ++ encN T k).length ≤ 100000000000) := fun k hk => by
    have := encN_len (T := T) k
    have : k * 65541 ≤ 1048576 * 65541 := Nat.mul_le_mul_right _ (by omega)
    rw [List.length_append, dig2_length]; omega
  have HBY : Hid (Byt (dig2 true (n : Int) 4 ++ encN T n)) := byt_append (byt_dig2 true _ 4) (encN_byt (fun i b hb => (HBT.out i b hb).1) n)
  have hcu : IntKind.u64.wrap (n : Int) = (n : Int) := by simp [IntKind.wrap, IntKind.bits, IntKind.signed]; omega
  have c0' := h.c0.1
  clear h
  go_enter Tryd.func34, Tryd.ntmps34
  go_wp2_with (go_at_call 46; refine (refDigits_four (n : Int) _ (by omega) (by omega)).mono ?_; rintro e w1 ⟨v1, rfl, ho1, hb1⟩; have HO1 : Hid (Own w1 w.heap.size v1 (dig2 true (n : Int) 4)) := ho1; have HB1 : Hid (Below w.heap.size w w1) := hb1; clear ho1 hb1)
  go_loopw [3, 4] (fun y x wr => ∃ (k : Nat), k ≤ n ∧ x = .int .i64 (k : Int) ∧ Hid (Own wr w.heap.size y (dig2 true (n : Int) 4 ++ encN T k)) ∧ Hid (Below w.heap.size w wr)) (fun _ x _ => n - (intOf x).toNat)
  case atStart => exact ⟨0, Nat.zero_le _, by simp, by rw [encN, List.append_nil]; exact HO1.out, HB1.out⟩
  case round =>
    obtain ⟨k, hk, rfl, HO, HB⟩ := hrel
    have c0 := (HH.out.below HB.out).c0.1
    by_cases hlt : k < n
    · obtain ⟨s, hs⟩ : ∃ s, S[k]? = some s := ⟨S[k]'(by rw [HN.out]; exact hlt), List.getElem?_eq_getElem _⟩
      obtain ⟨g, cp, e, _, _, _, ha, hb', _, _⟩ := (HH.out.below HB.out).at hs
      rw [HN.out] at e
      injection e with e1 e2 e3
      subst e1; subst e3
      have hTk : T (k : Int) = s.1 := by rw [← HT.out, tS_nat, hs]; rfl
      have hgood := fun b hb => (HH.out.below HB.out).good s (List.mem_of_getElem? hs) b hb
      have hgw : (∀ b, s.1 = some b → Bs w s.2 b) ∧ w.cell? ⟨g, k * 2 + 1, none⟩ = some s.2 := by
        refine ⟨fun b hb => (HH.out.good s (List.mem_of_getElem? hs) b hb).1, ?_⟩
        obtain ⟨g', cp', e', _, _, _, _, hb2, _, _⟩ := HH.out.at hs
        injection e' with e1
        obtain rfl : g = g' := by simpa using e1
        exact hb2
      have hlen := HL.out k (by omega)
      obtain ⟨q, HQ⟩ : ∃ q, Hid ((dig2 true (n : Int) 4 ++ encN T k).length = q) := ⟨_, rfl⟩
      rw [HQ.out] at hlen
      clear hs
      cases hs1 : s.1 with
      | none =>
        rw [hs1] at ha hTk
        have HE : Hid (encN T (k + 1) = encN T k ++ [0]) := by unfold Hid; rw [encN, entN, hTk]
        simp only [Option.isSome_none] at ha
        clear hTk hs1 hgood hb' hgw
        go_wp2_with (at_builtin; refine wpList_append_bytes _ rfl (.tmp 45) (.tmp 46) 29 rfl i0 Tryd.underlying29 hi hz0 hz1 hz2 w.heap.size _ _ (dig2 true (n : Int) 4 ++ encN T k) [0] rfl rfl (HO.out.below ((Below.refl _ _).alloc (Nat.le_refl _) _)) (Bs.one _ _) (by rw [HQ.out]; simp; omega) w (HB.out.alloc HB.out.size _) (by have := HB.out.size; simp; omega) ?_; intro ao2 cap2 w2 ho2 hb2 _ hc2; simp only [HQ.out, List.length_cons, List.length_nil, Nat.zero_add] at ho2 ⊢; have HO2 : Hid (Own w2 w.heap.size (.slice ao2 (q + 1) cap2) (dig2 true (n : Int) 4 ++ encN T k ++ [0])) := ho2; have HB2 : Hid (Below w.heap.size w w2) := hb2; clear ho2 hb2 hc2)
        go_roundw
        case rel => exact ⟨k + 1, hlt, by simp, by rw [HE.out, ← List.append_assoc]; exact HO2.out, HB2.out⟩
        case measure => simp [intOf]; omega
      | some b =>
        rw [hs1] at ha hTk
        have hg := hgood b hs1
        have HLB : Hid (b.length ≤ 65536) := hg.2.2.1
        have HBW : Hid (Bs w s.2 b) := hgw.1 b hs1
        have HCW : Hid (w.cell? ⟨g, k * 2 + 1, none⟩ = some s.2) := hgw.2
        have HE : Hid (encN T (k + 1) = encN T k ++ ([1] ++ pbList [] b)) := by unfold Hid; rw [encN, entN, hTk]
        obtain ⟨ab, cb, hv2, _, _, _⟩ := hg.1
        rw [hv2] at hb' HBW HCW
        simp only [Option.isSome_some] at ha
        clear hTk hs1 hgood hg hv2 hgw
        go_wp2_with (first
          | (at_builtin; refine wpList_append_bytes _ rfl (.tmp 29) (.tmp 30) 29 rfl i0 Tryd.underlying29 hi hz0 hz1 hz2 w.heap.size _ _ (dig2 true (n : Int) 4 ++ encN T k) [1] rfl rfl (HO.out.below ((Below.refl _ _).alloc (Nat.le_refl _) _)) (Bs.one _ _) (by rw [HQ.out]; simp; omega) w (HB.out.alloc HB.out.size _) (by have := HB.out.size; simp; omega) ?_; intro ao2 cap2 w2 ho2 hb2 hg2 hc2; simp only [HQ.out, List.length_cons, List.length_nil, Nat.zero_add] at ho2 ⊢; have HO2 : Hid (Own w2 w.heap.size (.slice ao2 (q + 1) cap2) (dig2 true (n : Int) 4 ++ encN T k ++ [1])) := ho2; have HB2 : Hid (Below w.heap.size w w2) := hb2; have c2 := cell_later hb2 c0'; have c3 := cell_later hb2 HCW.out; have HBS2 : Hid (Bs w2 (.slice ab b.length cb) b) := HBW.out.below hb2; clear ho2 hb2 hc2 hg2)
          | (go_at_call 47; (refine (refPutBytes_wide _ _ (dig2 true (n : Int) 4 ++ encN T k ++ [1]) b _ HO2.out.bs HBS2.out (by rw [List.length_append, HQ.out]; simp; omega) HLB.out).mono ?_; rintro e w4 ⟨x4, rfl, ho4, hb4⟩; have HO4 : Hid (Own w4 w2.heap.size x4 (dig2 true (n : Int) 4 ++ encN T k ++ [1] ++ (dig2 true (b.length : Int) 4 ++ b))) := ho4; have HB4 : Hid (Below w.heap.size w w4) := HB2.out.trans (hb4.mono HB2.out.size); clear ho4 hb4)))
        go_roundw
        case rel =>
          refine ⟨k + 1, hlt, by simp, ?_, HB4.out⟩
          have e : pbList [] b = dig2 true (b.length : Int) 4 ++ b := by have := HLB.out; unfold pbList; rw [if_neg (by omega), List.nil_append]
          rw [HE.out, e, ← List.append_assoc, ← List.append_assoc]
          exact HO4.out.mono HB2.out.size
        case measure => simp [intOf]; omega
    · obtain rfl : k = n := by omega
      go_wp2_with (go_at_call 48; refine (refSeal_any _ _ _ HO.out.bs (by have := HL.out k (Nat.le_refl _); omega) HBY.out).mono ?_; rintro e w3 ⟨x3, rfl, ho3, hb3⟩; have HO3 : Hid (Own w3 wr.heap.size x3 (sealN (dig2 true (k : Int) 4 ++ encN T k))) := ho3; have HB3 : Hid (Below w.heap.size w w3) := HB.out.trans (hb3.mono HB.out.size); clear ho3 hb3)
      go_ret
      exact ⟨_, rfl, by rw [HP.out]; exact HO3.out.mono HB.out.size, HB3.out⟩
end Go.Proofs.YtpkbdpbggmiolaaDoor
