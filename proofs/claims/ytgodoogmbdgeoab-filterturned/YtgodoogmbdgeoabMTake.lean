/-
  The program's takeTokens. Conditions: bytes are bytes; their number is one that memory bears.
-/
import Derived.Test.YtgodoogmbdgeoabMAppG
import Derived.WalkMore
namespace Go.Proofs.Ytgodoogmbdgeoab
open Go.RowKit
set_option linter.unusedVariables false
set_option maxRecDepth 100000

theorem Own.below' {w0 wr w2 : World} {v : Value} {l : List Int} (h : Own wr w0.heap.size v l) (h2 : Below wr.heap.size wr w2) : Own w2 w0.heap.size v l := h.below h2
theorem byt_drop {l : List Int} (h : Byt l) (a : Nat) : Byt (l.drop a) := fun i => by
  have : (l.drop a).getD i 0 = l.getD (a + i) 0 := by simp [List.getD]
  rw [this]; exact h _
theorem byt_tail {k : Int} {l : List Int} (h : Byt (k :: l)) : Byt l := fun i => by
  have := h (i + 1)
  simpa using this
theorem byt_head {k : Int} {l : List Int} (h : Byt (k :: l)) : 0 ≤ k ∧ k ≤ 255 := by
  have := h 0
  simpa using this
/-- A token's cell, made and set. -/
theorem tok_made (w0 w : World) (a b c d : Value) (hb : Below w0.heap.size w0 w) : ∃ wa wt, w.alloc (.cells #[.bool false, .int .i64 0, .int .i64 0, .slice none 0 0] 65) = wa ∧ ((((wa.setCell ⟨w.heap.size, 0, none⟩ a).setCell ⟨w.heap.size, 1, none⟩ b).setCell ⟨w.heap.size, 2, none⟩ c).setCell ⟨w.heap.size, 3, none⟩ d) = wt ∧
    wa.heap[w.heap.size]? = some (.cells #[.bool false, .int .i64 0, .int .i64 0, .slice none 0 0] 65 (0, 0)) ∧ wt.heap[w.heap.size]? = some (.cells #[a, b, c, d] 65 (0, 0)) ∧ Below w0.heap.size w0 wt ∧ Below w.heap.size w wt := by
  have h0 := tok_finN (w0 := w0) (wz := w) (a := .bool false) (b := .int .i64 0) (c := .int .i64 0) (d := .slice none 0 0) (a' := a) (b' := b) (c' := c) (d' := d) (G := fun W => W.heap[w.heap.size]? = some (.cells #[a, b, c, d] 65 (0, 0)) ∧ BB w0 w W) ⟨hb.alloc hb.size _, (Below.refl _ w).alloc (Nat.le_refl _) _⟩ hb.size (Nat.le_refl _) (heap_alloc_new w _) (fun wf h1 h2 => ⟨h2, h1⟩)
  exact ⟨_, _, rfl, rfl, heap_alloc_new w _, h0.1, h0.2.1, h0.2.2⟩
set_option maxHeartbeats 64000000 in
theorem take_any (v : Value) (t : List Int) (m : Nat) (w : World) (hl : Bs w v t) (hby : Byt t) (hm : m ≤ 65536) (hlb : t.length ≤ 140737488351232) :
    Calls Try.prog 33 #[v, .int .i64 (m : Int)] w (TlP w (decF m (t.length + 1) t []).2 (decF m (t.length + 1) t []).1) := by
  have HT : Hid (Bs w v t) := hl
  have HBY : Hid (Byt t) := hby
  obtain ⟨ao, cap, rfl, _⟩ := id hl
  obtain ⟨RE, hRE⟩ : ∃ RE, decF m (t.length + 1) t [] = RE := ⟨_, rfl⟩
  have HRE : Hid (decF m (t.length + 1) t [] = RE) := hRE
  rw [hRE]
  clear hl hby hRE
  go_enter Try.func33, Try.ntmps33
  go_wp2_with fail
  go_step3
  go_wp2_with fail
  go_step3
  go_wp2_with fail
  go_loopw [0, 6, 7] (fun b o ft wr => ∃ (tt L : List Int) (ao : Option Addr) (n cap f : Nat), b = .slice ao n cap ∧ ft = .int .i64 0 ∧ Hid (Bs w (.slice ao n cap) tt) ∧ Hid (Byt tt) ∧ Hid (Own wr w.heap.size o L) ∧ Hid (RE = decF m f tt L) ∧ n < f ∧ n ≤ t.length ∧ Hid (L.length ≤ m) ∧ Hid (Below w.heap.size w wr)) (fun b _ _ _ => slN b)
  case atStart => exact ⟨t, [], ao, t.length, cap, t.length + 1, rfl, rfl, HT.out, HBY.out, Own.nil _ _, HRE.out.symm, by omega, Nat.le_refl _, Nat.zero_le _, Below.refl _ _⟩
  case round =>
    obtain ⟨tt, L, ao, n, cap, f, rfl, rfl, HX, HY, HO, HD, hf, hnt, HLM, HB⟩ := hrel
    obtain ⟨hnl, hnc, _⟩ := bs_n HX.out
    by_cases hn0 : 0 < n
    · obtain ⟨b, off, rfl, _⟩ := bs_some HX.out hn0
      cases f with
      | zero => omega
      | succ f =>
      cases tt with
      | nil => simp at hnl; omega
      | cons k tl =>
      have hk := byt_head HY.out
      have hkb : 0 ≤ k ∧ k ≤ 255 := hk
      have HYT : Hid (Byt tl) := byt_tail HY.out
      have htl : tl.length + 1 = n := hnl
      have hdec : RE = decF m (f + 1) (k :: tl) L := HD.out
      rw [decF] at hdec
      obtain ⟨aoO, capO, rfl, _, _⟩ := HO.out.opened
      obtain ⟨len, hlen⟩ : ∃ len, L.length = len := ⟨_, rfl⟩
      have HLEN : Hid (L.length = len) := hlen
      have hlm : len ≤ m := by rw [← hlen]; exact HLM.out
      rw [hlen] at HO ⊢
      have hn0i : (0 : Int) < (n : Int) := by omega
      have hnM : n ≤ 140737488351234 := by omega
      have hbs := HB.out.size
      have hw4 : IntKind.i64.wrap ((m : Int) - (len : Int)) = (m : Int) - (len : Int) := wrap_i64_in _ (by omega) (by omega)
      by_cases h128 : k < 128
      · rw [if_pos h128] at hdec
        by_cases hlt : (tl.length : Int) ≤ k
        · rw [if_pos hlt] at hdec
          have HE : Hid (RE = ([], 5)) := hdec
          have HF : Hid _ := first_nor _ k tl w _ HB.out HX.out hkb.1 h128 hlt (by omega)
          clear hdec HD hnl htl
          go_wp2_with fail
          refine Calls.mono HF.out ?_
          rintro e w2 ⟨_, _, rfl, rfl, rfl, hb2⟩
          have HB2 : Hid (Below w.heap.size w w2) := hb2.1
          have HN2 : Hid (Below _ _ w2) := hb2.2
          clear hb2
          obtain ⟨wa, wt, hwa, hwt, hz, ht, hbt, hbt2⟩ := tok_made w w2 (.bool false) (.int .i64 0) (.int .i64 0) (.slice none 0 0) HB2.out
          obtain ⟨f0, f1, f2, f3, z0, z1, z2, z3⟩ := tok_facts hz
          obtain ⟨_, _, _, _, k0, k1, k2, k3⟩ := tok_facts ht
          have HBT : Hid (Below w.heap.size w wt) := hbt
          have HBT2 : Hid (Below w2.heap.size w2 wt) := hbt2
          clear hz ht hbt hbt2
          go_wp2_with fail
          try rw [Exit.noGoto_ret]
          go_ret2
          exact ⟨_, by rw [HE.out]; rfl, by rw [HE.out]; exact Own.nil _ _, HBT.out⟩
        · rw [if_neg hlt] at hdec
          obtain ⟨kn, hkn⟩ : ∃ kn : Nat, k = (kn : Int) := ⟨k.toNat, by omega⟩
          obtain ⟨c, hc⟩ : ∃ c, kn + 1 = c := ⟨_, rfl⟩
          have hk1 : k.toNat + 1 = c := by omega
          have hclen : (tl.take c).length = c := by rw [List.length_take]; omega
          rw [hk1, List.length_append, hclen, hlen] at hdec
          have HF : Hid _ := first_run _ k tl w _ HB.out HX.out hkb.1 h128 (by omega) kn c hkn (by omega) hc
          have HCL : Hid ((tl.take c).length = c) := hclen
          have hcM : c ≤ 128 := by omega
          have hcn : c ≤ tl.length := by omega
          have HTN : Hid (tl.length + 1 = n) := htl
          have HDEC : Hid _ := hdec
          clear hdec HD hnl htl hkn hk1 hclen hc hcn
          go_wp2_with fail
          refine Calls.mono HF.out ?_
          rintro e w2 ⟨x2, y2, rfl, hx2, hy2, hb2⟩
          have HB2 : Hid (Below w.heap.size w w2) := hb2.1
          have HN2 : Hid (Below _ _ w2) := hb2.2
          obtain ⟨ax, cx, rfl, hcx⟩ := id hx2
          rw [HCL.out] at hx2 ⊢
          have HX2 : Hid (Bs w (.slice ax c cx) (tl.take c)) := hx2
          obtain ⟨ay, cy, rfl, hcy⟩ := id hy2
          obtain ⟨ny, hny⟩ : ∃ ny, (tl.drop c).length = ny := ⟨_, rfl⟩
          have HNY : Hid ((tl.drop c).length = ny) := hny
          rw [hny] at hy2 ⊢
          have HY2 : Hid (Bs w (.slice ay ny cy) (tl.drop c)) := hy2
          clear hb2 hx2 hcx hcy hny hy2
          obtain ⟨wa, wt, hwa, hwt, hz, ht, hbt, hbt2⟩ := tok_made w w2 (.bool false) (.int .i64 (c : Int)) (.int .i64 0) (.slice ax c cx) HB2.out
          obtain ⟨f0, f1, f2, f3, z0, z1, z2, z3⟩ := tok_facts hz
          obtain ⟨_, _, _, _, k0, k1, k2, k3⟩ := tok_facts ht
          have HBT : Hid (Below w.heap.size w wt) := hbt
          have HBT2 : Hid (Below w2.heap.size w2 wt) := hbt2
          clear hz ht hbt hbt2
          by_cases hbig : m < len + c
          · have hbi : (m : Int) - (len : Int) < (c : Int) := by omega
            have HE : Hid (RE = ([], 3)) := by rw [Hid, HDEC.out, if_pos hbig]
            clear HDEC HF
            go_wp2_with fail
            try rw [Exit.noGoto_ret]
            go_ret2
            exact ⟨_, by rw [HE.out]; rfl, by rw [HE.out]; exact Own.nil _ _, HBT.out⟩
          · have hbi : ¬ (m : Int) - (len : Int) < (c : Int) := by omega
            have HE : Hid (RE = decF m f (tl.drop c) (L ++ tl.take c)) := by rw [Hid, HDEC.out, if_neg hbig]
            have HAP : Hid _ := appTo_run (.slice ax c cx) _ (tl.take c) L (c : Int) w wt HBT.out ((HO.out.below HN2.out).below HBT2.out) HX2.out (by rw [HCL.out, HLEN.out]; omega)
            clear HDEC HF
            go_wp2_with fail
            refine Calls.mono HAP.out ?_
            rintro e w5 ⟨x5, rfl, ho5, hb5⟩
            have HO5 : Hid (Own w5 w.heap.size x5 (L ++ tl.take c)) := ho5
            have HB5 : Hid (Below w.heap.size w w5) := hb5
            clear ho5 hb5
            go_wp2_with fail
            go_roundw
            case rel => exact ⟨tl.drop c, L ++ tl.take c, ay, ny, cy, f, rfl, rfl, HY2.out, byt_drop HYT.out c, HO5.out, HE.out, by have := HNY.out; have := HTN.out; rw [List.length_drop] at *; omega, by have := HNY.out; have := HTN.out; rw [List.length_drop] at *; omega, by rw [Hid, List.length_append, HCL.out, HLEN.out]; omega, HB5.out⟩
            case measure => simp [slN]; have := HNY.out; have := HTN.out; rw [List.length_drop] at *; omega
      · rw [if_neg h128] at hdec
        cases tl with
        | nil =>
          rw [if_pos (.inl rfl)] at hdec
          have HE : Hid (RE = ([], 5)) := hdec
          have HF : Hid _ := first_noc _ k [] w _ HB.out HX.out (by omega) hkb.2 rfl (by simp)
          clear hdec HD hnl htl
          go_wp2_with fail
          refine Calls.mono HF.out ?_
          rintro e w2 ⟨_, _, rfl, rfl, rfl, hb2⟩
          have HB2 : Hid (Below w.heap.size w w2) := hb2.1
          have HN2 : Hid (Below _ _ w2) := hb2.2
          clear hb2
          obtain ⟨wa, wt, hwa, hwt, hz, ht, hbt, hbt2⟩ := tok_made w w2 (.bool false) (.int .i64 0) (.int .i64 0) (.slice none 0 0) HB2.out
          obtain ⟨f0, f1, f2, f3, z0, z1, z2, z3⟩ := tok_facts hz
          obtain ⟨_, _, _, _, k0, k1, k2, k3⟩ := tok_facts ht
          have HBT : Hid (Below w.heap.size w wt) := hbt
          have HBT2 : Hid (Below w2.heap.size w2 wt) := hbt2
          clear hz ht hbt hbt2
          go_wp2_with fail
          try rw [Exit.noGoto_ret]
          go_ret2
          exact ⟨_, by rw [HE.out]; rfl, by rw [HE.out]; exact Own.nil _ _, HBT.out⟩
        | cons d t3 =>
          have hdb := byt_head HYT.out
          obtain ⟨dn, hdn⟩ : ∃ dn : Nat, d = (dn : Int) := ⟨d.toNat, by omega⟩
          obtain ⟨c, hc⟩ : ∃ c : Nat, k - 124 = (c : Int) := ⟨(k - 124).toNat, by omega⟩
          have hcM : c ≤ 131 := by omega
          have hdM : dn ≤ 255 := by omega
          have hk1 : k.toNat - 124 = c := by omega
          have HF : Hid _ := first_cp _ k d c dn hc hdn t3 w _ HB.out HX.out (by omega) hkb.2 hdb (by simp at htl; omega)
          have HTN : Hid (t3.length + 1 + 1 = n) := htl
          rw [List.headD_cons, List.tail_cons, hk1, hdn, Int.toNat_natCast, cpOut_len, hlen] at hdec
          have HDEC : Hid _ := hdec
          clear hdec HD hnl htl hdn hk1 hdb
          go_wp2_with fail
          refine Calls.mono HF.out ?_
          rintro e w2 ⟨y2, rfl, hy2, hb2⟩
          have HB2 : Hid (Below w.heap.size w w2) := hb2.1
          have HN2 : Hid (Below _ _ w2) := hb2.2
          obtain ⟨ay, cy, rfl, hcy⟩ := id hy2
          obtain ⟨ny, hny⟩ : ∃ ny, t3.length = ny := ⟨_, rfl⟩
          have HNY : Hid (t3.length = ny) := hny
          rw [hny] at hy2 ⊢
          have HY2 : Hid (Bs w (.slice ay ny cy) t3) := hy2
          clear hb2 hcy hny hy2
          obtain ⟨wa, wt, hwa, hwt, hz, ht, hbt, hbt2⟩ := tok_made w w2 (.bool true) (.int .i64 (c : Int)) (.int .i64 (dn : Int)) (.slice none 0 0) HB2.out
          obtain ⟨f0, f1, f2, f3, z0, z1, z2, z3⟩ := tok_facts hz
          obtain ⟨_, _, _, _, k0, k1, k2, k3⟩ := tok_facts ht
          have HBT : Hid (Below w.heap.size w wt) := hbt
          have HBT2 : Hid (Below w2.heap.size w2 wt) := hbt2
          clear hz ht hbt hbt2
          by_cases hd0 : dn = 0
          · have HE : Hid (RE = ([], 5)) := by rw [Hid, HDEC.out, if_pos (.inr (.inl (by omega)))]
            have hdz : ((dn : Int) == 0) = true := by simp [hd0]
            clear HDEC HF hd0
            go_wp2_with fail
            try rw [Exit.noGoto_ret]
            go_ret2
            exact ⟨_, by rw [HE.out]; rfl, by rw [HE.out]; exact Own.nil _ _, HBT.out⟩
          · have hdz : ((dn : Int) == 0) = false := by simp [hd0]
            by_cases hdl : len < dn
            · have HE : Hid (RE = ([], 5)) := by rw [Hid, HDEC.out, if_pos (.inr (.inr (by omega)))]
              have hdli : (len : Int) < (dn : Int) := by omega
              clear HDEC HF
              go_wp2_with fail
              try rw [Exit.noGoto_ret]
              go_ret2
              exact ⟨_, by rw [HE.out]; rfl, by rw [HE.out]; exact Own.nil _ _, HBT.out⟩
            · have hdli : ¬ (len : Int) < (dn : Int) := by omega
              have hdec2 : RE = if m < len + c then ([], 3) else decF m f t3 (cpOut dn c L) := by
                rw [HDEC.out, if_neg (by intro h; rcases h with h | h | h; cases h; omega; omega)]
              by_cases hbig : m < len + c
              · have hbi : (m : Int) - (len : Int) < (c : Int) := by omega
                have HE : Hid (RE = ([], 3)) := by rw [Hid, hdec2, if_pos hbig]
                clear HDEC HF hdec2
                go_wp2_with fail
                try rw [Exit.noGoto_ret]
                go_ret2
                exact ⟨_, by rw [HE.out]; rfl, by rw [HE.out]; exact Own.nil _ _, HBT.out⟩
              · have hbi : ¬ (m : Int) - (len : Int) < (c : Int) := by omega
                have HE : Hid (RE = decF m f t3 (cpOut dn c L)) := by rw [Hid, hdec2, if_neg hbig]
                have HAP : Hid _ := appTo_cp (.slice none 0 0) _ c dn L w wt HBT.out ((HO.out.below HN2.out).below HBT2.out) (by omega) (by rw [HLEN.out]; omega) (by omega) (by rw [HLEN.out]; omega)
                clear HDEC HF hdec2
                go_wp2_with fail
                refine Calls.mono HAP.out ?_
                rintro e w5 ⟨x5, rfl, ho5, hb5⟩
                have HO5 : Hid (Own w5 w.heap.size x5 (cpOut dn c L)) := ho5
                have HB5 : Hid (Below w.heap.size w w5) := hb5
                clear ho5 hb5
                go_wp2_with fail
                go_roundw
                case rel => exact ⟨t3, cpOut dn c L, ay, ny, cy, f, rfl, rfl, HY2.out, byt_tail HYT.out, HO5.out, HE.out, by have := HNY.out; have := HTN.out; omega, by have := HNY.out; have := HTN.out; omega, by rw [Hid, cpOut_len, HLEN.out]; omega, HB5.out⟩
                case measure => simp [slN]; have := HNY.out; have := HTN.out; omega
    · obtain rfl : n = 0 := by omega
      have hnil : tt = [] := List.eq_nil_of_length_eq_zero hnl
      subst hnil
      have HE : Hid (RE = (L, 0)) := by
        rw [Hid, HD.out]
        cases f with
        | zero => rfl
        | succ f => rfl
      clear HD hnl
      go_wp2_with fail
      try rw [Exit.noGoto_ret]
      go_ret2
      exact ⟨_, by rw [HE.out]; rfl, by rw [HE.out]; exact HO.out, HB.out⟩
end Go.Proofs.Ytgodoogmbdgeoab
