/-
  The walk of the law HeapTurned. Conditions: the table of check stands.
-/
import Derived.Test.YtkiccnedmejnaabDoorHFill2
import Derived.Test.YtkiccnedmejnaabDoorToldAny
import Derived.Test.YtkiccnedmejnaabDoorPlace
namespace Go.Proofs.YtkiccnedmejnaabDoor
open Go.ChangeShapes Go.WideShapes Go.ChangeAt Go.RowKit Go.Maps
set_option linter.unusedVariables false
set_option maxRecDepth 100000

def idsT (L : List (List Int)) : List Int := (List.range L.length).map (fun i : Nat => (i : Int))
theorem idsT_ids (L : List (List Int)) : Ids (tbl L) (idsT L) := by
  refine ⟨?_, fun i => ?_⟩
  · unfold idsT
    rw [List.pairwise_map]
    exact List.pairwise_lt_range.imp (fun h => by omega)
  · unfold idsT tbl
    simp only [List.mem_map, List.mem_range]
    constructor
    · rintro ⟨a, ha, rfl⟩
      simp [ha]
    · intro h
      by_cases h0 : 0 ≤ i
      · rw [if_pos h0] at h
        refine ⟨i.toNat, ?_, by omega⟩
        rcases Nat.lt_or_ge i.toNat L.length with h1 | h1
        · exact h1
        · rw [List.getElem?_eq_none h1] at h; simp at h
      · rw [if_neg h0] at h; simp at h
/-- Load of bytes whose seal is broken. -/
theorem hload_bad (v : Value) (l : List Int) (w : World) (hl : Bs w v l) (hb : l.length ≤ 140737488351240) (hby : Byt l) (ht : Tab w) (hu : unErr l = 5) :
    Calls Tryd.prog 26 #[v] w fun e w' => e = .returned (.tuple #[.pointer none, .int .i64 5]) ∧ Below w.heap.size w w' := by
  have HU : Hid _ := unseal_any v l w hl hb hby ht
  rw [hu] at HU
  obtain ⟨ao, cap, rfl, hc, hn, hcell⟩ := hl
  clear hcell hn hby ht hu
  go_enter Tryd.func26, Tryd.ntmps26
  go_wp2_with (go_at_call 43; refine Calls.mono HU.out ?_; rintro e w1 ⟨x1, rfl, ho1, hb1⟩; have HB1 : Hid (Below w.heap.size w w1) := hb1; clear ho1 hb1)
  go_ret2
  exact ⟨rfl, HB1.out⟩

set_option maxHeartbeats 4000000 in
theorem heapTurned_walk (v : Value) (ls : List (List Int)) (a1 a2 : Int) (W : World) (hT : Tab W) (hR : Rws W v ls) (w1 : (Lit.int .i64 a1).wf = true) (w2 : (Lit.int .u8 a2).wf = true) :
    Calls Tryd.prog 8 #[v, .int .i64 a1, .int .u8 a2] W fun e W' => e = .returned (.bool true) ∧ Below W.heap.size W W' := by
  have ha := bounds_i64 w1
  have hy := bounds_u8 w2
  clear w1 w2
  have HT : Hid (Tab W) := hT
  have HR : Hid (Rws W v ls) := hR
  obtain ⟨n, HN⟩ : ∃ n, Hid (ls.length = n) := ⟨_, rfl⟩
  obtain ⟨ao, cap, rfl, hcap, hcell⟩ := hR
  rw [HN.out] at hcap HR ⊢
  clear hcell hT
  by_cases h100 : 100 < (n : Int)
  · go_enter Tryd.func8, Tryd.ntmps8
    go_wp2_with (go_at_call 29; refine (lives6_any _ HT.out).mono ?_; rintro e w3 ⟨rfl, hb3⟩)
    go_ret
    exact ⟨rfl, by assumption⟩
  · have HF : Hid _ := filled_any (.slice ao n cap) (.slice none 0 0) ls [] W HR.out ⟨none, 0, rfl, Nat.le_refl _, fun i hi => by simp at hi⟩ (by rw [HN.out]; omega) (by simp) (fun x hx => by simp at hx)
    rw [dropT_nil] at HF
    obtain ⟨L, HL⟩ : ∃ L, Hid (okL ls = L) := ⟨_, rfl⟩
    rw [HL.out] at HF
    have hLb : L.length ≤ 100 := by have := okL_len ls; rw [HL.out, HN.out] at this; omega
    obtain ⟨S, HS⟩ : ∃ S, Hid (heapB (tbl L) (idsT L) = S) := ⟨_, rfl⟩
    obtain ⟨P, HPL⟩ : ∃ P, Hid (plainH (tbl L) (idsT L) (idsT L).length = P) := ⟨_, rfl⟩
    have HSP : Hid (S = sealN P) := by unfold Hid; rw [← HS.out, ← HPL.out]; rfl
    obtain ⟨M, HM⟩ : ∃ M, Hid (S.length = M) := ⟨_, rfl⟩
    have HPB : Hid (8 ≤ M) := by
      unfold Hid
      rw [← HM.out, HSP.out, sealN_length, ← HPL.out, plainH, List.length_append, dig2_length]
      omega
    have hM8 := HPB.out
    have hMb : M ≤ 4294967296 + 65536 * 65541 + 8 := by
      have h1 := encK_len (T := tbl L) (idsT_ids L).rise (fun i hi => by unfold idsT at hi; simp only [List.mem_map] at hi; obtain ⟨x, _, rfl⟩ := hi; omega) (idsT L).length (Nat.le_refl _)
      have hlen : (idsT L).length = L.length := by simp [idsT]
      have h2 : nxt (idsT L) (idsT L).length ≤ 100 := by
        rw [hlen]
        cases hl : L.length with
        | zero => show (0 : Int) ≤ 100; omega
        | succ k =>
          show (idsT L).getD k 0 + 1 ≤ 100
          have : (idsT L).getD k 0 = (k : Int) := by unfold idsT; simp [List.getD, show k < L.length by omega]
          rw [this]; omega
      have h3 : (M : Int) = (encK (tbl L) (idsT L) (idsT L).length).length + 8 := by
        rw [← HM.out, HSP.out, sealN_length, ← HPL.out, plainH, List.length_append, dig2_length]
        omega
      have h4 : ((idsT L).length : Int) * 65541 ≤ 65536 * 65541 := by rw [hlen]; omega
      omega
    have HSB : Hid (Byt S) := by
      rw [HSP.out, ← HPL.out]
      refine byt_seal (byt_append (byt_dig2 true _ 4) (encK_byt (fun i b hb => ?_) _))
      have hm : b ∈ L := by
        unfold tbl at hb
        split at hb
        · exact List.mem_of_getElem? hb
        · cases hb
      rw [← HL.out] at hm
      have hm2 : b ∈ ls := (List.mem_filter.1 hm).1
      obtain ⟨r, hr, rfl⟩ := List.getElem_of_mem hm2
      obtain ⟨ao', cap', _, _, hcc⟩ := HR.out
      obtain ⟨_, _, _, _, _, _, hbb⟩ := hcc r hr
      rw [List.getD, List.getElem?_eq_getElem hr] at hbb
      exact hbb
    by_cases hy0 : a2 = 0
    · subst hy0
      go_enter Tryd.func8, Tryd.ntmps8
      go_wp2_with (first
      | (go_at_call 33; refine Calls.mono HF.out ?_; rintro e w3 ⟨c3, low3, D3, rfl, hc3, hp3, hb3⟩; have HP3 : Hid (HP w3 W.heap.size (W.heap.size + 1) W.heap.size c3 low3 L.length (tbl L) D3) := hp3; have HB3 : Hid (Below W.heap.size W w3) := hb3; clear hp3 hb3)
      | (go_at_call 27; refine (hbytes_any HP3.out (by omega) (by omega) (idsT L) (idsT_ids L) (HT.out.below HB3.out)).mono ?_; rintro e w4 ⟨g4, rfl, hg4, hr4, hb4⟩; rw [HS.out] at hr4 ⊢; rw [HM.out]; have HR4 : Hid (Row w4 g4 S) := hr4; have HB4 : Hid (Below W.heap.size W w4) := HB3.out.trans (hb4.mono HB3.out.size); have HG4 : Hid (W.heap.size ≤ g4) := Nat.le_trans HB3.out.size hg4; clear hr4 hb4 hg4)
      | (go_at_call 29; refine (lives6_any _ (HT.out.below HB4.out)).mono ?_; rintro e w5 ⟨rfl, hb5⟩; have HB5 : Hid (Below W.heap.size W w5) := HB4.out.trans (hb5.mono HB4.out.size); clear hb5))
      go_ret
      exact ⟨rfl, HB5.out⟩
    · obtain ⟨k, hk, hk1, hk2, hk3⟩ := place_any a1 M (by omega)
      obtain ⟨y, rfl⟩ := Int.eq_ofNat_of_zero_le hy.1
      obtain ⟨p, hpe⟩ : ∃ p : Nat, (p : Int) = S.getD k 0 := ⟨(S.getD k 0).toNat, by have := HSB.out k; omega⟩
      have hpb := HSB.out k
      rw [← hpe] at hpb
      obtain ⟨t, HTE, hxor, htb⟩ : ∃ t, Hid (t = p ^^^ y) ∧ bits .xor .u8 (p : Int) (y : Int) = ((t : Nat) : Int) ∧ t < 256 := ⟨_, (show p ^^^ y = p ^^^ y from rfl), u8_xor_nat _ _ (by omega) (by omega), Nat.xor_lt_two_pow (n := 8) (by omega) (by omega)⟩
      have hpt : p ≠ t := by rw [HTE.out]; exact xor_other (by omega)
      have HUE : Hid (unErr (S.set k (t : Int)) = 5) := by
        rw [HSP.out]
        exact unErr_any P k p t (by rw [← HSP.out, HM.out]; exact hk) (by rw [← HSP.out]; exact hpe) (by omega) htb hpt
      have HYT : Hid (Byt (S.set k (t : Int))) := byt_set HSB.out k (by omega)
      have HPE : Hid ((p : Int) = S.getD k 0) := hpe
      have hyb : ((y : Int) == 0) = false := by simp; omega
      clear hpe hpt hy0
      go_enter Tryd.func8, Tryd.ntmps8
      go_wp2_with (first
      | (go_at_call 33; refine Calls.mono HF.out ?_; rintro e w3 ⟨c3, low3, D3, rfl, hc3, hp3, hb3⟩; have HP3 : Hid (HP w3 W.heap.size (W.heap.size + 1) W.heap.size c3 low3 L.length (tbl L) D3) := hp3; have HB3 : Hid (Below W.heap.size W w3) := hb3; clear hp3 hb3)
      | (go_at_call 27; refine (hbytes_any HP3.out (by omega) (by omega) (idsT L) (idsT_ids L) (HT.out.below HB3.out)).mono ?_; rintro e w4 ⟨g4, rfl, hg4, hr4, hb4⟩; rw [HS.out] at hr4 ⊢; rw [HM.out]; have HR4 : Hid (Row w4 g4 S) := hr4; have HB4 : Hid (Below W.heap.size W w4) := HB3.out.trans (hb4.mono HB3.out.size); have HG4 : Hid (W.heap.size ≤ g4) := Nat.le_trans HB3.out.size hg4; clear hr4 hb4 hg4; have hc4 := HR4.out.cell (i := k) (by rw [HM.out]; exact hk); rw [← HPE.out] at hc4; have hf4 := HR4.out.free k)
      | (go_at_call 26; have hR5 := HR4.out.set k (t : Int); have HB5 : Hid (Below W.heap.size W (w4.setCell ⟨g4, k, none⟩ (.int .u8 (t : Int)))) := HB4.out.setCell HG4.out _; refine (hload_bad _ (S.set k (t : Int)) _ (by have h9 := hR5.whole; rw [List.length_set, HM.out] at h9; exact h9) (by rw [List.length_set, HM.out]; omega) HYT.out (HT.out.below HB5.out) HUE.out).mono ?_; rintro e w6 ⟨rfl, hb6⟩; have HB6 : Hid (Below W.heap.size W w6) := HB5.out.trans (hb6.mono HB5.out.size); clear hR5 hb6)
      | (go_at_call 29; refine (lives6_any _ (HT.out.below HB6.out)).mono ?_; rintro e w7 ⟨rfl, hb7⟩; have HB7 : Hid (Below W.heap.size W w7) := HB6.out.trans (hb7.mono HB6.out.size); clear hb7))
      go_ret
      exact ⟨rfl, HB7.out⟩
end Go.Proofs.YtkiccnedmejnaabDoor
