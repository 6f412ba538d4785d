/-
  The document's Unpack, whole; the law's walk. Conditions: bytes are bytes; their number is one that memory bears.
-/
import Derived.Test.YtgodoogmbdgeoaaMRefU
import Derived.Test.YtgodoogmbdgeoaaMShortW
namespace Go.Proofs.Ytgodoogmbdgeoaa
open Go.RowKit
set_option linter.unusedVariables false
set_option maxRecDepth 100000

set_option maxHeartbeats 32000000 in
theorem refUnpack_in (v : Value) (l : List Int) (m : Nat) (w : World) (hl : Bs w v l) (hby : Byt l) (hm : m ≤ 65536) (hlb : l.length ≤ 140737488351232) :
    Calls Try.prog 29 #[v, .int .i64 (m : Int)] w (TlP w (unE l m).2 (unE l m).1) := by
  obtain ⟨i0, hi, hi0, hi1, hi2⟩ := info_parts Try.info5
  obtain ⟨ao, cap, rfl, _⟩ := id hl
  obtain ⟨n, hn⟩ : ∃ n, l.length = n := ⟨_, rfl⟩
  have g1 : ¬ (m : Int) < 0 := by omega
  have g2 : ¬ (65536 : Int) < (m : Int) := by omega
  cases l with
  | nil =>
    clear hl hn
    go_enter Try.func29, Try.ntmps29
    go_wp2_with fail
    go_ret2
    exact ⟨_, rfl, Own.nil _ _, Below.refl _ _⟩
  | cons k t =>
    obtain ⟨hk0, hk1⟩ := byt_head hby
    by_cases hk : k = 1
    · subst hk
      have HE : Hid (unE (1 :: t) m = decF m (t.length + 1) t []) := by rw [Hid, unE, if_neg (by omega), if_neg (by omega)]
      rw [HE.out]
      exact refUnpack_tok _ t m w hl hby hm (by have : (1 :: t).length = t.length + 1 := rfl; omega)
    · rw [hn] at hl ⊢
      obtain ⟨_, hnc, _⟩ := bs_n hl
      have hnt : t.length + 1 = n := hn
      obtain ⟨b, off, rfl, hcl⟩ := bs_some hl (by omega)
      have c0 : w.cell? ⟨b, off, none⟩ = some (.int .u8 k) := hcl 0 (by omega)
      have n0 : 0 < n := by omega
      have n1 : 1 ≤ n := by omega
      have n2 : (n : Int) ≠ 0 := by omega
      have n3 : n ≤ 140737488351232 := by omega
      obtain ⟨tn, htn⟩ : ∃ tn, t.length = tn := ⟨_, rfl⟩
      have n4 : IntKind.i64.wrap ((n : Int) - 1) = (tn : Int) := by rw [show (n : Int) - 1 = (tn : Int) by omega]; exact wrap_i64_in _ (by omega) (by omega)
      have htn' : n - 1 = tn := by omega
      have HCT : Hid (Bs w (.slice (if cap = 1 then some ⟨b, off, none⟩ else some ⟨b, off + 1, none⟩) (n - 1) (cap - 1)) t) := cut_at hl (k := 1) n1
      have HTN : Hid (t.length = tn) := htn
      by_cases hbig : 1 < k
      · have HE : Hid (unE (k :: t) m = ([], 5)) := by rw [Hid, unE, if_pos hbig]
        clear hl hcl hn hby HCT hnt
        go_enter Try.func29, Try.ntmps29
        go_wp2_with fail
        go_ret2
        exact ⟨_, by rw [HE.out]; rfl, by rw [HE.out]; exact Own.nil _ _, Below.refl _ _⟩
      · obtain rfl : k = 0 := by omega
        by_cases hmt : m < tn
        · have HE : Hid (unE (0 :: t) m = ([], 3)) := by rw [Hid, unE, if_neg (by omega), if_pos rfl, if_pos (by omega)]
          have hmti : (m : Int) < (tn : Int) := by omega
          clear hl hcl hn hby HCT hnt
          go_enter Try.func29, Try.ntmps29
          go_wp2_with fail
          go_ret2
          exact ⟨_, by rw [HE.out]; rfl, by rw [HE.out]; exact Own.nil _ _, Below.refl _ _⟩
        · have HE : Hid (unE (0 :: t) m = (t, 0)) := by rw [Hid, unE, if_neg (by omega), if_pos rfl, if_neg (by omega)]
          have hmti : ¬ (m : Int) < (tn : Int) := by omega
          obtain ⟨w1, hw1, b1, s1, o1⟩ := empty_own w
          have HO : Hid _ := o1
          have HB : Hid (Below w.heap.size w w1) := b1
          by_cases hc1 : cap = 1
          · rw [Hid, if_pos hc1, htn', show cap - 1 = 0 by omega] at HCT
            have HSL : Hid (Bs w (.slice (some ⟨b, off, none⟩) tn 0) t) := HCT
            clear hl hcl hn hby HCT hnt b1 o1 htn
            go_enter Try.func29, Try.ntmps29
            go_wp2_with (at_builtin; refine wpList_append_bytes _ rfl (.tmp 34) (.tmp 36) 28 rfl i0 Try.underlying28 hi hi0 hi1 hi2 w.heap.size _ (.slice (some ⟨b, off, none⟩) tn 0) [] t rfl rfl HO.out (HSL.out.below HB.out) (by rw [HTN.out]; simp only [List.length_nil]; omega) w HB.out s1 ?_; intro ao1 cap1 w5 ho1 hb1 _ _; rw [List.nil_append] at ho1; generalize ([] : List Int).length + t.length = N1 at ho1 ⊢; have HO5 : Hid (Own w5 w.heap.size _ t) := ho1; have HB5 : Hid (Below w.heap.size w w5) := hb1; clear ho1 hb1)
            go_ret2
            exact ⟨_, by rw [HE.out]; rfl, by rw [HE.out]; exact HO5.out, HB5.out⟩
          · rw [Hid, if_neg hc1, htn'] at HCT
            have HSL : Hid (Bs w (.slice (some ⟨b, off + 1, none⟩) tn (cap - 1)) t) := HCT
            clear hl hcl hn hby HCT hnt b1 o1 htn
            go_enter Try.func29, Try.ntmps29
            go_wp2_with (at_builtin; refine wpList_append_bytes _ rfl (.tmp 34) (.tmp 36) 28 rfl i0 Try.underlying28 hi hi0 hi1 hi2 w.heap.size _ (.slice (some ⟨b, off + 1, none⟩) tn (cap - 1)) [] t rfl rfl HO.out (HSL.out.below HB.out) (by rw [HTN.out]; simp only [List.length_nil]; omega) w HB.out s1 ?_; intro ao1 cap1 w5 ho1 hb1 _ _; rw [List.nil_append] at ho1; generalize ([] : List Int).length + t.length = N1 at ho1 ⊢; have HO5 : Hid (Own w5 w.heap.size _ t) := ho1; have HB5 : Hid (Below w.heap.size w w5) := hb1; clear ho1 hb1)
            go_ret2
            exact ⟨_, by rw [HE.out]; rfl, by rw [HE.out]; exact HO5.out, HB5.out⟩
theorem refUnpack_any (v : Value) (l : List Int) (most : Int) (w : World) (hl : Bs w v l) (hby : Byt l) (hlb : l.length ≤ 140737488351232) :
    Calls Try.prog 29 #[v, .int .i64 most] w (TlP w (unA l most).2 (unA l most).1) := by
  by_cases h : most < 0 ∨ 65536 < most
  · rw [unA, if_pos h]
    exact refUnpack_arg v most w h
  · obtain ⟨m, rfl⟩ : ∃ m : Nat, most = (m : Int) := ⟨most.toNat, by omega⟩
    rw [unA, if_neg h]
    exact refUnpack_in v l m w hl hby (by omega) hlb
end Go.Proofs.Ytgodoogmbdgeoaa
