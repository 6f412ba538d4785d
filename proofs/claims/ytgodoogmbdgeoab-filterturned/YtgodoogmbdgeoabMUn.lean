/-
  bytes.Clone and the program's Unpack. Conditions: bytes are bytes; their number is one that memory bears.
-/
import Derived.Test.YtgodoogmbdgeoabMTake
namespace Go.Proofs.Ytgodoogmbdgeoab
open Go.RowKit
set_option linter.unusedVariables false
set_option maxRecDepth 100000

theorem empty_own (w : World) : ∃ w1, w.alloc (.cells #[] 5) = w1 ∧ Below w.heap.size w w1 ∧ w.heap.size ≤ w1.heap.size ∧ Own w1 w.heap.size (.slice (some ⟨w.heap.size, 0, none⟩) 0 0) [] :=
  ⟨_, rfl, (Below.refl _ _).alloc (Nat.le_refl _) _, by rw [World.size_alloc]; omega, Own.empty w _ (Nat.le_refl _)⟩
set_option maxHeartbeats 8000000 in
theorem bclone_any (b off n cap : Nat) (l : List Int) (w : World) (hl : Bs w (.slice (some ⟨b, off, none⟩) n cap) l) (hlb : n ≤ 140737488351240) :
    Calls Try.prog 8 #[.slice (some ⟨b, off, none⟩) n cap] w fun e w' => ∃ x, e = .returned x ∧ Own w' w.heap.size x l ∧ Below w.heap.size w w' := by
  obtain ⟨i0, hi, hi0, hi1, hi2⟩ := info_parts Try.info5
  obtain ⟨hn, hc, _⟩ := bs_n hl
  obtain ⟨w1, hw1, b1, s1, o1⟩ := empty_own w
  have HO : Hid _ := o1
  have HB : Hid (Below w.heap.size w w1) := b1
  have HL : Hid (Bs w1 (.slice (some ⟨b, off, none⟩) n cap) l) := hl.below b1
  have HN : Hid (l.length = n) := hn
  have hnil : ∀ W : World, (binOp .eql 23 (.slice (some ⟨b, off, none⟩) n cap) (.slice none 0 0)).run Try.prog W = .ok (.bool false) W := fun W => Lib.run_eql_slice_nil W _ _ (some ⟨b, off, none⟩) n cap 0 0 Try.underlying23
  clear hl b1 o1 hn
  go_enter Try.func8, Try.ntmps8
  go_wp2_with (at_builtin; refine wpList_append_bytes _ rfl (.tmp 5) (.tmp 6) 23 rfl i0 Try.underlying23 hi hi0 hi1 hi2 w.heap.size _ (.slice (some ⟨b, off, none⟩) n cap) [] l rfl rfl HO.out HL.out (by rw [HN.out]; simp only [List.length_nil]; omega) w HB.out s1 ?_; intro ao1 cap1 w5 ho1 hb1 _ _; rw [List.nil_append] at ho1; generalize ([] : List Int).length + l.length = N1 at ho1 ⊢; have HO5 : Hid (Own w5 w.heap.size _ _) := ho1; have HB5 : Hid (Below w.heap.size w w5) := hb1; clear ho1 hb1)
  go_ret
  exact ⟨_, rfl, HO5.out, HB5.out⟩
/-- What Unpack answers. -/
def unA (x : List Int) (most : Int) : List Int × Int := if most < 0 ∨ 65536 < most then ([], 2) else unE x most.toNat
theorem unpack_arg (v : Value) (most : Int) (w : World) (h : most < 0 ∨ 65536 < most) : Calls Try.prog 28 #[v, .int .i64 most] w (TlP w 2 []) := by
  by_cases h1 : most < 0
  · go_enter Try.func28, Try.ntmps28
    go_wp2_with fail
    go_ret2
    exact ⟨_, rfl, Own.nil _ _, Below.refl _ _⟩
  · have h2 : 65536 < most := by omega
    go_enter Try.func28, Try.ntmps28
    go_wp2_with fail
    go_ret2
    exact ⟨_, rfl, Own.nil _ _, Below.refl _ _⟩
set_option maxHeartbeats 32000000 in
theorem unpack_in (v : Value) (l : List Int) (m : Nat) (w : World) (hl : Bs w v l) (hby : Byt l) (hm : m ≤ 65536) (hlb : l.length ≤ 140737488351232) :
    Calls Try.prog 28 #[v, .int .i64 (m : Int)] w (TlP w (unE l m).2 (unE l m).1) := by
  obtain ⟨ao, cap, rfl, _⟩ := id hl
  obtain ⟨n, hn⟩ : ∃ n, l.length = n := ⟨_, rfl⟩
  rw [hn] at hl ⊢
  obtain ⟨_, hnc, _⟩ := bs_n hl
  have g1 : ¬ (m : Int) < 0 := by omega
  have g2 : ¬ (65536 : Int) < (m : Int) := by omega
  cases l with
  | nil =>
    obtain rfl : n = 0 := by simpa using hn.symm
    clear hl hn
    go_enter Try.func28, Try.ntmps28
    go_wp2_with fail
    go_ret2
    exact ⟨_, rfl, Own.nil _ _, Below.refl _ _⟩
  | cons k t =>
    obtain ⟨hk0, hk1⟩ := byt_head hby
    have hnt : t.length + 1 = n := hn
    obtain ⟨b, off, rfl, hcl⟩ := bs_some hl (by omega)
    have c0 : w.cell? ⟨b, off, none⟩ = some (.int .u8 k) := hcl 0 (by omega)
    have n0 : 0 < n := by omega
    have n1 : 1 ≤ n := by omega
    have n2 : (n : Int) ≠ 0 := by omega
    have n3 : n ≤ 140737488351232 := by omega
    have n4 : IntKind.i64.wrap ((n : Int) - 1) = (t.length : Int) := by rw [show (n : Int) - 1 = (t.length : Int) by omega]; exact wrap_i64_in _ (by omega) (by omega)
    obtain ⟨tn, htn⟩ : ∃ tn, t.length = tn := ⟨_, rfl⟩
    rw [htn] at n4
    have hbt := byt_tail hby
    have HCT : Hid (Bs w (.slice (if cap = 1 then some ⟨b, off, none⟩ else some ⟨b, off + 1, none⟩) (n - 1) (cap - 1)) t) := cut_at hl (k := 1) n1
    have htn' : n - 1 = tn := by omega
    by_cases hbig : 1 < k
    · have HE : Hid (unE (k :: t) m = ([], 5)) := by rw [Hid, unE, if_pos hbig]
      clear hl hcl hn hby HCT hbt
      go_enter Try.func28, Try.ntmps28
      go_wp2_with fail
      go_ret2
      exact ⟨_, by rw [HE.out]; rfl, by rw [HE.out]; exact Own.nil _ _, Below.refl _ _⟩
    · by_cases hk : k = 0
      · subst hk
        by_cases hmt : m < tn
        · have HE : Hid (unE (0 :: t) m = ([], 3)) := by rw [Hid, unE, if_neg (by omega), if_pos rfl, if_pos (by omega)]
          have hmti : (m : Int) < (tn : Int) := by omega
          clear hl hcl hn hby HCT hbt
          go_enter Try.func28, Try.ntmps28
          go_wp2_with fail
          go_ret2
          exact ⟨_, by rw [HE.out]; rfl, by rw [HE.out]; exact Own.nil _ _, Below.refl _ _⟩
        · have HE : Hid (unE (0 :: t) m = (t, 0)) := by rw [Hid, unE, if_neg (by omega), if_pos rfl, if_neg (by omega)]
          have hmti : ¬ (m : Int) < (tn : Int) := by omega
          by_cases hc1 : cap = 1
          · rw [Hid, if_pos hc1, htn', show cap - 1 = 0 by omega] at HCT
            have HC : Hid _ := bclone_any _ _ _ _ _ _ HCT (by omega)
            clear hl hcl hn hby HCT hbt
            go_enter Try.func28, Try.ntmps28
            go_wp2_with fail
            refine Calls.mono HC.out ?_
            rintro e w2 ⟨x2, rfl, ho2, hb2⟩
            have HO2 : Hid (Own w2 w.heap.size x2 t) := ho2
            have HB2 : Hid (Below w.heap.size w w2) := hb2
            clear ho2 hb2
            go_wp2_with fail
            go_ret2
            exact ⟨_, by rw [HE.out]; rfl, by rw [HE.out]; exact HO2.out, HB2.out⟩
          · rw [Hid, if_neg hc1, htn'] at HCT
            have HC : Hid _ := bclone_any _ _ _ _ _ _ HCT (by omega)
            clear hl hcl hn hby HCT hbt
            go_enter Try.func28, Try.ntmps28
            go_wp2_with fail
            refine Calls.mono HC.out ?_
            rintro e w2 ⟨x2, rfl, ho2, hb2⟩
            have HO2 : Hid (Own w2 w.heap.size x2 t) := ho2
            have HB2 : Hid (Below w.heap.size w w2) := hb2
            clear ho2 hb2
            go_wp2_with fail
            go_ret2
            exact ⟨_, by rw [HE.out]; rfl, by rw [HE.out]; exact HO2.out, HB2.out⟩
      · obtain rfl : k = 1 := by omega
        have HE : Hid (unE (1 :: t) m = decF m (t.length + 1) t []) := by rw [Hid, unE, if_neg (by omega), if_neg (by omega)]
        by_cases hc1 : cap = 1
        · rw [Hid, if_pos hc1, htn', show cap - 1 = 0 by omega] at HCT
          have HC : Hid _ := take_any _ t m w HCT hbt hm (by omega)
          clear hl hcl hn hby HCT hbt
          go_enter Try.func28, Try.ntmps28
          go_wp2_with fail
          refine Calls.mono HC.out ?_
          rintro e w2 ⟨x2, rfl, ho2, hb2⟩
          rw [← HE.out] at ho2 ⊢
          have HO2 : Hid (Own w2 w.heap.size x2 (unE (1 :: t) m).1) := ho2
          have HB2 : Hid (Below w.heap.size w w2) := hb2
          clear ho2 hb2
          go_wp2_with fail
          go_ret2
          exact ⟨_, rfl, HO2.out, HB2.out⟩
        · rw [Hid, if_neg hc1, htn'] at HCT
          have HC : Hid _ := take_any _ t m w HCT hbt hm (by omega)
          clear hl hcl hn hby HCT hbt
          go_enter Try.func28, Try.ntmps28
          go_wp2_with fail
          refine Calls.mono HC.out ?_
          rintro e w2 ⟨x2, rfl, ho2, hb2⟩
          rw [← HE.out] at ho2 ⊢
          have HO2 : Hid (Own w2 w.heap.size x2 (unE (1 :: t) m).1) := ho2
          have HB2 : Hid (Below w.heap.size w w2) := hb2
          clear ho2 hb2
          go_wp2_with fail
          go_ret2
          exact ⟨_, rfl, HO2.out, HB2.out⟩
theorem unpack_any (v : Value) (l : List Int) (most : Int) (w : World) (hl : Bs w v l) (hby : Byt l) (hlb : l.length ≤ 140737488351232) :
    Calls Try.prog 28 #[v, .int .i64 most] w (TlP w (unA l most).2 (unA l most).1) := by
  by_cases h : most < 0 ∨ 65536 < most
  · rw [unA, if_pos h]
    exact unpack_arg v most w h
  · obtain ⟨m, rfl⟩ : ∃ m : Nat, most = (m : Int) := ⟨most.toNat, by omega⟩
    rw [unA, if_neg h]
    exact unpack_in v l m w hl hby (by omega) hlb
end Go.Proofs.Ytgodoogmbdgeoab
