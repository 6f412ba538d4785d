/-
  What each filter does, and how it is undone, by the program's functions. Conditions: bytes are bytes; their number is one that memory bears.
-/
import Derived.Test.YtgodoogmbdgeoabFiWay
import Derived.Test.YtgodoogmbdgeoabFTop
import Derived.Test.YtgodoogmbdgeoabMPkX
import Derived.Test.YtgodoogmbdgeoabFletchWalk
import Derived.Test.YtgodoogmbdgeoabWalkF
namespace Go.Proofs.Ytgodoogmbdgeoab
open Go.RowKit
set_option linter.unusedVariables false
set_option maxRecDepth 100000

theorem Fr.own {w : World} {B : Nat} {x : Value} {l : List Int} (h : Fr w B x l) (hl : l.length ≤ 140737488351240) : Own w B x l := by
  rcases h with ⟨rfl, rfl⟩ | ⟨g, hg, rfl, hr⟩
  · exact Own.nil _ _
  · exact hr.own hg (by unfold maxLen; omega)
theorem ShP.tl {w w' : World} {er : Int} {R : List Int} {e : Ending} (h : ShP w er R e w') (hl : R.length ≤ 140737488351240) : TlP w er R e w' := by
  obtain ⟨x, he, hf, hb⟩ := h
  exact ⟨x, he, hf.own hl, hb⟩
theorem wL_yes {z : Nat} (h1 : 1 ≤ z) (h8 : z ≤ 8) (F : Nat → List Int → List Int) (l : List Int) : wL (z : Int) F l = F z l := by
  rw [wL, if_pos (wE_yes h1 h8), Int.toNat_natCast]
theorem sh_do (z : Nat) (h1 : 1 ≤ z) (h8 : z ≤ 8) (v : Value) (l : List Int) (w : World) (hl : Bs w v l) (hby : Byt l) (hlb : l.length ≤ 140737488351232) :
    Calls Try.prog 12 #[.int .i64 (z : Int), v] w (TlP w 0 (doF (1, (z : Int)) l)) := by
  rw [do_1, Int.toNat_natCast]
  refine (shuffle_any z v l w hl hby hlb).mono fun e w' h => ?_
  rw [wE_yes h1 h8, wL_yes h1 h8] at h
  exact h.tl (by rw [shL_len]; omega)
theorem sh_un' (z : Nat) (h1 : 1 ≤ z) (h8 : z ≤ 8) (v : Value) (l : List Int) (w : World) (hl : Bs w v l) (hby : Byt l) (hlb : l.length ≤ 140737488351232) :
    Calls Try.prog 13 #[.int .i64 (z : Int), v] w (TlP w (unF (1, (z : Int)) l).2 (unF (1, (z : Int)) l).1) := by
  rw [un_1, Int.toNat_natCast]
  refine (unshuffle_any z v l w hl hby hlb).mono fun e w' h => ?_
  rw [wE_yes h1 h8, wL_yes h1 h8] at h
  exact h.tl (by rw [unL_len]; omega)
theorem de_do (z : Nat) (h1 : 1 ≤ z) (h8 : z ≤ 8) (v : Value) (l : List Int) (w : World) (hl : Bs w v l) (hby : Byt l) (hlb : l.length ≤ 140737488351232) :
    Calls Try.prog 14 #[.int .i64 (z : Int), v] w (TlP w 0 (doF (2, (z : Int)) l)) := by
  rw [do_2, Int.toNat_natCast]
  refine (delta_any z v l w hl hby hlb).mono fun e w' h => ?_
  rw [wE_yes h1 h8, wL_yes h1 h8] at h
  exact h.tl (by rw [deL_len]; omega)
theorem de_un (z : Nat) (h1 : 1 ≤ z) (h8 : z ≤ 8) (v : Value) (l : List Int) (w : World) (hl : Bs w v l) (hby : Byt l) (hlb : l.length ≤ 140737488351232) :
    Calls Try.prog 15 #[.int .i64 (z : Int), v] w (TlP w (unF (2, (z : Int)) l).2 (unF (2, (z : Int)) l).1) := by
  rw [un_2, Int.toNat_natCast]
  refine (undelta_any z v l w hl hby hlb).mono fun e w' h => ?_
  rw [wE_yes h1 h8, wL_yes h1 h8] at h
  exact h.tl (by rw [udL_len]; omega)
set_option maxHeartbeats 4000000 in
theorem pk_do (z : Int) (v : Value) (l : List Int) (w : World) (hl : Bs w v l) (hlb : l.length ≤ 65536) :
    Calls Try.prog 16 #[.int .i64 z, v] w (TlP w 0 (doF (3, z) l)) := by
  rw [do_3]
  have HM : Hid _ := pack_any v l w hl hlb
  clear hl
  go_enter Try.func16, Try.ntmps16
  go_wp2_with fail
  refine Calls.mono HM.out ?_
  rintro e w2 ⟨x, rfl, ho, hb⟩
  go_wp2_with fail
  go_ret2
  exact ⟨_, rfl, ho, hb⟩
set_option maxHeartbeats 4000000 in
theorem pk_un (z : Int) (v : Value) (l : List Int) (w : World) (hl : Bs w v l) (hby : Byt l) (hlb : l.length ≤ 140737488351232) :
    Calls Try.prog 17 #[.int .i64 z, v] w (TlP w (unF (3, z) l).2 (unF (3, z) l).1) := by
  rw [un_3]
  have HM : Hid _ := unpack_in v l 65536 w hl hby (by omega) hlb
  generalize (unE l 65536).2 = e2 at HM ⊢
  generalize (unE l 65536).1 = e1 at HM ⊢
  clear hl
  go_enter Try.func17, Try.ntmps17
  go_wp2_with fail
  refine Calls.mono HM.out ?_
  rintro e w2 ⟨x, rfl, ho, hb⟩
  go_wp2_with fail
  go_ret2
  exact ⟨_, rfl, ho, hb⟩
theorem fl_err (l : List Int) : numErr (fletch l) 4 = 0 := numErr_of (fletch_in l).1 (by omega) (by omega) (by have := (fletch_in l).2; simpa using this)
set_option maxHeartbeats 4000000 in
theorem sm_do (z : Int) (v : Value) (l : List Int) (w : World) (hl : Bs w v l) (hby : Byt l) (hlb : l.length ≤ 140737488351220) :
    Calls Try.prog 18 #[.int .i64 z, v] w (TlP w 0 (doF (4, z) l)) := by
  rw [do_4]
  have HF : Hid _ := fletcher_any v l w hl (by omega) hby
  have hfi := fletch_in l
  have hw : IntKind.u64.wrap (fletch l) = fletch l := by simp [IntKind.wrap, IntKind.bits, IntKind.signed]; omega
  have HP : Hid (Calls Try.prog 29 #[v, .int .i64 4, .bool true, .int .u64 (fletch l)] w (TlP w 0 (l ++ smB l))) := by
    refine (put_any v l (fletch l) 4 true w hl (by omega) hfi.1 (by omega)).mono ?_
    rintro e w' ⟨x, rfl, hf, hb⟩
    rw [fl_err, putList, if_pos (fl_err l)] at *
    exact ⟨x, rfl, hf.own (by rw [List.length_append, dig2_length]; show l.length + (4 : Int).toNat ≤ _; have : (4 : Int).toNat = 4 := rfl; omega), hb⟩
  generalize smB l = S at HP ⊢
  generalize fletch l = F at *
  clear hl
  go_enter Try.func18, Try.ntmps18
  go_wp2_with fail
  refine Calls.mono HF.out ?_
  rintro e w' ⟨rfl, rfl⟩
  go_wp2_with fail
  refine Calls.mono HP.out ?_
  rintro e w2 ⟨x, rfl, ho, hb⟩
  go_wp2_with fail
  go_ret2
  exact ⟨_, rfl, ho, hb⟩
set_option maxHeartbeats 4000000 in
theorem bclone_nil (w : World) : Calls Try.prog 8 #[.slice none 0 0] w fun e w' => ∃ x, e = .returned x ∧ Own w' w.heap.size x [] ∧ Below w.heap.size w w' := by
  have hnil : ∀ W : World, (binOp .eql 23 (.slice none 0 0) (.slice none 0 0)).run Try.prog W = .ok (.bool true) W := fun W => Lib.run_eql_slice_nil W _ _ none 0 0 0 0 Try.underlying23
  go_enter Try.func8, Try.ntmps8
  go_wp2_with fail
  go_ret
  exact ⟨_, rfl, Own.nil _ _, Below.refl _ _⟩
set_option maxHeartbeats 8000000 in
theorem bclone_at (ad : Addr) (n cap : Nat) (l : List Int) (w : World) (hl : Bs w (.slice (some ad) n cap) l) (hlb : n ≤ 140737488351240) :
    Calls Try.prog 8 #[.slice (some ad) n cap] w fun e w' => ∃ x, e = .returned x ∧ Own w' w.heap.size x l ∧ Below w.heap.size w w' := by
  obtain ⟨i0, hi, hi0, hi1, hi2⟩ := info_parts Try.info5
  obtain ⟨hn, hc, _⟩ := bs_n hl
  obtain ⟨w1, hw1, b1, s1, o1⟩ := empty_own w
  have HO : Hid _ := o1
  have HB : Hid (Below w.heap.size w w1) := b1
  have HL : Hid (Bs w1 (.slice (some ad) n cap) l) := hl.below b1
  have HN : Hid (l.length = n) := hn
  have hnil : ∀ W : World, (binOp .eql 23 (.slice (some ad) n cap) (.slice none 0 0)).run Try.prog W = .ok (.bool false) W := fun W => Lib.run_eql_slice_nil W _ _ (some ad) n cap 0 0 Try.underlying23
  clear hl b1 o1 hn
  go_enter Try.func8, Try.ntmps8
  go_wp2_with (at_builtin; refine wpList_append_bytes _ rfl (.tmp 5) (.tmp 6) 23 rfl i0 Try.underlying23 hi hi0 hi1 hi2 w.heap.size _ (.slice (some ad) n cap) [] l rfl rfl HO.out HL.out (by rw [HN.out]; simp only [List.length_nil]; omega) w HB.out s1 ?_; intro ao1 cap1 w5 ho1 hb1 _ _; rw [List.nil_append] at ho1; generalize ([] : List Int).length + l.length = N1 at ho1 ⊢; have HO5 : Hid (Own w5 w.heap.size _ _) := ho1; have HB5 : Hid (Below w.heap.size w w5) := hb1; clear ho1 hb1)
  go_ret
  exact ⟨_, rfl, HO5.out, HB5.out⟩
theorem bcl_any (v : Value) (l : List Int) (w : World) (hl : Bs w v l) (hlb : l.length ≤ 140737488351240) :
    Calls Try.prog 8 #[v] w fun e w' => ∃ x, e = .returned x ∧ Own w' w.heap.size x l ∧ Below w.heap.size w w' := by
  obtain ⟨ao, cap, rfl, hc, hn, hcell⟩ := id hl
  cases ao with
  | none =>
    have := hn rfl
    obtain rfl : l = [] := List.eq_nil_of_length_eq_zero (by omega)
    obtain rfl : cap = 0 := this
    exact bclone_nil w
  | some ad => exact bclone_at ad l.length cap l w hl hlb
theorem get_sum {l : List Int} {n : Nat} (hn : l.length = n) (h4 : 4 ≤ n) : getErr l.length ((n - 4 : Nat) : Int) 4 = 0 ∧ getNum l ((n - 4 : Nat) : Int) 4 true = val true (l.drop (n - 4)) := by
  have h : getErr l.length ((n - 4 : Nat) : Int) 4 = 0 := by
    rcases getErr_cases l.length ((n - 4 : Nat) : Int) 4 with ⟨_, _, h⟩ | h | ⟨_, _, _, _, h⟩
    · omega
    · omega
    · exact h
  refine ⟨h, ?_⟩
  rw [getNum, if_pos h, Int.toNat_natCast, show (4 : Int).toNat = 4 from rfl, List.take_of_length_le (by rw [List.length_drop]; omega)]
theorem un_sum {l : List Int} {n : Nat} (hn : l.length = n) (h4 : 4 ≤ n) (hby : Byt l) (z : Int) : (val true (l.drop (n - 4)) = fletch (l.take (n - 4)) → unF (4, z) l = (l.take (n - 4), 0)) ∧ (val true (l.drop (n - 4)) ≠ fletch (l.take (n - 4)) → unF (4, z) l = ([], 5)) := by
  have e := smB_iff (x := l.drop (n - 4)) (b := l.take (n - 4)) (byt_dropN hby _) (by rw [List.length_drop]; omega)
  rw [un_4, hn]
  constructor
  · intro h
    rw [if_neg]
    rintro (h' | h')
    · omega
    · exact h' (e.1 h)
  · intro h
    rw [if_pos (.inr fun h' => h (e.2 h'))]
set_option maxHeartbeats 16000000 in
theorem sm_un (z : Int) (v : Value) (l : List Int) (w : World) (hl : Bs w v l) (hby : Byt l) (hlb : l.length ≤ 140737488351232) :
    Calls Try.prog 19 #[.int .i64 z, v] w (TlP w (unF (4, z) l).2 (unF (4, z) l).1) := by
  obtain ⟨n, hn⟩ : ∃ n, l.length = n := ⟨_, rfl⟩
  obtain ⟨ao, cap, rfl, hc0, hq1, hq2⟩ := id hl
  clear hq1 hq2
  rw [hn] at hl hc0 ⊢
  by_cases h4 : n < 4
  · have HE : Hid (unF (4, z) l = ([], 5)) := by rw [Hid, un_4, if_pos (.inl (by omega))]
    have h4i : (n : Int) < 4 := by omega
    rw [HE.out]
    clear hl
    go_enter Try.func19, Try.ntmps19
    go_wp2_with fail
    go_ret2
    exact ⟨_, rfl, Own.nil _ _, Below.refl _ _⟩
  · have h4i : ¬ (n : Int) < 4 := by omega
    obtain ⟨b, off, rfl, hq3⟩ := bs_some hl (by omega)
    clear hq3
    obtain ⟨g1, g2⟩ := get_sum hn (by omega)
    obtain ⟨u1, u2⟩ := un_sum hn (by omega) hby z
    have HG : Hid _ := get_any (.slice (some ⟨b, off, none⟩) n cap) l ((n - 4 : Nat) : Int) 4 true w hl (by omega) hby
    rw [g1, g2] at HG
    obtain ⟨m, hm⟩ : ∃ m, n - 4 = m := ⟨_, rfl⟩
    rw [hm] at HG u1 u2
    have hnm : n = m + 4 := by omega
    have hbT : Byt (l.take m) := byt_takeN hby _
    have hLT : (l.take m).length = m := by rw [List.length_take]; omega
    have HT : Hid (Bs w (.slice (some ⟨b, off, none⟩) m cap) (l.take m)) := by
      have := bs_part hl (lo := 0) (hi := m) (by omega) (by omega)
      rw [List.drop_zero, Nat.add_zero, Nat.sub_zero, Nat.sub_zero] at this
      exact this
    have HF : Hid (∀ w', Below w.heap.size w w' → Calls Try.prog 30 #[.slice (some ⟨b, off, none⟩) m cap] w' fun e w2 => e = .returned (.int .u32 (fletch (l.take m))) ∧ w2 = w') := fun w' hb => fletcher_any _ _ w' (HT.out.below hb) (by omega) hbT
    have HC : Hid (∀ w', Below w.heap.size w w' → Calls Try.prog 8 #[.slice (some ⟨b, off, none⟩) m cap] w' fun e w2 => ∃ x, e = .returned x ∧ Own w2 w'.heap.size x (l.take m) ∧ Below w'.heap.size w' w2) := fun w' hb => bcl_any _ _ w' (HT.out.below hb) (by omega)
    have hfi := fletch_in (l.take m)
    have hvb := val_bounds (l := l.drop m) (byt_dropN hby _) true (by rw [List.length_drop]; omega)
    obtain ⟨F, hF⟩ : ∃ F, fletch (l.take m) = F := ⟨_, rfl⟩
    obtain ⟨V, hV⟩ : ∃ V, val true (l.drop m) = V := ⟨_, rfl⟩
    rw [hF] at HF hfi u1 u2
    rw [hV] at HG hvb u1 u2
    have hwF : IntKind.u64.wrap F = F := by simp [IntKind.wrap, IntKind.bits, IntKind.signed]; omega
    have wi : IntKind.i64.wrap ((n : Int) - 4) = (m : Int) := by rw [hnm]; simp [IntKind.wrap, IntKind.bits, IntKind.signed]; omega
    have hmc : m ≤ cap := by omega
    generalize l.take m = LT at *
    obtain ⟨U, hU⟩ : ∃ U, unF (4, z) l = U := ⟨_, rfl⟩
    rw [hU] at u1 u2 ⊢
    clear hl hF hV hU g1 g2 hm hbT hLT hby hn hlb h4 hnm
    by_cases he : V = F
    · have HE : Hid (U = (LT, 0)) := u1 he
      rw [HE.out]
      clear u1 u2
      subst he
      go_enter Try.func19, Try.ntmps19
      go_wp2_with fail
      refine Calls.mono HG.out ?_
      rintro e w2 ⟨rfl, hb2⟩
      have HB2 : Hid (Below w.heap.size w w2) := hb2
      clear hb2
      go_wp2_with (first | (go_at_call 30; refine Calls.mono (HF.out _ HB2.out) ?_; rintro e w3 ⟨rfl, rfl⟩))
      refine Calls.mono (HC.out _ HB2.out) ?_
      rintro e w4 ⟨x, rfl, ho, hb⟩
      go_wp2_with fail
      go_ret2
      exact ⟨_, rfl, ho.mono HB2.out.size, HB2.out.trans (hb.mono HB2.out.size)⟩
    · have HE : Hid (U = ([], 5)) := u2 he
      rw [HE.out]
      have hne : (V = F) = False := by simp [he]
      clear u1 u2
      go_enter Try.func19, Try.ntmps19
      go_wp2_with fail
      refine Calls.mono HG.out ?_
      rintro e w2 ⟨rfl, hb2⟩
      have HB2 : Hid (Below w.heap.size w w2) := hb2
      clear hb2
      go_wp2_with (first | (go_at_call 30; refine Calls.mono (HF.out _ HB2.out) ?_; rintro e w3 ⟨rfl, rfl⟩))
      go_ret2
      exact ⟨_, rfl, Own.nil _ _, HB2.out⟩
end Go.Proofs.Ytgodoogmbdgeoab
