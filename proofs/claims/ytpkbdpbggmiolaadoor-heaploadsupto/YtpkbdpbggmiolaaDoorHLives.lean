/-
  The walk of the law's lives: the document's example. Conditions: the table of check stands.
-/
import Derived.Test.YtpkbdpbggmiolaaDoorHBytes2
namespace Go.Proofs.YtpkbdpbggmiolaaDoor
open Go.RowKit Go.Maps
set_option linter.unusedVariables false
set_option maxRecDepth 100000

def TA : Int → Option (List Int) := putT (fun _ => none) 0 (some [97])
def TB : Int → Option (List Int) := putT TA 1 (some [98, 99])
def TC : Int → Option (List Int) := putT TB 0 none
theorem TA0 : TA 0 = some [97] := rfl
theorem TA1 : TA 1 = none := rfl
theorem lv_add1 {w : World} {B p m low : Nat} {D : DataW Value} (h : HP w B p m 0 low 0 (fun _ => none) D) (hB : B ≤ w.heap.size) (v : Value) (hv : Bs w v [97]) :
    Calls Tryd.prog 7 #[.pointer (some ⟨p, 0, none⟩), v] w fun e w' => ∃ (low' : Nat) (D' : DataW Value), e = .returned (.tuple #[.int .i64 0, .int .i64 0]) ∧ HP w' B p m 1 low' 1 TA D' ∧ Below B w w' := by
  refine (hadd_any h hB v [97] hv (byt_lit _ rfl) (by simp) (by omega) (by omega)).mono ?_
  rintro e w' ⟨k, D', rfl, hF, hk, hp, hb⟩
  obtain rfl : k = 0 := by omega
  exact ⟨_, D', rfl, hp, hb⟩
theorem lv_add2 {w : World} {B p m low : Nat} {D : DataW Value} (h : HP w B p m 1 low 1 TA D) (hB : B ≤ w.heap.size) (v : Value) (hv : Bs w v [98, 99]) :
    Calls Tryd.prog 7 #[.pointer (some ⟨p, 0, none⟩), v] w fun e w' => ∃ (low' : Nat) (D' : DataW Value), e = .returned (.tuple #[.int .i64 1, .int .i64 0]) ∧ HP w' B p m 2 low' 2 TB D' ∧ Below B w w' := by
  refine (hadd_any h hB v [98, 99] hv (byt_lit _ rfl) (by simp) (by omega) (by omega)).mono ?_
  rintro e w' ⟨k, D', rfl, hF, hk, hp, hb⟩
  obtain rfl : k = 1 := by
    rcases Nat.eq_zero_or_pos k with rfl | h0
    · have := hF.1; rw [show TA ((0 : Nat) : Int) = some [97] from rfl] at this; cases this
    · omega
  exact ⟨_, D', rfl, hp, hb⟩
theorem lv_drop {w : World} {B p m low : Nat} {D : DataW Value} (h : HP w B p m 2 low 2 TB D) (hB : B ≤ w.heap.size) :
    Calls Tryd.prog 11 #[.pointer (some ⟨p, 0, none⟩), .int .i64 0] w fun e w' => ∃ (low' : Nat) (D' : DataW Value), e = .returned (.int .i64 0) ∧ HP w' B p m 1 low' 2 TC D' ∧ Below B w w' := by
  refine (hdrop_any h hB 0 [97] rfl).mono ?_
  rintro e w' ⟨rfl, hp, hb⟩
  exact ⟨_, _, rfl, hp, hb⟩
theorem TC_ids : Ids TC [1] := by
  refine ⟨by simp, fun i => ?_⟩
  unfold TC TB TA putT
  by_cases h0 : i = 0
  · subst h0; simp
  · by_cases h1 : i = 1
    · subst h1; simp
    · simp [h0, h1]
theorem TC_plain : plainH TC [1] 1 = [0, 0, 0, 2, 0, 1, 0, 0, 0, 2, 98, 99] := by decide
theorem lv_bytes {w : World} {B p m low : Nat} {D : DataW Value} (h : HP w B p m 1 low 2 TC D) (ht : Tab w) :
    Calls Tryd.prog 14 #[.pointer (some ⟨p, 0, none⟩)] w fun e w' => ∃ g, e = .returned (.slice (some ⟨g, 0, none⟩) 16 16) ∧ Bs w' (.slice (some ⟨g, 0, none⟩) 12 16) [0, 0, 0, 2, 0, 1, 0, 0, 0, 2, 98, 99] ∧ Below w.heap.size w w' := by
  refine (hbytes_any h (by omega) (by omega) [1] TC_ids ht).mono ?_
  rintro e w' ⟨g, rfl, hg, hr, hb⟩
  have e0 : heapB TC [1] = [0, 0, 0, 2, 0, 1, 0, 0, 0, 2, 98, 99] ++ digs (crcN [0, 0, 0, 2, 0, 1, 0, 0, 0, 2, 98, 99]) 4 := by
    show sealN (plainH TC [1] 1) = _
    rw [TC_plain]
    rfl
  have e1 : (heapB TC [1]).length = 16 := by rw [e0, List.length_append, digs_length]; rfl
  refine ⟨g, by rw [e1], ?_, hb⟩
  have := hr.bs 0 12 16 (by rw [e1]; omega) (by omega)
  rw [e0] at this
  simpa using this

theorem Bs.litM (w : World) (l : List Int) (fr : Nat × Nat) (cs : Array Value) (n : Nat) (hcs : cs = (bcells l).toArray) (hn : n = l.length) : Bs (w.alloc (.cells cs 5 fr)) (.slice (some ⟨w.heap.size, 0, none⟩) n n) l := by
  subst hcs hn
  refine ⟨_, _, rfl, Nat.le_refl _, (fun h => by cases h), fun ad ha i hi => ?_⟩
  obtain rfl := Option.some.inj ha
  rw [addr_add, Nat.zero_add, World.cell?_alloc_mark]
  simp [bcells, hi]
set_option maxHeartbeats 2000000 in
theorem lives6_any (w : World) (ht : Tab w) : Calls Tryd.prog 16 #[] w fun e w' => e = .returned (.bool true) ∧ Below w.heap.size w w' := by
  have HT : Hid (Tab w) := ht
  clear ht
  have hcv1 := fun w => Lib.run_convert_bytes_const (P := Tryd.prog) w 29 5 #[.int .u8 97] 1 1 Tryd.underlying29 Tryd.underlying5
  have hcv2 := fun w => Lib.run_convert_bytes_const (P := Tryd.prog) w 29 5 #[.int .u8 98, .int .u8 99] 2 2 Tryd.underlying29 Tryd.underlying5
  have HSE : Hid (((strOfNums [0, 0, 0, 2, 0, 1, 0, 0, 0, 2, 98, 99]).toList == [0, 0, 0, 2, 0, 1, 0, 0, 0, 2, 98, 99]) = true) := by unfold Hid; kernel_rfl
  go_enter Tryd.func16, Tryd.ntmps16
  go_wp2_with (first
    | (go_at_call 6; refine (hnew_any _).mono ?_; rintro e w1 ⟨rfl, hp1, hb1⟩; have HP1 : Hid (HP w1 w.heap.size (w.heap.size + 1) w.heap.size 0 0 0 (fun _ => none) (.map [])) := hp1; have HB1 : Hid (Below w.heap.size w w1) := hb1; clear hp1 hb1)
    | (go_at_call 7; refine (lv_add1 (HP1.out.below ((Below.refl _ _).alloc (Nat.le_refl _) _)) (Nat.le_trans HB1.out.size (by simp)) _ (Bs.litM _ [97] _ _ 1 rfl rfl)).mono ?_; rintro e w2 ⟨low2, D2, rfl, hp2, hb2⟩; have HP2 : Hid (HP w2 w.heap.size (w.heap.size + 1) w.heap.size 1 low2 1 TA D2) := hp2; have HB2 : Hid (Below w.heap.size w w2) := (HB1.out.alloc HB1.out.size _).trans hb2; clear hp2 hb2 HP1)
    | (go_at_call 7; refine (lv_add2 (HP2.out.below ((Below.refl _ _).alloc (Nat.le_refl _) _)) (Nat.le_trans HB2.out.size (by simp)) _ (Bs.litM _ [98, 99] _ _ 2 rfl rfl)).mono ?_; rintro e w3 ⟨low3, D3, rfl, hp3, hb3⟩; have HP3 : Hid (HP w3 w.heap.size (w.heap.size + 1) w.heap.size 2 low3 2 TB D3) := hp3; have HB3 : Hid (Below w.heap.size w w3) := (HB2.out.alloc HB2.out.size _).trans hb3; clear hp3 hb3 HP2)
    | (go_at_call 11; refine (lv_drop HP3.out HB3.out.size).mono ?_; rintro e w4 ⟨low4, D4, rfl, hp4, hb4⟩; have HP4 : Hid (HP w4 w.heap.size (w.heap.size + 1) w.heap.size 1 low4 2 TC D4) := hp4; have HB4 : Hid (Below w.heap.size w w4) := HB3.out.trans hb4; clear hp4 hb4 HP3)
    | (go_at_call 14; refine (lv_bytes HP4.out (HT.out.below HB4.out)).mono ?_; rintro e w5 ⟨g5, rfl, _, hb5⟩; have HP5 : Hid (HP w5 w.heap.size (w.heap.size + 1) w.heap.size 1 low4 2 TC D4) := HP4.out.below hb5; have HB5 : Hid (Below w.heap.size w w5) := HB4.out.trans (hb5.mono HB4.out.size); clear hb5 HP4)
    | (go_at_call 14; refine (lv_bytes HP5.out (HT.out.below HB5.out)).mono ?_; rintro e w6 ⟨g6, rfl, hs6, hb6⟩; have hs7 := Bs.str (P := Tryd.prog) hs6 Tryd.underlying29 Tryd.underlying5 Tryd.underlying9; have HB6 : Hid (Below w.heap.size w w6) := HB5.out.trans (hb6.mono HB5.out.size); clear hb6 hs6 HP5))
  go_ret
  exact ⟨by rw [HSE.out]; rfl, HB6.out⟩
end Go.Proofs.YtpkbdpbggmiolaaDoor
