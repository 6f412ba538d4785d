/-
  The law's own examples of store: they hold in every world.
-/
import Derived.Test.YtkdmcdkjfkllkaaRawsWalk
import Derived.Lib.SlBytesConst
import Derived.Laws.OwnMore
namespace Go.Proofs.Ytkdmcdkjfkllkaa
open Go.RowKit
set_option linter.unusedVariables false

theorem made_bs (w : World) (l : List Int) (C : Array Value) (hC : C = (bcells l).toArray) (fr : Nat × Nat) : Bs (w.alloc (.cells C 5 fr)) (.slice (some ⟨w.heap.size, 0, none⟩) l.length l.length) l := by
  refine ⟨some ⟨w.heap.size, 0, none⟩, l.length, rfl, Nat.le_refl _, (fun h => by cases h), fun ad ha i hi => ?_⟩
  obtain rfl := Option.some.inj ha
  rw [addr_add, Nat.zero_add, World.cell?_alloc_mark, hC]
  simp [bcells, List.getD, hi]
theorem make_run (w : World) (n : Nat) (hn : n ≤ 1000000) : ∃ w', (Instr.makeSlice 22 (.int .i64 (n : Int)) (.int .i64 (n : Int))).run Try.prog w = .ok (.slice (some ⟨w.heap.size, 0, none⟩) n n) w' ∧ Row w' w.heap.size (List.replicate n 0) ∧ Below w.heap.size w w' := by
  obtain ⟨i0, hi, hz0, hz1, hz2⟩ := info_parts Try.info5
  obtain ⟨w', h1, h2, h3⟩ := run_make_full (P := Try.prog) w w.heap.size 22 5 i0 (.int .u8 0) 1 Try.underlying22 hi hz0 hz1 .i64 .i64 n (by rw [hz2]; omega) (by unfold maxLen; omega) (Nat.le_refl _)
  exact ⟨w', h1, row_of_made h2, below_of_grown h3⟩
theorem str_of {w : World} {v : Value} {l : List Int} (h : Bs w v l) : Sem.run Try.prog (convert 22 9 v) w = .ok (.string (strOfNums l)) w := h.str Try.underlying22 Try.underlying5 Try.underlying9

def lf1 : Mdl := (wrM (newM [] 100) 0 (List.replicate 40 0)).2
def ltx : List Int := [48, 49, 50, 51, 52, 53, 54, 55, 56, 57, 97, 98, 99, 100, 101, 102, 48, 49, 50, 51, 52, 53, 54, 55, 56, 57, 97, 98, 99, 100, 101, 102]
def lf2 : Mdl := (wrM { lf1 with pl := true, left := 1 } 0 ltx).2
theorem lf1_ok : (wrM (newM [] 100) 0 (List.replicate 40 0)).1 = 0 := by decide +kernel
theorem lf1_rs : lf1.rs.length = 3 := by decide +kernel
theorem lf1_short : ∀ r ∈ lf1.rs, r.2.length ≤ 16 := by decide +kernel
theorem lf2_cut : (wrM { lf1 with pl := true, left := 1 } 0 ltx).1 = 6 := by decide +kernel
theorem lf2_off : lf2.off = true := by decide +kernel
theorem lf2_err : rdErr { lf2 with off := false } 15 2 = 0 := by decide +kernel
theorem lf2_read : rdList { lf2 with off := false } 15 2 = [102, 0] := by decide +kernel

theorem short_raws {w : World} {B p : Nat} {F : Mdl} {vb vr : Value} {rv : List RawV} (h : PF w B p F vb vr rv) {n : Nat} (hs : ∀ r ∈ F.rs, r.2.length ≤ n) : ∀ r ∈ rv, r.2.1.length ≤ n := by
  intro r hr
  refine hs (r.1, r.2.1) ?_
  rw [h.rs]
  exact List.mem_map.2 ⟨r, hr, rfl⟩
theorem alien_new {w w' : World} {B p g n cap o : Nat} {F : Mdl} {vb vr : Value} {rv : List RawV} (h : PF w B p F vb vr rv) (hg : w.heap.size ≤ g) (hl : g < w'.heap.size) : Alien w' p vb vr (.slice (some ⟨g, o, none⟩) n cap) := by
  intro k hk
  simp [Value.ownBlock] at hk
  subst hk
  exact ⟨fun hf => by have := (h.hold.foot _ hf).2; omega, hl⟩

theorem write1 {w : World} {B p : Nat} {vb vr : Value} {rv : List RawV} (h : PF w B p (newM [] 100) vb vr rv) (hB : B ≤ w.heap.size) (bv : Value) (hx : Bs w bv (List.replicate 40 0)) (hal : Alien w p vb vr bv) :
    Calls Try.prog 18 #[.pointer (some ⟨p, 0, none⟩), .int .i64 0, bv] w fun e w' => ∃ vb' vr' rv', e = .returned (.int .i64 0) ∧ PF w' B p lf1 vb' vr' rv' ∧ Moved w w' p vb vr rv vb' vr' rv' := by
  have hr : rv.length = 0 := by have := h.rs; simp [newM, plain] at this; exact this ▸ rfl
  have := write_any h hB 0 (List.replicate 40 0) bv hx (fun _ => hal) (by omega) (by simp) (by omega)
  rw [lf1_ok] at this
  exact this
theorem write2 {w : World} {B p : Nat} {vb vr : Value} {rv : List RawV} (h : PF w B p { lf1 with pl := true, left := 1 } vb vr rv) (hB : B ≤ w.heap.size) (bv : Value) (hx : Bs w bv ltx) (hal : Alien w p vb vr bv) :
    Calls Try.prog 18 #[.pointer (some ⟨p, 0, none⟩), .int .i64 0, bv] w fun e w' => ∃ vb' vr' rv', e = .returned (.int .i64 6) ∧ PF w' B p lf2 vb' vr' rv' ∧ Moved w w' p vb vr rv vb' vr' rv' := by
  have hr : rv.length = 3 := by have := congrArg List.length h.rs; rw [plain_length] at this; rw [← this]; exact lf1_rs
  have := write_any h hB 0 ltx bv hx (fun _ => hal) (by omega) (by decide) (by omega)
  rw [lf2_cut] at this
  exact this
theorem read1 {w : World} {B p : Nat} {vb vr : Value} {rv : List RawV} (h : PF w B p { lf2 with off := false } vb vr rv) :
    Calls Try.prog 20 #[.pointer (some ⟨p, 0, none⟩), .int .i64 15, .int .i64 2] w fun e w' => ∃ ao cap, e = .returned (.tuple #[.slice ao 2 cap, .int .i64 0]) ∧ Own w' w.heap.size (.slice ao 2 cap) [102, 0] ∧ Below w.heap.size w w' := by
  have := read_any h 15 2 (by omega) (by omega)
  rw [lf2_err, lf2_read] at this
  exact this
theorem raws1 {w : World} {B p : Nat} {vb vr : Value} {rv : List RawV} (h : PF w B p lf1 vb vr rv) :
    Calls Try.prog 27 #[.pointer (some ⟨p, 0, none⟩)] w fun e w' => ∃ ao cap, e = .returned (.slice ao 3 cap) ∧ Below w.heap.size w w' := by
  have hr : rv.length = 3 := by have := congrArg List.length h.rs; rw [plain_length] at this; rw [← this]; exact lf1_rs
  refine (raws_any h (by omega) (fun r hr => Nat.le_trans (short_raws h lf1_short r hr) (by omega))).mono ?_
  rintro e w' ⟨ao, cap, rv', rfl, _, h2, h3⟩
  have : rv'.length = 3 := by rw [← plain_length, h2]; exact lf1_rs
  rw [this]
  exact ⟨ao, cap, rfl, h3⟩

set_option maxHeartbeats 4000000 in
theorem lives_any (w : World) : Calls Try.prog 15 #[] w fun e w' => e = .returned (.bool true) ∧ Below w.heap.size w w' := by
  have hst : strOfNums [102, 0] = ⟨#[102, 0]⟩ := rfl
  go_enter Try.func15, Try.ntmps15
  go_wp2_with fail
  refine (new_some 100 _ (by decide) (by decide)).mono ?_
  rintro e w1 ⟨p, vb1, rfl, hp1, hb1⟩
  obtain ⟨w2, hmk, hr2, hb2⟩ := make_run w1 40 (by decide)
  rw [show ((40 : Nat) : Int) = 40 from rfl] at hmk
  have HB0 : Hid (w.heap.size ≤ w2.heap.size) := Nat.le_trans hb1.size hb2.size
  have HC : Hid _ := write1 (hp1.below hb2) HB0.out (.slice (some ⟨w1.heap.size, 0, none⟩) 40 40) hr2.whole (alien_new hp1 (Nat.le_refl _) hr2.lt)
  have HB2 : Hid (Below w.heap.size w w2) := hb1.trans (hb2.mono hb1.size)
  have HP2 : Hid (PF w2 w.heap.size p (newM [] 100) vb1 (.slice none 0 0) []) := hp1.below hb2
  clear hp1 hb1 hb2 hr2
  go_wp2_with fail
  refine Calls.mono HC.out ?_
  rintro e w3 ⟨vb3, vr3, rv3, rfl, hp3, hm3⟩
  clear HC hmk
  have HB3 : Hid (Below w.heap.size w w3) := HB2.out.trans (hm3.below HP2.out HB0.out)
  have HC : Hid _ := raws1 hp3
  have HP3 : Hid (PF w3 w.heap.size p lf1 vb3 vr3 rv3) := hp3
  clear hp3 hm3 HP2
  go_wp2_with fail
  refine Calls.mono HC.out ?_
  rintro e w4 ⟨ao4, cap4, rfl, hb4⟩
  clear HC
  have HB4 : Hid (Below w.heap.size w w4) := HB3.out.trans (hb4.mono HB3.out.size)
  have HC : Hid _ := cut_any (HP3.out.below hb4) 1 (by decide) (by decide)
  clear hb4 HP3
  go_wp2_with fail
  refine Calls.mono HC.out ?_
  rintro e w5 ⟨rfl, hp5, hc5⟩
  clear HC
  have HB5 : Hid (Below w.heap.size w w5) := HB4.out.trans (hc5.below (fun k hk => by have hk' : k = p := hk; rw [hk']; exact hp5.hold.bp) HB4.out.size)
  have hcv := Lib.run_convert_bytes_const (P := Try.prog) w5 22 5 #[.int .u8 48, .int .u8 49, .int .u8 50, .int .u8 51, .int .u8 52, .int .u8 53, .int .u8 54, .int .u8 55, .int .u8 56, .int .u8 57, .int .u8 97, .int .u8 98, .int .u8 99, .int .u8 100, .int .u8 101, .int .u8 102, .int .u8 48, .int .u8 49, .int .u8 50, .int .u8 51, .int .u8 52, .int .u8 53, .int .u8 54, .int .u8 55, .int .u8 56, .int .u8 57, .int .u8 97, .int .u8 98, .int .u8 99, .int .u8 100, .int .u8 101, .int .u8 102] 32 32 Try.underlying22 Try.underlying5
  have HBS : Hid (Bs (w5.alloc (.cells #[.int .u8 48, .int .u8 49, .int .u8 50, .int .u8 51, .int .u8 52, .int .u8 53, .int .u8 54, .int .u8 55, .int .u8 56, .int .u8 57, .int .u8 97, .int .u8 98, .int .u8 99, .int .u8 100, .int .u8 101, .int .u8 102, .int .u8 48, .int .u8 49, .int .u8 50, .int .u8 51, .int .u8 52, .int .u8 53, .int .u8 54, .int .u8 55, .int .u8 56, .int .u8 57, .int .u8 97, .int .u8 98, .int .u8 99, .int .u8 100, .int .u8 101, .int .u8 102] 5 (32, 33))) (.slice (some ⟨w5.heap.size, 0, none⟩) 32 32) ltx) := made_bs w5 ltx _ rfl (32, 33)
  have hb5 : Below w5.heap.size w5 (w5.alloc (.cells #[.int .u8 48, .int .u8 49, .int .u8 50, .int .u8 51, .int .u8 52, .int .u8 53, .int .u8 54, .int .u8 55, .int .u8 56, .int .u8 57, .int .u8 97, .int .u8 98, .int .u8 99, .int .u8 100, .int .u8 101, .int .u8 102, .int .u8 48, .int .u8 49, .int .u8 50, .int .u8 51, .int .u8 52, .int .u8 53, .int .u8 54, .int .u8 55, .int .u8 56, .int .u8 57, .int .u8 97, .int .u8 98, .int .u8 99, .int .u8 100, .int .u8 101, .int .u8 102] 5 (32, 33))) := (Below.refl _ w5).alloc (Nat.le_refl _) _
  have HB6 : Hid (Below w.heap.size w (w5.alloc (.cells #[.int .u8 48, .int .u8 49, .int .u8 50, .int .u8 51, .int .u8 52, .int .u8 53, .int .u8 54, .int .u8 55, .int .u8 56, .int .u8 57, .int .u8 97, .int .u8 98, .int .u8 99, .int .u8 100, .int .u8 101, .int .u8 102, .int .u8 48, .int .u8 49, .int .u8 50, .int .u8 51, .int .u8 52, .int .u8 53, .int .u8 54, .int .u8 55, .int .u8 56, .int .u8 57, .int .u8 97, .int .u8 98, .int .u8 99, .int .u8 100, .int .u8 101, .int .u8 102] 5 (32, 33)))) := HB5.out.trans (hb5.mono HB5.out.size)
  have HP6 : Hid (PF (w5.alloc (.cells #[.int .u8 48, .int .u8 49, .int .u8 50, .int .u8 51, .int .u8 52, .int .u8 53, .int .u8 54, .int .u8 55, .int .u8 56, .int .u8 57, .int .u8 97, .int .u8 98, .int .u8 99, .int .u8 100, .int .u8 101, .int .u8 102, .int .u8 48, .int .u8 49, .int .u8 50, .int .u8 51, .int .u8 52, .int .u8 53, .int .u8 54, .int .u8 55, .int .u8 56, .int .u8 57, .int .u8 97, .int .u8 98, .int .u8 99, .int .u8 100, .int .u8 101, .int .u8 102] 5 (32, 33))) w.heap.size p { lf1 with pl := true, left := 1 } vb3 vr3 rv3) := hp5.below hb5
  have HC : Hid _ := write2 HP6.out HB6.out.size _ HBS.out (alien_new hp5 (Nat.le_refl _) (by simp))
  clear hp5 hc5 hb5
  go_wp2_with fail
  refine Calls.mono HC.out ?_
  rintro e w7 ⟨vb7, vr7, rv7, rfl, hp7, hm7⟩
  clear HC hcv HBS
  have HB7 : Hid (Below w.heap.size w w7) := HB6.out.trans (hm7.below HP6.out HB6.out.size)
  have HC := on_any hp7
  rw [lf2_off] at HC
  have HC2 := start_any hp7
  clear hp7 hm7 HP6
  go_wp2_with fail
  refine HC.mono ?_
  rintro e w8 ⟨rfl, hw8⟩
  obtain rfl := hw8.symm
  go_wp2_with fail
  refine HC2.mono ?_
  rintro e w9 ⟨⟨u9, rfl⟩, hp9, hc9⟩
  clear HC HC2
  have HB9 : Hid (Below w.heap.size w w9) := HB7.out.trans (hc9.below (fun k hk => by have hk' : k = p := hk; rw [hk']; exact hp9.hold.bp) HB7.out.size)
  have HC := read1 hp9
  clear hp9 hc9
  go_wp2_with fail
  refine HC.mono ?_
  rintro e w10 ⟨ao10, cap10, rfl, ho10, hb10⟩
  have hs10 := str_of ho10.bs
  rw [hst] at hs10
  have HB10 : Hid (Below w.heap.size w w10) := HB9.out.trans (hb10.mono HB9.out.size)
  clear HC ho10 hb10
  go_wp2
  go_ret
  exact ⟨rfl, HB10.out⟩
end Go.Proofs.Ytkdmcdkjfkllkaa
