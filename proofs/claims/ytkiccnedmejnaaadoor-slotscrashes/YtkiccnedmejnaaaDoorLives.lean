/-
  The law's own examples of store: they hold in every world.
-/
import Derived.Test.YtkiccnedmejnaaaDoorRawsWalk
import Derived.Lib.SlBytesConst
import Derived.Laws.OwnMore
namespace Go.Proofs.YtkiccnedmejnaaaDoor
open Go.RowKit
set_option linter.unusedVariables false

theorem made_bs (w : World) (l : List Int) (C : Array Value) (hC : C = (bcells l).toArray) (fr : Nat × Nat) : Bs (w.alloc (.cells C 5 fr)) (.slice (some ⟨w.heap.size, 0, none⟩) l.length l.length) l := by
  refine ⟨some ⟨w.heap.size, 0, none⟩, l.length, rfl, Nat.le_refl _, (fun h => by cases h), fun ad ha i hi => ?_⟩
  obtain rfl := Option.some.inj ha
  rw [addr_add, Nat.zero_add, World.cell?_alloc_mark, hC]
  simp [bcells, List.getD, hi]
theorem make_run (w : World) (n : Nat) (hn : n ≤ 1000000) : ∃ w', (Instr.makeSlice 25 (.int .i64 (n : Int)) (.int .i64 (n : Int))).run Tryd.prog w = .ok (.slice (some ⟨w.heap.size, 0, none⟩) n n) w' ∧ Row w' w.heap.size (List.replicate n 0) ∧ Below w.heap.size w w' := by
  obtain ⟨i0, hi, hz0, hz1, hz2⟩ := info_parts Tryd.info5
  obtain ⟨w', h1, h2, h3⟩ := run_make_full (P := Tryd.prog) w w.heap.size 25 5 i0 (.int .u8 0) 1 Tryd.underlying25 hi hz0 hz1 .i64 .i64 n (by rw [hz2]; omega) (by unfold maxLen; omega) (Nat.le_refl _)
  exact ⟨w', h1, row_of_made h2, below_of_grown h3⟩
theorem str_of {w : World} {v : Value} {l : List Int} (h : Bs w v l) : Sem.run Tryd.prog (convert 25 9 v) w = .ok (.string (strOfNums l)) w := h.str Tryd.underlying25 Tryd.underlying5 Tryd.underlying9

def lf1 : Mdl := (wrM (newM [] 100) 0 (List.replicate 40 0)).2
def ltx : List Int := [48, 49, 50, 51, 52, 53, 54, 55, 56, 57, 97, 98, 99, 100, 101, 102, 48, 49, 50, 51, 52, 53, 54, 55, 56, 57, 97, 98, 99, 100, 101, 102]
def lf2 : Mdl := (wrM { lf1 with pl := true, left := 1 } 0 ltx).2
theorem lf1_ok : (wrM (newM [] 100) 0 (List.replicate 40 0)).1 = 0 := by decide +kernel
theorem lf1_rs : lf1.rs.length = 3 := by decide +kernel
theorem lf1_short : ∀ r ∈ lf1.rs, r.2.length ≤ 16 := by decide +kernel
theorem lf2_cut : (wrM { lf1 with pl := true, left := 1 } 0 ltx).1 = 6 := by decide +kernel
theorem lf2_off : lf2.off = true := by decide +kernel
theorem lf2_err : rdErr { lf2 with off := false } 15 2 = 0 := by decide +kernel
theorem lf2_read : rdList { lf2 with off := false } 15 2 = [102, 0] := by decide +kernel

theorem short_raws {w : World} {B p : Nat} {F : Mdl} {vb vr : Value} {rv : List RawV} (h : PF w B p F vb vr rv) {n : Nat} (hs : ∀ r ∈ F.rs, r.2.length ≤ n) : ∀ r ∈ rv, r.2.1.length ≤ n := by
  intro r hr
  refine hs (r.1, r.2.1) ?_
  rw [h.rs]
  exact List.mem_map.2 ⟨r, hr, rfl⟩
theorem alien_new {w w' : World} {B p g n cap o : Nat} {F : Mdl} {vb vr : Value} {rv : List RawV} (h : PF w B p F vb vr rv) (hg : w.heap.size ≤ g) (hl : g < w'.heap.size) : Alien w' p vb vr (.slice (some ⟨g, o, none⟩) n cap) := by
  intro k hk
  simp [Value.ownBlock] at hk
  subst hk
  exact ⟨fun hf => by have := (h.hold.foot _ hf).2; omega, hl⟩

theorem write1 {w : World} {B p : Nat} {vb vr : Value} {rv : List RawV} (h : PF w B p (newM [] 100) vb vr rv) (hB : B ≤ w.heap.size) (bv : Value) (hx : Bs w bv (List.replicate 40 0)) (hal : Alien w p vb vr bv) :
    Calls Tryd.prog 19 #[.pointer (some ⟨p, 0, none⟩), .int .i64 0, bv] w fun e w' => ∃ vb' vr' rv', e = .returned (.int .i64 0) ∧ PF w' B p lf1 vb' vr' rv' ∧ Moved w w' p vb vr rv vb' vr' rv' := by
  have hr : rv.length = 0 := by have := h.rs; simp [newM, plain] at this; exact this ▸ rfl
  have := write_any h hB 0 (List.replicate 40 0) bv hx (fun _ => hal) (by omega) (by simp) (by omega)
  rw [lf1_ok] at this
  exact this
theorem write2 {w : World} {B p : Nat} {vb vr : Value} {rv : List RawV} (h : PF w B p { lf1 with pl := true, left := 1 } vb vr rv) (hB : B ≤ w.heap.size) (bv : Value) (hx : Bs w bv ltx) (hal : Alien w p vb vr bv) :
    Calls Tryd.prog 19 #[.pointer (some ⟨p, 0, none⟩), .int .i64 0, bv] w fun e w' => ∃ vb' vr' rv', e = .returned (.int .i64 6) ∧ PF w' B p lf2 vb' vr' rv' ∧ Moved w w' p vb vr rv vb' vr' rv' := by
  have hr : rv.length = 3 := by have := congrArg List.length h.rs; rw [plain_length] at this; rw [← this]; exact lf1_rs
  have := write_any h hB 0 ltx bv hx (fun _ => hal) (by omega) (by decide) (by omega)
  rw [lf2_cut] at this
  exact this
theorem read1 {w : World} {B p : Nat} {vb vr : Value} {rv : List RawV} (h : PF w B p { lf2 with off := false } vb vr rv) :
    Calls Tryd.prog 48 #[.pointer (some ⟨p, 0, none⟩), .int .i64 15, .int .i64 2] w fun e w' => ∃ ao cap, e = .returned (.tuple #[.slice ao 2 cap, .int .i64 0]) ∧ Own w' w.heap.size (.slice ao 2 cap) [102, 0] ∧ Below w.heap.size w w' := by
  have := read_any h 15 2 (by omega) (by omega)
  rw [lf2_err, lf2_read] at this
  exact this
theorem raws1 {w : World} {B p : Nat} {vb vr : Value} {rv : List RawV} (h : PF w B p lf1 vb vr rv) :
    Calls Tryd.prog 25 #[.pointer (some ⟨p, 0, none⟩)] w fun e w' => ∃ ao cap, e = .returned (.slice ao 3 cap) ∧ Below w.heap.size w w' := by
  have hr : rv.length = 3 := by have := congrArg List.length h.rs; rw [plain_length] at this; rw [← this]; exact lf1_rs
  refine (raws_any h (by omega) (fun r hr => Nat.le_trans (short_raws h lf1_short r hr) (by omega))).mono ?_
  rintro e w' ⟨ao, cap, rv', rfl, _, h2, h3⟩
  have : rv'.length = 3 := by rw [← plain_length, h2]; exact lf1_rs
  rw [this]
  exact ⟨ao, cap, rfl, h3⟩

end Go.Proofs.YtkiccnedmejnaaaDoor
