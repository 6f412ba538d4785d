/-
  Walks of store's small methods: isNone, powerError, writeError, isDue, pass, fail, Len, Most, On, Start, Cut. The file is nil, one that no call made, or one that was made.
-/
import Derived.Test.YtkiccnedmejnaaaDoorFile
namespace Go.Proofs.YtkiccnedmejnaaaDoor
open Go.RowKit
set_option linter.unusedVariables false
set_option maxRecDepth 100000

theorem isNone_nil (w : World) :
    Calls Tryd.prog 41 #[.pointer none] w fun e w' => e = .returned (.bool true) ∧ w' = w := by
  go_enter Tryd.func41, Tryd.ntmps41
  go_wp2
  go_ret
  exact ⟨rfl, rfl⟩
theorem isNone_at (p : Nat) (m : Bool) (w : World) (h : w.cell? ⟨p, 0, none⟩ = some (.bool m)) :
    Calls Tryd.prog 41 #[.pointer (some ⟨p, 0, none⟩)] w fun e w' => e = .returned (.bool (!m)) ∧ w' = w := by
  go_enter Tryd.func41, Tryd.ntmps41
  go_wp2
  go_ret
  exact ⟨rfl, rfl⟩
/-- A file that is none: nil, or not made. -/
def NoFile (w : World) (v : Value) : Prop := v = .pointer none ∨ ∃ p, v = .pointer (some ⟨p, 0, none⟩) ∧ w.cell? ⟨p, 0, none⟩ = some (.bool false)
theorem isNone_no (v : Value) (w : World) (h : NoFile w v) :
    Calls Tryd.prog 41 #[v] w fun e w' => e = .returned (.bool true) ∧ w' = w := by
  rcases h with rfl | ⟨p, rfl, hc⟩
  · exact isNone_nil w
  · exact isNone_at p false w hc

theorem powerError_no (v : Value) (w : World) (h : NoFile w v) :
    Calls Tryd.prog 58 #[v] w fun e w' => e = .returned (.int .i64 1) ∧ w' = w := by
  have H : Hid (NoFile w v) := h
  clear h
  go_enter Tryd.func58, Tryd.ntmps58
  go_wp2_with (go_at_call 41; refine (isNone_no _ _ H.out).mono ?_; rintro e w' ⟨rfl, rfl⟩)
  go_ret
  exact ⟨rfl, rfl⟩
theorem powerError_at (p : Nat) (off : Bool) (w : World) (h : w.cell? ⟨p, 0, none⟩ = some (.bool true)) (h1 : w.cell? ⟨p, 1, none⟩ = some (.bool off)) :
    Calls Tryd.prog 58 #[.pointer (some ⟨p, 0, none⟩)] w fun e w' => e = .returned (.int .i64 (if off then 6 else 0)) ∧ w' = w := by
  cases off with
  | true =>
    go_enter Tryd.func58, Tryd.ntmps58
    go_wp2_with (go_at_call 41; refine (isNone_at _ true _ h).mono ?_; rintro e w' ⟨rfl, rfl⟩)
    go_ret
    exact ⟨rfl, rfl⟩
  | false =>
    go_enter Tryd.func58, Tryd.ntmps58
    go_wp2_with (go_at_call 41; refine (isNone_at _ true _ h).mono ?_; rintro e w' ⟨rfl, rfl⟩)
    go_ret
    exact ⟨rfl, rfl⟩

theorem writeError_no (v : Value) (at' n : Int) (w : World) (h : NoFile w v) :
    Calls Tryd.prog 42 #[v, .int .i64 at', .int .i64 n] w fun e w' => e = .returned (.int .i64 1) ∧ w' = w := by
  have H : Hid (NoFile w v) := h
  clear h
  go_enter Tryd.func42, Tryd.ntmps42
  go_wp2_with (go_at_call 58; refine (powerError_no _ _ H.out).mono ?_; rintro e w' ⟨rfl, rfl⟩)
  go_ret
  exact ⟨rfl, rfl⟩
/-- Why so many bytes can't be laid down at a place. -/
def wErr (F : Mdl) (at' : Int) (n : Nat) : Int := if F.off then 6 else if at' < 0 ∨ (F.bs.length : Int) < at' then 2 else if F.most - at' < (n : Int) then 3 else 0
theorem writeError_any {w : World} {B p : Nat} {F : Mdl} {vb vr : Value} {rv : List RawV} (h : PF w B p F vb vr rv) (at' : Int) (n : Nat) (hn : (n : Int) ≤ 9223372036854775807) (ha : at' ≤ 9223372036854775807) :
    Calls Tryd.prog 42 #[.pointer (some ⟨p, 0, none⟩), .int .i64 at', .int .i64 (n : Int)] w fun e w' => e = .returned (.int .i64 (wErr F at' n)) ∧ w' = w := by
  have c0 : w.cell? ⟨p, 0, none⟩ = some (.bool true) := h.cell 0
  have c1 : w.cell? ⟨p, 1, none⟩ = some (.bool F.off) := h.cell 1
  have c2 : w.cell? ⟨p, 2, none⟩ = some (.int .i64 F.most) := h.cell 2
  have c3 : w.cell? ⟨p, 3, none⟩ = some vb := h.cell 3
  obtain ⟨ab, cb, ar, cr, rfl, hcb, rfl⟩ := h.shape
  have hf := h.fit
  obtain ⟨f1, f2, f3, f4, f5⟩ := hf
  have HE : Hid (wErr F at' n = if F.off then 6 else if at' < 0 ∨ (F.bs.length : Int) < at' then 2 else if F.most - at' < (n : Int) then 3 else 0) := rfl
  clear h
  obtain ⟨bl, hbl⟩ : ∃ bl, F.bs.length = bl := ⟨_, rfl⟩
  rw [hbl] at c3 hcb f3 HE
  clear hbl
  generalize F.most = most at *
  cases hoff : F.off with
  | true =>
    rw [hoff] at HE c1
    have HP := powerError_at p true w c0 c1
    go_enter Tryd.func42, Tryd.ntmps42
    go_wp2_with (go_at_call 58; refine HP.mono ?_; rintro e w' ⟨rfl, rfl⟩)
    go_ret
    exact ⟨ret_int (by rw [HE.out]; simp), rfl⟩
  | false =>
    rw [hoff] at HE c1
    have HP := powerError_at p false w c0 c1
    by_cases ha1 : at' < 0
    · have HE' : Hid (wErr F at' n = 2) := by rw [Hid, HE.out]; simp [ha1]
      go_enter Tryd.func42, Tryd.ntmps42
      go_wp2_with (go_at_call 58; refine HP.mono ?_; rintro e w' ⟨rfl, rfl⟩)
      go_ret
      exact ⟨ret_int HE'.out.symm, rfl⟩
    · by_cases ha2 : (bl : Int) < at'
      · have HE' : Hid (wErr F at' n = 2) := by rw [Hid, HE.out]; simp [ha1, ha2]
        go_enter Tryd.func42, Tryd.ntmps42
        go_wp2_with (go_at_call 58; refine HP.mono ?_; rintro e w' ⟨rfl, rfl⟩)
        go_ret
        exact ⟨ret_int HE'.out.symm, rfl⟩
      · by_cases ha3 : most - at' < (n : Int)
        · have HE' : Hid (wErr F at' n = 3) := by rw [Hid, HE.out]; simp [ha1, ha2, ha3]
          go_enter Tryd.func42, Tryd.ntmps42
          go_wp2_with (go_at_call 58; refine HP.mono ?_; rintro e w' ⟨rfl, rfl⟩)
          go_ret
          exact ⟨ret_int HE'.out.symm, rfl⟩
        · have HE' : Hid (wErr F at' n = 0) := by rw [Hid, HE.out]; simp [ha1, ha2, ha3]
          go_enter Tryd.func42, Tryd.ntmps42
          go_wp2_with (go_at_call 58; refine HP.mono ?_; rintro e w' ⟨rfl, rfl⟩)
          go_ret
          exact ⟨ret_int HE'.out.symm, rfl⟩

theorem isDue_any (pl : Bool) (left : Int) (w : World) :
    Calls Tryd.prog 44 #[.agg #[.bool pl, .int .i64 left]] w fun e w' => e = .returned (.bool (pl && left == 0)) ∧ Below w.heap.size w w' := by
  go_enter Tryd.func44, Tryd.ntmps44
  cases pl <;> go_wp2 <;> go_ret <;> exact ⟨by simp, by first | exact (Below.refl _ _).alloc (Nat.le_refl _) _ | exact Below.refl _ _⟩

/-- One cell of the file is another one. -/
theorem PF.put {w : World} {B p : Nat} {F F' : Mdl} {vb vr : Value} {rv : List RawV} (h : PF w B p F vb vr rv) (i : Nat) (u : Value) (hb : F'.bs = F.bs) (hr : F'.rs = F.rs) (hfit : F'.fit)
    (hc : (pcs F vb vr).set! i u = pcs F' vb vr) : PF (w.setCell ⟨p, i, none⟩ u) B p F' vb vr rv := by
  refine ⟨?_, ?_, hr.trans h.rs, hfit⟩
  · rw [heap_setCell_same w p i _ _ u h.cells]
    rw [← hc]; simp
  · rw [hb]
    exact h.hold.self (Chg.cell w p i u)
theorem heap_setCell_twice (w : World) (p i j : Nat) (u v : Value) (cs : Array Value) (t : TypeId) (h : w.heap[p]? = some (.cells cs t (0, 0))) :
    ((w.setCell ⟨p, i, none⟩ u).setCell ⟨p, j, none⟩ v).heap[p]? = some (.cells ((cs.set! i u).set! j v) t (0, 0)) := by
  have h1 := heap_setCell_same w p i _ _ u h
  have h2 := heap_setCell_same _ p j _ _ v h1
  rw [h2]; simp
theorem PF.put2 {w : World} {B p : Nat} {F F' : Mdl} {vb vr : Value} {rv : List RawV} (h : PF w B p F vb vr rv) (i j : Nat) (u v : Value) (hb : F'.bs = F.bs) (hr : F'.rs = F.rs) (hfit : F'.fit)
    (hc : ((pcs F vb vr).set! i u).set! j v = pcs F' vb vr) : PF ((w.setCell ⟨p, i, none⟩ u).setCell ⟨p, j, none⟩ v) B p F' vb vr rv := by
  refine ⟨?_, ?_, hr.trans h.rs, hfit⟩
  · rw [heap_setCell_twice w p i j u v _ _ h.cells, hc]
  · rw [hb]
    exact h.hold.self ((Chg.cell w p i u).next (Chg.cell _ p j v))

theorem pass_any {w : World} {B p : Nat} {F : Mdl} {vb vr : Value} {rv : List RawV} (h : PF w B p F vb vr rv) (hl : F.pl = true → 0 < F.left) :
    Calls Tryd.prog 60 #[.pointer (some ⟨p, 5, none⟩)] w fun e w' => (∃ v, e = .returned v) ∧ PF w' B p { F with left := if F.pl then F.left - 1 else F.left } vb vr rv ∧ Chg (fun k => k = p) w w' := by
  have c5 : w.cell? ⟨p, 5, none⟩ = some (.bool F.pl) := h.cell 5
  have c6 : w.cell? ⟨p, 6, none⟩ = some (.int .i64 F.left) := h.cell 6
  have z6 : w.frozen? ⟨p, 6, none⟩ = false := h.free 6
  have HF : Hid (PF w B p F vb vr rv) := h
  have hfit := h.fit
  have hfit' := h.fit
  obtain ⟨f1, f2, f3, f4, f5⟩ := hfit
  have HFit : Hid F.fit := hfit'
  clear hfit' h
  cases hp : F.pl with
  | true =>
    rw [hp] at c5
    have hl' := hl hp
    obtain ⟨lf, hlf⟩ : ∃ lf, F.left = lf := ⟨_, rfl⟩
    rw [hlf] at c6 hl' f4 f5
    have HLf : Hid (F.left = lf) := hlf
    have HP : Hid (F.pl = true) := hp
    clear hlf hp hl
    go_enter Tryd.func60, Tryd.ntmps60
    go_wp2
    go_end0
    refine ⟨⟨_, rfl⟩, HF.out.put 6 _ rfl rfl ?_ ?_, Chg.cell _ _ _ _⟩
    · obtain ⟨f1, f2, f3, f4, f5⟩ := HFit.out
      have := HLf.out
      exact ⟨f1, f2, f3, by simp; omega, by simp; omega⟩
    · simp [pcs, HP.out, HLf.out]
  | false =>
    rw [hp] at c5
    go_enter Tryd.func60, Tryd.ntmps60
    go_wp2
    go_end0
    refine ⟨⟨_, rfl⟩, ?_, Chg.refl _ _⟩
    have h' := HF.out
    rw [show F = { F with pl := false, left := F.left } by rw [← hp]] at h'
    simpa using h'

theorem fail_any {w : World} {B p : Nat} {F : Mdl} {vb vr : Value} {rv : List RawV} (h : PF w B p F vb vr rv) :
    Calls Tryd.prog 45 #[.pointer (some ⟨p, 0, none⟩)] w fun e w' => (∃ v, e = .returned v) ∧ PF w' B p { F with off := true, pl := false, left := 0 } vb vr rv ∧ Chg (fun k => k = p) w w' := by
  have c1 : w.cell? ⟨p, 1, none⟩ = some (.bool F.off) := h.cell 1
  have c5 : w.cell? ⟨p, 5, none⟩ = some (.bool F.pl) := h.cell 5
  have c6 : w.cell? ⟨p, 6, none⟩ = some (.int .i64 F.left) := h.cell 6
  have z1 := h.free 1
  have z5 := h.free 5
  have z6 := h.free 6
  have HF : Hid (PF w B p F vb vr rv) := h
  clear h
  go_enter Tryd.func45, Tryd.ntmps45
  go_wp2
  go_end0
  refine ⟨⟨_, rfl⟩, ?_, ?_⟩
  · have h1 : PF (w.setCell ⟨p, 1, none⟩ (.bool true)) B p { F with off := true } vb vr rv := HF.out.put 1 _ rfl rfl HF.out.fit (by simp [pcs])
    obtain ⟨f1, f2, f3, f4, f5⟩ := HF.out.fit
    exact h1.put2 5 6 _ _ rfl rfl ⟨f1, f2, f3, by simp, by simp⟩ (by simp [pcs])
  · exact ((Chg.cell _ _ _ _).next (Chg.cell _ _ _ _)).next (Chg.cell _ _ _ _)
end Go.Proofs.YtkiccnedmejnaaaDoor
