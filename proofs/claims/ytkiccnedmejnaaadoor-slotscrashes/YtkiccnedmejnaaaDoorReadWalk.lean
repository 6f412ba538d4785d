/-
  The walk of File.Read, for a file that was made and for one that is none.
-/
import Derived.Test.YtkiccnedmejnaaaDoorApi
namespace Go.Proofs.YtkiccnedmejnaaaDoor
open Go.RowKit
set_option linter.unusedVariables false
set_option maxRecDepth 100000

/-- What Read tells: its error and its bytes. -/
def rdErr (F : Mdl) (at' n : Int) : Int := if F.off then 6 else if at' < 0 ∨ n < 0 then 2 else if (F.bs.length : Int) - min at' (F.bs.length : Int) < n then 4 else 0
def rdList (F : Mdl) (at' n : Int) : List Int := if rdErr F at' n = 0 then (F.bs.drop at'.toNat).take n.toNat else []

theorem read_no (v : Value) (at' n : Int) (w : World) (h : NoFile w v) : Calls Tryd.prog 48 #[v, .int .i64 at', .int .i64 n] w fun e w' => e = .returned (.tuple #[.slice none 0 0, .int .i64 1]) ∧ w' = w := by
  have H : Hid (NoFile w v) := h
  clear h
  go_enter Tryd.func48, Tryd.ntmps48
  go_wp2_with (go_at_call 58; refine (powerError_no _ _ H.out).mono ?_; rintro e w' ⟨rfl, rfl⟩)
  go_ret2
  exact ⟨rfl, rfl⟩

theorem read_bad {w : World} {B p : Nat} {F : Mdl} {vb vr : Value} {rv : List RawV} (h : PF w B p F vb vr rv) (at' n : Int) (ha : at' ≤ 9223372036854775807) (hn : n ≤ 9223372036854775807) (hE : rdErr F at' n ≠ 0) :
    Calls Tryd.prog 48 #[.pointer (some ⟨p, 0, none⟩), .int .i64 at', .int .i64 n] w fun e w' => e = .returned (.tuple #[.slice none 0 0, .int .i64 (rdErr F at' n)]) ∧ w' = w := by
  have c0 : w.cell? ⟨p, 0, none⟩ = some (.bool true) := h.cell 0
  have c1 : w.cell? ⟨p, 1, none⟩ = some (.bool F.off) := h.cell 1
  have c3 : w.cell? ⟨p, 3, none⟩ = some vb := h.cell 3
  obtain ⟨f1, f2, f3, f4, f5⟩ := h.fit
  obtain ⟨ab, cb, ar, cr, rfl, hcb, rfl⟩ := h.shape
  clear h
  have HE : Hid (rdErr F at' n = if F.off then 6 else if at' < 0 ∨ n < 0 then 2 else if (F.bs.length : Int) - min at' (F.bs.length : Int) < n then 4 else 0) := rfl
  obtain ⟨bl, Hbl⟩ : ∃ bl, Hid (F.bs.length = bl) := ⟨_, rfl⟩
  rw [Hbl.out] at c3 hcb f3 HE
  cases hoff : F.off with
  | true =>
    rw [hoff] at HE c1
    have HR : Hid (rdErr F at' n = 6) := by rw [Hid, HE.out]; simp
    have HP := powerError_at p true w c0 c1
    go_enter Tryd.func48, Tryd.ntmps48
    go_wp2_with (go_at_call 58; refine HP.mono ?_; rintro e w' ⟨rfl, rfl⟩)
    go_ret2
    exact ⟨by rw [HR.out]; rfl, rfl⟩
  | false =>
    rw [hoff] at HE c1
    have HP := powerError_at p false w c0 c1
    by_cases h1 : at' < 0
    · have HR : Hid (rdErr F at' n = 2) := by rw [Hid, HE.out]; simp [h1]
      go_enter Tryd.func48, Tryd.ntmps48
      go_wp2_with (go_at_call 58; refine HP.mono ?_; rintro e w' ⟨rfl, rfl⟩)
      go_ret2
      exact ⟨by rw [HR.out]; rfl, rfl⟩
    · by_cases h2 : n < 0
      · have HR : Hid (rdErr F at' n = 2) := by rw [Hid, HE.out]; simp [h1, h2]
        go_enter Tryd.func48, Tryd.ntmps48
        go_wp2_with (go_at_call 58; refine HP.mono ?_; rintro e w' ⟨rfl, rfl⟩)
        go_ret2
        exact ⟨by rw [HR.out]; rfl, rfl⟩
      · have hR : rdErr F at' n = if (bl : Int) - min at' (bl : Int) < n then 4 else 0 := by rw [HE.out]; simp [h1, h2]
        have h3 : (bl : Int) - min at' (bl : Int) < n := by
          by_cases h3 : (bl : Int) - min at' (bl : Int) < n
          · exact h3
          · rw [if_neg h3] at hR; exact absurd hR hE
        have HR : Hid (rdErr F at' n = 4) := by rw [Hid, hR, if_pos h3]
        clear hR hE
        by_cases h4 : at' ≤ (bl : Int)
        · have h5 : (bl : Int) - at' < n := by omega
          clear h3
          go_enter Tryd.func48, Tryd.ntmps48
          go_wp2_with (go_at_call 58; refine HP.mono ?_; rintro e w' ⟨rfl, rfl⟩)
          go_ret2
          exact ⟨by rw [HR.out]; rfl, rfl⟩
        · have h5 : 0 < n := by omega
          clear h3
          go_enter Tryd.func48, Tryd.ntmps48
          go_wp2_with (go_at_call 58; refine HP.mono ?_; rintro e w' ⟨rfl, rfl⟩)
          go_ret2
          exact ⟨by rw [HR.out]; rfl, rfl⟩

theorem read_ok {w : World} {B p : Nat} {F : Mdl} {vb vr : Value} {rv : List RawV} (h : PF w B p F vb vr rv) (a m fr : Nat) (ha : a ≤ 9223372036854775807) (hoff : F.off = false) (hfr : fr = min a F.bs.length) (hm : fr + m ≤ F.bs.length) :
    Calls Tryd.prog 48 #[.pointer (some ⟨p, 0, none⟩), .int .i64 (a : Int), .int .i64 (m : Int)] w fun e w' => ∃ ao cap, e = .returned (.tuple #[.slice ao m cap, .int .i64 0]) ∧ Own w' w.heap.size (.slice ao m cap) ((F.bs.drop fr).take m) ∧ Below w.heap.size w w' := by
  have c0 : w.cell? ⟨p, 0, none⟩ = some (.bool true) := h.cell 0
  have c1 : w.cell? ⟨p, 1, none⟩ = some (.bool F.off) := h.cell 1
  have c3 : w.cell? ⟨p, 3, none⟩ = some vb := h.cell 3
  rw [hoff] at c1
  have HP := powerError_at p false w c0 c1
  obtain ⟨f1, f2, f3, f4, f5⟩ := h.fit
  have HPT : Hid (∀ sp c, m ≤ c → (0 < m → ∀ g, vb.ownBlock = some g → sp = some ⟨g, fr, none⟩) → (sp = none → c = 0) → Bs w (.slice sp m c) ((F.bs.drop fr).take m)) := by
    intro sp c h1 h2 h3
    rcases Nat.eq_zero_or_pos m with h0 | h0
    · subst h0
      exact ⟨sp, c, by simp, by simp, h3, fun ad _ i hi => by simp at hi⟩
    · obtain ⟨_, ⟨e, h00⟩ | ⟨g, cap, cur, rfl, hBg, hgg, hle, hmx, hcs, ht⟩⟩ := h.hold.own
      · omega
      · have hb := h.hold.own.bs
        rw [h2 h0 g rfl]
        have := hb.part fr m c hm h1
        simpa using this
  have hgb : ∀ ab cb, vb = .slice ab F.bs.length cb → (ab = none ∧ cb = 0 ∧ F.bs.length = 0) ∨ ∃ g, ab = some ⟨g, 0, none⟩ ∧ vb.ownBlock = some g := by
    intro ab cb e
    obtain ⟨_, ⟨e2, h00⟩ | ⟨g, cap, cur, e2, _⟩⟩ := h.hold.own
    · rw [e2] at e; injection e with e3 e4 e5; exact .inl ⟨e3.symm, e5.symm, h00⟩
    · refine .inr ⟨g, ?_, by rw [e2]; rfl⟩
      rw [e2] at e; injection e with e3 e4 e5; exact e3.symm
  obtain ⟨ab, cb, ar, cr, e1, hcb, rfl⟩ := h.shape
  have hab := hgb ab cb e1
  obtain ⟨bl, Hbl⟩ : ∃ bl, Hid (F.bs.length = bl) := ⟨_, rfl⟩
  rw [Hbl.out] at e1 hcb f3 hfr hm hab
  rw [e1] at c3
  have HE1 : Hid (vb = .slice ab bl cb) := e1
  have HLL : Hid (((F.bs.drop fr).take m).length = m) := by rw [Hid, List.length_take, List.length_drop, Hbl.out]; omega
  clear h hgb e1
  have hm1 : ((fr : Int) + (m : Int)) ≤ (bl : Int) := by omega
  have hcut : ∀ sp c, m ≤ c → (0 < m → ∀ g, vb.ownBlock = some g → sp = some ⟨g, fr, none⟩) → (sp = none → c = 0) → Calls Tryd.prog 38 #[.slice sp m c] w fun e w' => ∃ ao cap, e = .returned (.slice ao m cap) ∧ Own w' w.heap.size (.slice ao m cap) ((F.bs.drop fr).take m) ∧ Below w.heap.size w w' := by
    intro sp c h1 h2 h3
    have := own_any _ _ w (HPT.out sp c h1 h2 h3) (by rw [HLL.out]; omega)
    rw [HLL.out] at this
    refine this.mono ?_
    rintro e w' ⟨ao, cap, h4, h5, h6, _⟩
    exact ⟨ao, cap, h4, h5, h6⟩
  have HCUT : Hid (∀ sp c, m ≤ c → (0 < m → ∀ g, vb.ownBlock = some g → sp = some ⟨g, fr, none⟩) → (sp = none → c = 0) → Calls Tryd.prog 38 #[.slice sp m c] w fun e w' => ∃ ao cap, e = .returned (.slice ao m cap) ∧ Own w' w.heap.size (.slice ao m cap) ((F.bs.drop fr).take m) ∧ Below w.heap.size w w') := hcut
  clear hcut
  rcases hab with ⟨rfl, rfl, rfl⟩ | ⟨g, rfl, hg⟩
  · obtain rfl : fr = 0 := by omega
    obtain rfl : m = 0 := by omega
    clear hfr
    by_cases h4 : (a : Int) ≤ 0
    · obtain rfl : a = 0 := by omega
      go_enter Tryd.func48, Tryd.ntmps48
      go_wp2_with (first | (go_at_call 58; refine HP.mono ?_; rintro e w' ⟨rfl, rfl⟩) | (go_at_call 38; refine (HCUT.out _ _ (by omega) (fun h => absurd h (by omega)) (fun _ => rfl)).mono ?_; rintro e w1 ⟨ao1, cap1, rfl, ho1, hb1⟩))
      go_ret2
      exact ⟨ao1, cap1, rfl, ho1, hb1⟩
    · go_enter Tryd.func48, Tryd.ntmps48
      go_wp2_with (first | (go_at_call 58; refine HP.mono ?_; rintro e w' ⟨rfl, rfl⟩) | (go_at_call 38; refine (HCUT.out _ _ (by omega) (fun h => absurd h (by omega)) (fun _ => rfl)).mono ?_; rintro e w1 ⟨ao1, cap1, rfl, ho1, hb1⟩))
      go_ret2
      exact ⟨ao1, cap1, rfl, ho1, hb1⟩
  · have HG : Hid (vb.ownBlock = some g) := hg
    clear hg
    by_cases h4 : (a : Int) ≤ (bl : Int)
    · obtain rfl : fr = a := by omega
      clear hfr
      go_enter Tryd.func48, Tryd.ntmps48
      go_wp2_with (first | (go_at_call 58; refine HP.mono ?_; rintro e w' ⟨rfl, rfl⟩) | (go_at_call 38; refine (HCUT.out _ _ (by omega) (fun h g' hg' => by have hgg := HG.out.symm.trans hg'; rw [if_neg (by omega)]; cases hgg; rfl) (by split <;> simp)).mono ?_; rintro e w1 ⟨ao1, cap1, rfl, ho1, hb1⟩))
      all_goals
        go_ret2
        exact ⟨ao1, cap1, rfl, ho1, hb1⟩
    · obtain rfl : fr = bl := by omega
      obtain rfl : m = 0 := by omega
      clear hfr
      go_enter Tryd.func48, Tryd.ntmps48
      go_wp2_with (first | (go_at_call 58; refine HP.mono ?_; rintro e w' ⟨rfl, rfl⟩) | (go_at_call 38; refine (HCUT.out _ _ (by omega) (fun h g' hg' => by have hgg := HG.out.symm.trans hg'; rw [if_neg (by omega)]; cases hgg; rfl) (by split <;> simp)).mono ?_; rintro e w1 ⟨ao1, cap1, rfl, ho1, hb1⟩))
      all_goals
        go_ret2
        exact ⟨ao1, cap1, rfl, ho1, hb1⟩
/-- Read, whole. -/
theorem read_any {w : World} {B p : Nat} {F : Mdl} {vb vr : Value} {rv : List RawV} (h : PF w B p F vb vr rv) (at' n : Int) (ha : at' ≤ 9223372036854775807) (hn : n ≤ 9223372036854775807) :
    Calls Tryd.prog 48 #[.pointer (some ⟨p, 0, none⟩), .int .i64 at', .int .i64 n] w fun e w' => ∃ ao cap, e = .returned (.tuple #[.slice ao (rdList F at' n).length cap, .int .i64 (rdErr F at' n)]) ∧ Own w' w.heap.size (.slice ao (rdList F at' n).length cap) (rdList F at' n) ∧ Below w.heap.size w w' := by
  by_cases hE : rdErr F at' n = 0
  · have hx := hE
    unfold rdErr at hx
    split at hx
    · omega
    · rename_i h1
      split at hx
      · omega
      · rename_i h2
        split at hx
        · omega
        · rename_i h3
          obtain ⟨a, rfl⟩ : ∃ a : Nat, at' = (a : Int) := ⟨at'.toNat, by omega⟩
          obtain ⟨m, rfl⟩ : ∃ m : Nat, n = (m : Int) := ⟨n.toNat, by omega⟩
          have hL : rdList F a m = (F.bs.drop (min a F.bs.length)).take m := by
            unfold rdList
            rw [if_pos hE]
            simp only [Int.toNat_natCast]
            rcases Nat.le_total a F.bs.length with h4 | h4
            · rw [Nat.min_eq_left h4]
            · rw [Nat.min_eq_right h4, List.drop_of_length_le h4, List.drop_of_length_le (Nat.le_refl _)]
          have hLl : (rdList F a m).length = m := by rw [hL, List.length_take, List.length_drop]; omega
          refine (read_ok h a m (min a F.bs.length) (by omega) (by simpa using h1) rfl (by omega)).mono ?_
          rintro e w' ⟨ao, cap, rfl, h5, h6⟩
          refine ⟨ao, cap, by rw [hLl, hE], ?_, h6⟩
          rw [hLl, hL]
          exact h5
  · refine (read_bad h at' n ha hn hE).mono ?_
    rintro e w' ⟨rfl, rfl⟩
    have hL : rdList F at' n = [] := by unfold rdList; rw [if_neg hE]
    rw [hL]
    exact ⟨none, 0, rfl, Own.nil _ _, Below.refl _ _⟩
end Go.Proofs.YtkiccnedmejnaaaDoor
