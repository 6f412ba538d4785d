/-
  The contracts of Put, Get and spoil, each in one for all its ways. Conditions: lengths within the machine's bounds.
-/
import Derived.Test.YtojcokdfplldbaaWalkE
namespace Go.Proofs.Ytojcokdfplldbaa
open Go.RowKit
set_option linter.unusedVariables false
set_option maxRecDepth 100000

theorem str_run {v : Value} {l : List Int} {w : World} (h : Bs w v l) : (convert 55 9 v).run Try.prog w = .ok (.string (strOfNums l)) w :=
  h.str Try.underlying55 Try.underlying5 Try.underlying9

/-- Nil, or a row of the call's own from block lo on. -/
def Fr (w : World) (lo : Nat) (x : Value) (l : List Int) : Prop :=
  (x = .slice none 0 0 ∧ l = []) ∨ ∃ g, lo ≤ g ∧ x = .slice (some ⟨g, 0, none⟩) l.length l.length ∧ Row w g l
theorem Fr.bs {w : World} {lo : Nat} {x : Value} {l : List Int} (h : Fr w lo x l) : Bs w x l := by
  rcases h with ⟨rfl, rfl⟩ | ⟨g, _, rfl, hr⟩
  · exact Bs.nil _
  · exact hr.whole
theorem Fr.lt {w : World} {lo : Nat} {x : Value} {l : List Int} (h : Fr w lo x l) : ∀ k, x.ownBlock = some k → lo ≤ k ∧ k < w.heap.size := by
  rcases h with ⟨rfl, rfl⟩ | ⟨g, hg, rfl, hr⟩
  · intro k hk; cases hk
  · intro k hk; cases hk; exact ⟨hg, hr.lt⟩
theorem Fr.below {w w' : World} {lo : Nat} {x : Value} {l : List Int} (h : Fr w lo x l) (hb : Below w.heap.size w w') : Fr w' lo x l := by
  rcases h with ⟨rfl, rfl⟩ | ⟨g, hg, rfl, hr⟩
  · exact .inl ⟨rfl, rfl⟩
  · exact .inr ⟨g, hg, rfl, hr.below hb hr.lt⟩
theorem Fr.grown {w w' : World} {lo : Nat} {x : Value} {l : List Int} {r : Option Nat} (h : Fr w lo x l) (hb : w.grownBy w' r) (hr : ∀ k, r = some k → k < lo) : Fr w' lo x l := by
  rcases h with ⟨rfl, rfl⟩ | ⟨g, hg, rfl, hrow⟩
  · exact .inl ⟨rfl, rfl⟩
  · exact .inr ⟨g, hg, rfl, hrow.grown hb (fun e => by have := hr g e.symm; omega)⟩
theorem Own.grown {w w' : World} {lo : Nat} {x : Value} {l : List Int} {r : Option Nat} (h : Own w lo x l) (hb : w.grownBy w' r) (hr : ∀ k, r = some k → k < lo) : Own w' lo x l := by
  have h' : w.ownsRow lo 5 1 x l.length (bcells l) := h
  refine World.ownsRow.kept h' hb ?_
  cases hx : x.ownBlock with
  | none => exact .inl rfl
  | some k => exact .inr (fun e => by have := (h'.lt k hx).1; have := hr k e.symm; omega)

/-- What Put tells. -/
def putList (l : List Int) (u n : Int) (big : Bool) : List Int := if numErr u n = 0 then l ++ dig2 big u n.toNat else []
theorem putList_length (l : List Int) (u n : Int) (big : Bool) (hu : 0 ≤ u) : (putList l u n big).length ≤ l.length + 8 := by
  unfold putList
  split
  · rename_i h
    have := numErr_zero hu h
    rw [List.length_append, dig2_length]; omega
  · simp

theorem put_any (v : Value) (l : List Int) (u n : Int) (big : Bool) (w : World) (hl : Bs w v l) (hb : l.length ≤ 140737488351232) (hu0 : 0 ≤ u) (hu1 : u < 18446744073709551616) :
    Calls Try.prog 43 #[v, .int .i64 n, .bool big, .int .u64 u] w fun e w' => ∃ x, e = .returned (.tuple #[x, .int .i64 (numErr u n)]) ∧ Fr w' w.heap.size x (putList l u n big) ∧ Below w.heap.size w w' := by
  by_cases hE : numErr u n = 0
  · obtain ⟨h1, h2, _⟩ := numErr_zero hu0 hE
    obtain ⟨m, rfl⟩ := Int.eq_ofNat_of_zero_le (show 0 ≤ n by omega)
    refine (put_yes v l u m big w hl hb hu0 hu1 hE).mono fun e w' ⟨h3, h4, h5⟩ => ⟨.slice (some ⟨w.heap.size, 0, none⟩) (l.length + m) (l.length + m), ?_, ?_, h5⟩
    · rw [h3, hE]
    · unfold putList
      rw [if_pos hE, Int.toNat_natCast]
      refine .inr ⟨_, Nat.le_refl _, ?_, h4⟩
      rw [List.length_append, dig2_length]
  · refine (put_no v u n big w hu0 hu1 (by simp [hE])).mono fun e w' ⟨h3, h4⟩ => ⟨_, h3, ?_, ?_⟩
    · unfold putList; rw [if_neg hE]; exact .inl ⟨rfl, rfl⟩
    · subst h4; exact Below.refl _ _

/-- What Get tells: its error and its number. -/
def getErr (len : Nat) (p n : Int) : Int := if wOk n = true ∧ pOk len p = true then (if (len : Int) - p < n then 4 else 0) else 2
def getNum (l : List Int) (p n : Int) (big : Bool) : Int := if getErr l.length p n = 0 then val big ((l.drop p.toNat).take n.toNat) else 0
theorem pOk_cases (len : Nat) (p : Int) : (pOk len p = true ∧ 0 ≤ p ∧ p ≤ len) ∨ (pOk len p = false ∧ (p < 0 ∨ (len : Int) < p)) := by
  by_cases h : 0 ≤ p ∧ p ≤ len
  · exact .inl ⟨by simp [pOk, h.1, h.2], h⟩
  · refine .inr ⟨?_, by omega⟩
    simp [pOk]; omega
theorem getErr_cases (len : Nat) (p n : Int) : (getErr len p n = 2 ∧ ((wOk n = false ∨ pOk len p = false) ∧ (n < 1 ∨ 8 < n ∨ p < 0 ∨ (len : Int) < p))) ∨
    (1 ≤ n ∧ n ≤ 8 ∧ 0 ≤ p ∧ p ≤ len ∧ (len : Int) - p < n ∧ getErr len p n = 4) ∨ (1 ≤ n ∧ n ≤ 8 ∧ 0 ≤ p ∧ p + n ≤ len ∧ getErr len p n = 0) := by
  rcases wOk_cases n with ⟨hw, h1, h2⟩ | ⟨hw, h⟩
  · rcases pOk_cases len p with ⟨hp, h3, h4⟩ | ⟨hp, h⟩
    · unfold getErr
      rw [if_pos ⟨hw, hp⟩]
      split
      · exact .inr (.inl ⟨h1, h2, h3, h4, by assumption, rfl⟩)
      · exact .inr (.inr ⟨h1, h2, h3, by omega, rfl⟩)
    · exact .inl ⟨by unfold getErr; rw [if_neg (by simp [hp])], .inr hp, by omega⟩
  · exact .inl ⟨by unfold getErr; rw [if_neg (by simp [hw])], .inl hw, by omega⟩

theorem get_any (v : Value) (l : List Int) (p n : Int) (big : Bool) (w : World) (hl : Bs w v l) (hb : l.length ≤ 140737488351232) (hby : Byt l) :
    Calls Try.prog 85 #[v, .int .i64 p, .int .i64 n, .bool big] w fun e w' => e = .returned (.tuple #[.int .u64 (getNum l p n big), .int .i64 (getErr l.length p n)]) ∧ Below w.heap.size w w' := by
  rcases getErr_cases l.length p n with ⟨hE, h, _⟩ | ⟨h1, h2, h3, h4, h5, hE⟩ | ⟨h1, h2, h3, h4, hE⟩
  · refine (get_arg v l p n big w hl hb h).mono fun e w' ⟨h3, h4⟩ => ⟨?_, ?_⟩
    · rw [h3, getNum, if_neg (by omega), hE]
    · subst h4; exact Below.refl _ _
  · obtain ⟨m, rfl⟩ := Int.eq_ofNat_of_zero_le (show 0 ≤ n by omega)
    obtain ⟨q, rfl⟩ := Int.eq_ofNat_of_zero_le h3
    refine (get_short v l q m big w hl hb (by omega) (by omega) (by omega) (by omega)).mono fun e w' ⟨h3, h4⟩ => ⟨?_, ?_⟩
    · rw [h3, getNum, if_neg (by omega), hE]
    · subst h4; exact Below.refl _ _
  · obtain ⟨m, rfl⟩ := Int.eq_ofNat_of_zero_le (show 0 ≤ n by omega)
    obtain ⟨q, rfl⟩ := Int.eq_ofNat_of_zero_le h3
    refine (get_yes v l q m big w hl hb hby (by omega) (by omega) (by omega)).mono fun e w' ⟨h3, h4⟩ => ⟨?_, h4⟩
    rw [h3, getNum, if_pos hE, hE, Int.toNat_natCast, Int.toNat_natCast]

theorem refGet_any (v : Value) (l : List Int) (p n : Int) (big : Bool) (w : World) (hl : Bs w v l) (hb : l.length ≤ 140737488351232) (hby : Byt l) :
    Calls Try.prog 87 #[v, .int .i64 p, .int .i64 n, .bool big] w fun e w' => e = .returned (.tuple #[.int .u64 (getNum l p n big), .int .i64 (getErr l.length p n)]) ∧ w' = w := by
  rcases getErr_cases l.length p n with ⟨hE, _, h⟩ | ⟨h1, h2, h3, h4, h5, hE⟩ | ⟨h1, h2, h3, h4, hE⟩
  · refine (refGet_arg v l p n big w hl hb h).mono fun e w' ⟨h3, h4⟩ => ⟨?_, h4⟩
    rw [h3, getNum, if_neg (by omega), hE]
  · obtain ⟨m, rfl⟩ := Int.eq_ofNat_of_zero_le (show 0 ≤ n by omega)
    obtain ⟨q, rfl⟩ := Int.eq_ofNat_of_zero_le h3
    refine (refGet_short v l q m big w hl hb (by omega) (by omega) (by omega) (by omega)).mono fun e w' ⟨h3, h4⟩ => ⟨?_, h4⟩
    rw [h3, getNum, if_neg (by omega), hE]
  · obtain ⟨m, rfl⟩ := Int.eq_ofNat_of_zero_le (show 0 ≤ n by omega)
    obtain ⟨q, rfl⟩ := Int.eq_ofNat_of_zero_le h3
    refine (refGet_yes v l q m big w hl hb hby (by omega) (by omega) (by omega)).mono fun e w' ⟨h3, h4⟩ => ⟨?_, h4⟩
    rw [h3, getNum, if_pos hE, hE, Int.toNat_natCast, Int.toNat_natCast]

end Go.Proofs.Ytojcokdfplldbaa
