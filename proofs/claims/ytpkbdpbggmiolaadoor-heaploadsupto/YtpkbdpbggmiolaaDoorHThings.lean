/-
  The walk of thingsOf: the things that stand in bytes. Conditions: bytes are bytes, lengths such as memory bears.
-/
import Derived.Test.YtpkbdpbggmiolaaDoorHEntry
namespace Go.Proofs.YtpkbdpbggmiolaaDoor
open Go.RowKit Go.Maps
set_option linter.unusedVariables false
set_option maxRecDepth 100000

/-- What stands at a place: nothing; no thing; a thing; and the place behind it. -/
def entAt (l : List Int) (p : Nat) : Option (Option (List Int) × Nat) :=
  if l.length ≤ p then none
  else if l.getD p 0 = 0 then some (none, p + 1)
  else if l.getD p 0 = 1 ∧ gbErr l ((p : Int) + 1) = 0 then some (some (gbList l ((p : Int) + 1)), (gbNext l ((p : Int) + 1)).toNat)
  else none
theorem gb_facts {l : List Int} (hby : Byt l) (p : Int) (hp : 0 ≤ p) (h : gbErr l p = 0) : (gbList l p).length ≤ 65536 ∧ Byt (gbList l p) ∧ 0 ≤ gbNext l p ∧ gbNext l p ≤ l.length := by
  have hb := getNum_bounds hby p 4 true
  have h2 := h
  unfold gbErr at h2
  split at h2
  · split at h2
    · simp at h2
    · split at h2
      · simp at h2
      · unfold gbList gbNext
        rw [if_pos h, if_pos h]
        refine ⟨by simp; omega, byt_take hby _ _, by omega, by omega⟩
  · rename_i hh; exact absurd h2 hh
theorem ent_none {v : Value} {l : List Int} {p : Nat} {w : World} (hl : Bs w v l) (hb : l.length ≤ 140737488351232) (hby : Byt l) (hp2 : p ≤ 140737488355328) (h : entAt l p = none) :
    Calls Tryd.prog 39 #[v, .int .i64 (p : Int)] w fun e w' => e = .returned (.tuple #[.slice none 0 0, .bool false, .int .i64 (-1)]) ∧ Below w.heap.size w w' := by
  unfold entAt at h
  split at h
  · rename_i h1; exact (entry_end v l p w hl hb h1 hp2).mono (fun e w' ⟨a, b⟩ => ⟨a, by rw [b]; exact Below.refl _ _⟩)
  · split at h
    · cases h
    · split at h
      · cases h
      · rename_i h1 h2 h3
        by_cases h4 : l.getD p 0 = 1
        · exact entry_bad v l p w hl hb hby (by omega) h4 (fun e => h3 ⟨h4, e⟩)
        · exact (entry_other v l p w hl hb (by omega) h2 h4).mono (fun e w' ⟨a, b⟩ => ⟨a, by rw [b]; exact Below.refl _ _⟩)
theorem ent_absent {v : Value} {l : List Int} {p q : Nat} {w : World} (hl : Bs w v l) (hb : l.length ≤ 140737488351232) (h : entAt l p = some (none, q)) :
    q ≤ l.length ∧ Calls Tryd.prog 39 #[v, .int .i64 (p : Int)] w fun e w' => e = .returned (.tuple #[.slice none 0 0, .bool false, .int .i64 (q : Int)]) ∧ Below w.heap.size w w' := by
  unfold entAt at h
  split at h
  · cases h
  · split at h
    · rename_i h1 h2
      simp only [Option.some.injEq, Prod.mk.injEq, true_and] at h
      subst h
      exact ⟨by omega, (entry_absent v l p w hl hb (by omega) h2).mono (fun e w' ⟨a, b⟩ => ⟨by rw [a]; simp, by rw [b]; exact Below.refl _ _⟩)⟩
    · split at h
      · simp at h
      · cases h
theorem ent_thing {v : Value} {l x : List Int} {p q : Nat} {w : World} (hl : Bs w v l) (hb : l.length ≤ 140737488351232) (hby : Byt l) (h : entAt l p = some (some x, q)) :
    (q ≤ l.length ∧ x.length ≤ 65536 ∧ Byt x) ∧ Calls Tryd.prog 39 #[v, .int .i64 (p : Int)] w fun e w' => ∃ u, e = .returned (.tuple #[u, .bool true, .int .i64 (q : Int)]) ∧ Fr w' w.heap.size u x ∧ Below w.heap.size w w' := by
  unfold entAt at h
  split at h
  · cases h
  · split at h
    · simp at h
    · split at h
      · rename_i h1 h2 h3
        simp only [Option.some.injEq, Prod.mk.injEq] at h
        obtain ⟨rfl, rfl⟩ := h
        obtain ⟨f1, f2, f3, f4⟩ := gb_facts hby ((p : Int) + 1) (by omega) h3.2
        refine ⟨⟨by omega, f1, f2⟩, (entry_yes v l p w hl hb hby (by omega) h3.1 h3.2).mono (fun e w' ⟨u, a, b, c⟩ => ⟨u, ?_, b, c⟩)⟩
        rw [a, show ((gbNext l ((p : Int) + 1)).toNat : Int) = gbNext l ((p : Int) + 1) by omega]
      · cases h

structure ThS where
  T : Int → Option (List Int)
  c : Nat
  la : Int
  p : Nat
def thStep (l : List Int) (k : Nat) (s : ThS) : Option ThS :=
  match entAt l s.p with
  | none => none
  | some (none, q) => some ⟨s.T, s.c, s.la, q⟩
  | some (some x, q) => if s.c = 65536 then none else some ⟨putT s.T k (some x), s.c + 1, k, q⟩
def thK (l : List Int) : Nat → Option ThS
  | 0 => some ⟨fun _ => none, 0, -1, 4⟩
  | k + 1 => (thK l k).bind (thStep l k)
theorem thK_none {l : List Int} {k : Nat} (h : thK l k = none) : ∀ n, k ≤ n → thK l n = none
  | 0, hn => by rw [show k = 0 by omega] at h; exact h
  | n + 1, hn => by
    by_cases e : k = n + 1
    · rw [← e]; exact h
    · rw [thK, thK_none h n (by omega)]; rfl
theorem thK_facts {l : List Int} (hby : Byt l) : ∀ k s, thK l k = some s → (∀ i b, s.T i = some b → 0 ≤ i ∧ i < k) ∧ s.c ≤ 65536 ∧ -1 ≤ s.la ∧ s.la < k ∧ s.p ≤ l.length + 4
  | 0, s, h => by
    simp only [thK, Option.some.injEq] at h
    subst h
    exact ⟨(fun i b h => by cases h), by simp, by simp, by simp, by simp⟩
  | k + 1, s, h => by
    rw [thK] at h
    cases hk : thK l k with
    | none => rw [hk] at h; cases h
    | some s0 =>
      obtain ⟨h1, h2, h3, h4, h5⟩ := thK_facts hby k s0 hk
      rw [hk] at h
      simp only [Option.bind_some] at h
      unfold thStep at h
      split at h
      · cases h
      · rename_i q he
        simp only [Option.some.injEq] at h
        subst h
        refine ⟨fun i b hi => by have := h1 i b hi; omega, h2, h3, by simp only; omega, ?_⟩
        unfold entAt at he
        split at he
        · cases he
        · split at he
          · simp only [Option.some.injEq, Prod.mk.injEq, true_and] at he; simp only; omega
          · split at he
            · simp at he
            · cases he
      · rename_i x q he
        split at h
        · cases h
        · simp only [Option.some.injEq] at h
          subst h
          refine ⟨fun i b hi => ?_, by simp only; omega, by simp only; omega, by simp only; omega, ?_⟩
          · by_cases e : i = (k : Int)
            · omega
            · simp only at hi; rw [putT_other _ _ e] at hi; have := h1 i b hi; omega
          · unfold entAt at he
            split at he
            · cases he
            · split at he
              · simp at he
              · split at he
                · rename_i h6 h7 h8
                  simp only [Option.some.injEq, Prod.mk.injEq] at he
                  obtain ⟨_, rfl⟩ := he
                  have := (gb_facts hby ((s0.p : Int) + 1) (by omega) h8.2).2.2.2
                  simp only; omega
                · cases he
end Go.Proofs.YtpkbdpbggmiolaaDoor
