/-
  Plain facts on shuffled bytes: where each byte comes from, and that both ways undo one another. No conditions.
-/
import Derived.Test.YtgodoogmbdgeoabNums
namespace Go.Proofs.Ytgodoogmbdgeoab
set_option linter.unusedVariables false

/-- Where the byte at a place of what is shuffled, of what is put back, comes from: n numbers of z bytes. -/
def shA (z n m : Nat) : Nat := if m < n * z then m % n * z + m / n else m
def unAF (z n m : Nat) : Nat := if m < n * z then m % z * n + m / z else m
/-- The bytes at places that a rule tells. -/
def pick (f : Nat → Nat) (l : List Int) : List Int := (List.range l.length).map fun m => l.getD (f m) 0
def shL (z : Nat) (l : List Int) : List Int := pick (shA z (l.length / z)) l
def unL (z : Nat) (l : List Int) : List Int := pick (unAF z (l.length / z)) l
theorem pick_len (f : Nat → Nat) (l : List Int) : (pick f l).length = l.length := by simp [pick]
theorem shL_len (z : Nat) (l : List Int) : (shL z l).length = l.length := pick_len _ _
theorem unL_len (z : Nat) (l : List Int) : (unL z l).length = l.length := pick_len _ _
theorem pick_at (f : Nat → Nat) (l : List Int) {m : Nat} (h : m < l.length) : (pick f l).getD m 0 = l.getD (f m) 0 := by
  simp [pick, List.getD, h]
theorem pick_pick {f g : Nat → Nat} {l : List Int} (hg : ∀ m, m < l.length → g m < l.length) : pick g (pick f l) = pick (fun m => f (g m)) l := by
  rw [pick, pick_len]
  apply List.map_congr_left
  intro m hm
  rw [List.mem_range] at hm
  exact pick_at f l (hg m hm)
theorem gd {l : List Int} {m : Nat} (h : m < l.length) : l.getD m 0 = l[m] := by simp [List.getD, h]
theorem pick_id {f : Nat → Nat} {l : List Int} (h : ∀ m, m < l.length → f m = m) : pick f l = l := by
  apply List.ext_getElem (pick_len f l)
  intro m h1 h2
  have h3 := pick_at f l h2
  rw [h m h2, gd h1, gd h2] at h3
  exact h3
theorem mix_lt {a b n z : Nat} (ha : a < n) (hb : b < z) : a * z + b < n * z := by
  have : (a + 1) * z ≤ n * z := Nat.mul_le_mul_right z ha
  rw [Nat.add_mul] at this
  omega
theorem mix_div {a b z : Nat} (hb : b < z) : (a * z + b) / z = a := by
  rw [Nat.add_comm, Nat.add_mul_div_right _ _ (by omega), Nat.div_eq_of_lt hb, Nat.zero_add]
theorem mix_mod {a b z : Nat} (hb : b < z) : (a * z + b) % z = b := by
  rw [Nat.add_comm, Nat.add_mul_mod_self_right, Nat.mod_eq_of_lt hb]
theorem mix_eq {m z : Nat} : m / z * z + m % z = m := by
  have := Nat.div_add_mod m z
  rw [Nat.mul_comm] at this
  exact this
theorem num_le (l : List Int) (z : Nat) : l.length / z * z ≤ l.length := Nat.div_mul_le_self _ _
theorem shA_lt {z n m : Nat} (h : m < n * z) : shA z n m < n * z := by
  rw [shA, if_pos h]
  have hn : 0 < n := Nat.pos_of_mul_pos_right (Nat.lt_of_le_of_lt (Nat.zero_le _) h)
  exact mix_lt (Nat.mod_lt _ hn) (by rw [Nat.div_lt_iff_lt_mul hn, Nat.mul_comm]; exact h)
theorem unA_lt {z n m : Nat} (h : m < n * z) : unAF z n m < n * z := by
  rw [unAF, if_pos h]
  have hz : 0 < z := Nat.pos_of_mul_pos_left (Nat.lt_of_le_of_lt (Nat.zero_le _) h)
  rw [Nat.mul_comm n z]
  exact mix_lt (Nat.mod_lt _ hz) (by rw [Nat.div_lt_iff_lt_mul hz]; exact h)
theorem shA_unA (z n m : Nat) : shA z n (unAF z n m) = m := by
  by_cases h : m < n * z
  · have hz : 0 < z := Nat.pos_of_mul_pos_left (Nat.lt_of_le_of_lt (Nat.zero_le _) h)
    have hd : m / z < n := by rw [Nat.div_lt_iff_lt_mul hz]; exact h
    have h1 := unA_lt h
    rw [shA, if_pos h1, unAF, if_pos h, mix_mod hd, mix_div hd, mix_eq]
  · rw [unAF, if_neg h, shA, if_neg h]
theorem unA_shA (z n m : Nat) : unAF z n (shA z n m) = m := by
  by_cases h : m < n * z
  · have hn : 0 < n := Nat.pos_of_mul_pos_right (Nat.lt_of_le_of_lt (Nat.zero_le _) h)
    have hd : m / n < z := by rw [Nat.div_lt_iff_lt_mul hn, Nat.mul_comm]; exact h
    have h1 := shA_lt h
    rw [unAF, if_pos h1, shA, if_pos h, mix_mod hd, mix_div hd, mix_eq]
  · rw [shA, if_neg h, unAF, if_neg h]
theorem shA_in {z : Nat} {l : List Int} {m : Nat} (h : m < l.length) : shA z (l.length / z) m < l.length := by
  by_cases hm : m < l.length / z * z
  · exact Nat.lt_of_lt_of_le (shA_lt hm) (num_le l z)
  · rw [shA, if_neg hm]; exact h
theorem unA_in {z : Nat} {l : List Int} {m : Nat} (h : m < l.length) : unAF z (l.length / z) m < l.length := by
  by_cases hm : m < l.length / z * z
  · exact Nat.lt_of_lt_of_le (unA_lt hm) (num_le l z)
  · rw [unAF, if_neg hm]; exact h
/-- Each undoes the other. -/
theorem un_sh (z : Nat) (l : List Int) : unL z (shL z l) = l := by
  rw [unL, shL_len, shL, pick_pick (fun m hm => unA_in hm)]
  exact pick_id (fun m _ => shA_unA z _ m)
theorem sh_un (z : Nat) (l : List Int) : shL z (unL z l) = l := by
  rw [shL, unL_len, unL, pick_pick (fun m hm => shA_in hm)]
  exact pick_id (fun m _ => unA_shA z _ m)
theorem byt_pick {f : Nat → Nat} {l : List Int} (h : Byt l) : Byt (pick f l) := fun m => by
  by_cases hm : m < l.length
  · rw [pick_at f l hm]; exact h _
  · simp [List.getD, List.getElem?_eq_none (show (pick f l).length ≤ m by rw [pick_len]; omega)]
/-- A row under way: the places that have been written bear what the rule tells, the others a nought. -/
def part (p : Nat → Prop) [DecidablePred p] (f : Nat → Nat) (l : List Int) : List Int := (List.range l.length).map fun m => if p m then l.getD (f m) 0 else 0
theorem part_len (p : Nat → Prop) [DecidablePred p] (f : Nat → Nat) (l : List Int) : (part p f l).length = l.length := by simp [part]
theorem part_none {p : Nat → Prop} [DecidablePred p] {f : Nat → Nat} {l : List Int} (h : ∀ m, ¬ p m) : part p f l = List.replicate l.length 0 := by
  apply List.ext_getElem (by simp [part])
  intro m h1 h2
  simp [part, h m]
theorem part_iff {p q : Nat → Prop} [DecidablePred p] [DecidablePred q] {f : Nat → Nat} {l : List Int} (h : ∀ m, m < l.length → (p m ↔ q m)) : part p f l = part q f l := by
  apply List.map_congr_left
  intro m hm
  rw [List.mem_range] at hm
  by_cases hp : p m
  · rw [if_pos hp, if_pos ((h m hm).1 hp)]
  · rw [if_neg hp, if_neg (fun hq => hp ((h m hm).2 hq))]
theorem part_set {p q : Nat → Prop} [DecidablePred p] [DecidablePred q] {f : Nat → Nat} {l : List Int} {a : Nat} {x : Int} (hx : x = l.getD (f a) 0) (h : ∀ m, m < l.length → (q m ↔ p m ∨ m = a)) : (part p f l).set a x = part q f l := by
  apply List.ext_getElem (by simp [part])
  intro m h1 h2
  have hm : m < l.length := by simpa [part] using h2
  rw [List.getElem_set]
  by_cases e : a = m
  · subst e
    rw [if_pos rfl]
    simp only [part, List.getElem_map, List.getElem_range]
    rw [if_pos ((h a hm).2 (.inr rfl)), hx]
  · rw [if_neg e]
    simp only [part, List.getElem_map, List.getElem_range]
    by_cases hp : p m
    · rw [if_pos hp, if_pos ((h m hm).2 (.inl hp))]
    · rw [if_neg hp, if_neg (fun hq => by rcases (h m hm).1 hq with h9 | h9; exact hp h9; exact e h9.symm)]
/-- The places of the first k numbers, and of so many ranks of the next one: of what is shuffled, of what is put back. -/
def shP (z n k r m : Nat) : Prop := m < n * z ∧ (m % n < k ∨ (m % n = k ∧ m / n < r))
def unP (z n k r m : Nat) : Prop := m < n * z ∧ (m / z < k ∨ (m / z = k ∧ m % z < r))
instance (z n k r : Nat) : DecidablePred (shP z n k r) := fun m => by unfold shP; exact inferInstance
instance (z n k r : Nat) : DecidablePred (unP z n k r) := fun m => by unfold unP; exact inferInstance
def shT (z k r : Nat) (l : List Int) : List Int := part (shP z (l.length / z) k r) (shA z (l.length / z)) l
def unT (z k r : Nat) (l : List Int) : List Int := part (unP z (l.length / z) k r) (unAF z (l.length / z)) l
theorem shT_len (z k r : Nat) (l : List Int) : (shT z k r l).length = l.length := part_len _ _ _
theorem unT_len (z k r : Nat) (l : List Int) : (unT z k r l).length = l.length := part_len _ _ _
theorem shT_zero (z : Nat) (l : List Int) : shT z 0 0 l = List.replicate l.length 0 := part_none (fun m h => by obtain ⟨_, h | ⟨_, h⟩⟩ := h <;> exact Nat.not_lt_zero _ h)
theorem unT_zero (z : Nat) (l : List Int) : unT z 0 0 l = List.replicate l.length 0 := part_none (fun m h => by obtain ⟨_, h | ⟨_, h⟩⟩ := h <;> exact Nat.not_lt_zero _ h)
theorem shT_next (z k : Nat) (l : List Int) : shT z k z l = shT z (k + 1) 0 l := part_iff (fun m hm => by
  unfold shP
  constructor
  · rintro ⟨h1, h2⟩; exact ⟨h1, by omega⟩
  · rintro ⟨h1, h2⟩
    refine ⟨h1, ?_⟩
    have hn : 0 < l.length / z := Nat.pos_of_mul_pos_right (Nat.lt_of_le_of_lt (Nat.zero_le _) h1)
    have : m / (l.length / z) < z := by rw [Nat.div_lt_iff_lt_mul hn, Nat.mul_comm]; exact h1
    generalize m / (l.length / z) = q at *
    omega)
theorem unT_next (z k : Nat) (l : List Int) (hz : 1 ≤ z) : unT z k z l = unT z (k + 1) 0 l := part_iff (fun m hm => by
  unfold unP
  have := Nat.mod_lt m (show 0 < z by omega)
  constructor
  · rintro ⟨h1, h2⟩; exact ⟨h1, by omega⟩
  · rintro ⟨h1, h2⟩; exact ⟨h1, by omega⟩)
theorem shT_step {z k r : Nat} {l : List Int} (hk : k < l.length / z) (hr : r < z) : (shT z k r l).set (r * (l.length / z) + k) (l.getD (k * z + r) 0) = shT z k (r + 1) l := by
  have hlt : r * (l.length / z) + k < l.length / z * z := by rw [Nat.mul_comm (l.length / z) z]; exact mix_lt hr hk
  refine part_set ?_ (fun m hm => ?_)
  · rw [shA, if_pos hlt, mix_mod hk, mix_div hk]
  · unfold shP
    constructor
    · rintro ⟨h1, h2⟩
      by_cases e : m % (l.length / z) = k ∧ m / (l.length / z) = r
      · right
        have := mix_eq (m := m) (z := l.length / z)
        rw [e.1, e.2] at this
        omega
      · left; exact ⟨h1, by omega⟩
    · rintro (⟨h1, h2⟩ | rfl)
      · exact ⟨h1, by omega⟩
      · exact ⟨hlt, .inr ⟨mix_mod hk, by rw [mix_div hk]; omega⟩⟩
theorem unT_step {z k r : Nat} {l : List Int} (hk : k < l.length / z) (hr : r < z) : (unT z k r l).set (k * z + r) (l.getD (r * (l.length / z) + k) 0) = unT z k (r + 1) l := by
  have hlt : k * z + r < l.length / z * z := mix_lt hk hr
  refine part_set ?_ (fun m hm => ?_)
  · rw [unAF, if_pos hlt, mix_mod hr, mix_div hr]
  · unfold unP
    constructor
    · rintro ⟨h1, h2⟩
      by_cases e : m / z = k ∧ m % z = r
      · right
        have := mix_eq (m := m) (z := z)
        rw [e.1, e.2] at this
        omega
      · left; exact ⟨h1, by omega⟩
    · rintro (⟨h1, h2⟩ | rfl)
      · exact ⟨h1, by omega⟩
      · exact ⟨hlt, .inr ⟨mix_div hr, by rw [mix_mod hr]; omega⟩⟩
theorem shT_all (z : Nat) (l : List Int) (hz : 1 ≤ z) : (shT z (l.length / z) 0 l).take (l.length / z * z) ++ l.drop (l.length / z * z) = shL z l := by
  have hle := num_le l z
  apply List.ext_getElem (by simp [shT_len, shL_len]; omega)
  intro m h1 h2
  rw [shL_len] at h2
  rw [List.getElem_append]
  split
  · rename_i h3
    have h3 : m < l.length / z * z := by simp [shT_len] at h3; omega
    have hn : 0 < l.length / z := Nat.pos_of_mul_pos_right (Nat.lt_of_le_of_lt (Nat.zero_le _) h3)
    simp only [List.getElem_take, shT, part, shL, pick, List.getElem_map, List.getElem_range]
    rw [if_pos ⟨h3, .inl (Nat.mod_lt _ hn)⟩]
  · rename_i h3
    simp [shT_len] at h3
    have hm : ¬ m < l.length / z * z := by omega
    simp only [List.getElem_drop, shL, pick, List.getElem_map, List.getElem_range, List.length_take, shT_len, shA, if_neg hm]
    rw [gd h2]
    congr 1
    omega
theorem unT_all (z : Nat) (l : List Int) (hz : 1 ≤ z) : (unT z (l.length / z) 0 l).take (l.length / z * z) ++ l.drop (l.length / z * z) = unL z l := by
  have hle := num_le l z
  apply List.ext_getElem (by simp [unT_len, unL_len]; omega)
  intro m h1 h2
  rw [unL_len] at h2
  rw [List.getElem_append]
  split
  · rename_i h3
    have h3 : m < l.length / z * z := by simp [unT_len] at h3; omega
    simp only [List.getElem_take, unT, part, unL, pick, List.getElem_map, List.getElem_range]
    rw [if_pos ⟨h3, .inl (by rw [Nat.div_lt_iff_lt_mul (by omega)]; exact h3)⟩]
  · rename_i h3
    simp [unT_len] at h3
    have hm : ¬ m < l.length / z * z := by omega
    simp only [List.getElem_drop, unL, pick, List.getElem_map, List.getElem_range, List.length_take, unT_len, unAF, if_neg hm]
    rw [gd h2]
    congr 1
    omega
/-- The document's: rank by rank, number by number. -/
def rk (z n k : Nat) (l : List Int) : List Int := (List.range n).map fun i => l.getD (i * z + k) 0
theorem rk_len (z n k : Nat) (l : List Int) : (rk z n k l).length = n := by simp [rk]
def rks (z n k : Nat) (l : List Int) : List Int := (List.range k).flatMap fun r => rk z n r l
theorem rks_succ (z n k : Nat) (l : List Int) : rks z n (k + 1) l = rks z n k l ++ rk z n k l := by simp [rks, List.range_succ]
theorem rks_len (z n : Nat) (l : List Int) : ∀ k, (rks z n k l).length = k * n
  | 0 => by simp [rks]
  | k + 1 => by rw [rks_succ, List.length_append, rks_len z n l k, rk_len, Nat.add_mul, Nat.one_mul]
theorem rks_at {z n : Nat} {l : List Int} : ∀ {k m : Nat}, m < k * n → (rks z n k l)[m]? = some (l.getD (m % n * z + m / n) 0)
  | 0, m, h => by omega
  | k + 1, m, h => by
    rw [rks_succ]
    by_cases hm : m < k * n
    · rw [List.getElem?_append_left (by rw [rks_len]; exact hm)]
      exact rks_at hm
    · rw [List.getElem?_append_right (by rw [rks_len]; omega), rks_len]
      rw [Nat.add_mul, Nat.one_mul] at h
      have h1 : m - k * n < n := by omega
      have e : m = k * n + (m - k * n) := by omega
      have e1 : m % n = m - k * n := by rw [e, mix_mod h1]; omega
      have e2 : m / n = k := by rw [e, mix_div h1]
      rw [e1, e2]
      simp [rk, h1]
theorem sh_ref (z : Nat) (l : List Int) (hz : 1 ≤ z) : rks z (l.length / z) z l ++ l.drop (l.length / z * z) = shL z l := by
  have hle := num_le l z
  have hc := Nat.mul_comm z (l.length / z)
  apply List.ext_getElem? 
  intro m
  by_cases hm : m < l.length / z * z
  · rw [List.getElem?_append_left (by rw [rks_len, hc]; exact hm), rks_at (by rw [hc]; exact hm)]
    have hl : m < l.length := by omega
    simp [shL, pick, hl, shA, hm]
  · rw [List.getElem?_append_right (by rw [rks_len, hc]; omega), rks_len, hc, List.getElem?_drop, show l.length / z * z + (m - l.length / z * z) = m by omega]
    by_cases hl : m < l.length
    · simp [shL, pick, hl, shA, hm]
    · rw [List.getElem?_eq_none (by omega), List.getElem?_eq_none (by rw [shL_len]; omega)]
/-- The bytes of a number, from what is shuffled: the same with z and n changed about. -/
theorem un_ref (z : Nat) (l : List Int) (hz : 1 ≤ z) : rks (l.length / z) z (l.length / z) l ++ l.drop (l.length / z * z) = unL z l := by
  have hle := num_le l z
  apply List.ext_getElem? 
  intro m
  by_cases hm : m < l.length / z * z
  · rw [List.getElem?_append_left (by rw [rks_len]; exact hm), rks_at hm]
    have hl : m < l.length := by omega
    simp [unL, pick, hl, unAF, hm]
  · rw [List.getElem?_append_right (by rw [rks_len]; omega), rks_len, List.getElem?_drop, show l.length / z * z + (m - l.length / z * z) = m by omega]
    by_cases hl : m < l.length
    · simp [unL, pick, hl, unAF, hm]
    · rw [List.getElem?_eq_none (by omega), List.getElem?_eq_none (by rw [unL_len]; omega)]
end Go.Proofs.Ytgodoogmbdgeoab
