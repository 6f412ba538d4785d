/-
  What is shuffled has each byte as often as before; bytes that are all alike stay. Numbers that rise by one step have differences that are alike. No conditions.
-/
import Derived.Test.YtgodoogmbdgeoaaFDeM
namespace Go.Proofs.Ytgodoogmbdgeoaa
set_option linter.unusedVariables false

theorem cnt_range (a : Nat) : ∀ n, (List.range n).count a = if a < n then 1 else 0
  | 0 => by simp
  | n + 1 => by
    rw [List.range_succ, List.count_append, cnt_range a n]
    by_cases h : n = a
    · subst h; simp
    · have : List.count a [n] = 0 := by rw [List.count_eq_zero]; simp; omega
      rw [this]
      by_cases h2 : a < n
      · rw [if_pos h2, if_pos (by omega)]
      · rw [if_neg h2, if_neg (by omega)]
/-- Each place from one alone. -/
theorem range_perm {n : Nat} {f g : Nat → Nat} (hf : ∀ m, m < n → f m < n) (hg : ∀ m, m < n → g m < n) (h1 : ∀ m, f (g m) = m) (h2 : ∀ m, g (f m) = m) : ((List.range n).map f).Perm (List.range n) := by
  rw [List.perm_iff_count]
  intro a
  by_cases ha : a < n
  · have e : List.count a ((List.range n).map f) = List.count (g a) (List.range n) := by
      rw [List.count, List.countP_map, List.count]
      apply List.countP_congr
      intro m hm
      simp only [Function.comp, beq_iff_eq]
      constructor
      · intro h; rw [← h, h2]
      · intro h; rw [h, h1]
    rw [e, cnt_range, cnt_range, if_pos (hg a ha), if_pos ha]
  · rw [List.count_eq_zero.2 (fun h => by
      obtain ⟨m, hm, e⟩ := List.mem_map.1 h
      have := hf m (List.mem_range.1 hm)
      omega), List.count_eq_zero.2 (fun h => by have := List.mem_range.1 h; omega)]
theorem pick_perm {f g : Nat → Nat} {l : List Int} (hf : ∀ m, m < l.length → f m < l.length) (hg : ∀ m, m < l.length → g m < l.length) (h1 : ∀ m, f (g m) = m) (h2 : ∀ m, g (f m) = m) : (pick f l).Perm l := by
  have h := (range_perm hf hg h1 h2).map (fun m => l.getD m 0)
  have e : ((List.range l.length).map f).map (fun m => l.getD m 0) = pick f l := by rw [List.map_map]; rfl
  have e2 : (List.range l.length).map (fun m => l.getD m 0) = l := pick_id (f := fun m => m) (fun _ _ => rfl)
  rw [e, e2] at h
  exact h
theorem sh_perm (z : Nat) (l : List Int) : (shL z l).Perm l := pick_perm (fun m h => shA_in h) (fun m h => unA_in (z := z) h) (shA_unA z _) (unA_shA z _)
/-- How often each byte is there, of the ones more than of the others. -/
def cdiff (p q : List Int) : List Int := (List.range 256).map fun b : Nat => ((p.count (b : Int) : Int) - (q.count (b : Int) : Int))
theorem cdiff_len (p q : List Int) : (cdiff p q).length = 256 := by simp [cdiff]
theorem cdiff_at (p q : List Int) {b : Nat} (h : b < 256) : (cdiff p q)[b]? = some ((p.count (b : Int) : Int) - (q.count (b : Int) : Int)) := by simp [cdiff, h]
theorem cdiff_same {p q : List Int} (h : p.Perm q) : cdiff p q = List.replicate 256 0 := by
  obtain ⟨n, hn⟩ : ∃ n, n = 256 := ⟨_, rfl⟩
  rw [cdiff, ← hn]
  clear hn
  apply List.ext_getElem (by simp)
  intro m h1 h2
  simp [h.count_eq]
theorem cdiff_nil : cdiff [] [] = List.replicate 256 0 := cdiff_same (List.Perm.refl _)
theorem cnt_snoc (p : List Int) (y b : Nat) : (p ++ [(y : Int)]).count (b : Int) = p.count (b : Int) + (if y = b then 1 else 0) := by
  rw [List.count_append]
  congr 1
  by_cases h : y = b
  · subst h; simp
  · rw [if_neg h, List.count_eq_zero]
    simp; omega
theorem cdiff_more (p q : List Int) {y : Nat} (h : y < 256) : (cdiff p q).set y ((p.count (y : Int) : Int) - (q.count (y : Int) : Int) + 1) = cdiff (p ++ [(y : Int)]) q := by
  apply List.ext_getElem (by simp [cdiff])
  intro m h1 h2
  rw [List.getElem_set]
  have hm : m < 256 := by simpa [cdiff] using h2
  by_cases e : y = m
  · subst e
    rw [if_pos rfl]
    simp only [cdiff, List.getElem_map, List.getElem_range, cnt_snoc]
    simp; omega
  · rw [if_neg e]
    simp only [cdiff, List.getElem_map, List.getElem_range, cnt_snoc, if_neg e]
    simp
theorem cdiff_less (p q : List Int) {y : Nat} (h : y < 256) : (cdiff p q).set y ((p.count (y : Int) : Int) - (q.count (y : Int) : Int) - 1) = cdiff p (q ++ [(y : Int)]) := by
  apply List.ext_getElem (by simp [cdiff])
  intro m h1 h2
  rw [List.getElem_set]
  have hm : m < 256 := by simpa [cdiff] using h2
  by_cases e : y = m
  · subst e
    rw [if_pos rfl]
    simp only [cdiff, List.getElem_map, List.getElem_range, cnt_snoc]
    simp; omega
  · rw [if_neg e]
    simp only [cdiff, List.getElem_map, List.getElem_range, cnt_snoc, if_neg e]
    simp
theorem take_snoc {l : List Int} {i : Nat} (h : i < l.length) : l.take (i + 1) = l.take i ++ [l.getD i 0] := by
  rw [List.take_add_one]
  congr 1
  simp [List.getD, h]
/-- Bytes that are all alike. -/
theorem sh_rep (z n : Nat) (x : Int) : shL z (List.replicate n x) = List.replicate n x := by
  have hl : (shL z (List.replicate n x)).length = n := by rw [shL_len, List.length_replicate]
  apply List.ext_getElem (by rw [hl, List.length_replicate])
  intro m h1 h2
  rw [← gd h1, shL, pick_at _ _ (by simpa using h2)]
  have h3 := shA_in (z := z) (l := List.replicate n x) (m := m) (by simpa using h2)
  rw [List.length_replicate] at h3
  simp [List.getD, h3]
/-- Numbers that rise by one step. -/
def riN (f s : Int) (j : Nat) : Int := (f + j * s) % M64
def stL (f s : Int) (z k : Nat) : List Int := rowN (riN f s) z k
theorem stL_len (f s : Int) (z k : Nat) : (stL f s z k).length = k * z := rowN_len _ _ _
theorem riN_next (f s : Int) (j : Nat) : (riN f s j + s) % M64 = riN f s (j + 1) := by
  unfold riN
  rw [Int.emod_add_emod]
  congr 1
  rw [show ((j + 1 : Nat) : Int) = (j : Int) + 1 from rfl, Int.add_mul, Int.one_mul]
  omega
theorem de_steps {f s : Int} {z k : Nat} (h1 : 1 ≤ z) (h8 : z ≤ 8) : deL z (stL f s z k) = (digs f z) ++ rowN (fun _ => s) z (k - 1) ∨ k = 0 := by
  cases k with
  | zero => exact .inr rfl
  | succ k =>
    left
    have hn : (stL f s z (k + 1)).length / z = k + 1 := by rw [stL_len, Nat.mul_div_cancel _ (by omega)]
    have hnm : ∀ j, j < k + 1 → nm z (stL f s z (k + 1)) j = riN f s j % 256 ^ z := fun j hj => by
      rw [nm, stL, rowN_at _ _ hj, num_mod]
    have e : deL z (stL f s z (k + 1)) = rowN (dlN z (stL f s z (k + 1))) z (k + 1) := by
      rw [deL, laid, hn, List.drop_of_length_le (by rw [stL_len]; omega), List.append_nil]
    rw [e]
    have key : ∀ j, j ≤ k → rowN (dlN z (stL f s z (k + 1))) z (j + 1) = digs f z ++ rowN (fun _ => s) z j := by
      intro j
      induction j with
      | zero =>
        intro _
        rw [rowN_succ, show rowN (dlN z (stL f s z (k + 1))) z 0 = [] from rfl, show rowN (fun _ => s) z 0 = [] from rfl, List.nil_append, List.append_nil]
        apply digs_congr
        rw [dlN, m64 h8, hnm 0 (by omega), Int.emod_emod, riN, m64 h8]
        congr 1
        simp
      | succ j ih =>
        intro hj
        rw [rowN_succ, ih (by omega), rowN_succ, List.append_assoc]
        congr 2
        apply digs_congr
        rw [dlN, m64 h8, hnm (j + 1) (by omega), hnm j (by omega), ← Int.emod_sub_emod, Int.sub_emod, Int.emod_emod, Int.emod_emod, ← Int.sub_emod, ← riN_next]
        rw [Int.sub_emod, m64 h8, Int.emod_emod, ← Int.sub_emod]
        congr 1
        omega
    exact key k (Nat.le_refl _)
theorem rowN_get (g : Nat → Int) (z : Nat) : ∀ {k i : Nat}, i < k * z → (rowN g z k).getD i 0 = qd (g (i / z)) (i % z) % 256
  | 0, i, h => by omega
  | k + 1, i, h => by
    rw [rowN_succ]
    by_cases hi : i < k * z
    · rw [List.getD, List.getElem?_append_left (by rw [rowN_len]; exact hi)]
      exact rowN_get g z hi
    · rw [Nat.add_mul, Nat.one_mul] at h
      have h1 : i - k * z < z := by omega
      have e : i = k * z + (i - k * z) := by omega
      have e1 : i % z = i - k * z := by rw [e, mix_mod h1]; omega
      have e2 : i / z = k := by rw [e, mix_div h1]
      rw [List.getD, List.getElem?_append_right (by rw [rowN_len]; omega), rowN_len, e1, e2]
      exact digs_get _ _ _ h1
theorem st_at {f s : Int} {z k i : Nat} (h1 : 1 ≤ z) (h8 : z ≤ 8) (hi : i < k * z) : (deL z (stL f s z k)).getD i 0 = qd (if i < z then f else s) (i % z) % 256 := by
  rcases de_steps (f := f) (s := s) (k := k) h1 h8 with e | rfl
  · rw [e]
    by_cases h : i < z
    · rw [if_pos h, List.getD, List.getElem?_append_left (by rw [digs_length]; exact h), Nat.mod_eq_of_lt h]
      exact digs_get _ _ _ h
    · rw [if_neg h, List.getD, List.getElem?_append_right (by rw [digs_length]; omega), digs_length]
      have hk : (k - 1) * z + z = k * z := by
        cases k with
        | zero => omega
        | succ k => rw [Nat.add_sub_cancel, Nat.add_mul, Nat.one_mul]
      have := rowN_get (fun _ => s) z (k := k - 1) (i := i - z) (by omega)
      rw [show i % z = (i - z) % z by rw [Nat.mod_eq_sub_mod (by omega)]]
      exact this
  · omega
end Go.Proofs.Ytgodoogmbdgeoaa
