/-
  Package filter in plain words: what filters do, how they are undone, that what went through comes back, and how long it is. No conditions.
-/
import Derived.Test.YtgodoogmbdgeoabMBackW
import Derived.Test.YtgodoogmbdgeoabFDeM
import Derived.Test.YtgodoogmbdgeoabSums
import Derived.Test.YtgodoogmbdgeoabFletchWalk
namespace Go.Proofs.Ytgodoogmbdgeoab
set_option linter.unusedVariables false
set_option maxRecDepth 100000

abbrev Fil := Int × Int
/-- May it be? -/
def mayP (f : Fil) : Prop := ((f.1 = 1 ∨ f.1 = 2) ∧ 1 ≤ f.2 ∧ f.2 ≤ 8) ∨ ((f.1 = 3 ∨ f.1 = 4) ∧ f.2 = 0)
instance (f : Fil) : Decidable (mayP f) := by unfold mayP; infer_instance
/-- A sum in bytes; what a filter does; what all do. -/
def smB (b : List Int) : List Int := dig2 true (fletch b) 4
def doF (f : Fil) (b : List Int) : List Int := if f.1 = 1 then shL f.2.toNat b else if f.1 = 2 then deL f.2.toNat b else if f.1 = 3 then pkX 0 b else b ++ smB b
def apL (L : List Fil) (b : List Int) : List Int := L.foldl (fun b f => doF f b) b
/-- How one is undone, and so many of them, the last one first. -/
def unF (f : Fil) (b : List Int) : List Int × Int := if f.1 = 1 then (unL f.2.toNat b, 0) else if f.1 = 2 then (udL f.2.toNat b, 0) else if f.1 = 3 then unE b 65536 else if b.length < 4 ∨ b.drop (b.length - 4) ≠ smB (b.take (b.length - 4)) then ([], 5) else (b.take (b.length - 4), 0)
def udN (L : List Fil) : Nat → List Int → List Int × Int
  | 0, b => (b, 0)
  | i + 1, b => if (unF (L.getD i (0, 0)) b).2 = 0 then udN L i (unF (L.getD i (0, 0)) b).1 else ([], (unF (L.getD i (0, 0)) b).2)
/-- What the calls tell. -/
def chE (L : List Fil) : Int := if 4 < L.length then 3 else if ∀ f ∈ L, mayP f then 0 else 2
def apE (L : List Fil) (n : Nat) : Int := if chE L = 0 then (if 4096 < n then 20 else 0) else chE L
def apR (L : List Fil) (b : List Int) : List Int := if apE L b.length = 0 then apL L b else []
def udE (L : List Fil) (b : List Int) (n : Int) : Int := if chE L = 0 then (if n < 0 ∨ 4096 < n then 2 else if (udN L L.length b).2 = 0 ∧ ((udN L L.length b).1.length : Int) = n then 0 else 5) else chE L
def udR (L : List Fil) (b : List Int) (n : Int) : List Int := if udE L b n = 0 then (udN L L.length b).1 else []

theorem chE_ok {L : List Fil} (h : chE L = 0) : L.length ≤ 4 ∧ ∀ f ∈ L, mayP f := by
  unfold chE at h
  split at h
  · cases h
  · split at h
    · rename_i h1 h2; exact ⟨by omega, h2⟩
    · cases h
theorem may_cases {f : Fil} (h : mayP f) : (f.1 = 1 ∧ 1 ≤ f.2 ∧ f.2 ≤ 8) ∨ (f.1 = 2 ∧ 1 ≤ f.2 ∧ f.2 ≤ 8) ∨ (f.1 = 3 ∧ f.2 = 0) ∨ (f.1 = 4 ∧ f.2 = 0) := by
  rcases h with ⟨h1 | h1, h2⟩ | ⟨h1 | h1, h2⟩
  · exact .inl ⟨h1, h2⟩
  · exact .inr (.inl ⟨h1, h2⟩)
  · exact .inr (.inr (.inl ⟨h1, h2⟩))
  · exact .inr (.inr (.inr ⟨h1, h2⟩))
theorem smB_len (b : List Int) : (smB b).length = 4 := dig2_length _ _ _
theorem smB_byt (b : List Int) : Byt (smB b) := byt_dig2 _ _ _
theorem smB_val (b : List Int) : val true (smB b) = fletch b := val_back true (fletch_in b).1 (by have := (fletch_in b).2; simpa using this)
theorem val_inj {x : List Int} (hb : Byt x) (h4 : x.length = 4) : dig2 true (val true x) 4 = x := by
  rw [dig2, if_pos rfl, val, if_pos rfl, h4, digs_num (byt_reverse hb) (by rw [List.length_reverse, h4]), List.reverse_reverse]
theorem smB_iff {x b : List Int} (hb : Byt x) (h4 : x.length = 4) : val true x = fletch b ↔ x = smB b := by
  constructor
  · intro h; rw [smB, ← h, val_inj hb h4]
  · rintro rfl; exact smB_val b
theorem byt_app {a b : List Int} (ha : Byt a) (hb : Byt b) : Byt (a ++ b) := by
  rw [byt_mem] at *
  intro x hx
  rcases List.mem_append.1 hx with h | h
  · exact ha x h
  · exact hb x h
theorem byt_takeN {l : List Int} (h : Byt l) (n : Nat) : Byt (l.take n) := by
  rw [byt_mem] at *
  exact fun x hx => h x (List.mem_of_mem_take hx)
theorem byt_dropN {l : List Int} (h : Byt l) (n : Nat) : Byt (l.drop n) := by
  rw [byt_mem] at *
  exact fun x hx => h x (List.mem_of_mem_drop hx)
theorem byt_rowN (g : Nat → Int) (z k : Nat) : Byt (rowN g z k) := by
  rw [byt_mem]
  intro x hx
  obtain ⟨j, _, hj⟩ := List.mem_flatMap.1 hx
  exact byt_mem.1 (byt_digs _ _) x hj
theorem byt_laid (g : Nat → Int) (z : Nat) {l : List Int} (h : Byt l) : Byt (laid g z l) := byt_app (byt_rowN _ _ _) (byt_dropN h _)
theorem byt_do (f : Fil) {b : List Int} (h : Byt b) : Byt (doF f b) := by
  unfold doF
  split
  · exact byt_pick h
  · split
    · exact byt_laid _ _ h
    · split
      · exact byt_pkX 0 h
      · exact byt_app h (smB_byt b)
theorem do_len (f : Fil) (b : List Int) : b.length ≤ b.length + 4 ∧ (doF f b).length ≤ b.length + 4 := by
  refine ⟨by omega, ?_⟩
  unfold doF
  split
  · rw [shL_len]; omega
  · split
    · rw [deL_len]; omega
    · split
      · have := (pkX_short 0 b).2; omega
      · rw [List.length_append, smB_len]; omega
theorem apL_nil (b : List Int) : apL [] b = b := rfl
theorem apL_cons (f : Fil) (L : List Fil) (b : List Int) : apL (f :: L) b = apL L (doF f b) := rfl
theorem apL_snoc (L : List Fil) (f : Fil) (b : List Int) : apL (L ++ [f]) b = doF f (apL L b) := by rw [apL, List.foldl_append]; rfl
theorem apL_take {L : List Fil} {i : Nat} (h : i < L.length) (b : List Int) : apL (L.take (i + 1)) b = doF (L.getD i (0, 0)) (apL (L.take i) b) := by
  rw [List.take_add_one, List.getElem?_eq_getElem h, List.getD, List.getElem?_eq_getElem h]
  exact apL_snoc _ _ _
theorem byt_ap : ∀ (L : List Fil) {b : List Int}, Byt b → Byt (apL L b)
  | [], b, h => h
  | f :: L, b, h => byt_ap L (byt_do f h)
theorem ap_len : ∀ (L : List Fil) (b : List Int), (apL L b).length ≤ b.length + 4 * L.length
  | [], b => by rw [apL_nil]; omega
  | f :: L, b => by
    have h1 := ap_len L (doF f b)
    have h2 := (do_len f b).2
    rw [apL_cons, List.length_cons]
    omega
theorem do_1 (z : Int) (b : List Int) : doF (1, z) b = shL z.toNat b := by simp [doF]
theorem do_2 (z : Int) (b : List Int) : doF (2, z) b = deL z.toNat b := by simp [doF]
theorem do_3 (z : Int) (b : List Int) : doF (3, z) b = pkX 0 b := by simp [doF]
theorem do_4 (z : Int) (b : List Int) : doF (4, z) b = b ++ smB b := by simp [doF]
theorem un_1 (z : Int) (b : List Int) : unF (1, z) b = (unL z.toNat b, 0) := by simp [unF]
theorem un_2 (z : Int) (b : List Int) : unF (2, z) b = (udL z.toNat b, 0) := by simp [unF]
theorem un_3 (z : Int) (b : List Int) : unF (3, z) b = unE b 65536 := by simp [unF]
theorem un_4 (z : Int) (b : List Int) : unF (4, z) b = if b.length < 4 ∨ b.drop (b.length - 4) ≠ smB (b.take (b.length - 4)) then ([], 5) else (b.take (b.length - 4), 0) := by simp [unF]
theorem may_form {f : Fil} (h : mayP f) : (∃ z : Nat, f = (1, (z : Int)) ∧ 1 ≤ z ∧ z ≤ 8) ∨ (∃ z : Nat, f = (2, (z : Int)) ∧ 1 ≤ z ∧ z ≤ 8) ∨ f = (3, 0) ∨ f = (4, 0) := by
  obtain ⟨k, z⟩ := f
  rcases may_cases h with ⟨h, h1, h8⟩ | ⟨h, h1, h8⟩ | ⟨h, h0⟩ | ⟨h, h0⟩
  · simp only at h h1 h8
    exact .inl ⟨z.toNat, by rw [h, Int.toNat_of_nonneg (by omega)], by omega, by omega⟩
  · simp only at h h1 h8
    exact .inr (.inl ⟨z.toNat, by rw [h, Int.toNat_of_nonneg (by omega)], by omega, by omega⟩)
  · simp only at h h0
    exact .inr (.inr (.inl (by rw [h, h0])))
  · simp only at h h0
    exact .inr (.inr (.inr (by rw [h, h0])))
/-- Undone is what was done. -/
theorem un_do {f : Fil} (hf : mayP f) {b : List Int} (hb : Byt b) (hl : b.length ≤ 65536) : unF f (doF f b) = (b, 0) := by
  rcases may_form hf with ⟨z, rfl, h1, h8⟩ | ⟨z, rfl, h1, h8⟩ | rfl | rfl
  · rw [do_1, un_1, un_sh]
  · rw [do_2, un_2, Int.toNat_natCast, ud_de h8 hb]
  · rw [do_3, un_3, un_pkX, if_pos hl]
  · have e : (b ++ smB b).length - 4 = b.length := by rw [List.length_append, smB_len]; omega
    rw [do_4, un_4, e, List.take_left, List.drop_left, if_neg]
    rw [List.length_append, smB_len]
    rintro (h | h)
    · omega
    · exact h rfl
theorem ud_back {L : List Fil} (hL : ∀ f ∈ L, mayP f) {b : List Int} (hb : Byt b) (hl : b.length + 4 * L.length ≤ 65536) : ∀ i, i ≤ L.length → udN L i (apL (L.take i) b) = (b, 0)
  | 0, _ => by rw [udN, List.take_zero]; rfl
  | i + 1, h => by
    have hi : i < L.length := by omega
    have hm : L.getD i (0, 0) ∈ L := by rw [List.getD, List.getElem?_eq_getElem hi]; exact List.getElem_mem hi
    have hlen := ap_len (L.take i) b
    rw [List.length_take] at hlen
    have e := un_do (hL _ hm) (byt_ap (L.take i) hb) (show (apL (L.take i) b).length ≤ 65536 by omega)
    rw [udN, apL_take hi, e]
    exact ud_back hL hb hl i (by omega)
theorem ud_all {L : List Fil} (hL : chE L = 0) {b : List Int} (hb : Byt b) (hl : b.length ≤ 4096) : udN L L.length (apL L b) = (b, 0) := by
  obtain ⟨h4, hm⟩ := chE_ok hL
  have := ud_back hm hb (by omega) L.length (Nat.le_refl _)
  rwa [List.take_length] at this
/-- What is undone is bytes, and never long. -/
theorem byt_cp (d : Nat) : ∀ (n : Nat) (o : List Int), Byt o → Byt (cpOut d n o)
  | 0, o, h => h
  | n + 1, o, h => byt_cp d n _ (byt_app h (by
      rw [byt_mem]
      intro x hx
      rw [List.mem_singleton] at hx
      subst hx
      exact h _))
theorem byt_dec (most : Nat) : ∀ (f : Nat) (t o : List Int), Byt t → Byt o → Byt (decF most f t o).1
  | 0, t, o, ht, ho => ho
  | f + 1, [], o, ht, ho => ho
  | f + 1, k :: t, o, ht, ho => by
    have ht' := byt_tail ht
    rw [decF]
    split
    · split
      · exact fun i => by simp [List.getD]
      · split
        · exact fun i => by simp [List.getD]
        · exact byt_dec most f _ _ (byt_dropN ht' _) (byt_app ho (byt_takeN ht' _))
    · split
      · exact fun i => by simp [List.getD]
      · split
        · exact fun i => by simp [List.getD]
        · exact byt_dec most f _ _ (by rw [← List.drop_one]; exact byt_dropN ht' 1) (byt_cp _ _ _ ho)
theorem byt_un (f : Fil) {b : List Int} (h : Byt b) : Byt (unF f b).1 := by
  have h0 : Byt [] := fun i => by simp [List.getD]
  unfold unF
  split
  · exact byt_pick h
  · split
    · exact byt_laid _ _ h
    · split
      · cases b with
        | nil => exact h0
        | cons k t =>
          rw [unE]
          split
          · exact h0
          · split
            · split
              · exact h0
              · exact byt_tail h
            · exact byt_dec _ _ _ _ (byt_tail h) h0
      · split
        · exact h0
        · exact byt_takeN h _
theorem un_len (f : Fil) (b : List Int) : (unF f b).1.length ≤ max b.length 65536 := by
  unfold unF
  split
  · show (unL _ b).length ≤ _
    rw [unL_len]; omega
  · split
    · show (udL _ b).length ≤ _
      rw [udL_len]; omega
    · split
      · rcases un_most b 65536 with h | h
        · have := h.2; omega
        · rw [h.1]; simp
      · split
        · simp
        · rw [List.length_take]; omega
theorem un_err (f : Fil) (b : List Int) : (unF f b).2 = 0 ∨ ((unF f b).1 = [] ∧ ((unF f b).2 = 3 ∨ (unF f b).2 = 5)) := by
  unfold unF
  split
  · exact .inl rfl
  · split
    · exact .inl rfl
    · split
      · rcases un_most b 65536 with h | h
        · exact .inl h.1
        · exact .inr h
      · split
        · exact .inr ⟨rfl, .inr rfl⟩
        · exact .inl rfl
end Go.Proofs.Ytgodoogmbdgeoab
