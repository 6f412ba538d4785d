/-
  A region that draws its order, some operations of which may come in any order: an invariant of which of them came. No conditions.
-/
import Derived.Test.YtnikbcljonbpcaaRLast
namespace Go.Proofs.Ytnikbcljonbpcaa
set_option linter.unusedVariables false

/-- What is listed: what was, and the members of sel. -/
def lst (l0 : Array Bool) (sel : List Nat) : Array Bool := sel.foldl (fun l i => l.setIfInBounds i true) l0
theorem lst_snoc (l0 : Array Bool) (sel : List Nat) (i : Nat) : lst l0 (sel ++ [i]) = (lst l0 sel).setIfInBounds i true := by simp [lst]
theorem lst_size : ∀ (sel : List Nat) (l0 : Array Bool), (lst l0 sel).size = l0.size
  | [], _ => rfl
  | i :: sel, l0 => by
    show (lst (l0.setIfInBounds i true) sel).size = l0.size
    rw [lst_size sel, Array.size_setIfInBounds]
theorem lst_at : ∀ (sel : List Nat) (l0 : Array Bool) (j : Nat), (lst l0 sel)[j]? = if j ∈ sel then (if j < l0.size then some true else none) else l0[j]?
  | [], _, _ => rfl
  | i :: sel, l0, j => by
    show (lst (l0.setIfInBounds i true) sel)[j]? = _
    rw [lst_at sel, Array.size_setIfInBounds, Array.getElem?_setIfInBounds]
    by_cases h1 : j ∈ sel
    · rw [if_pos h1, if_pos (List.mem_cons_of_mem _ h1)]
    · rw [if_neg h1]
      by_cases h2 : i = j
      · subst h2
        rw [if_pos rfl, if_pos List.mem_cons_self]
      · have h3 : ¬ j ∈ i :: sel := fun h => (List.mem_cons.1 h).elim (fun e => h2 e.symm) h1
        rw [if_neg h2, if_neg h3]
theorem lst_ext {l0 : Array Bool} {s t : List Nat} (h : ∀ j, j ∈ s ↔ j ∈ t) : lst l0 s = lst l0 t := by
  refine Array.ext_getElem? (fun j => ?_)
  rw [lst_at, lst_at]
  by_cases hj : j ∈ s
  · rw [if_pos hj, if_pos ((h j).1 hj)]
  · rw [if_neg hj, if_neg (fun e => hj ((h j).2 e))]
theorem lst_getD (l0 : Array Bool) (sel : List Nat) (j : Nat) (d : Bool) (hj : j < l0.size) : (lst l0 sel).getD j d = if j ∈ sel then true else l0.getD j d := by
  have h := lst_at sel l0 j
  rw [Array.getD_eq_getD_getElem?, Array.getD_eq_getD_getElem?, h]
  by_cases h1 : j ∈ sel
  · rw [if_pos h1, if_pos h1, if_pos hj]; rfl
  · rw [if_neg h1, if_neg h1]
/-- How many are left. -/
def left (G sel : List Nat) : Nat := (G.filter (fun g => !decide (g ∈ sel))).length
theorem left_step {sel : List Nat} {i : Nat} (hs : i ∉ sel) : ∀ {G : List Nat}, G.Nodup → i ∈ G → left G sel = left G (sel ++ [i]) + 1
  | [], _, h => by cases h
  | g :: G, hn, hi => by
    obtain ⟨hg, hn'⟩ := List.nodup_cons.1 hn
    have same : ∀ {L : List Nat}, i ∉ L → L.filter (fun g => !decide (g ∈ sel)) = L.filter (fun g => !decide (g ∈ sel ++ [i])) := fun {L} hL => by
      refine List.filter_congr (fun x hx => ?_)
      have : x ≠ i := fun e => hL (e ▸ hx)
      simp [this]
    by_cases e : g = i
    · subst e
      have h1 := same hg
      simp only [left, List.filter_cons] at *
      rw [if_pos (by simp [hs]), if_neg (by simp), List.length_cons, h1]
    · have hi' : i ∈ G := by
        rcases List.mem_cons.1 hi with h | h
        · exact absurd h.symm e
        · exact h
      have ih := left_step hs hn' hi'
      simp only [left, List.filter_cons] at *
      by_cases h2 : g ∈ sel
      · rw [if_neg (by simp [h2]), if_neg (by simp [h2])]; exact ih
      · rw [if_pos (by simp [h2]), if_pos (by simp [h2, e]), List.length_cons, List.length_cons, ih]
theorem left_all {G sel : List Nat} (h : ∀ g ∈ G, g ∈ sel) : left G sel = 0 := by
  rw [left, List.length_eq_zero_iff, List.filter_eq_nil_iff]
  intro g hg
  simp [h g hg]

section
variable {P : Program} {ops : Array Oper} {Q : Exit → Act → World → Prop} {md : Region.Mode} {S : World → Prop} {n : Nat}
/-- What an operation waits for. -/
def waitsOn (md : Region.Mode) (ops : Array Oper) (j : Nat) : List Nat := match ops[j]? with
  | none => []
  | some o => (o.after.toList.filter (fun e => Region.binds md e)).map (·.on)
/-- G may come in any order, and all that is left waits for all of it. -/
def invOk (md : Region.Mode) (ops : Array Oper) (n : Nat) (l0 : Array Bool) (G : List Nat) : Bool :=
  decide (l0.size = ops.size) && decide (G.Nodup) && G.all (fun g => decide (g < n) && decide (g < ops.size) && !l0.getD g true && (waitsOn md ops g).all (fun e => l0.getD e false || (decide (e ∈ G) && decide (e < g)))) &&
  (List.range ops.size).all (fun j => decide (j ∈ G) || l0.getD j true || (waitsOn md ops j).any (fun e => !decide (e ∈ G) && !l0.getD e false) || G.all (fun g => decide (g ∈ waitsOn md ops j) || (waitsOn md ops j).any (fun t => decide (t ∈ G) && decide (g ∈ waitsOn md ops t))))
theorem waits_mem {j e : Nat} {o : Oper} (ho : ops[j]? = some o) : e ∈ waitsOn md ops j ↔ ∃ a ∈ o.after, Region.binds md a = true ∧ a.on = e := by
  simp only [waitsOn, ho, List.mem_map, List.mem_filter, Array.mem_toList_iff, and_assoc]
theorem ready_iff {j : Nat} {listed : Array Bool} : j ∈ Region.ready md ops listed ↔ listed.getD j true = false ∧ j < ops.size ∧ ∀ e ∈ waitsOn md ops j, listed.getD e false = true := by
  rw [mem_ready]
  constructor
  · rintro ⟨h1, o, ho, h2⟩
    refine ⟨h1, (Array.getElem?_eq_some_iff.1 ho).1, fun e he => ?_⟩
    obtain ⟨a, ha, hb, rfl⟩ := (waits_mem ho).1 he
    exact h2 a ha hb
  · rintro ⟨h1, h2, h3⟩
    refine ⟨h1, _, Array.getElem?_eq_getElem h2, fun a ha hb => h3 _ ((waits_mem (Array.getElem?_eq_getElem h2)).2 ⟨a, ha, hb, rfl⟩)⟩
theorem GoL.inv (G : List Nat) {l0 : Array Bool} (hok : invOk md ops n l0 G = true) (I : List Nat → Act → World → Prop)
    (hstep : ∀ sel a w i o, I sel a w → i ∈ G → i ∉ sel → ops[i]? = some o → (∀ e ∈ waitsOn md ops i, e ∈ G → e ∈ sel) → ∀ K : Act → World → Prop, (∀ a' w', S w' → I (sel ++ [i]) a' w' → K a' w') → if Region.wanted o (yielded ops a.tmps) = true then Oper.wp P o a w K Q else K (a.put o.dst undef) w)
    {fuel : Nat} (hdone : ∀ sel a w, I sel a w → (∀ g ∈ G, g ∈ sel) → GoL P md ops Q S n fuel (lst l0 G) a w) :
    ∀ (k : Nat) (sel : List Nat) (a : Act) (w : World), left G sel = k → (∀ g ∈ sel, g ∈ G) → (∀ t ∈ sel, ∀ e ∈ waitsOn md ops t, e ∈ G → e ∈ sel) → I sel a w → GoL P md ops Q S n (fuel + k) (lst l0 sel) a w := by
  simp only [invOk, Bool.and_eq_true, decide_eq_true_eq, List.all_eq_true, Bool.or_eq_true, Bool.not_eq_true', List.mem_range, List.any_eq_true, decide_eq_false_iff_not] at hok
  obtain ⟨⟨⟨hsz, hnd⟩, hG⟩, hW⟩ := hok
  intro k
  induction k with
  | zero =>
    intro sel a w hk hsub hcl hI
    have hall : ∀ g ∈ G, g ∈ sel := fun g hg => Classical.byContradiction fun hns => by
      have := left_step hns hnd hg
      omega
    have he : lst l0 sel = lst l0 G := lst_ext (fun j => ⟨hsub j, hall j⟩)
    rw [he]
    exact hdone sel a w hI hall
  | succ k ih =>
    intro sel a w hk hsub hcl hI inv
    have hex : ∃ g, g ∈ G ∧ g ∉ sel := Classical.byContradiction fun h => by
      have := left_all (G := G) (sel := sel) (fun g hg => Classical.byContradiction fun hn => h ⟨g, hg, hn⟩)
      omega
    have hGl : ∀ g ∈ G, g < l0.size := fun g hg => by rw [hsz]; exact (hG g hg).1.1.2
    -- the least of them is ready
    have hmin : ∀ m g, g ≤ m → g ∈ G → g ∉ sel → ∃ i, i ∈ Region.ready md ops (lst l0 sel) := by
      intro m
      induction m with
      | zero =>
        intro g hg0 hgG hgs
        refine ⟨g, ready_iff.2 ⟨?_, (hG g hgG).1.1.2, fun e he => ?_⟩⟩
        · rw [lst_getD _ _ _ _ (hGl g hgG), if_neg hgs]; exact (hG g hgG).1.2
        · rcases (hG g hgG).2 e he with h | h
          · by_cases hes : e < l0.size
            · rw [lst_getD _ _ _ _ hes]
              by_cases h9 : e ∈ sel
              · rw [if_pos h9]
              · rw [if_neg h9]; exact h
            · rw [Array.getD_eq_getD_getElem?, Array.getElem?_eq_none (by omega)] at h; cases h
          · omega
      | succ m ihm =>
        intro g hg0 hgG hgs
        by_cases hr : ∃ e ∈ waitsOn md ops g, e ∈ G ∧ e ∉ sel
        · obtain ⟨e, he, heG, hes⟩ := hr
          rcases (hG g hgG).2 e he with h | h
          · have := (hG e heG).1.2
            rw [Array.getD_eq_getD_getElem?] at this h
            rw [Array.getElem?_eq_getElem (hGl e heG)] at this h
            simp only [Option.getD_some] at this h
            rw [this] at h; cases h
          · exact ihm e (by omega) heG hes
        · refine ⟨g, ready_iff.2 ⟨?_, (hG g hgG).1.1.2, fun e he => ?_⟩⟩
          · rw [lst_getD _ _ _ _ (hGl g hgG), if_neg hgs]; exact (hG g hgG).1.2
          · rcases (hG g hgG).2 e he with h | h
            · by_cases hes : e < l0.size
              · rw [lst_getD _ _ _ _ hes]
                by_cases h9 : e ∈ sel
                · rw [if_pos h9]
                · rw [if_neg h9]; exact h
              · rw [Array.getD_eq_getD_getElem?, Array.getElem?_eq_none (by omega)] at h; cases h
            · rw [lst_getD _ _ _ _ (hGl e h.1), if_pos (Classical.byContradiction fun hn => hr ⟨e, he, h.1, hn⟩)]
    obtain ⟨g0, hg0, hg0s⟩ := hex
    refine ⟨fun h0 => ?_, fun i hi => ?_⟩
    · obtain ⟨i, hi⟩ := hmin g0 g0 (Nat.le_refl _) hg0 hg0s
      rw [h0] at hi; cases hi
    · obtain ⟨h1, h2, h3⟩ := ready_iff.1 hi
      have hil : i < l0.size := by rw [hsz]; exact h2
      have his : i ∉ sel := fun h => by rw [lst_getD _ _ _ _ hil, if_pos h] at h1; cases h1
      have hwaits : ∀ e ∈ waitsOn md ops i, e ∈ G → e ∈ sel := fun e he heG => Classical.byContradiction fun hns => by
        have h4 := h3 e he
        rw [lst_getD _ _ _ _ (hGl e heG), if_neg hns] at h4
        have := (hG e heG).1.2
        rw [Array.getD_eq_getD_getElem?] at this h4
        rw [Array.getElem?_eq_getElem (hGl e heG)] at this h4
        simp only [Option.getD_some] at this h4
        rw [this] at h4; cases h4
      have hiG : i ∈ G := Classical.byContradiction fun hnG => by
        rcases hW i h2 with ((h | h) | h) | h
        · exact hnG h
        · rw [lst_getD _ _ _ _ hil, if_neg his] at h1
          rw [h1] at h; cases h
        · obtain ⟨e, he, heG, hel⟩ := h
          have h4 := h3 e he
          by_cases hes : e < l0.size
          · rw [lst_getD _ _ _ _ hes, if_neg (fun h => heG (hsub e h)), hel] at h4; cases h4
          · rw [Array.getD_eq_getD_getElem?, Array.getElem?_eq_none (by rw [lst_size]; omega)] at h4; cases h4
        · rcases h g0 hg0 with h | ⟨t, ht, htG, hgt⟩
          · exact hg0s (hwaits g0 h hg0)
          · exact hg0s (hcl t (hwaits t ht htG) g0 hgt hg0)
      have hin : i < n := (hG i hiG).1.1.1
      have ho : ops[i]? = some ops[i] := Array.getElem?_eq_getElem h2
      refine wpOp_step ho (fun K' hK => hstep sel a w i _ hI hiG his ho hwaits K' (fun a' w' hS hI' => hK a' w' ⟨fun _ => hS, ?_⟩))
      have h8 := ih (sel ++ [i]) a' w' (by have := left_step his hnd hiG; omega) (fun g hg => by
        rcases List.mem_append.1 hg with h | h
        · exact hsub g h
        · rw [List.mem_singleton.1 h]; exact hiG) (fun t ht e he heG => by
        rcases List.mem_append.1 ht with h | h
        · exact List.mem_append_left _ (hcl t h e he heG)
        · rw [List.mem_singleton.1 h] at he; exact List.mem_append_left _ (hwaits e he heG)) hI'
      rw [lst_snoc] at h8
      exact h8 (inv.set hi hin)
end
end Go.Proofs.Ytnikbcljonbpcaa
