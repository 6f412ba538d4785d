/-
  Nodes of a tree, and a tree to which acts were done (law.played). Conditions: lengths are such as memory bears.
-/
import Derived.Test.YtelfjgnmbikofaaBNod
import Derived.Test.YtelfjgnmbikofaaBMix
namespace Go.Proofs.Ytelfjgnmbikofaa
open Go.RowKit
set_option linter.unusedVariables false
set_option maxRecDepth 100000

theorem sum_le {α : Type} (f g : α → Nat) : ∀ (l : List α), (∀ c ∈ l, f c ≤ g c) → (l.map f).sum ≤ (l.map g).sum
  | [], _ => Nat.le_refl _
  | a :: l, h => by
    simp only [List.map_cons, List.sum_cons]
    have h1 := h a List.mem_cons_self
    have h2 := sum_le f g l (fun c hc => h c (List.mem_cons_of_mem _ hc))
    omega
theorem flat_len {most h lo : Nat} {t : Nd (Tr h)} (hs : Shp most (h + 1) lo most (up1 t)) : (flat (h + 1) (up1 t)).length = t.L.length + (t.ks.map (fun c => (flat h c).length)).sum := by
  have h1 := il_length t.L (t.ks.map (flat h)) (shp_kin (t := t) hs)
  rw [List.map_map] at h1
  exact h1
theorem cnt_le {most : Nat} (hm : 2 ≤ most) : ∀ (h : Nat) (t : Tr h) (lv lo : Nat), Shp most h lo most t → 1 ≤ lo → cntN h lv t ≤ (flat h t).length
  | 0, t, _, _, _, _ => nomatch t
  | h + 1, t, lv, lo, hs, hlo => by
    have h1 : (flat (h + 1) t).length = (Nd.L (K := Tr h) t).length + ((Nd.ks (K := Tr h) t).map (fun c => (flat h c).length)).sum := flat_len (t := t) hs
    have h2 : cntN (h + 1) lv t = ((Nd.ks (K := Tr h) t).map (fun c => cntN h (lv + 1) c)).sum + 1 := by
      show (((Nd.ks (K := Tr h) t).flatMap (nodesL h (lv + 1)))).length + 1 = _
      rw [List.length_flatMap]
      rfl
    have hk := shp_up.1 hs
    have h3 := sum_le (fun c => cntN h (lv + 1) c) (fun c => (flat h c).length) (Nd.ks (K := Tr h) t) (fun c hc => cnt_le hm h c (lv + 1) (most / 2) (hk.2.2.2 c hc) (by omega))
    have h4 : lo ≤ (Nd.L (K := Tr h) t).length := hk.1
    omega
theorem sum_ge {α : Type} (f : α → Nat) (a : Nat) : ∀ (l : List α), (∀ c ∈ l, a ≤ f c + 1) → l.length * a ≤ (l.map f).sum + l.length
  | [], _ => by simp
  | x :: l, h => by
    simp only [List.map_cons, List.sum_cons, List.length_cons, Nat.add_mul, Nat.one_mul]
    have h1 := h x List.mem_cons_self
    have h2 := sum_ge f a l (fun c hc => h c (List.mem_cons_of_mem _ hc))
    omega
/-- How many items a tree of such a depth has at least. -/
theorem low_pow {most : Nat} : ∀ (h : Nat) (t : Nd (Tr h)) (lo : Nat), Shp most (h + 1) lo most (up1 t) → (lo + 1) * (most / 2 + 1) ^ h ≤ (flat (h + 1) (up1 t)).length + 1
  | 0, t, lo, hs => by
    have h1 := flat_len hs
    have h2 : lo ≤ t.L.length := (shp_up.1 hs).1
    simp only [Nat.pow_zero, Nat.mul_one]
    omega
  | h + 1, t, lo, hs => by
    have hk := shp_up.1 hs
    have h1 := flat_len hs
    have h2 := sum_ge (fun c => (flat (h + 1) c).length) ((most / 2 + 1) ^ (h + 1)) t.ks (fun c hc => by
      have := low_pow h c (most / 2) (hk.2.2.2 c hc)
      rw [← Nat.pow_succ'] at this
      exact this)
    have h3 : t.ks.length = t.L.length + 1 := hk.2.2.1 (by omega)
    rw [h3] at h2
    have h4 : (lo + 1) * (most / 2 + 1) ^ (h + 1) ≤ (t.L.length + 1) * (most / 2 + 1) ^ (h + 1) := Nat.mul_le_mul_right _ (by have := hk.1; omega)
    omega
theorem lvl_lt : ∀ (h : Nat) (t : Tr h) (lv : Nat), ∀ e ∈ nodesL h lv t, e.1 < (lv : Int) + (h : Int)
  | 0, t, _ => nomatch t
  | h + 1, t, lv => by
    intro e he
    have he' : e ∈ ((lv : Int), decide (h = 0), (Nd.L (K := Tr h) t).map (·.1)) :: (Nd.ks (K := Tr h) t).flatMap (nodesL h (lv + 1)) := he
    rcases List.mem_cons.1 he' with rfl | h1
    · show (lv : Int) < _; omega
    · obtain ⟨c, _, hc⟩ := List.mem_flatMap.1 h1
      have := lvl_lt h c (lv + 1) e hc
      omega
/-- What Nodes tells of the items F. -/
def NdsP (most : Nat) (F : List It) (es : List En) : Prop := (F = [] ∧ es = []) ∨ (F ≠ [] ∧ ∃ (h : Nat) (t : Nd (Tr h)) (lo : Nat), Shp most (h + 1) lo most (up1 t) ∧ 1 ≤ lo ∧ flat (h + 1) (up1 t) = F ∧ es.map shE = nodesL (h + 1) 0 (up1 t))
set_option maxHeartbeats 4000000 in
theorem nodes_any {w : World} {B p q most : Nat} {F : List It} {R : List Pc} (h3 : 3 ≤ most) (h64 : most ≤ 64) (h : BT w B p q most F R) (hB : B ≤ w.heap.size) (hn : F.length ≤ 100000) (hz : ∀ y ∈ F, y.1.size ≤ 281474976710656) :
    Calls Try.prog 25 #[.pointer (some ⟨p, 0, none⟩)] w fun e w' => ∃ v es, e = .returned v ∧ NdsP most F es ∧ BT w' B p q most F (rowE v es :: (kp es ++ R)) ∧ Below B w w' := by
  obtain ⟨⟨h, t, lo, hS, hs, hlo, hF⟩, hR⟩ := h
  have t3 := (hS.tr (p := p) (q := q) (most := most) (by simp)).2.2.2
  obtain ⟨k0, k1, _, _, _⟩ := kept_c hS (q := q) (n := t.n) (c := F.length) (by simp)
  have HE : Hid (∀ W v es, Sep W B (rowE v es :: (kp es ++ (pcs (h + 1) (up1 t) ++ (treeO p q most :: keptO q t.n F.length :: R)))) → BT W B p q most F (rowE v es :: (kp es ++ R))) := by
    intro W v es hW
    refine ⟨⟨h, t, lo, hW.perm ?_, hs, hlo, hF⟩, hR⟩
    classical
    refine List.perm_iff_count.2 (fun a => ?_)
    simp only [List.count_append, List.count_cons]
    omega
  by_cases h0 : F = []
  · subst h0
    have k1' : w.cell? ⟨q, 1, none⟩ = some (.int .i64 0) := k1
    have HS0 : Hid (BT w B p q most [] (rowE (.slice none 0 0) [] :: (kp [] ++ R))) := HE.out w _ [] (hS.nil _ _)
    clear hS hs hlo hF hR k1 HE hz
    go_enter Try.func25, Try.ntmps25
    go_wp2_with (go_at_call 30; refine (tNone_any p q _ t3).mono ?_; rintro e w1 ⟨rfl, hw1⟩; obtain rfl := hw1.symm)
    go_ret
    exact ⟨_, [], rfl, .inl ⟨rfl, rfl⟩, HS0.out, Below.refl _ _⟩
  · have hlen : 1 ≤ F.length := by cases F with | nil => exact absurd rfl h0 | cons a l => simp
    have hlo1 : ∃ lo1, Shp most (h + 1) lo1 most (up1 t) ∧ 1 ≤ lo1 := by
      rcases Nat.eq_zero_or_pos h with h8 | h8
      · subst h8
        have h9 := flat_len hs
        have h7 : t.ks = [] := ks_leaf t
        rw [hF, h7] at h9
        have h6 := shp_up.1 hs
        exact ⟨1, shp_up.2 ⟨by simp at h9; omega, h6.2⟩, Nat.le_refl _⟩
      · exact ⟨lo, hs, hlo h8⟩
    obtain ⟨lo1, hs1, hl1⟩ := hlo1
    have hcnt := cnt_le (by omega) (h + 1) (up1 t) 0 lo1 hs1 hl1
    have hpow := low_pow h t lo1 hs1
    have hh : h < (most / 2 + 1) ^ h := Nat.lt_pow_self (by omega)
    have hh2 : h ≤ 100000 := by
      rw [hF] at hpow
      have : 1 * (most / 2 + 1) ^ h ≤ (lo1 + 1) * (most / 2 + 1) ^ h := Nat.mul_le_mul_right _ (by omega)
      omega
    have HN : Hid _ := nod_any (p := p) (q := q) h3 h64 (h + 1) (up1 t) 0 lo1 w (.slice none 0 0) [] (treeO p q most :: keptO q t.n F.length :: R) (hS.nil _ _) (by simp) hB hs1 (by omega) (by rw [hF] at hcnt; simp; omega) (by rw [hF]; exact hz)
    have HP : Hid (∀ es, es.map shE = nodesL (h + 1) 0 (up1 t) → NdsP most F es) := fun es he => .inr ⟨h0, h, t, lo1, hs1, hl1, hF, he⟩
    obtain ⟨c, HC⟩ : ∃ c, Hid (F.length = c) := ⟨_, rfl⟩
    rw [HC.out] at k1 hlen
    have d1 : ((c : Int) == 0) = false := by simp; omega
    obtain ⟨tn, HTN⟩ : ∃ tn, Hid (adr (h + 1) (up1 t) = tn) := ⟨_, rfl⟩
    have k0' : w.cell? ⟨q, 0, none⟩ = some (.pointer (some ⟨tn, 0, none⟩)) := by rw [← HTN.out]; exact k0
    rw [HTN.out] at HN
    clear hS hs hlo hF hR hz hcnt hpow hh k0 h0
    go_enter Try.func25, Try.ntmps25
    go_wp2_with (first
      | (go_at_call 30; refine (tNone_any p q _ t3).mono ?_; rintro e w1 ⟨rfl, hw1⟩; obtain rfl := hw1.symm)
      | (go_at_call 42; refine Calls.mono HN.out ?_; rintro e w9 ⟨v9, es9, rfl, hp9, hs9, hb9⟩; have HP9 : Hid (NdsP most F es9) := HP.out es9 hp9; have HS9 : Hid (BT w9 B p q most F (rowE v9 es9 :: (kp es9 ++ R))) := HE.out w9 v9 es9 hs9; have HB9 : Hid (Below B w w9) := hb9; clear hp9 hs9 hb9))
    go_ret
    exact ⟨_, es9, rfl, HP9.out, HS9.out, HB9.out⟩
end Go.Proofs.Ytelfjgnmbikofaa
