/-
  Where the children of a node stand among all nodes, and what their keys are like. No conditions.
-/
import Derived.Test.YtggbbmbnbhiggaaBBtw
import Derived.Test.YtggbbmbnbhiggaaBShape2
namespace Go.Proofs.Ytggbbmbnbhiggaa
open Go.RowKit
set_option linter.unusedVariables false

/-- The places, from b on, of what lies one level below lv, up to the first that does not lie below it. -/
def kidsF (lv : Int) : Nat → List Int → List Nat
  | _, [] => []
  | b, x :: l => if lv < x then (if x = lv + 1 then b :: kidsF lv (b + 1) l else kidsF lv (b + 1) l) else []
theorem kidsF_stop (lv : Int) (b : Nat) (l : List Int) (h : ∀ c, l.head? = some c → c ≤ lv) : kidsF lv b l = [] := by
  cases l with
  | nil => rfl
  | cons x l =>
    have := h x rfl
    unfold kidsF
    rw [if_neg (by omega)]
theorem kidsF_deep (lv : Int) (m : List Int) : ∀ (l : List Int) (b : Nat), (∀ x ∈ l, lv + 1 < x) → kidsF lv b (l ++ m) = kidsF lv (b + l.length) m
  | [], b, _ => rfl
  | x :: l, b, h => by
    have h1 := h x List.mem_cons_self
    have h2 := kidsF_deep lv m l (b + 1) (fun y hy => h y (List.mem_cons_of_mem _ hy))
    show (if lv < x then (if x = lv + 1 then b :: kidsF lv (b + 1) (l ++ m) else kidsF lv (b + 1) (l ++ m)) else []) = _
    rw [if_pos (by omega), if_neg (by omega), h2, List.length_cons]
    congr 1; omega
/-- The places of trees that stand one behind the other. -/
def kpos (h lv : Nat) : Nat → List (Tr h) → List Nat
  | _, [] => []
  | b, c :: l => b :: kpos h lv (b + (nodesL h lv c).length) l
theorem kpos_len (h lv : Nat) : ∀ (l : List (Tr h)) (b : Nat), (kpos h lv b l).length = l.length
  | [], _ => rfl
  | c :: l, b => by simp [kpos, kpos_len h lv l]
theorem kidsF_tree (lv : Nat) (m : List Int) : ∀ (h : Nat) (c : Tr h) (b : Nat), kidsF (lv : Int) b ((nodesL h (lv + 1) c).map (fun e => e.1) ++ m) = b :: kidsF (lv : Int) (b + (nodesL h (lv + 1) c).length) m
  | 0, c, _ => nomatch c
  | h + 1, c, b => by
    have e1 : nodesL (h + 1) (lv + 1) c = (((lv + 1 : Nat) : Int), decide (h = 0), (Nd.L (K := Tr h) c).map (·.1)) :: (Nd.ks (K := Tr h) c).flatMap (nodesL h (lv + 1 + 1)) := rfl
    rw [e1]
    show (if (lv : Int) < ((lv + 1 : Nat) : Int) then (if ((lv + 1 : Nat) : Int) = (lv : Int) + 1 then b :: kidsF (lv : Int) (b + 1) ((((Nd.ks (K := Tr h) c).flatMap (nodesL h (lv + 1 + 1))).map (fun e => e.1)) ++ m) else kidsF (lv : Int) (b + 1) ((((Nd.ks (K := Tr h) c).flatMap (nodesL h (lv + 1 + 1))).map (fun e => e.1)) ++ m)) else []) = _
    rw [if_pos (by omega), if_pos (by omega), kidsF_deep]
    · rw [List.length_map, List.length_cons]
      congr 2; omega
    · intro x hx
      obtain ⟨e, he, rfl⟩ := List.mem_map.1 hx
      obtain ⟨d, _, hd⟩ := List.mem_flatMap.1 he
      have := lvl_ge h d (lv + 1 + 1) e hd
      omega
theorem kidsF_kids (h lv : Nat) (C : List Int) (hC : ∀ c, C.head? = some c → c ≤ (lv : Int)) : ∀ (l : List (Tr h)) (b : Nat), kidsF (lv : Int) b ((l.flatMap (nodesL h (lv + 1))).map (fun e => e.1) ++ C) = kpos h (lv + 1) b l
  | [], b => by
    show kidsF (lv : Int) b C = []
    exact kidsF_stop _ _ _ hC
  | c :: l, b => by
    rw [List.flatMap_cons, List.map_append, List.append_assoc, kidsF_tree, kidsF_kids h lv C hC l]
    rfl
theorem kpos_at (h lv : Nat) : ∀ (l : List (Tr h)) (b k c : Nat), (kpos h lv b l)[k]? = some c → ∃ t, l[k]? = some t ∧ b ≤ c ∧ (l.flatMap (nodesL h lv))[c - b]? = (nodesL h lv t).head?
  | [], b, k, c, hk => by simp [kpos] at hk
  | x :: l, b, 0, c, hk => by
    have e : b = c := by simpa [kpos] using hk
    subst e
    refine ⟨x, rfl, Nat.le_refl _, ?_⟩
    have h2 := (steps_ok h x lv).2
    cases hn : nodesL h lv x with
    | nil => rw [hn] at h2; simp at h2
    | cons y ys => simp [hn]
  | x :: l, b, k + 1, c, hk => by
    have hk' : (kpos h lv (b + (nodesL h lv x).length) l)[k]? = some c := by simpa [kpos] using hk
    obtain ⟨t, h1, h2, h3⟩ := kpos_at h lv l _ k c hk'
    refine ⟨t, by simpa using h1, by omega, ?_⟩
    rw [List.flatMap_cons, List.getElem?_append_right (by omega), ← h3]
    congr 1; omega
/-- What BtreeBetween asks of the node at place i, whose children stand at cs. -/
def KFacts (es : List En) (i : Nat) (e : En) (cs : List Nat) : Prop :=
  kidsF e.1 (i + 1) ((es.map (fun e => e.1)).drop (i + 1)) = cs ∧ (e.2.1 = true → cs.length = 0) ∧ (e.2.1 = false → cs.length = e.2.2.2.length + 1) ∧
  ∀ k c, cs[k]? = some c → c < es.length ∧ ∃ e', es[c]? = some e' ∧ 1 ≤ e'.2.2.2.length ∧ ∀ y ∈ e'.2.2.2, (∀ j x, e.2.2.2[j]? = some x → j + 1 = k → cmpN x y < 0) ∧ (∀ x, e.2.2.2[k]? = some x → cmpN y x < 0)
theorem kfacts {most : Nat} {F : List It} {es : List En} (h : NdsP most F es) (hm : 3 ≤ most) (hr : Rise F) {i : Nat} {e : En} (he : es[i]? = some e) : ∃ cs, KFacts es i e cs := by
  refine ⟨_, rfl, ?_⟩
  rcases h with ⟨rfl, rfl⟩ | ⟨h0, h, t, lo, hs, hlo, hF, hes⟩
  · simp at he
  · have h6 := shp_up.1 hs
    have hs1 : Shp most (h + 1) 1 most (up1 t) := shp_up.2 ⟨Nat.le_trans hlo h6.1, h6.2⟩
    have h1 : (nodesL (h + 1) 0 (up1 t))[i]? = some (shE e) := by rw [← hes, List.getElem?_map, he]; rfl
    obtain ⟨h', s, lv', A, C, e1, e2, e3, e4, e5, e6⟩ := sub_at (h + 1) (up1 t) 0 1 hs1 (by omega) i _ h1
    have hk := shp_up.1 e3
    have hlev : es.map (fun e => e.1) = (nodesL (h + 1) 0 (up1 t)).map (fun e => e.1) := by rw [← hes, List.map_map]; rfl
    have hse : shE e = ((lv' : Int), decide (h' = 0), s.L.map (·.1)) := by
      rw [e1, List.getElem?_append_right (by omega), nodesL_up] at h1
      rw [show i - A.length = 0 by omega] at h1
      simpa using h1.symm
    have a1 : e.1 = (lv' : Int) := congrArg Prod.fst hse
    have a2 : e.2.1 = decide (h' = 0) := congrArg (fun x => x.2.1) hse
    have a3 : e.2.2.2 = s.L.map (·.1) := congrArg (fun x => x.2.2) hse
    have hd : (es.map (fun e => e.1)).drop (i + 1) = (s.ks.flatMap (nodesL h' (lv' + 1))).map (fun e => e.1) ++ C.map (fun e => e.1) := by
      rw [hlev, e1, nodesL_up, List.map_append, List.map_append, List.map_cons]
      rw [List.drop_append, List.length_map, show i + 1 - A.length = 1 by omega]
      rw [List.drop_eq_nil_of_le (by rw [List.length_map]; omega)]
      simp
    have hkp : kidsF e.1 (i + 1) ((es.map (fun e => e.1)).drop (i + 1)) = kpos h' (lv' + 1) (i + 1) s.ks := by
      rw [hd, a1]
      refine kidsF_kids h' lv' _ (fun c hc => ?_) _ _
      cases C with
      | nil => simp at hc
      | cons x xs =>
        have : x.1 = c := by simpa using hc
        rw [← this]
        exact e4 x rfl
    rw [hkp, kpos_len]
    refine ⟨fun hl => ?_, fun hl => ?_, fun k c hc => ?_⟩
    · rw [a2] at hl
      have h9 : h' = 0 := by simpa using hl
      subst h9
      rw [ks_leaf s]; rfl
    · rw [a2] at hl
      have h9 : h' ≠ 0 := by simpa using hl
      rw [a3, List.length_map]
      exact hk.2.2.1 (by omega)
    · obtain ⟨u, hu, hb, hc2⟩ := kpos_at h' (lv' + 1) s.ks (i + 1) k c hc
      cases h' with
      | zero => exact nomatch u
      | succ h2 =>
        have hum : u ∈ s.ks := List.mem_of_getElem? hu
        have hsu := hk.2.2.2 u hum
        have hh : (nodesL (h2 + 1) (lv' + 1) u).head? = some (((lv' + 1 : Nat) : Int), decide (h2 = 0), (Nd.L (K := Tr h2) u).map (·.1)) := rfl
        rw [hh] at hc2
        have hall : (nodesL (h + 1) 0 (up1 t))[c]? = some (((lv' + 1 : Nat) : Int), decide (h2 = 0), (Nd.L (K := Tr h2) u).map (·.1)) := by
          rw [e1, List.getElem?_append_right (by omega), nodesL_up]
          obtain ⟨d, hd⟩ : ∃ d, c = i + 1 + d := ⟨c - (i + 1), by omega⟩
          have hlt := (List.getElem?_eq_some_iff.1 hc2).1
          rw [List.getElem?_append_left (by rw [List.length_cons]; omega)]
          rw [show c - A.length = (c - (i + 1)) + 1 by omega, List.getElem?_cons_succ]
          exact hc2
        rw [← hes, List.getElem?_map] at hall
        obtain ⟨e', he', hsh⟩ := Option.map_eq_some_iff.1 hall
        have b3 : e'.2.2.2 = (Nd.L (K := Tr h2) u).map (·.1) := congrArg (fun x => x.2.2) hsh
        have hsu' := (shp_up (t := u)).1 hsu
        have hul : most / 2 ≤ (Nd.L (K := Tr h2) u).length := hsu'.1
        refine ⟨(List.getElem?_eq_some_iff.1 he').1, e', he', by rw [b3, List.length_map]; omega, fun y hy => ?_⟩
        rw [b3] at hy
        obtain ⟨z, hz, rfl⟩ := List.mem_map.1 hy
        have hzf : z ∈ flat (h2 + 1) u := (il_sub (Nd.L (K := Tr h2) u) _ (shp_kin (t := u) hsu)).subset hz
        have hrs : Rise (il s.L (s.ks.map (flat (h2 + 1)))) := by
          have h8 : List.Sublist (flat (h2 + 1 + 1) (up1 s)) F := by rw [← hF]; exact e5
          exact List.Pairwise.sublist h8 hr
        have hb2 := btw (K := s.ks.map (flat (h2 + 1))) (L := s.L) (by rw [List.length_map]; exact hk.2.2.1 (by omega)) hrs (k := k) (c := flat (h2 + 1) u) (by rw [List.getElem?_map, hu]; rfl) z hzf
        rw [a3]
        refine ⟨fun j x hx hj => ?_, fun x hx => ?_⟩
        · rw [List.getElem?_map] at hx
          obtain ⟨x', hx', rfl⟩ := Option.map_eq_some_iff.1 hx
          exact hb2.1 j x' hx' hj
        · rw [List.getElem?_map] at hx
          obtain ⟨x', hx', rfl⟩ := Option.map_eq_some_iff.1 hx
          exact hb2.2 x' hx'
end Go.Proofs.Ytggbbmbnbhiggaa
