/-
  The items of a tree from one key up to another one, node by node. No conditions.
  appendSpan and Span: the keys of a tree from one up to another one. Conditions: the tree has its shape, keys rise; lengths are such as memory bears.
-/
import Derived.Test.YtelfjgnmbikofaaBKeys
import Derived.OwnWalk
namespace Go.Proofs.Ytelfjgnmbikofaa
open Go.RowKit
set_option linter.unusedVariables false

/-- The items from one key up to another one. -/
def spanF (lo hi : ByteArray) (F : List It) : List It := F.filter (fun y => decide (0 ≤ cmpN y.1 lo) && decide (cmpN y.1 hi < 0))
theorem spanF_append (lo hi : ByteArray) (a b : List It) : spanF lo hi (a ++ b) = spanF lo hi a ++ spanF lo hi b := List.filter_append ..
theorem spanF_none {lo hi : ByteArray} {F : List It} (h : ∀ y ∈ F, cmpN y.1 lo < 0 ∨ ¬ cmpN y.1 hi < 0) : spanF lo hi F = [] := by
  refine List.filter_eq_nil_iff.2 (fun y hy => ?_)
  rcases h y hy with h1 | h1
  · simp; intro h2; omega
  · simp; intro _; omega
theorem spanF_len (lo hi : ByteArray) (F : List It) : (spanF lo hi F).length ≤ F.length := List.length_filter_le ..
theorem pre_low {k : ByteArray} : ∀ (L : List It) (K : List (List It)), L.length = K.length → Rise (pre L K) → (∀ x ∈ L, cmpN x.1 k < 0) → ∀ y ∈ pre L K, cmpN y.1 k < 0
  | [], [], _, _, _, y, hy => by simp [pre] at hy
  | [], c :: K, h, _, _, _, _ => by simp at h
  | x :: L, [], h, _, _, _, _ => by simp at h
  | x :: L, c :: K, h, hr, hk, y, hy => by
    have e : pre (x :: L) (c :: K) = c ++ x :: pre L K := rfl
    rw [e] at hr hy
    have a1 := List.pairwise_append.1 hr
    have hx := hk x List.mem_cons_self
    rcases List.mem_append.1 hy with h1 | h1
    · exact cmpN_trans (a1.2.2 y h1 x List.mem_cons_self) hx
    · rcases List.mem_cons.1 h1 with rfl | h2
      · exact hx
      · exact pre_low L K (by simpa using h) (List.pairwise_cons.1 a1.2.1).2 (fun z hz => hk z (List.mem_cons_of_mem _ hz)) y h2
theorem post_high {k : ByteArray} : ∀ (L : List It) (K : List (List It)), L.length = K.length → Rise (post L K) → (∀ x ∈ L, ¬ cmpN x.1 k < 0) → ∀ y ∈ post L K, ¬ cmpN y.1 k < 0
  | [], [], _, _, _, y, hy => by simp [post] at hy
  | [], c :: K, h, _, _, _, _ => by simp at h
  | x :: L, [], h, _, _, _, _ => by simp at h
  | x :: L, c :: K, h, hr, hk, y, hy => by
    have e : post (x :: L) (c :: K) = x :: (c ++ post L K) := rfl
    rw [e] at hr hy
    have hx := hk x List.mem_cons_self
    have a0 := List.pairwise_cons.1 hr
    rcases List.mem_cons.1 hy with rfl | h1
    · exact hx
    · rcases List.mem_append.1 h1 with h2 | h2
      · intro h3
        exact hx (cmpN_trans (a0.1 y h1) h3)
      · exact post_high L K (by simpa using h) (List.pairwise_append.1 a0.2).2.1 (fun z hz => hk z (List.mem_cons_of_mem _ hz)) y h2
/-- What has been told when the loop stands at i. -/
def spJ (lo hi : ByteArray) (L : List It) (Fs : List (List It)) (b i : Nat) : List It := if b < i then spanF lo hi (il L Fs) else spanF lo hi (pre (L.take i) (Fs.take i))
theorem il_at {L : List It} {Fs : List (List It)} {i : Nat} {f : List It} (hl : Fs.length = L.length + 1) (hf : Fs[i]? = some f) : il L Fs = pre (L.take i) (Fs.take i) ++ (f ++ post (L.drop i) (Fs.drop (i + 1))) := by
  obtain ⟨h5, h6⟩ := List.getElem?_eq_some_iff.1 hf
  have e1 : Fs = Fs.take i ++ f :: Fs.drop (i + 1) := by rw [← h6, List.getElem_cons_drop, List.take_append_drop]
  have e2 := il_mid (L.take i) (Fs.take i) f (L.drop i) (Fs.drop (i + 1)) (by rw [List.length_take, List.length_take]; omega)
  rw [List.take_append_drop, ← e1] at e2
  exact e2
theorem spJ_start {lo hi : ByteArray} {L : List It} {Fs : List (List It)} {a b : Nat} (hl : Fs.length = L.length + 1) (hr : Rise (il L Fs)) (ha : At L lo a) (hb : At L hi b) : spJ lo hi L Fs b a = [] := by
  unfold spJ
  by_cases h : b < a
  · rw [if_pos h]
    have hbl : b < L.length := Nat.lt_of_lt_of_le h ha.1
    have hx : L[b]? = some L[b] := List.getElem?_eq_getElem hbl
    have h1 : cmpN L[b].1 lo < 0 := (ha.2 b _ hx).1 h
    have h2 : ¬ cmpN L[b].1 hi < 0 := fun h3 => by have := (hb.2 b _ hx).2 h3; omega
    refine spanF_none (fun y hy => ?_)
    by_cases h4 : cmpN y.1 lo < 0
    · exact .inl h4
    · refine .inr (fun h5 => h2 ?_)
      have h6 : cmpN L[b].1 y.1 < 0 := by
        rcases Int.lt_trichotomy (cmpN L[b].1 y.1) 0 with h7 | h7 | h7
        · exact h7
        · have := cmpN_zero h7; rw [this] at h1; exact absurd h1 h4
        · exact absurd (cmpN_trans (cmpN_pos.1 h7) h1) h4
      exact cmpN_trans h6 h5
  · rw [if_neg h]
    have hal := ha.1
    obtain ⟨f, hf⟩ : ∃ f, Fs[a]? = some f := ⟨Fs[a]'(by omega), List.getElem?_eq_getElem _⟩
    rw [il_at hl hf] at hr
    have := pre_low (k := lo) (L.take a) (Fs.take a) (by rw [List.length_take, List.length_take]; omega) (List.pairwise_append.1 hr).1 ha.split.1
    exact spanF_none (fun y hy => .inl (this y hy))
theorem spJ_next {lo hi : ByteArray} {L : List It} {Fs : List (List It)} {a b i : Nat} {f : List It} {y : It} (hl : Fs.length = L.length + 1) (ha : At L lo a) (hb : At L hi b) (hai : a ≤ i) (hib : i < b) (hf : Fs[i]? = some f) (hy : L[i]? = some y) : spJ lo hi L Fs b (i + 1) = (spJ lo hi L Fs b i ++ spanF lo hi f) ++ [y] := by
  unfold spJ
  rw [if_neg (by omega), if_neg (by omega), pre_next hy hf, spanF_append, spanF_append, ← List.append_assoc]
  congr 1
  have h1 : ¬ cmpN y.1 lo < 0 := fun h => by have := (ha.2 i y hy).2 h; omega
  have h2 : cmpN y.1 hi < 0 := (hb.2 i y hy).1 hib
  unfold spanF
  rw [List.filter_cons_of_pos (by simp; omega)]
  rfl
theorem spJ_end {lo hi : ByteArray} {L : List It} {Fs : List (List It)} {b : Nat} {f : List It} (hl : Fs.length = L.length + 1) (hr : Rise (il L Fs)) (hb : At L hi b) (hf : Fs[b]? = some f) : spJ lo hi L Fs b (b + 1) = spJ lo hi L Fs b b ++ spanF lo hi f := by
  unfold spJ
  rw [if_pos (by omega), if_neg (by omega), il_at hl hf, spanF_append, spanF_append]
  have hr2 := hr
  rw [il_at hl hf] at hr2
  have hbl := hb.1
  have := post_high (k := hi) (L.drop b) (Fs.drop (b + 1)) (by rw [List.length_drop, List.length_drop]; omega) (List.pairwise_append.1 (List.pairwise_append.1 hr2).2.1).2.1 hb.split.2
  rw [spanF_none (F := post _ _) (fun y hy => .inr (this y hy)), List.append_nil]
theorem spJ_all {lo hi : ByteArray} {L : List It} {Fs : List (List It)} {b i : Nat} (h : b < i) : spJ lo hi L Fs b i = spanF lo hi (il L Fs) := if_pos h
theorem spJ_len (lo hi : ByteArray) (L : List It) (Fs : List (List It)) (hl : Fs.length = L.length + 1) (b i : Nat) (hi2 : i ≤ L.length + 1) : (spJ lo hi L Fs b i).length ≤ (il L Fs).length := by
  unfold spJ
  split
  · exact spanF_len ..
  · by_cases h : i ≤ L.length
    · exact Nat.le_trans (spanF_len ..) (pre_len hl h)
    · have e : i = L.length + 1 := by omega
      have h1 : Fs.take i = Fs := List.take_of_length_le (by omega)
      have h2 : L.take i = L := List.take_of_length_le (by omega)
      refine Nat.le_trans (spanF_len ..) ?_
      rw [h1, h2]
      have h3 := pre_len (L := L) (F := Fs) (i := L.length) hl (Nat.le_refl _)
      rw [List.take_length] at h3
      have h4 : pre L Fs = pre L (Fs.take L.length) := by
        clear h1 h2 h3 e h hi2
        induction L generalizing Fs with
        | nil => cases Fs <;> rfl
        | cons x L ih =>
          cases Fs with
          | nil => rfl
          | cons c Fs =>
            show c ++ x :: pre L Fs = c ++ x :: pre L (Fs.take L.length)
            rw [ih Fs (by simpa using hl)]
      rw [h4]; exact h3
theorem il_rep : ∀ (L : List It), il L (List.replicate (L.length + 1) []) = L
  | [] => rfl
  | x :: L => by
    have e : List.replicate ((x :: L).length + 1) ([] : List It) = [] :: List.replicate (L.length + 1) [] := rfl
    rw [e]
    have h := il_mid ([] : List It) [] [] (x :: L) (List.replicate (L.length + 1) [])
    have h2 : il (x :: L) ([] :: List.replicate (L.length + 1) []) = post (x :: L) (List.replicate (L.length + 1) []) := by have := h rfl; simpa [pre] using this
    rw [h2]
    have key : ∀ (M : List It), post M (List.replicate M.length []) = M := by
      intro M
      induction M with
      | nil => rfl
      | cons y M ih => show y :: ([] ++ post M (List.replicate M.length [])) = _; rw [ih]; rfl
    exact key (x :: L)
/-- A node's children's items, also of a leaf. -/
theorem fs_of {most h lo : Nat} {t : Nd (Tr h)} (hs : Shp most (h + 1) lo most (up1 t)) : ∃ Fs : List (List It), Fs.length = t.L.length + 1 ∧ il t.L Fs = flat (h + 1) (up1 t) ∧ (h = 0 → ∀ (i : Nat) (f : List It), Fs[i]? = some f → f = []) ∧ (∀ (i : Nat) (c : Tr h), t.ks[i]? = some c → Fs[i]? = some (flat h c)) ∧ (0 < h → t.ks.length = t.L.length + 1) := by
  cases h with
  | zero =>
    have hk : t.ks = [] := ks_leaf t
    refine ⟨List.replicate (t.L.length + 1) [], by simp, ?_, fun _ i f hf => ?_, (fun i c hc => nomatch c), fun hh => absurd hh (by omega)⟩
    · rw [il_rep]
      have e : flat 1 (up1 t) = il t.L (t.ks.map (flat 0)) := rfl
      rw [e, hk]
      cases t.L <;> rfl
    · have := List.mem_of_getElem? hf
      exact (List.mem_replicate.1 this).2
  | succ h =>
    have hk : t.ks.length = t.L.length + 1 := (shp_up.1 hs).2.2.1 (by omega)
    exact ⟨t.ks.map (flat (h + 1)), by rw [List.length_map, hk], rfl, fun hh => absurd hh (by omega), fun i c hc => by rw [List.getElem?_map, hc]; rfl, fun _ => hk⟩
end Go.Proofs.Ytelfjgnmbikofaa

namespace Go.Proofs.Ytelfjgnmbikofaa
open Go.RowKit
set_option linter.unusedVariables false
set_option maxRecDepth 100000

set_option maxHeartbeats 8000000 in
theorem spanStep {w : World} {B h n p q most lo : Nat} {vI vC vO : Value} {L : List It} {ks : List (Tr h)} {K : List ByteArray} {R : List Pc} {sl sh : ByteArray} (h3 : 3 ≤ most) (h64 : most ≤ 64)
    (ih : ∀ (c : Tr h) (w : World) (vO : Value) (K : List ByteArray) (R : List Pc), Sep w B (rowS vO K :: (pcs h c ++ R)) → treeO p q most ∈ R → B ≤ w.heap.size → Shp most h (most / 2) most c → Rise (flat h c) → K.length + (flat h c).length ≤ 1000000 → (∀ y ∈ flat h c, y.1.size ≤ 281474976710656) →
      Calls Try.prog 38 #[.pointer (some ⟨p, 0, none⟩), vO, .pointer (some ⟨adr h c, 0, none⟩), .string sl, .string sh] w fun e w' => ∃ vO', e = .returned vO' ∧ Sep w' B (rowS vO' (K ++ (spanF sl sh (flat h c)).map (·.1)) :: (pcs h c ++ R)) ∧ Below B w w')
    (hS : Sep w B (rowS vO K :: (pcs (h + 1) (up1 (⟨n, vI, vC, L, ks⟩ : Nd (Tr h))) ++ R))) (hT : treeO p q most ∈ R) (hB : B ≤ w.heap.size) (hsh : Shp most (h + 1) lo most (up1 (⟨n, vI, vC, L, ks⟩ : Nd (Tr h)))) (hri : Rise (flat (h + 1) (up1 (⟨n, vI, vC, L, ks⟩ : Nd (Tr h))))) (hK : K.length + (flat (h + 1) (up1 (⟨n, vI, vC, L, ks⟩ : Nd (Tr h)))).length ≤ 1000000) (hz : ∀ y ∈ flat (h + 1) (up1 (⟨n, vI, vC, L, ks⟩ : Nd (Tr h))), y.1.size ≤ 281474976710656) :
    Calls Try.prog 38 #[.pointer (some ⟨p, 0, none⟩), vO, .pointer (some ⟨n, 0, none⟩), .string sl, .string sh] w fun e w' => ∃ vO', e = .returned vO' ∧ Sep w' B (rowS vO' (K ++ (spanF sl sh (flat (h + 1) (up1 (⟨n, vI, vC, L, ks⟩ : Nd (Tr h))))).map (·.1)) :: (pcs (h + 1) (up1 (⟨n, vI, vC, L, ks⟩ : Nd (Tr h))) ++ R)) ∧ Below B w w' := by
  obtain ⟨i1, hi1, hy0, hy1, hy2⟩ := info_partsG Try.infoS
  obtain ⟨Fs, hFl, hFi, hF0, hFk, hkl⟩ := fs_of (t := (⟨n, vI, vC, L, ks⟩ : Nd (Tr h))) hsh
  have hFl' : Fs.length = L.length + 1 := hFl
  have hFi' : il L Fs = flat (h + 1) (up1 (⟨n, vI, vC, L, ks⟩ : Nd (Tr h))) := hFi
  have hs := shp_up.1 hsh
  have hLm : L.length ≤ most := hs.2.1
  have hsub : List.Sublist L (flat (h + 1) (up1 (⟨n, vI, vC, L, ks⟩ : Nd (Tr h)))) := il_sub L _ (shp_kin (t := (⟨n, vI, vC, L, ks⟩ : Nd (Tr h))) hsh)
  have HLR : Hid (Rise L) := hri.sub hsub
  have HZ : Hid (∀ y ∈ L, y.1.size ≤ 281474976710656) := fun y hy => hz y (hsub.subset hy)
  have HKZ : Hid (∀ c ∈ ks, (∀ y ∈ flat h c, y.1.size ≤ 281474976710656) ∧ Rise (flat h c) ∧ Shp most h (most / 2) most c) := fun c hc => by
    have h1 := kid_sub L _ (shp_kin (t := (⟨n, vI, vC, L, ks⟩ : Nd (Tr h))) hsh) _ (List.mem_map.2 ⟨c, hc, rfl⟩)
    exact ⟨fun y hy => hz y (h1.subset hy), hri.sub h1, hs.2.2.2 c hc⟩
  have HFR : Hid (Rise (il L Fs)) := by unfold Hid; rw [hFi']; exact hri
  have HFL : Hid (Fs.length = L.length + 1) := hFl'
  have HFZ : Hid (h = 0 → ∀ (i : Nat) (f : List It), Fs[i]? = some f → f = []) := hF0
  have HFK : Hid (∀ (i : Nat) (c : Tr h), ks[i]? = some c → Fs[i]? = some (flat h c)) := hFk
  have HKB : Hid (K.length + (il L Fs).length ≤ 1000000) := by unfold Hid; rw [hFi']; exact hK
  have hcut : Sep w B (pcs (h + 1) (up1 (⟨n, vI, vC, L, ks⟩ : Nd (Tr h))) ++ R) := hS.tail
  have hn := (nd_in hcut).nd_ []
  obtain ⟨ao, cap, hvI⟩ := row_slice hn.rI
  have hvI' : vI = .slice ao L.length cap := hvI
  obtain ⟨aoC, capC, hvC⟩ := row_slice hn.rC
  have hvC' : vC = .slice aoC ks.length capC := by have h9 : vC = .slice aoC (ks.map (adr h)).length capC := hvC; rw [h9, List.length_map]
  subst hvI' hvC'
  obtain ⟨aoO, capO, hvO⟩ := row_slice (hS.at_ (rowS vO K) (List.Mem.head _))
  have hvO' : vO = .slice aoO K.length capO := hvO
  subst hvO'
  have HKL : Hid (0 < h → ks.length = L.length + 1) := hkl
  have HK0 : Hid (h = 0 → ks.length = 0) := fun h0 => by subst h0; have h9 : ks = [] := ks_leaf (⟨n, .slice ao L.length cap, .slice aoC ks.length capC, L, ks⟩ : Nd (Tr 0)); rw [h9]; rfl
  obtain ⟨l, HLl⟩ : ∃ l, Hid (L.length = l) := ⟨_, rfl⟩
  obtain ⟨kn, HKn⟩ : ∃ kn, Hid (ks.length = kn) := ⟨_, rfl⟩
  obtain ⟨Z, HZe⟩ : ∃ Z, Hid (pcs (h + 1) (up1 (⟨n, .slice ao L.length cap, .slice aoC ks.length capC, L, ks⟩ : Nd (Tr h))) ++ R = Z) := ⟨_, rfl⟩
  have HXN : Hid (∀ W, Sep W B Z → W.cell? ⟨n, 0, none⟩ = some (.slice ao l cap) ∧ W.cell? ⟨n, 1, none⟩ = some (.slice aoC kn capC) ∧ (∀ (i : Nat) (y : It), L[i]? = some y → ∃ g, ao = some ⟨g, 0, none⟩ ∧ W.cell? ⟨g, i * 2, none⟩ = some (.string y.1)) ∧ (∀ (i : Nat) (c : Tr h), ks[i]? = some c → ∃ g, aoC = some ⟨g, 0, none⟩ ∧ W.cell? ⟨g, i, none⟩ = some (.pointer (some ⟨adr h c, 0, none⟩))) ∧ Its W (.slice ao l cap) L ∧ W.cell? ⟨p, 0, none⟩ = some (.func (.func 21) #[] #[]) ∧ W.cell? ⟨p, 1, none⟩ = some (.func (.func 29) #[] #[])) := by
    intro W hW
    rw [← HZe.out] at hW
    have hN := (nd_in hW).nd_ []
    have ht := hW.tr (p := p) (q := q) (most := most) (List.mem_append_right _ hT)
    refine ⟨by rw [← HLl.out]; exact hN.c.1, by rw [← HKn.out]; exact hN.c.2.1, fun i y hy => ?_, fun i c hc => ?_, ?_, ht.1, ht.2.1⟩
    · have h1 := (List.getElem?_eq_some_iff.1 hy).1
      obtain ⟨g, capg, hg, _, _, _, _, _, hgc⟩ := row_some hN.rI (by show 1 ≤ L.length; omega)
      have hg' : Value.slice ao L.length cap = .slice (some ⟨g, 0, none⟩) L.length capg := hg
      injection hg' with e1 e2 e3
      exact ⟨g, e1, by have := hgc _ _ (gc_at encI_len L _ _ hy 0 _ rfl); simpa using this⟩
    · have h1 := (List.getElem?_eq_some_iff.1 hc).1
      obtain ⟨g, capg, hg, _, _, _, _, _, hgc⟩ := row_some hN.rC (by show 1 ≤ (ks.map (adr h)).length; simp; omega)
      have hg' : Value.slice aoC ks.length capC = .slice (some ⟨g, 0, none⟩) (ks.map (adr h)).length capg := hg
      injection hg' with e1 e2 e3
      refine ⟨g, e1, ?_⟩
      have := hgc _ _ (gc_at encP_len (ks.map (adr h)) i (adr h c) (by rw [List.getElem?_map, hc]; rfl) 0 _ rfl)
      simpa using this
    · rw [← HLl.out]; exact Its.of_nd hN
  have HPK : Hid (∀ (c : Tr h) (i : Nat), ks[i]? = some c → ∃ R', treeO p q most ∈ R' ∧ List.Perm Z (pcs h c ++ R')) := by
    intro c i hc
    obtain ⟨h5, h6⟩ := List.getElem?_eq_some_iff.1 hc
    have e : ks = ks.take i ++ c :: ks.drop (i + 1) := by rw [← h6, List.getElem_cons_drop, List.take_append_drop]
    refine ⟨_, ?_, by
      rw [← HZe.out]
      have := perm_kid n (.slice ao L.length cap) (.slice aoC ks.length capC) L (ks.take i) c (ks.drop (i + 1)) R
      rw [← e] at this
      exact this⟩
    exact List.mem_append_right _ (List.mem_append_right _ (List.mem_append_right _ hT))
  have HIH : Hid _ := ih
  have HS : Hid (Sep w B (rowS (.slice aoO K.length capO) K :: Z)) := by unfold Hid; rw [← HZe.out]; exact hS
  rw [← hFi', HZe.out]
  have hl64 : l ≤ 64 := by rw [← HLl.out]; omega
  have HFN : Hid (∀ (k : ByteArray) (W : World), Sep W B Z → Calls Try.prog 44 #[.slice ao l cap, .string k, .func (.func 21) #[] #[]] W fun e w' => ∃ v, e = .returned v ∧ ∃ a, v = .tuple #[.int .i64 ((a : Nat) : Int), .bool (isAt L k a)] ∧ At L k a ∧ Below W.heap.size W w') := fun k W hW => (find_any L _ k W (HXN.out W hW).2.2.2.2.1 (by have := HLl.out; omega) (HLR.out.low k)).mono (by rintro e w' ⟨a, ha, rfl, hb⟩; exact ⟨_, rfl, a, rfl, ha, hb⟩)
  obtain ⟨kl0, HK0l⟩ : ∃ kl0, Hid (K.length = kl0) := ⟨_, rfl⟩
  rw [HK0l.out] at HS ⊢
  clear hS hT hsh ih hz hcut hn hsub hvI hvC hs hLm hFl hFi hF0 hFk hkl hFl' hFi' hri hK
  have HDS : Hid (∀ W K', Sep W B (rowS (.slice aoO kl0 capO) K' :: Z) → Sep W B Z) := fun W K' hW => hW.tail
  obtain ⟨n0, n1, _, _, _, t0, t1⟩ := HXN.out w HS.out.tail
  have HF1 : Hid _ := HFN.out sl w.drew (HS.out.tail.below (Below.refl _ _).drew)
  go_enter Try.func38, Try.ntmps38
  go_upto_region 1 with fail
  go_cut [11] (fun x wc => ∃ a : Nat, x = .int .i64 (a : Int) ∧ Hid (At L sl a) ∧ Hid (Below w.heap.size w wc))
  case first =>
    go_region_law (refine step_call rfl 44 (enters_of Try.func44 (by kernel_rfl) rfl) #[.tmp 20, .tmp 21, .tmp 25] _ rfl _ (by go_simp) (fun v w' => ∃ a, v = .tuple #[.int .i64 ((a : Nat) : Int), .bool (isAt L sl a)] ∧ At L sl a ∧ Below w.heap.size w w') (Calls.mono HF1.out (by rintro e w' ⟨v, rfl, a, h1, h2, h3⟩; exact ⟨v, rfl, a, h1, h2, ⟨h3.os, h3.tape, h3.output, h3.size, h3.block⟩⟩)) ?_; rintro v9 w9 ⟨a9, rfl, ha9, hb9⟩; have HA9 : Hid (At L sl a9) := ha9; have HB9 : Hid (Below w.heap.size w w9) := hb9; clear ha9 hb9)
    all_goals go_wp2_with fail
    all_goals go_meet
    all_goals exact ⟨a9, rfl, HA9.out, HB9.out⟩
  case rest =>
    obtain ⟨a, rfl, HAa, HBa⟩ := hcut
    clear n0 n1 t0 t1 HF1
    have HSa : Hid (Sep wc B (rowS (.slice aoO kl0 capO) K :: Z)) := HS.out.below HBa.out
    obtain ⟨n0, n1, _, _, _, t0, t1⟩ := HXN.out wc HSa.out.tail
    have HF2 : Hid _ := HFN.out sh wc.drew (HSa.out.tail.below (Below.refl _ _).drew)
    go_upto_region 2 with fail
    go_cut [13] (fun x wd => ∃ b : Nat, x = .int .i64 (b : Int) ∧ Hid (At L sh b) ∧ Hid (Below w.heap.size w wd))
    case first =>
      go_region_law (refine step_call rfl 44 (enters_of Try.func44 (by kernel_rfl) rfl) #[.tmp 33, .tmp 34, .tmp 38] _ rfl _ (by go_simp) (fun v w' => ∃ a, v = .tuple #[.int .i64 ((a : Nat) : Int), .bool (isAt L sh a)] ∧ At L sh a ∧ Below wc.heap.size wc w') (Calls.mono HF2.out (by rintro e w' ⟨v, rfl, a, h1, h2, h3⟩; exact ⟨v, rfl, a, h1, h2, ⟨h3.os, h3.tape, h3.output, h3.size, h3.block⟩⟩)) ?_; rintro v9 w9 ⟨a9, rfl, ha9, hb9⟩; have HA9 : Hid (At L sh a9) := ha9; have HB9 : Hid (Below w.heap.size w w9) := HBa.out.trans (hb9.mono HBa.out.size); clear ha9 hb9)
      all_goals go_wp2_with fail
      all_goals go_meet
      all_goals exact ⟨a9, rfl, HA9.out, HB9.out⟩
    case rest =>
      obtain ⟨b, rfl, HAb, HBb⟩ := hcut
      clear n0 n1 t0 t1 HF2 HSa
      have hal : a ≤ l := by rw [← HLl.out]; exact HAa.out.1
      have hbl : b ≤ l := by rw [← HLl.out]; exact HAb.out.1
      have HSt : Hid (spJ sl sh L Fs b a = []) := spJ_start HFL.out HFR.out HAa.out HAb.out
      have HNE : Hid (∀ (i : Nat) (f : List It) (y : It), a ≤ i → i < b → Fs[i]? = some f → L[i]? = some y → spJ sl sh L Fs b (i + 1) = (spJ sl sh L Fs b i ++ spanF sl sh f) ++ [y]) := fun i f y h1 h2 h3 h4 => spJ_next HFL.out HAa.out HAb.out h1 h2 h3 h4
      have HEN : Hid (∀ f : List It, Fs[b]? = some f → spJ sl sh L Fs b (b + 1) = spJ sl sh L Fs b b ++ spanF sl sh f) := fun f h1 => spJ_end HFL.out HFR.out HAb.out h1
      have HAL : Hid (∀ i, b < i → spJ sl sh L Fs b i = spanF sl sh (il L Fs)) := fun i h1 => spJ_all h1
      have HLE : Hid (∀ i, i ≤ l + 1 → (spJ sl sh L Fs b i).length ≤ (il L Fs).length) := fun i h1 => spJ_len sl sh L Fs HFL.out b i (by rw [HLl.out]; exact h1)
      have HFsz : Hid (∀ (i : Nat) (f : List It), Fs[i]? = some f → i ≤ b → a ≤ i → (spJ sl sh L Fs b i).length + f.length ≤ (il L Fs).length) := fun i f hf h1 h2 => by
        have e := il_at HFL.out hf
        unfold spJ
        rw [if_neg (by omega)]
        have h9 := spanF_len sl sh (pre (L.take i) (Fs.take i))
        rw [e, List.length_append, List.length_append]
        omega
      have HSb : Hid (Sep wc B (rowS (.slice aoO kl0 capO) K :: Z)) := HS.out.below HBb.out
      have HBb' : Hid (Below B w wc) := HBb.out.mono hB
      go_wp2_with fail
      go_loopw [15, 1] (fun x y wr => ∃ (i : Nat) (aoY : Option Addr) (capY kk : Nat) (KK : List ByteArray), a ≤ i ∧ (i ≤ b + 1 ∨ i = a) ∧ x = .int .i64 (i : Int) ∧ y = .slice aoY kk capY ∧ Hid (KK.length = kk) ∧ Hid (KK = K ++ (spJ sl sh L Fs b i).map (·.1)) ∧ Hid (Sep wr B (rowS (.slice aoY kk capY) KK :: Z)) ∧ Hid (Below B w wr)) (fun x _ _ => b + 1 - (intOf x).toNat)
      case atStart => exact ⟨a, aoO, capO, kl0, K, Nat.le_refl _, .inr rfl, rfl, rfl, HK0l.out, by unfold Hid; rw [HSt.out]; simp, HSb.out, HBb'.out⟩
      case round =>
        obtain ⟨i, aoY, capY, kk, KK, hai, hib, rfl, rfl, HKK, HKe, HSr, HBr⟩ := hrel
        clear HSb HBb'
        obtain ⟨n0, n1, hI, hC, _, t0, t1⟩ := HXN.out wr HSr.out.tail
        by_cases hlt : i ≤ b
        · have hlti : (i : Int) ≤ (b : Int) := by omega
          obtain ⟨f, hf⟩ : ∃ f, Fs[i]? = some f := ⟨Fs[i]'(by rw [HFL.out, HLl.out]; omega), List.getElem?_eq_getElem _⟩
          have hkk : kk ≤ 1000000 := by
            rw [← HKK.out, HKe.out, List.length_append, List.length_map]
            have h1 := HLE.out i (by omega)
            have h2 := HKB.out
            omega
          by_cases h0 : h = 0
          · have hk0 : kn = 0 := by rw [← HKn.out]; exact HK0.out h0
            subst hk0
            have hf0 : f = [] := HFZ.out h0 i f hf
            subst hf0
            have HIL : Hid _ := isLeaf_z (n := n) (w := wr) (ao := aoC) (cap := capC) n1
            by_cases hib2 : i < b
            · obtain ⟨y, hy⟩ : ∃ y, L[i]? = some y := ⟨L[i]'(by rw [HLl.out]; omega), List.getElem?_eq_getElem _⟩
              have hyz : y.1.size ≤ 281474976710656 := HZ.out y (List.mem_of_getElem? hy)
              have HON : Hid (∀ u ∈ encS y.1, u.oneCell' = true) := fun u hu => one_gcS [y.1] u (by rw [gc_one]; exact hu)
              have hili : (i : Int) < (l : Int) := by omega
              have hibi : (i : Int) < (b : Int) := by omega
              obtain ⟨g, rfl, y0⟩ := hI i y hy
              have HKN : Hid (KK ++ [y.1] = K ++ (spJ sl sh L Fs b (i + 1)).map (·.1)) := by unfold Hid; rw [HNE.out i [] y hai hib2 hf hy, HKe.out]; simp [spanF]
              have HBD : Hid (Below wr.heap.size wr wr.drew) := (Below.refl _ _).drew
              clear hI hC hy hf
              go_upto_region 9 with (go_at_call 45; refine Calls.mono HIL.out ?_; rintro e w6 ⟨rfl, hw6⟩; obtain rfl := hw6.symm)
              go_region_law (first
                | (refine step_ownN2 rfl (.tmp 70) (.tmp 78) rfl y.1 rfl rfl hyz ?_; intro w2 hb2; have HB2 : Hid (Below wr.heap.size wr (w2.alloc (.cells (encS y.1).toArray 9))) := (HBD.out.trans hb2).alloc (Nat.le_trans (Nat.le_refl _) (HBD.out.trans hb2).size) _; have HGX : Hid ((w2.alloc (.cells (encS y.1).toArray 9)).heap[w2.heap.size]? = some (.cells (encS y.1).toArray 9 (0, 0))) := heap_alloc_new w2 _; have HS2 : Hid (Sep (w2.alloc (.cells (encS y.1).toArray 9)) B (rowS (.slice aoY kk capY) KK :: Z)) := HSr.out.below HB2.out; have HRW : Hid ((w2.alloc (.cells (encS y.1).toArray 9)).ownsRow B 9 1 (.slice aoY kk capY) kk (gc encS KK)) := (by have h := HS2.out.at_ (rowS (.slice aoY kk capY) KK) (List.Mem.head _); have h' : (w2.alloc (.cells (encS y.1).toArray 9)).ownsRow B 9 1 (.slice aoY kk capY) KK.length (gc encS KK) := h; rw [HKK.out] at h'; exact h'); have HBB : Hid (Below B w (w2.alloc (.cells (encS y.1).toArray 9))) := HBr.out.trans (HB2.out.mono (Nat.le_trans hB HBr.out.size)); clear hb2)
                | (refine step_append_G 81 rfl rfl (.tmp 66) (.tmp 80) 26 9 rfl i1 Try.underlying26 hi1 _ hy0 1 16 hy1 hy2 rfl (by omega) B (.slice aoY kk capY) kk (gc encS KK) ⟨w2.heap.size, 0, none⟩ 1 1 (encS y.1) rfl rfl HRW.out rfl (news_one HGX.out) HON.out (by omega) (by omega) (by omega) (Nat.le_trans hB HBB.out.size) ?_; intro g3 cap3 w3 ho3 hg3 ha3; have HS3 : Hid (Sep w3 B (.row 9 1 (.slice (some ⟨g3, 0, none⟩) (kk + 1) cap3) (kk + 1) (gc encS KK ++ encS y.1) :: Z)) := Sep.turn [] (v := .slice aoY kk capY) (n := KK.length) (xs := gc encS KK) HS2.out ho3 hg3 (ha3.elim (fun e => Or.inl e.symm) (fun e => Or.inr (by intro x hx; simp [Value.ownBlock] at hx; rw [← hx, e]; exact Nat.le_refl _))); have HB3 : Hid (Below B w w3) := below_gr HBB.out (Nat.le_trans hB HBB.out.size) HRW.out hg3; clear ho3 hg3 ha3))
              all_goals
                go_wp2_with fail
                go_roundw
                case rel =>
                  refine ⟨i + 1, some ⟨g3, 0, none⟩, cap3, kk + 1, KK ++ [y.1], by omega, .inl (by omega), by simp, rfl, ?_, ?_, ?_, HB3.out⟩
                  · unfold Hid; rw [List.length_append, HKK.out]; rfl
                  · exact HKN.out
                  · unfold Hid rowS
                    rw [gc_append, gc_one, List.length_append, HKK.out]
                    exact HS3.out
                case measure => first | (simp [intOf]; done) | (simp [intOf]; omega)
            · obtain rfl : i = b := by omega
              have hibi : ¬ (i : Int) < (i : Int) := by omega
              have HKN : Hid (KK = K ++ (spJ sl sh L Fs i (i + 1)).map (·.1)) := by unfold Hid; rw [HEN.out [] hf, HKe.out]; simp [spanF]
              clear hI hC hf
              go_wp2_with (go_at_call 45; refine Calls.mono HIL.out ?_; rintro e w6 ⟨rfl, hw6⟩; obtain rfl := hw6.symm)
              go_roundw
              case rel => exact ⟨i + 1, aoY, capY, kk, KK, by omega, .inl (by omega), by simp, rfl, HKK.out, HKN.out, HSr.out, HBr.out⟩
              case measure => first | (simp [intOf]; done) | (simp [intOf]; omega)
          · have hkl1 : kn = l + 1 := by rw [← HKn.out, ← HLl.out]; exact HKL.out (by omega)
            obtain ⟨c, hc⟩ : ∃ c, ks[i]? = some c := ⟨ks[i]'(by rw [HKn.out]; omega), List.getElem?_eq_getElem _⟩
            obtain ⟨gC, rfl, ca⟩ := hC i c hc
            have hfc : f = flat h c := by have := HFK.out i c hc; rw [hf] at this; exact Option.some.inj this
            subst hfc
            have HIL : Hid _ := isLeaf_no (n := n) (w := wr) (ad := ⟨gC, 0, none⟩) (k := kn) (cap := capC) n1 (by omega)
            obtain ⟨R', hT', hP⟩ := HPK.out c i hc
            obtain ⟨z1, z2, z3⟩ := HKZ.out c (List.mem_of_getElem? hc)
            have HREC : Hid _ := HIH.out c wr (.slice aoY kk capY) KK R' (HSr.out.perm (List.Perm.cons _ hP)) hT' (Nat.le_trans hB HBr.out.size) z3 z2 (by rw [HKe.out, List.length_append, List.length_map]; have h1 := HFsz.out i _ hf hlt hai; have h2 := HKB.out; omega) z1
            have HREC2 : Hid (Calls Try.prog 38 #[.pointer (some ⟨p, 0, none⟩), .slice aoY kk capY, .pointer (some ⟨adr h c, 0, none⟩), .string sl, .string sh] wr fun e w' => ∃ ao4 cap4 k4 K4, e = .returned (.slice ao4 k4 cap4) ∧ K4 = KK ++ (spanF sl sh (flat h c)).map (·.1) ∧ K4.length = k4 ∧ Sep w' B (rowS (.slice ao4 k4 cap4) K4 :: Z) ∧ Below B w w') := by
              refine Calls.mono HREC.out ?_
              rintro e w' ⟨vO', rfl, h5, h6⟩
              obtain ⟨ao4, cap4, hv4⟩ := row_slice (h5.at_ (rowS vO' (KK ++ (spanF sl sh (flat h c)).map (·.1))) (List.Mem.head _))
              have hv4' : vO' = .slice ao4 (KK ++ (spanF sl sh (flat h c)).map (·.1)).length cap4 := hv4
              subst hv4'
              exact ⟨ao4, cap4, _, _, rfl, rfl, rfl, h5.perm (List.Perm.cons _ hP.symm), HBr.out.trans h6⟩
            have hkni : (i : Int) < (kn : Int) := by omega
            have HKB2 : Hid (∀ k4 K4, K4 = KK ++ (spanF sl sh (flat h c)).map (·.1) → K4.length = k4 → k4 ≤ 1000000) := by
              intro k4 K4 h1 h2
              rw [← h2, h1, List.length_append, List.length_map, HKe.out, List.length_append, List.length_map]
              have h3 := HFsz.out i _ hf hlt hai
              have h4 := spanF_len sl sh (flat h c)
              have h5 := HKB.out
              omega
            clear HREC hT' hP z1 z2 z3 hc
            by_cases hib2 : i < b
            · obtain ⟨y, hy⟩ : ∃ y, L[i]? = some y := ⟨L[i]'(by rw [HLl.out]; omega), List.getElem?_eq_getElem _⟩
              have hyz : y.1.size ≤ 281474976710656 := HZ.out y (List.mem_of_getElem? hy)
              have HON : Hid (∀ u ∈ encS y.1, u.oneCell' = true) := fun u hu => one_gcS [y.1] u (by rw [gc_one]; exact hu)
              have hili : (i : Int) < (l : Int) := by omega
              have hibi : (i : Int) < (b : Int) := by omega
              have HY : Hid (L[i]? = some y) := hy
              have HKN0 : Hid (∀ K4, K4 = KK ++ (spanF sl sh (flat h c)).map (·.1) → K4 ++ [y.1] = K ++ (spJ sl sh L Fs b (i + 1)).map (·.1)) := by
                intro K4 h1
                rw [h1, HNE.out i _ y hai hib2 hf hy, HKe.out]
                simp
              clear hI hC hy hf
              go_upto_region 9 with (first
                | (go_at_call 45; refine Calls.mono HIL.out ?_; rintro e w6 ⟨rfl, hw6⟩; obtain rfl := hw6.symm)
                | (go_at_call 38; refine Calls.mono HREC2.out ?_; rintro e w4 ⟨ao4, cap4, k4, K4, rfl, hK4, hk4, hs4, hb4⟩; have HK4 : Hid (K4 = KK ++ (spanF sl sh (flat h c)).map (fun x : It => x.1)) := hK4; have HKK4 : Hid (K4.length = k4) := hk4; have HS4 : Hid (Sep w4 B (rowS (.slice ao4 k4 cap4) K4 :: Z)) := hs4; have HB4 : Hid (Below B w w4) := hb4; have hk46 : k4 ≤ 1000000 := HKB2.out k4 K4 hK4 hk4; have hX4 := HXN.out w4 hs4.tail; obtain ⟨m0, m1, hI4, _, _, s0, s1⟩ := hX4; have HI4 : Hid (∀ (i : Nat) (y : It), L[i]? = some y → ∃ g, ao = some ⟨g, 0, none⟩ ∧ w4.cell? ⟨g, i * 2, none⟩ = some (.string y.1)) := hI4; clear hK4 hk4 hs4 hb4 hI4))
              have HKN : Hid (K4 ++ [y.1] = K ++ (spJ sl sh L Fs b (i + 1)).map (·.1)) := HKN0.out K4 HK4.out
              obtain ⟨g, rfl, y0⟩ := HI4.out i y HY.out
              have HBD : Hid (Below w4.heap.size w4 w4.drew) := (Below.refl _ _).drew
              clear n0 n1 t0 t1 ca HIL HREC2 HKN0
              go_region_law (first
                | (refine step_ownN2 rfl (.tmp 70) (.tmp 78) rfl y.1 rfl rfl hyz ?_; intro w2 hb2; have HB2 : Hid (Below w4.heap.size w4 (w2.alloc (.cells (encS y.1).toArray 9))) := (HBD.out.trans hb2).alloc (Nat.le_trans (Nat.le_refl _) (HBD.out.trans hb2).size) _; have HGX : Hid ((w2.alloc (.cells (encS y.1).toArray 9)).heap[w2.heap.size]? = some (.cells (encS y.1).toArray 9 (0, 0))) := heap_alloc_new w2 _; have HS2 : Hid (Sep (w2.alloc (.cells (encS y.1).toArray 9)) B (rowS (.slice ao4 k4 cap4) K4 :: Z)) := HS4.out.below HB2.out; have HRW : Hid ((w2.alloc (.cells (encS y.1).toArray 9)).ownsRow B 9 1 (.slice ao4 k4 cap4) k4 (gc encS K4)) := (by have h := HS2.out.at_ (rowS (.slice ao4 k4 cap4) K4) (List.Mem.head _); have h' : (w2.alloc (.cells (encS y.1).toArray 9)).ownsRow B 9 1 (.slice ao4 k4 cap4) K4.length (gc encS K4) := h; rw [HKK4.out] at h'; exact h'); have HBB : Hid (Below B w (w2.alloc (.cells (encS y.1).toArray 9))) := HB4.out.trans (HB2.out.mono (Nat.le_trans hB HB4.out.size)); clear hb2)
                | (refine step_append_G 81 rfl rfl (.tmp 66) (.tmp 80) 26 9 rfl i1 Try.underlying26 hi1 _ hy0 1 16 hy1 hy2 rfl (by omega) B (.slice ao4 k4 cap4) k4 (gc encS K4) ⟨w2.heap.size, 0, none⟩ 1 1 (encS y.1) rfl rfl HRW.out rfl (news_one HGX.out) HON.out (by omega) (by omega) (by omega) (Nat.le_trans hB HBB.out.size) ?_; intro g3 cap3 w3 ho3 hg3 ha3; have HS3 : Hid (Sep w3 B (.row 9 1 (.slice (some ⟨g3, 0, none⟩) (k4 + 1) cap3) (k4 + 1) (gc encS K4 ++ encS y.1) :: Z)) := Sep.turn [] (v := .slice ao4 k4 cap4) (n := K4.length) (xs := gc encS K4) HS2.out ho3 hg3 (ha3.elim (fun e => Or.inl e.symm) (fun e => Or.inr (by intro x hx; simp [Value.ownBlock] at hx; rw [← hx, e]; exact Nat.le_refl _))); have HB3 : Hid (Below B w w3) := below_gr HBB.out (Nat.le_trans hB HBB.out.size) HRW.out hg3; clear ho3 hg3 ha3))
              all_goals
                go_wp2_with fail
                go_roundw
                case rel =>
                  refine ⟨i + 1, some ⟨g3, 0, none⟩, cap3, k4 + 1, K4 ++ [y.1], by omega, .inl (by omega), by simp, rfl, ?_, ?_, ?_, HB3.out⟩
                  · unfold Hid; rw [List.length_append, HKK4.out]; rfl
                  · exact HKN.out
                  · unfold Hid rowS
                    rw [gc_append, gc_one, List.length_append, HKK4.out]
                    exact HS3.out
                case measure => first | (simp [intOf]; done) | (simp [intOf]; omega)
            · obtain rfl : i = b := by omega
              have hibi : ¬ (i : Int) < (i : Int) := by omega
              have HKN0 : Hid (∀ K4, K4 = KK ++ (spanF sl sh (flat h c)).map (·.1) → K4 = K ++ (spJ sl sh L Fs i (i + 1)).map (·.1)) := by
                intro K4 h1
                rw [h1, HEN.out _ hf, HKe.out]
                simp
              clear hI hC hf
              go_wp2_with (first
                | (go_at_call 45; refine Calls.mono HIL.out ?_; rintro e w6 ⟨rfl, hw6⟩; obtain rfl := hw6.symm)
                | (go_at_call 38; refine Calls.mono HREC2.out ?_; rintro e w4 ⟨ao4, cap4, k4, K4, rfl, hK4, hk4, hs4, hb4⟩; have HK4 : Hid (K4 = KK ++ (spanF sl sh (flat h c)).map (fun x : It => x.1)) := hK4; have HKK4 : Hid (K4.length = k4) := hk4; have HS4 : Hid (Sep w4 B (rowS (.slice ao4 k4 cap4) K4 :: Z)) := hs4; have HB4 : Hid (Below B w w4) := hb4; have hk46 : k4 ≤ 1000000 := HKB2.out k4 K4 hK4 hk4; have hX4 := HXN.out w4 hs4.tail; obtain ⟨m0, m1, hI4, _, _, s0, s1⟩ := hX4; have HI4 : Hid (∀ (i : Nat) (y : It), L[i]? = some y → ∃ g, ao = some ⟨g, 0, none⟩ ∧ w4.cell? ⟨g, i * 2, none⟩ = some (.string y.1)) := hI4; clear hK4 hk4 hs4 hb4 hI4))
              go_roundw
              case rel => exact ⟨i + 1, ao4, cap4, k4, K4, by omega, .inl (by omega), by simp, rfl, HKK4.out, HKN0.out K4 HK4.out, HS4.out, HB4.out⟩
              case measure => first | (simp [intOf]; done) | (simp [intOf]; omega)
        · have hlti : ¬ (i : Int) ≤ (b : Int) := by omega
          have HE : Hid (KK = K ++ (spanF sl sh (il L Fs)).map (·.1)) := by unfold Hid; rw [HKe.out, HAL.out i (by omega)]
          clear hI hC
          go_wp2_with fail
          go_ret
          refine ⟨_, rfl, ?_, HBr.out⟩
          rw [← HE.out]
          exact HSr.out
/-- appendSpan of a tree of any depth. -/
theorem spanT_any {B p q most : Nat} {sl sh : ByteArray} (h3 : 3 ≤ most) (h64 : most ≤ 64) : ∀ (h : Nat) (t : Tr h) (lo : Nat) (w : World) (vO : Value) (K : List ByteArray) (R : List Pc), Sep w B (rowS vO K :: (pcs h t ++ R)) → treeO p q most ∈ R → B ≤ w.heap.size → Shp most h lo most t → Rise (flat h t) → K.length + (flat h t).length ≤ 1000000 → (∀ y ∈ flat h t, y.1.size ≤ 281474976710656) →
      Calls Try.prog 38 #[.pointer (some ⟨p, 0, none⟩), vO, .pointer (some ⟨adr h t, 0, none⟩), .string sl, .string sh] w fun e w' => ∃ vO', e = .returned vO' ∧ Sep w' B (rowS vO' (K ++ (spanF sl sh (flat h t)).map (·.1)) :: (pcs h t ++ R)) ∧ Below B w w'
  | 0, t, _, _, _, _, _, _, _, _, _, _, _, _ => nomatch t
  | h + 1, t, lo, w, vO, K, R, hS, hT, hB, hsh, hri, hK, hz =>
    spanStep (n := Nd.n (K := Tr h) t) (vI := Nd.vI (K := Tr h) t) (vC := Nd.vC (K := Tr h) t) (L := Nd.L (K := Tr h) t) (ks := Nd.ks (K := Tr h) t) h3 h64
      (fun c w vO K R h1 h2 h4 h5 h6 h7 h8 => spanT_any h3 h64 h c (most / 2) w vO K R h1 h2 h4 h5 h6 h7 h8) hS hT hB hsh hri hK hz
set_option maxHeartbeats 4000000 in
theorem span_any {w : World} {B p q most : Nat} {F : List It} {R : List Pc} (h3 : 3 ≤ most) (h64 : most ≤ 64) (h : BT w B p q most F R) (hB : B ≤ w.heap.size) (hn : F.length ≤ 100000) (hz : ∀ y ∈ F, y.1.size ≤ 281474976710656) (sl sh : ByteArray) :
    Calls Try.prog 19 #[.pointer (some ⟨p, 0, none⟩), .string sl, .string sh] w fun e w' => ∃ vO, e = .returned vO ∧ BT w' B p q most F (rowS vO ((spanF sl sh F).map (·.1)) :: R) ∧ Below B w w' := by
  obtain ⟨⟨h, t, lo, hS, hs, hlo, hF⟩, hR⟩ := h
  have t3 := (hS.tr (p := p) (q := q) (most := most) (by simp)).2.2.2
  obtain ⟨k0, k1, _, _, _⟩ := kept_c hS (q := q) (n := t.n) (c := F.length) (by simp)
  have HE : Hid (∀ W v, Sep W B (rowS v ((spanF sl sh F).map (·.1)) :: (pcs (h + 1) (up1 t) ++ (treeO p q most :: keptO q t.n F.length :: R))) → BT W B p q most F (rowS v ((spanF sl sh F).map (·.1)) :: R)) := by
    intro W v hW
    refine ⟨⟨h, t, lo, hW.perm ?_, hs, hlo, hF⟩, hR⟩
    classical
    refine List.perm_iff_count.2 (fun a => ?_)
    simp only [List.count_append, List.count_cons]
    omega
  have HN : Hid _ := spanT_any (p := p) (q := q) (sl := sl) (sh := sh) h3 h64 (h + 1) (up1 t) lo w (.slice none 0 0) [] (treeO p q most :: keptO q t.n F.length :: R) (hS.nil _ _) (by simp) hB hs (by rw [hF]; exact hR) (by rw [hF]; simp; omega) (by rw [hF]; exact hz)
  rw [hF] at HN
  obtain ⟨tn, HTN⟩ : ∃ tn, Hid (adr (h + 1) (up1 t) = tn) := ⟨_, rfl⟩
  have k0' : w.cell? ⟨q, 0, none⟩ = some (.pointer (some ⟨tn, 0, none⟩)) := by rw [← HTN.out]; exact k0
  rw [HTN.out] at HN
  clear hS hs hlo hF hR hz k0
  go_enter Try.func19, Try.ntmps19
  go_wp2_with (first
    | (go_at_call 30; refine (tNone_any p q _ t3).mono ?_; rintro e w1 ⟨rfl, hw1⟩; obtain rfl := hw1.symm)
    | (go_at_call 38; refine Calls.mono HN.out ?_; rintro e w9 ⟨v9, rfl, hs9, hb9⟩; have HS9 : Hid (BT w9 B p q most F (rowS v9 ((spanF sl sh F).map (fun x : It => x.1)) :: R)) := HE.out w9 v9 hs9; have HB9 : Hid (Below B w w9) := hb9; clear hs9 hb9))
  go_ret
  exact ⟨_, rfl, HS9.out, HB9.out⟩
end Go.Proofs.Ytelfjgnmbikofaa
