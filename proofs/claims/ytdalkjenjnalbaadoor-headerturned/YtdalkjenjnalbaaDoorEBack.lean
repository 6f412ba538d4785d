/-
  A chain that was laid down is read again; with a byte that is another one it is not. No conditions.
  The laws' own small and file: blocks that lie in a file. Conditions: lengths are such as memory bears.
  What was laid into a file is loaded again; with a byte that is another one it is refused: the facts. No conditions.
-/
import Derived.Test.YtdalkjenjnalbaaDoorELoad6
import Derived.Test.YtdalkjenjnalbaaDoorToldAny
import Derived.Deep.QuietTactic
import Derived.BigQuiet
namespace Go.Proofs.YtdalkjenjnalbaaDoor
open Go.RowKit
set_option linter.unusedVariables false
set_option maxRecDepth 100000

theorem narrow_of {x : Ext} (h : Wd x) : narrowB x = false := by
  have h1 := h.1
  have h2 := h.2.1
  have h3 := h.2.2
  have hg : goodB [x] 4194304 = true := by
    rw [goodB_iff]
    refine ⟨⟨by decide, by decide⟩, by simp, ?_⟩
    unfold goodFrom
    simp [goodFrom]
    omega
  unfold narrowB
  rw [hg]
  simp
  omega
theorem rmX_of {x : Ext} (h : Wd x) : rmX x + 16 = x.2.toNat ∧ 1 ≤ rmX x := by
  have h2 := h.2.1
  unfold rmX
  omega
theorem sum_snoc (l : List Ext) (x : Ext) : ((l ++ [x]).map (·.2)).sum = (l.map (·.2)).sum + x.2 := by rw [List.map_append, List.sum_append]; simp
theorem wd_ne {x : Ext} (h : Wd x) : x ≠ (0, 0) := fun e => by
  have := h.2.1
  rw [e] at this
  simp at this
/-- The block of an extent, read. -/
theorem blkD_head {x : Ext} {r : List Ext} {s : List Int} (hx : Wd x) (hr : ∀ y ∈ r, Wd y) (hs : s ≠ []) (hl : s.length ≤ rmX x + roomOf r) :
    blkD (blkL (s.take (rmX x)) (if s.drop (rmX x) = [] then (0, 0) else r.headD (0, 0)) x.2.toNat) = some (s.take (rmX x), if s.drop (rmX x) = [] then (0, 0) else r.headD (0, 0)) := by
  obtain ⟨g1, g2⟩ := rmX_of hx
  have hx3 := hx.2.2
  have hx1 := hx.1
  have hsl : 0 < s.length := List.length_pos_iff.2 hs
  have hnx : (if s.drop (rmX x) = [] then ((0, 0) : Ext) else r.headD (0, 0)) = (0, 0) ∨ (s.drop (rmX x) ≠ [] ∧ Wd (if s.drop (rmX x) = [] then ((0, 0) : Ext) else r.headD (0, 0))) := by
    by_cases h : s.drop (rmX x) = []
    · rw [if_pos h]; exact .inl rfl
    · rw [if_neg h]
      cases r with
      | nil => exact .inl rfl
      | cons y r => exact .inr ⟨h, hr y List.mem_cons_self⟩
  generalize (if s.drop (rmX x) = [] then ((0, 0) : Ext) else r.headD (0, 0)) = nx at *
  have hnb : (0 ≤ nx.1 ∧ nx.1 < 4294967296) ∧ (0 ≤ nx.2 ∧ nx.2 < 4294967296) := by
    rcases hnx with h | ⟨_, h⟩
    · rw [h]; decide
    · have k1 := h.1
      have k2 := h.2.1
      have k3 := h.2.2
      omega
  refine blkD_blkL (by rw [List.length_take]; omega) (by rw [List.length_take]; omega) (by omega) hnb.1 hnb.2 (fun h => ?_)
  rcases hnx with e | ⟨h1, h2⟩
  · exact absurd e h
  · have : rmX x < s.length := by
      cases Nat.lt_or_ge (rmX x) s.length with
      | inl h => exact h
      | inr h => exact absurd (List.drop_eq_nil_of_le h) h1
    exact ⟨by rw [List.length_take]; omega, narrow_of h2⟩
theorem chain_back (F : List Int) (Lf : Nat) : ∀ (r : List Ext) (s : List Int) (used : List Ext) (tot : Int) (all : List Int) (k : Nat), s ≠ [] → s.length ≤ roomOf r → (∀ x ∈ r, Wd x) → meetsB (used ++ r) = false → (∀ y ∈ used, Wd y ∧ y.1 + y.2 ≤ (Lf : Int)) → tot = (used.map (·.2)).sum →
    (∀ (j : Nat) (x : Ext) (b : Int × List Int), r[j]? = some x → (blksM r s)[j]? = some b → slc F x = b.2 ∧ x.1 + x.2 ≤ (Lf : Int)) → ((Lf : Int) - tot).toNat < k →
    prM F Lf k used tot all (r.headD (0, 0)) = (0, all ++ s, used ++ r.take (blksM r s).length)
  | [], s, used, tot, all, k, hs, hl, _, _, _, _, _, _ => by
    simp [roomOf] at hl
    exact absurd hl hs
  | x :: r, s, used, tot, all, 0, hs, hl, _, _, _, _, _, hk => by omega
  | x :: r, s, used, tot, all, k + 1, hs, hl, hw, hm, hu, ht, hf, hk => by
    have hx := hw x List.mem_cons_self
    have hr : ∀ y ∈ r, Wd y := fun y hy => hw y (List.mem_cons_of_mem _ hy)
    have hro : roomOf (x :: r) = rmX x + roomOf r := by simp [roomOf]
    rw [hro] at hl
    have hb := blksM_cons (x := x) (r := r) hs
    have hd := blkD_head hx hr hs hl
    obtain ⟨f1, f2⟩ := hf 0 x _ rfl (by rw [hb]; rfl)
    dsimp only at f1
    rw [← f1] at hd
    have hmx : meetsB (used ++ [x]) = false := by
      cases h9 : meetsB (used ++ [x]) with
      | false => rfl
      | true =>
        have := meetsB_more (m := r) h9
        rw [List.append_assoc] at this
        simp only [List.singleton_append] at this
        rw [hm] at this
        cases this
    have hall : ∀ y ∈ used ++ [x], Wd y ∧ y.1 + y.2 ≤ (Lf : Int) := fun y hy => (List.mem_append.1 hy).elim (hu y) (fun h => by rw [List.mem_singleton.1 h]; exact ⟨hx, f2⟩)
    have hfit := total_fit (N := (Lf : Int)) (fun y hy => (hall y hy).1) (fun y hy => (hall y hy).2) (by omega) hmx
    rw [sum_snoc, ← ht] at hfit
    have hx2 := hx.2.1
    rw [List.headD_cons]
    simp only [prM]
    rw [if_neg (by omega), if_neg (by omega), hd]
    simp only
    by_cases hdr : s.drop (rmX x) = []
    · rw [if_pos hdr, if_pos rfl, hmx]
      rw [if_pos hdr] at hb
      have hst : s.take (rmX x) = s := by
        have := List.take_append_drop (rmX x) s
        rw [hdr, List.append_nil] at this
        exact this
      rw [hb, hdr, blksM_nil, hst]
      simp
    · rw [if_neg hdr] at hb ⊢
      cases r with
      | nil =>
        simp [roomOf] at hl
        exact absurd (List.drop_eq_nil_of_le (by omega)) hdr
      | cons y r =>
        have hy := hr y List.mem_cons_self
        rw [List.headD_cons] at hb ⊢
        rw [if_neg (wd_ne hy)]
        have hrec := chain_back F Lf (y :: r) (s.drop (rmX x)) (used ++ [x]) (tot + x.2) (all ++ s.take (rmX x)) k hdr (by rw [List.length_drop]; omega) hr (by rw [List.append_assoc]; exact hm) hall (by rw [sum_snoc, ht]) (fun j z b hz hb' => hf (j + 1) z b hz (by rw [hb]; exact hb')) (by omega)
        rw [List.headD_cons] at hrec
        rw [hrec, hb, List.append_assoc, List.take_append_drop, List.append_assoc]
        simp
theorem chain_turn (F : List Int) (Lf : Nat) : ∀ (r : List Ext) (s : List Int) (used : List Ext) (tot : Int) (all : List Int) (k jj : Nat), s ≠ [] → s.length ≤ roomOf r → (∀ x ∈ r, Wd x) → meetsB (used ++ r) = false → (∀ y ∈ used, Wd y ∧ y.1 + y.2 ≤ (Lf : Int)) → tot = (used.map (·.2)).sum → jj < (blksM r s).length →
    (∀ (j : Nat) (x : Ext) (b : Int × List Int), r[j]? = some x → (blksM r s)[j]? = some b → (j ≠ jj → slc F x = b.2) ∧ (j = jj → unErr (slc F x) ≠ 0) ∧ x.1 + x.2 ≤ (Lf : Int)) → ((Lf : Int) - tot).toNat < k →
    prM F Lf k used tot all (r.headD (0, 0)) = (5, [], [])
  | [], s, used, tot, all, k, jj, hs, hl, _, _, _, _, hj, _, _ => by simp [blksM] at hj
  | x :: r, s, used, tot, all, 0, jj, hs, hl, _, _, _, _, _, _, hk => by omega
  | x :: r, s, used, tot, all, k + 1, jj, hs, hl, hw, hm, hu, ht, hj, hf, hk => by
    have hx := hw x List.mem_cons_self
    have hr : ∀ y ∈ r, Wd y := fun y hy => hw y (List.mem_cons_of_mem _ hy)
    have hro : roomOf (x :: r) = rmX x + roomOf r := by simp [roomOf]
    rw [hro] at hl
    have hb := blksM_cons (x := x) (r := r) hs
    have hd := blkD_head hx hr hs hl
    obtain ⟨f1, f3, f2⟩ := hf 0 x _ rfl (by rw [hb]; rfl)
    have hmx : meetsB (used ++ [x]) = false := by
      cases h9 : meetsB (used ++ [x]) with
      | false => rfl
      | true =>
        have := meetsB_more (m := r) h9
        rw [List.append_assoc] at this
        simp only [List.singleton_append] at this
        rw [hm] at this
        cases this
    have hall : ∀ y ∈ used ++ [x], Wd y ∧ y.1 + y.2 ≤ (Lf : Int) := fun y hy => (List.mem_append.1 hy).elim (hu y) (fun h => by rw [List.mem_singleton.1 h]; exact ⟨hx, f2⟩)
    have hfit := total_fit (N := (Lf : Int)) (fun y hy => (hall y hy).1) (fun y hy => (hall y hy).2) (by omega) hmx
    rw [sum_snoc, ← ht] at hfit
    have hx2 := hx.2.1
    rw [List.headD_cons]
    simp only [prM]
    rw [if_neg (by omega), if_neg (by omega)]
    cases jj with
    | zero =>
      have hn : blkD (slc F x) = none := by unfold blkD; rw [if_pos (f3 rfl)]
      rw [hn]
    | succ jj =>
      have f1' := f1 (by omega)
      dsimp only at f1'
      rw [f1', hd]
      simp only
      by_cases hdr : s.drop (rmX x) = []
      · rw [hb, hdr, blksM_nil] at hj
        simp at hj
      · rw [if_neg hdr] at hb ⊢
        cases r with
        | nil =>
          simp [roomOf] at hl
          exact absurd (List.drop_eq_nil_of_le (by omega)) hdr
        | cons y r =>
          have hy := hr y List.mem_cons_self
          rw [List.headD_cons] at hb ⊢
          rw [if_neg (wd_ne hy)]
          have hrec := chain_turn F Lf (y :: r) (s.drop (rmX x)) (used ++ [x]) (tot + x.2) (all ++ s.take (rmX x)) k jj hdr (by rw [List.length_drop]; omega) hr (by rw [List.append_assoc]; exact hm) hall (by rw [sum_snoc, ht]) (by rw [hb] at hj; simpa using hj) (fun j z b hz hb' => by
            have := hf (j + 1) z b hz (by rw [hb]; exact hb')
            exact ⟨fun h => this.1 (by omega), fun h => this.2.1 (by omega), this.2.2⟩) (by omega)
          rw [List.headD_cons] at hrec
          exact hrec
/-- The messages of a stream that was laid down. -/
theorem pm_strm : ∀ (l : List Msg) (pre s : List Int), s = pre ++ l.flatMap msgL → (∀ m ∈ l, m.2.2.length ≤ 65536 ∧ kdB m.1 = false) → pmM kdB s l.length (pre.length : Int) = some (l.map plM, (s.length : Int))
  | [], pre, s, hs, _ => by simp [pmM, hs]
  | m :: l, pre, s, hs, hm => by
    obtain ⟨h1, h2⟩ := hm m List.mem_cons_self
    have hk : 1 ≤ m.1 ∧ m.1 ≤ 255 := by unfold kdB at h2; simp at h2; exact h2
    have e1 : s = pre ++ (d4 m.1 ++ ((d4 m.2.2.length ++ m.2.2) ++ l.flatMap msgL)) := by rw [hs]; simp [msgL]
    have e2 : s = (pre ++ d4 m.1) ++ (d4 m.2.2.length ++ (m.2.2 ++ l.flatMap msgL)) := by rw [hs]; simp [msgL]
    have e3 : s = ((pre ++ d4 m.1) ++ d4 m.2.2.length) ++ (m.2.2 ++ l.flatMap msgL) := by rw [hs]; simp [msgL]
    have e4 : s = (pre ++ msgL m) ++ l.flatMap msgL := by rw [hs]; simp
    have n2 : (pre ++ d4 m.1).length = pre.length + 4 := by rw [List.length_append, d4_length]
    have n3 : ((pre ++ d4 m.1) ++ d4 (m.2.2.length : Int)).length = pre.length + 4 + 4 := by rw [List.length_append, n2, d4_length]
    have n4 : (pre ++ msgL m).length = pre.length + 8 + m.2.2.length := by rw [List.length_append, msgL_length]; omega
    have hlen : s.length = pre.length + 8 + m.2.2.length + (l.flatMap msgL).length := by rw [e4, List.length_append, n4]
    have ge : ∀ q : Nat, q + 4 ≤ s.length → getErr s.length (q : Int) 4 = 0 ∧ getNum s (q : Int) 4 true = at4 s q := fun q hq => by
      have h1 : getErr s.length (q : Int) 4 = 0 := by
        rcases getErr_cases s.length (q : Int) 4 with ⟨h, _, h2⟩ | ⟨_, _, _, _, h2, h⟩ | ⟨_, _, _, _, h⟩
        · omega
        · omega
        · exact h
      refine ⟨h1, ?_⟩
      unfold getNum at4
      rw [if_pos h1]
      rfl
    obtain ⟨a1, a2⟩ := ge pre.length (by omega)
    obtain ⟨b1, b2⟩ := ge (pre.length + 4) (by omega)
    have a3 : at4 s pre.length = m.1 := by
      have := at4_app pre (d4 m.1) ((d4 m.2.2.length ++ m.2.2) ++ l.flatMap msgL) (d4_length _)
      rw [← e1] at this
      rw [this]
      exact four_back (by omega) (by omega)
    have b3 : at4 s (pre.length + 4) = m.2.2.length := by
      have := at4_app (pre ++ d4 m.1) (d4 m.2.2.length) (m.2.2 ++ l.flatMap msgL) (d4_length _)
      rw [← e2, n2] at this
      rw [this]
      exact four_back (by omega) (by omega)
    rw [a3] at a2
    rw [b3] at b2
    have hp4 : ((pre.length : Int) + 4) = ((pre.length + 4 : Nat) : Int) := by omega
    have g1 : gbErr s ((pre.length : Int) + 4) = 0 := by
      unfold gbErr
      rw [hp4, if_pos b1, b2, if_neg (by omega), if_neg (by omega)]
    have g2 : gbList s ((pre.length : Int) + 4) = m.2.2 := by
      unfold gbList
      rw [if_pos g1, hp4, b2, Int.toNat_natCast, Int.toNat_natCast]
      have h9 : s.drop (pre.length + 4 + 4) = m.2.2 ++ l.flatMap msgL := by
        conv => lhs; rw [e3]
        rw [← n3, List.drop_left]
      rw [h9, List.take_left]
    have g3 : gbNext s ((pre.length : Int) + 4) = ((pre ++ msgL m).length : Int) := by
      unfold gbNext
      rw [if_pos g1, hp4, b2, n4]
      omega
    have ih := pm_strm l (pre ++ msgL m) s e4 (fun q hq => hm q (List.mem_cons_of_mem _ hq))
    rw [List.length_cons]
    simp only [pmM]
    rw [a1, g1, a2, h2, if_neg (by simp), g3, ih, g2]
    rfl
theorem ms_strm {l : List Msg} (h : szErr l = 0) : msM (strm l) = some (l.map plM) := by
  obtain ⟨h1, h2, h3⟩ := szErr_zero h
  have hm : ∀ m ∈ l, m.2.2.length ≤ 65536 ∧ kdB m.1 = false := fun m hm => by
    have k1 := (List.any_eq_false.1 h2) m hm
    have k2 := (List.any_eq_false.1 h3) m hm
    unfold longB at k1
    unfold kindB at k2
    unfold kdB
    refine ⟨by simp at k1; omega, by simpa using k2⟩
  have hs := strm_len l
  have hl4 : 4 ≤ (strm l).length := by unfold strm; rw [List.length_append, d4_length]; omega
  have he : getErr (strm l).length 0 4 = 0 := by
    rcases getErr_cases (strm l).length 0 4 with ⟨h, _, h2⟩ | ⟨_, _, _, _, h2, h⟩ | ⟨_, _, _, _, h⟩
    · omega
    · omega
    · exact h
  have hn : getNum (strm l) 0 4 true = l.length := by
    unfold getNum
    rw [if_pos he]
    have := at4_app [] (d4 l.length) (l.flatMap msgL) (d4_length _)
    have h9 : at4 (strm l) 0 = val true (d4 l.length) := this
    unfold at4 at h9
    show val true (((strm l).drop 0).take 4) = _
    rw [h9]
    exact four_back (by omega) (by omega)
  have hp := pm_strm l (d4 l.length) (strm l) rfl hm
  rw [d4_length] at hp
  unfold msM
  rw [he, hn, if_neg (by simp; omega), Int.toNat_natCast]
  have h4 : ((4 : Nat) : Int) = 4 := rfl
  rw [h4] at hp
  rw [hp]
  simp
end Go.Proofs.YtdalkjenjnalbaaDoor

namespace Go.Proofs.YtdalkjenjnalbaaDoor
open Go.RowKit
set_option linter.unusedVariables false
set_option maxRecDepth 100000

def smB (m : Msg) : Bool := decide (0 ≤ m.1 ∧ m.1 ≤ 100000 ∧ 17 ≤ m.2.2.length)
theorem small_any (w : World) (v : Value) (L : List Msg) (hM : Ms w v L) (hn : L.length ≤ 140737488351232) (hm : ∀ m ∈ L, 0 ≤ m.1 ∧ 17 ≤ m.2.2.length) (h0 : 0 < L.length) :
    Calls Tryd.prog 23 #[v] w fun e w' => e = .returned (.bool (L.all smB)) ∧ w' = w := by
  obtain ⟨ao, cap, rfl, hcap, hc⟩ := hM
  have HC : Hid _ := hc
  have HM : Hid _ := hm
  obtain ⟨n, HN⟩ : ∃ n, Hid (L.length = n) := ⟨_, rfl⟩
  obtain ⟨q, HQ⟩ : ∃ q, Hid (L.all smB = q) := ⟨_, rfl⟩
  rw [HN.out] at hcap hn h0 ⊢
  rw [HQ.out]
  clear hc hm
  go_enter Tryd.func23, Tryd.ntmps23
  go_wp2_with fail
  go_loopw [3] (fun x wr => ∃ i : Nat, i ≤ n ∧ x = .int .i64 (i : Int) ∧ Hid (∀ (j : Nat) (m : Msg), j < i → L[j]? = some m → smB m = true) ∧ Hid (wr = w)) (fun x _ => n - (intOf x).toNat)
  case atStart => exact ⟨0, Nat.zero_le _, rfl, fun j m hj => by omega, rfl⟩
  case round =>
    obtain ⟨i, hi, rfl, HP, hwr⟩ := hrel
    obtain rfl := hwr.out
    clear hwr
    by_cases hlt : i < n
    · obtain ⟨m, hm⟩ : ∃ m, L[i]? = some m := ⟨L[i]'(by rw [HN.out]; exact hlt), List.getElem?_eq_getElem _⟩
      obtain ⟨hbs, g, o, rfl, c1, c2⟩ := HC.out i m hm
      obtain ⟨hm1, hm2⟩ := HM.out m (List.mem_of_getElem? hm)
      obtain ⟨aob, capb, hvb, _⟩ := hbs
      rw [hvb] at c2
      obtain ⟨ml, HML⟩ : ∃ ml, Hid (m.2.2.length = ml) := ⟨_, rfl⟩
      rw [HML.out] at c2 hm2
      have hili : (i : Int) < (n : Int) := by omega
      have hm1' : ¬ m.1 < 0 := by omega
      have hm2' : ¬ (ml : Int) < 17 := by omega
      by_cases hb : (100000 : Int) < m.1
      · have e1 : q = false := by
          rw [← HQ.out, List.all_eq_false]
          exact ⟨m, List.mem_of_getElem? hm, by unfold smB; simp; omega⟩
        subst e1
        clear hvb hm
        go_wp2_with fail
        go_ret
        exact ⟨rfl, rfl⟩
      · have HP2 : Hid (∀ (j : Nat) (m : Msg), j < i + 1 → L[j]? = some m → smB m = true) := fun j m' hj hm' => by
          by_cases e : j = i
          · subst e
            rw [hm] at hm'
            obtain rfl := Option.some.inj hm'
            unfold smB
            rw [HML.out]
            simp
            omega
          · exact HP.out j m' (by omega) hm'
        clear hvb hm
        go_wp2_with fail
        go_roundw
        case rel => exact ⟨i + 1, by omega, by go_num, HP2.out, by first | rfl | trivial⟩
        case measure => simp [intOf]; omega
    · have e1 : q = true := by
        rw [← HQ.out, List.all_eq_true]
        intro m hm
        obtain ⟨j, hj⟩ := List.getElem?_of_mem hm
        exact HP.out j m (by have := (List.getElem?_eq_some_iff.1 hj).1; rw [HN.out] at this; omega) hj
      subst e1
      have hili : ¬ (i : Int) < (n : Int) := by omega
      have h0i : (0 : Int) < (n : Int) := by omega
      go_wp2_with fail
      go_ret
      exact ⟨rfl, rfl⟩
/-- Blocks lie apart. -/
def Apt (L : List Msg) : Prop := ∀ (i j : Nat) (a b : Msg), i < j → L[i]? = some a → L[j]? = some b → a.1 + a.2.2.length ≤ b.1 ∨ b.1 + b.2.2.length ≤ a.1
/-- The first i blocks lie in the bytes. -/
def Lies (L : List Msg) (i : Nat) (c : List Int) : Prop := ∀ (j : Nat) (m : Msg), j < i → L[j]? = some m → slc c (m.1, m.2.2.length) = m.2.2
def layB (c : List Int) (o : Nat) (x : List Int) : List Int := c.take o ++ x ++ c.drop (o + x.length)
theorem layB_length {c x : List Int} {o : Nat} (h : o + x.length ≤ c.length) : (layB c o x).length = c.length := by unfold layB; simp; omega
theorem layB_at (c x : List Int) (o : Nat) (h : o + x.length ≤ c.length) : ((layB c o x).drop o).take x.length = x := by
  unfold layB
  have h1 : (c.take o).length = o := by rw [List.length_take]; omega
  rw [List.append_assoc]
  conv => lhs; rw [← h1]
  rw [h1, List.drop_append, List.drop_of_length_le (by omega), h1, Nat.sub_self, List.drop_zero, List.nil_append, List.take_left]
theorem layB_other (c x : List Int) (o p n : Nat) (h : o + x.length ≤ c.length) (hd : p + n ≤ o ∨ o + x.length ≤ p) : ((layB c o x).drop p).take n = (c.drop p).take n := by
  apply List.ext_getElem?
  intro k
  by_cases hk : k < n
  · rw [List.getElem?_take, List.getElem?_take, if_pos hk, if_pos hk, List.getElem?_drop, List.getElem?_drop]
    unfold layB
    have h1 : (c.take o).length = o := by rw [List.length_take]; omega
    rcases hd with hd | hd
    · rw [List.append_assoc, List.getElem?_append_left (by omega), List.getElem?_take, if_pos (by omega)]
    · rw [List.getElem?_append_right (by rw [List.length_append, h1]; omega), List.length_append, h1, List.getElem?_drop]
      congr 1
      omega
  · rw [List.getElem?_take, List.getElem?_take, if_neg hk, if_neg hk]
theorem Lies.step {L : List Msg} {i : Nat} {c : List Int} {m : Msg} (h : Lies L i c) (hA : Apt L) (hp : ∀ m ∈ L, 0 ≤ m.1) (hm : L[i]? = some m) (hf : m.1.toNat + m.2.2.length ≤ c.length) : Lies L (i + 1) (layB c m.1.toNat m.2.2) := by
  intro j a hj ha
  by_cases e : j = i
  · subst e
    rw [hm] at ha
    obtain rfl := Option.some.inj ha
    unfold slc
    simp only [Int.toNat_natCast]
    exact layB_at c _ _ hf
  · have h1 := h j a (by omega) ha
    unfold slc at h1 ⊢
    simp only [Int.toNat_natCast] at h1 ⊢
    rw [layB_other c _ _ _ _ hf ?_]
    · exact h1
    · have h2 := hA j i a m (by omega) ha hm
      have h3 := hp a (List.mem_of_getElem? ha)
      have h4 := hp m (List.mem_of_getElem? hm)
      omega
theorem layB_byt {c x : List Int} {o : Nat} (h : Byt c) (k : Byt x) : Byt (layB c o x) := byt_join (byt_join (byt_takeE h o) k) (byt_dropE h _)
/-- What file tells. -/
def FlP (w : World) (L : List Msg) (e : Ending) (w' : World) : Prop := ∃ v F, e = .returned v ∧ Own w' w.heap.size v F ∧ Byt F ∧ F.length ≤ 5000000 ∧ (∀ m ∈ L, m.1 + m.2.2.length ≤ (F.length : Int)) ∧ Lies L L.length F ∧ Below w.heap.size w w'
set_option maxHeartbeats 4000000 in
theorem file_any (w : World) (v : Value) (L : List Msg) (hM : Ms w v L) (hn : L.length ≤ 65536) (hm : ∀ m ∈ L, (0 ≤ m.1 ∧ m.1 ≤ 100000) ∧ m.2.2.length ≤ 4194304 ∧ 1 ≤ m.2.2.length ∧ Byt m.2.2) (hA : Apt L) :
    Calls Tryd.prog 24 #[v] w fun e w' => FlP w L e w' := by
  obtain ⟨i0, hi, hz0, hz1, hz2⟩ := info_parts Tryd.info5
  obtain ⟨ao, cap, rfl, hcap, hc⟩ := hM
  have HC : Hid _ := hc
  have HM : Hid _ := hm
  have HA : Hid (Apt L) := hA
  obtain ⟨n, HN⟩ : ∃ n, Hid (L.length = n) := ⟨_, rfl⟩
  rw [HN.out] at hcap hn ⊢
  have HAT : Hid (∀ (i : Nat) (W : World), i < n → Below w.heap.size w W → ∃ (m : Msg) (a : Nat) (g o : Nat) (gb ob capb : Nat), L[i]? = some m ∧ m.1 = (a : Int) ∧ a ≤ 100000 ∧ ao = some ⟨g, o, none⟩ ∧ W.cell? ⟨g, o + i * 2, none⟩ = some (.int .i64 (a : Int)) ∧ W.cell? ⟨g, o + i * 2 + 1, none⟩ = some (.slice (some ⟨gb, ob, none⟩) m.2.2.length capb) ∧ m.2.2.length ≤ 4194304 ∧ 1 ≤ m.2.2.length ∧ gb < w.heap.size ∧ ∀ k, k < m.2.2.length → W.cell? ⟨gb, ob + k, none⟩ = some (.int .u8 (m.2.2.getD k 0))) := by
    intro i W hlt hW
    obtain ⟨m, hm⟩ : ∃ m, L[i]? = some m := ⟨L[i]'(by rw [HN.out]; exact hlt), List.getElem?_eq_getElem _⟩
    obtain ⟨hbs, g, o, hao, c1, c2⟩ := HC.out i m hm
    obtain ⟨⟨h1, h2⟩, h3, h4, _⟩ := HM.out m (List.mem_of_getElem? hm)
    obtain ⟨gb, ob, capb, hv, _, hcell⟩ := hbs.opened (by omega)
    rw [hv] at c2
    have hgb := World.block_lt_of_cell? w _ (hcell 0 (by omega))
    refine ⟨m, m.1.toNat, g, o, gb, ob, capb, hm, by omega, by omega, hao, ?_, ?_, h3, h4, hgb, fun k hk => (hW.cell (World.block_lt_of_cell? w _ (hcell k hk))).trans (hcell k hk)⟩
    · rw [Int.toNat_of_nonneg h1]
      exact (hW.cell (World.block_lt_of_cell? w _ c1)).trans c1
    · exact (hW.cell (World.block_lt_of_cell? w _ c2)).trans c2
  clear hc hm hA
  go_enter Tryd.func24, Tryd.ntmps24
  go_wp2_with fail
  go_loopw [4, 3] (fun x y wr => ∃ (i : Nat) (T : Int), i ≤ n ∧ (0 ≤ T ∧ T ≤ 4294304) ∧ x = .int .i64 (i : Int) ∧ y = .int .i64 T ∧ Hid (∀ (j : Nat) (m : Msg), j < i → L[j]? = some m → m.1 + m.2.2.length ≤ T) ∧ Hid (Below w.heap.size w wr)) (fun x _ _ => n - (intOf x).toNat)
  case atStart => exact ⟨0, 0, Nat.zero_le _, ⟨by omega, by omega⟩, rfl, rfl, fun j m hj => by omega, Below.refl _ _⟩
  case round =>
    obtain ⟨i, T, hin, ⟨hT0, hT1⟩, rfl, rfl, HP, HB⟩ := hrel
    by_cases hlt : i < n
    · obtain ⟨m, a, g, o, gb, ob, capb, hm, ha, ha1, rfl, c1, c2, hl1, hl2, _, _⟩ := HAT.out i wr hlt HB.out
      obtain ⟨ml, HML⟩ : ∃ ml, Hid (m.2.2.length = ml) := ⟨_, rfl⟩
      rw [HML.out] at c2 hl1 hl2
      have hili : (i : Int) < (n : Int) := by omega
      have HP2 : Hid (∀ (j : Nat) (m : Msg), j < i + 1 → L[j]? = some m → m.1 + m.2.2.length ≤ max T ((a : Int) + (ml : Int))) := fun j m' hj hm' => by
        by_cases e : j = i
        · subst e
          rw [hm] at hm'
          obtain rfl := Option.some.inj hm'
          rw [HML.out, ha]
          omega
        · have := HP.out j m' (by omega) hm'
          omega
      have HX : Hid (∀ q, Below w.heap.size w (wr.drewN q)) := fun q => HB.out.trans ⟨rfl, rfl, rfl, Nat.le_refl _, fun _ _ => rfl⟩
      clear hm ha
      go_wp2_with fail
      go_quiet (fail)
      go_wp2_with fail
      go_roundw
      case rel => exact ⟨i + 1, max T ((a : Int) + (ml : Int)), by omega, ⟨by omega, by omega⟩, by go_num, by first | rfl | simp, HP2.out, HX.out _⟩
      case measure => simp [intOf]; omega
    · obtain ⟨N, rfl⟩ := Int.eq_ofNat_of_zero_le hT0
      have hili : ¬ (i : Int) < (n : Int) := by omega
      obtain rfl : i = n := by omega
      have HEND : Hid (∀ m ∈ L, m.1 + m.2.2.length ≤ (N : Int)) := fun m hm => by
        obtain ⟨j, hj⟩ := List.getElem?_of_mem hm
        exact HP.out j m (by have := (List.getElem?_eq_some_iff.1 hj).1; rw [HN.out] at this; exact this) hj
      have hmk0 : ∀ W : World, ∃ w', (Instr.makeSlice 31 (.int .i64 (N : Int)) (.int .i64 (N : Int))).run Tryd.prog W = .ok (.slice (some ⟨W.heap.size, 0, none⟩) N N) w' ∧ Row w' W.heap.size (List.replicate N 0) ∧ W.grownBy w' none := fun W => by
        obtain ⟨w', h, r1, r2⟩ := run_make_full (P := Tryd.prog) W W.heap.size 31 5 i0 (.int .u8 0) 1 Tryd.underlying31 hi hz0 hz1 .i64 .i64 N (by rw [hz2]; omega) (by unfold maxLen; omega) (Nat.le_refl _)
        exact ⟨w', h, row_of_made r1, r2⟩
      obtain ⟨wm, hrun, hrow, hgm⟩ := hmk0 wr
      have HRW : Hid (Row wm wr.heap.size (List.replicate N 0)) := hrow
      have HBm : Hid (Below w.heap.size w wm) := HB.out.trans ((below_of_grown hgm).mono HB.out.size)
      obtain ⟨gr, HGR⟩ : ∃ gr, Hid (wr.heap.size = gr) := ⟨_, rfl⟩
      have hgr : w.heap.size ≤ gr := by rw [← HGR.out]; exact HB.out.size
      rw [HGR.out] at HRW hrun
      clear hmk0 hrow hgm HP hz0 hz1 hz2 hi hT0
      go_wp2_with fail
      generalize wr = wq at *
      go_loopw [6] (fun x wr => ∃ (k : Nat) (c : List Int), k ≤ N ∧ x = .int .i64 (k : Int) ∧ Hid (c.length = N) ∧ Hid (Byt c) ∧ Hid (Row wr gr c) ∧ Hid (Below w.heap.size w wr)) (fun x _ => N - (intOf x).toNat)
      case atStart => exact ⟨0, List.replicate N 0, Nat.zero_le _, rfl, (by unfold Hid; simp), byt_rep N, HRW.out, HBm.out⟩
      case round =>
        obtain ⟨k, c, hkN, rfl, HCL, HCY, HR, HBk⟩ := hrel
        by_cases hk : k < N
        · have d1 := HR.out.cell (i := k) (by rw [HCL.out]; exact hk)
          have z1 := HR.out.free k
          have hki : (k : Int) < (N : Int) := by omega
          have HR2 : Hid (Row (wr.setCell ⟨gr, k, none⟩ (.int .u8 238)) gr (c.set k 238)) := HR.out.set k 238
          have HL2 : Hid ((c.set k 238).length = N) := by unfold Hid; rw [List.length_set]; exact HCL.out
          have HY2 : Hid (Byt (c.set k 238)) := fun i => by
            by_cases e : k = i
            · subst e
              by_cases h9 : k < c.length
              · simp [List.getD, h9]
              · simp [List.getD, h9]
            · have := HCY.out i
              simpa [List.getD, List.getElem?_set_ne e] using this
          have HB2 : Hid (Below w.heap.size w (wr.setCell ⟨gr, k, none⟩ (.int .u8 238))) := HBk.out.setCell hgr _
          go_wp2_with fail
          go_roundw
          case rel => exact ⟨k + 1, c.set k 238, by omega, by go_num, HL2.out, HY2.out, HR2.out, HB2.out⟩
          case measure => simp [intOf]; omega
        · have hki : ¬ (k : Int) < (N : Int) := by omega
          have HL0 : Hid (Lies L 0 c) := fun j m hj => by omega
          go_wp2_with fail
          generalize wr = wp at *
          go_loopw [7] (fun x wr => ∃ (j : Nat) (c : List Int), j ≤ i ∧ x = .int .i64 (j : Int) ∧ Hid (c.length = N) ∧ Hid (Byt c) ∧ Hid (Row wr gr c) ∧ Hid (Lies L j c) ∧ Hid (Below w.heap.size w wr)) (fun x _ => i - (intOf x).toNat)
          case atStart => exact ⟨0, c, Nat.zero_le _, rfl, HCL.out, HCY.out, HR.out, HL0.out, HBk.out⟩
          case round =>
            obtain ⟨j, c, hji, rfl, HCL, HCY, HR, HLI, HBj⟩ := hrel
            by_cases hj : j < i
            · obtain ⟨m, a, g, o, gb, ob, capb, hm, ha, ha1, rfl, c1, c2, hl1, hl2, hgb, hcell⟩ := HAT.out j wr hj HBj.out
              have hend := HEND.out m (List.mem_of_getElem? hm)
              have hbym := (HM.out m (List.mem_of_getElem? hm)).2.2.2
              rw [ha] at hend
              have HLI2 : Hid (Lies L (j + 1) (layB c a m.2.2)) := by
                have := HLI.out.step HA.out (fun m hm => (HM.out m hm).1.1) hm (by rw [ha, Int.toNat_natCast, HCL.out]; omega)
                rwa [ha, Int.toNat_natCast] at this
              have HCL2 : Hid ((layB c a m.2.2).length = N) := by unfold Hid; rw [layB_length (by rw [HCL.out]; omega)]; exact HCL.out
              have HCY2 : Hid (Byt (layB c a m.2.2)) := layB_byt HCY.out hbym
              obtain ⟨w3, hrun3, hrow3, hb3⟩ : ∃ w3, (Builtin.copy_ #[31, 31] 3 #[.slice (some ⟨gr, a, none⟩) (N - a) (N - a), .slice (some ⟨gb, ob, none⟩) m.2.2.length capb]).run Tryd.prog wr.drew = .ok (goInt m.2.2.length) w3 ∧ Row w3 gr (layB c a m.2.2) ∧ Below w.heap.size w w3 := by
                have hmin : Nat.min m.2.2.length (N - a) = m.2.2.length := Nat.min_eq_left (by omega)
                have hg9 : wr.drew.heap[gr]? = some (.cells (bcells c).toArray 5 (0, 0)) := HR.out
                have h9 := run_copy_G (P := Tryd.prog) wr.drew 31 31 3 5 1 gr a (N - a) (N - a) ⟨gb, ob, none⟩ m.2.2.length capb (bcells c).toArray 5 (bcells m.2.2) Tryd.underlying31 Tryd.size5 hg9 (by rw [hmin, bcells_length, Nat.mul_one]) (fun q u hq => by
                  obtain ⟨hq', rfl⟩ := bcells_get hq
                  rw [addG]
                  exact hcell q hq') (by rw [bcells_length]; simp [bcells_length, HCL.out]; omega) (bcells_one _)
                rw [hmin] at h9
                refine ⟨_, h9, ?_, ?_⟩
                · have h8 := setRow_heap wr.drew gr (bcells c).toArray ((bcells c).toArray.toList.take a ++ bcells m.2.2 ++ (bcells c).toArray.toList.drop (a + (bcells m.2.2).length)).toArray _ _ hg9
                  unfold Row
                  rw [h8]
                  congr 2
                  simp [layB, bcells, List.map_take, List.map_drop]
                · exact HBj.out.trans ⟨rfl, rfl, rfl, by simp [World.setRow], fun x hx => setRow_other wr.drew gr x _ (fun e => by omega)⟩
              have HR3 : Hid (Row w3 gr (layB c a m.2.2)) := hrow3
              have HB3 : Hid (Below w.heap.size w w3) := hb3
              obtain ⟨ml, HML⟩ : ∃ ml, Hid (m.2.2.length = ml) := ⟨_, rfl⟩
              rw [HML.out] at c2 hl1 hl2 hrun3 hend
              have hji2 : (j : Int) < (i : Int) := by omega
              have haN : a ≤ N := by omega
              have haN2 : ¬ N = a := by omega
              clear hrow3 hb3 hcell hm ha hbym
              go_wp2_with fail
              go_region
              all_goals
                go_wp2_with fail
                go_roundw
                case rel => exact ⟨j + 1, layB c a m.2.2, by omega, by go_num, HCL2.out, HCY2.out, HR3.out, HLI2.out, HB3.out⟩
                case measure => simp [intOf]; omega
            · obtain rfl : j = i := by omega
              have hji2 : ¬ (j : Int) < (j : Int) := by omega
              have HOW : Hid (Own wr w.heap.size (.slice (some ⟨gr, 0, none⟩) N N) c) := by
                have h9 := HR.out.own hgr (by rw [HCL.out]; unfold maxLen; omega)
                rw [HCL.out] at h9
                exact h9
              go_wp2_with fail
              go_ret
              exact ⟨_, c, rfl, HOW.out, HCY.out, by rw [HCL.out]; omega, by rw [HCL.out]; exact HEND.out, by rw [HN.out]; exact HLI.out, HBj.out⟩
end Go.Proofs.YtdalkjenjnalbaaDoor

namespace Go.Proofs.YtdalkjenjnalbaaDoor
open Go.RowKit
set_option linter.unusedVariables false
set_option maxRecDepth 100000

theorem lay_apart {l : List Msg} {r : List Ext} (h : layErr l r = 0) : meetsB r = false := by
  unfold layErr at h
  split at h
  · rename_i h1; exact absurd h h1
  · split at h
    · omega
    · split at h
      · omega
      · split at h
        · omega
        · rename_i h4
          simpa using h4
theorem strm_ne (l : List Msg) : strm l ≠ [] := fun e => by
  have : (strm l).length = 0 := by rw [e]; rfl
  unfold strm at this
  rw [List.length_append, d4_length] at this
  omega
theorem blks_pos {r : List Ext} {s : List Int} (hs : s ≠ []) (hl : s.length ≤ roomOf r) : 0 < (blksM r s).length := by
  cases r with
  | nil =>
    simp [roomOf] at hl
    exact absurd hl hs
  | cons x r => rw [blksM_cons hs]; simp
/-- Of each block: its extent. -/
theorem blk_ext {r : List Ext} {s : List Int} {Lx : List Blk} (hw : ∀ x ∈ r, Wd x) (hp : Lx.map plB = blksM r s) {j : Nat} {m : Blk} (hm : Lx[j]? = some m) : ∃ x, r[j]? = some x ∧ m.1 = x.1 ∧ (m.2.2.length : Int) = x.2 ∧ Wd x := by
  obtain ⟨x, h1, h2, h3, _⟩ := blks_at r s hw j (plB m) (by rw [← hp, List.getElem?_map, hm]; rfl)
  have hx := hw x (List.mem_of_getElem? h1)
  refine ⟨x, h1, h2, ?_, hx⟩
  have h4 : m.2.2.length = x.2.toNat := h3
  have := hx.2.1
  omega
theorem blk_apt {r : List Ext} {s : List Int} {Lx : List Blk} (hw : ∀ x ∈ r, Wd x) (hp : Lx.map plB = blksM r s) (hme : meetsB r = false) : Apt Lx := by
  intro i j a b hij ha hb
  obtain ⟨x, x1, x2, x3, x4⟩ := blk_ext hw hp ha
  obtain ⟨y, y1, y2, y3, y4⟩ := blk_ext hw hp hb
  rw [meetsB_false, List.pairwise_iff_getElem] at hme
  obtain ⟨hi, ei⟩ := List.getElem?_eq_some_iff.1 x1
  obtain ⟨hj, ej⟩ := List.getElem?_eq_some_iff.1 y1
  have h9 := hme i j hi hj hij
  rw [ei, ej] at h9
  have m1 : mayB x = true := mayB_iff.2 ⟨x4.1, by have := x4.2.1; omega, x4.2.2⟩
  have m2 : mayB y = true := mayB_iff.2 ⟨y4.1, by have := y4.2.1; omega, y4.2.2⟩
  unfold bothB at h9
  rw [m1, m2] at h9
  simp only [Bool.true_and] at h9
  rw [comB_false] at h9
  have k1 := x4.2.1
  have k2 := y4.2.1
  rw [x2, y2, x3, y3]
  omega
theorem blk_small {r : List Ext} {s : List Int} {Lx : List Blk} (hw : ∀ x ∈ r, Wd x) (hp : Lx.map plB = blksM r s) : ∀ m ∈ Lx, 0 ≤ m.1 ∧ 17 ≤ m.2.2.length ∧ m.2.2.length ≤ 4194304 := fun m hm => by
  obtain ⟨j, hj⟩ := List.getElem?_of_mem hm
  obtain ⟨x, x1, x2, x3, x4⟩ := blk_ext hw hp hj
  have k1 := x4.1
  have k2 := x4.2.1
  have k3 := x4.2.2
  omega
theorem blk_byt : ∀ (r : List Ext) (s : List Int), Byt s → ∀ b ∈ blksM r s, Byt b.2
  | [], s, _, b, hb => by simp [blksM] at hb
  | x :: r, s, hs, b, hb => by
    by_cases h : s = []
    · rw [h, blksM_nil] at hb
      cases hb
    · rw [blksM_cons h] at hb
      rcases List.mem_cons.1 hb with rfl | hb
      · exact byt_join (blkP_byt (byt_takeE hs _)) (byt_dig2 false _ 4)
      · exact blk_byt r _ (byt_dropE hs _) b hb
theorem ldM_of {b : List Int} {x : Ext} (Lf : Nat) (h : Lf = min b.length 4194304) (hx : narrowB x = false) (re : Int) (rs : List Int) (ru : List Ext) (hr : prM b Lf (Lf + 1) [] 0 [] x = (re, rs, ru)) : ldM b x = if re ≠ 0 then (re, [], []) else match msM rs with | none => (5, [], []) | some l => (0, l, ru) := by
  unfold ldM
  rw [← h, hx, hr]
  rfl
theorem back_facts {l : List Msg} {r : List Ext} {Lx : List Blk} {F : List Int} (h0 : layErr l r = 0) (hs : szErr l = 0) (hw : ∀ x ∈ r, Wd x) (hl : (strm l).length ≤ roomOf r) (hp : Lx.map plB = blksM r (strm l)) (hF : Lies Lx Lx.length F) (hE : ∀ m ∈ Lx, m.1 + m.2.2.length ≤ (F.length : Int)) :
    ldM F (r.headD (0, 0)) = (0, l.map plM, r.take Lx.length) := by
  have hne := strm_ne l
  have hlen : Lx.length = (blksM r (strm l)).length := by rw [← hp, List.length_map]
  have hpos := blks_pos hne hl
  obtain ⟨x, r', rfl⟩ : ∃ x r', r = x :: r' := by
    cases r with
    | nil => simp [blksM] at hpos
    | cons x r' => exact ⟨x, r', rfl⟩
  have hx := hw x List.mem_cons_self
  obtain ⟨Lf, hLf⟩ : ∃ Lf, Lf = min F.length 4194304 := ⟨_, rfl⟩
  have hch := chain_back F Lf (x :: r') (strm l) [] 0 [] (Lf + 1) hne hl hw (by simpa using lay_apart h0) (fun y hy => by cases hy) rfl (fun j z b hz hb => by
    obtain ⟨m, hm, hmb⟩ : ∃ m, Lx[j]? = some m ∧ plB m = b := by
      rw [← hp, List.getElem?_map] at hb
      cases hq : Lx[j]? with
      | none => rw [hq] at hb; cases hb
      | some m => rw [hq] at hb; exact ⟨m, rfl, Option.some.inj hb⟩
    obtain ⟨z', z1, z2, z3, z4⟩ := blk_ext hw hp hm
    rw [hz] at z1
    obtain rfl := Option.some.inj z1
    have e := hF j m (by rw [hlen, ← hlen]; exact (List.getElem?_eq_some_iff.1 hm).1) hm
    have ee := hE m (List.mem_of_getElem? hm)
    have hz' : (m.1, (m.2.2.length : Int)) = z := by rw [z2, z3]
    rw [hz'] at e
    refine ⟨by rw [e, ← hmb]; rfl, ?_⟩
    have k3 := z4.2.2
    rw [z2, z3] at ee
    omega) (by omega)
  simp only [List.nil_append] at hch
  rw [List.headD_cons] at hch ⊢
  rw [ldM_of Lf hLf (narrow_of hx) _ _ _ hch, ms_strm hs, hlen]
  rfl
end Go.Proofs.YtdalkjenjnalbaaDoor
