/-
  The walk of the law's filled. Conditions: at most 100 things are handed in.
-/
import Derived.Test.YtpkbdpbggmiolaaDoorHLives
namespace Go.Proofs.YtpkbdpbggmiolaaDoor
open Go.RowKit Go.Maps
set_option linter.unusedVariables false
set_option maxRecDepth 100000

/-- Lists of bytes, read off a slice of slices. -/
def Rws (W : World) (v : Value) (ls : List (List Int)) : Prop := ∃ ao cap, v = .slice ao ls.length cap ∧ ls.length ≤ cap ∧ ∀ r, r < ls.length → ∃ b off u, ao = some ⟨b, off, none⟩ ∧ W.cell? ⟨b, off + r, none⟩ = some u ∧ Bs W u (ls.getD r []) ∧ Byt (ls.getD r [])
def okL (ls : List (List Int)) : List (List Int) := ls.filter (fun b => decide (b.length ≤ 65536))
theorem okL_snoc (l : List (List Int)) (b : List Int) : okL (l ++ [b]) = if b.length ≤ 65536 then okL l ++ [b] else okL l := by
  unfold okL
  rw [List.filter_append]
  split
  · rename_i h; simp [h]
  · rename_i h; simp [h]
theorem okL_len (l : List (List Int)) : (okL l).length ≤ l.length := List.length_filter_le _ _
theorem take_snoc {α : Type} [Inhabited α] (l : List α) (k : Nat) (h : k < l.length) (d : α) : l.take (k + 1) = l.take k ++ [l.getD k d] := by
  rw [List.take_succ_eq_append_getElem h]
  simp [List.getD, h]
def tbl (L : List (List Int)) : Int → Option (List Int) := fun i => if 0 ≤ i then L[i.toNat]? else none
theorem tbl_nat (L : List (List Int)) (k : Nat) : tbl L (k : Int) = L[k]? := by simp [tbl]
theorem tbl_put (L : List (List Int)) (b : List Int) : putT (tbl L) (L.length : Nat) (some b) = tbl (L ++ [b]) := by
  funext i
  unfold putT
  by_cases h : i = (L.length : Nat)
  · subst h; rw [if_pos rfl, tbl_nat]; simp
  · rw [if_neg h]
    unfold tbl
    by_cases h0 : 0 ≤ i
    · rw [if_pos h0, if_pos h0]
      rcases Nat.lt_or_ge i.toNat L.length with h1 | h1
      · rw [List.getElem?_append_left h1]
      · rw [List.getElem?_eq_none h1, List.getElem?_eq_none (by simp; omega)]
    · rw [if_neg h0, if_neg h0]
theorem tbl_free {L : List (List Int)} {k : Nat} (h : Free (tbl L) k) : k = L.length := by
  have h1 := h.1
  rw [tbl_nat, List.getElem?_eq_none_iff] at h1
  rcases Nat.lt_or_ge L.length k with h2 | h2
  · obtain ⟨b, hb⟩ := h.2 L.length h2
    rw [tbl_nat, List.getElem?_eq_none (Nat.le_refl _)] at hb
    cases hb
  · omega
theorem tbl_nil : tbl [] = fun _ => none := by funext i; unfold tbl; split <;> simp
/-- One thing is handed in. -/
theorem fill_add {w : World} {B p m : Nat} {L : List (List Int)} {D : DataW Value} (h : HP w B p m L.length L.length L.length (tbl L) D) (hB : B ≤ w.heap.size) (u : Value) (b : List Int) (hu : Bs w u b) (hy : Byt b) (hL : L.length ≤ 100) :
    Calls Tryd.prog 7 #[.pointer (some ⟨p, 0, none⟩), u] w fun e w' => ∃ x D', e = .returned x ∧ HP w' B p m (okL [b] |>.length |> (L.length + ·)) (L.length + (okL [b]).length) (L.length + (okL [b]).length) (tbl (L ++ okL [b])) D' ∧ Below B w w' := by
  by_cases hb : b.length ≤ 65536
  · have e : okL [b] = [b] := by simp [okL, hb]
    rw [e]
    refine (hadd_any h hB u b hu hy hb (by omega) (by omega)).mono ?_
    rintro e w' ⟨k, D', rfl, hF, hk, hp, hbl⟩
    obtain rfl := tbl_free hF
    rw [tbl_put] at hp
    exact ⟨_, D', rfl, hp, hbl⟩
  · have e : okL [b] = [] := by simp [okL, hb]
    rw [e, List.append_nil]
    obtain ⟨ao, cap, rfl, hc, hn, hcell⟩ := hu
    refine (hadd_big (.slice ao b.length cap) p m ao b.length cap w h.c0.1 (by omega)).mono ?_
    rintro e w' ⟨rfl, rfl⟩
    exact ⟨_, D, rfl, h, Below.refl _ _⟩
def dropT (T : Int → Option (List Int)) (ds : List Int) : Int → Option (List Int) := fun i => if i ∈ ds then none else T i
theorem dropT_nil (T : Int → Option (List Int)) : dropT T [] = T := by funext i; simp [dropT]
theorem dropT_snoc (T : Int → Option (List Int)) (ds : List Int) (x : Int) : dropT T (ds ++ [x]) = putT (dropT T ds) x none := by
  funext i
  unfold dropT putT
  by_cases h : i = x
  · subst h; simp
  · simp [h]
theorem putT_none {T : Int → Option (List Int)} {x : Int} (h : T x = none) : putT T x none = T := by
  funext i; unfold putT; split
  · rename_i e; rw [e, h]
  · rfl
/-- One number is dropped. -/
theorem fill_drop {w : World} {B p m c low N : Nat} {T : Int → Option (List Int)} {D : DataW Value} (h : HP w B p m c low N T D) (hB : B ≤ w.heap.size) (x : Int) (h0 : -9223372036854775808 ≤ x) (h1 : x ≤ 9223372036854775807) :
    Calls Tryd.prog 11 #[.pointer (some ⟨p, 0, none⟩), .int .i64 x] w fun e w' => ∃ y c' low' D', e = .returned y ∧ c' ≤ c ∧ HP w' B p m c' low' N (putT T x none) D' ∧ Below B w w' := by
  cases hT : T x with
  | none =>
    refine (hdrop_none h x h0 h1 hT).mono ?_
    rintro e w' ⟨rfl, rfl⟩
    exact ⟨_, c, low, D, rfl, Nat.le_refl _, by rw [putT_none hT]; exact h, Below.refl _ _⟩
  | some b =>
    have hc := h.count hT
    obtain ⟨c', rfl⟩ : ∃ c', c = c' + 1 := ⟨c - 1, by omega⟩
    have hx := h.bd x b hT
    obtain ⟨i, rfl⟩ := Int.eq_ofNat_of_zero_le hx.1
    refine (hdrop_any h hB i b hT).mono ?_
    rintro e w' ⟨rfl, hp, hbl⟩
    exact ⟨_, c', _, _, rfl, by omega, hp, hbl⟩
end Go.Proofs.YtpkbdpbggmiolaaDoor
