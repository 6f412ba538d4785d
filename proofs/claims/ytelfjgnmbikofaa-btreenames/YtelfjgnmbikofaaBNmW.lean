/-
  Put of both, Get of both, Drop of both: the tree and the document's list go on alike. Conditions: lengths are such as memory bears.
  Keys and spans of both, beside what was told before. Conditions: lengths are such as memory bears.
  New trees and lists, an object beside them, how many there are. Conditions: none.
-/
import Derived.Test.YtelfjgnmbikofaaBNmA
import Derived.Test.YtelfjgnmbikofaaBNmP
import Derived.Test.YtelfjgnmbikofaaBPlay
import Derived.Test.YtelfjgnmbikofaaBLives
namespace Go.Proofs.Ytelfjgnmbikofaa
open Go.RowKit
set_option linter.unusedVariables false
set_option maxRecDepth 100000

theorem map_in {α : Type} (f : It → α) (F : List It) (i : Nat) (y : It) : (F.take i ++ y :: F.drop i).map f = (F.map f).take i ++ f y :: (F.map f).drop i := by
  rw [List.map_append, List.map_cons, List.map_take, List.map_drop]
theorem refPut_any {w : World} {B r : Nat} {vK vV : Value} {F : List It} {X : List Pc} (hS : Sep w B (NM r vK vV F ++ X)) (hB : B ≤ w.heap.size) (hr : Rise F) (hz : ∀ y ∈ F, y.1.size ≤ 281474976710656) (k : ByteArray) (hk : k.size ≤ 281474976710656) (x : Int) (hn : F.length ≤ 60000) :
    Calls Try.prog 11 #[.pointer (some ⟨r, 0, none⟩), .string k, .int .u64 x] w fun e w' => ∃ b F' vK' vV', e = .returned (.tuple #[.bool b, .int .i64 0]) ∧ PutF F k x b F' ∧ Sep w' B (NM r vK' vV' F' ++ X) ∧ Below B w w' := by
  obtain ⟨i, hi⟩ := At.is hr k
  have ha := at_fix hS hr hz k hk (by omega) hi
  cases hb : isAt F k i with
  | true =>
    rw [hb] at ha
    obtain ⟨v, A, C, hv, hF, hA, hC⟩ := at_yes hb
    refine (refPut_same hS hB k x v hv hn ha).mono ?_
    rintro e w' ⟨rfl, hs, hbl⟩
    refine ⟨false, F.set i (k, x), vK, vV, rfl, .inl ⟨rfl, A, v, C, hF, ?_⟩, hs, hbl⟩
    have hl : A.length = i := by rw [hA, List.length_take]; have := (List.getElem?_eq_some_iff.1 hv).1; omega
    rw [hF, ← hl]
    simp
  | false =>
    rw [hb] at ha
    obtain ⟨aoK, capK, aoV, capV, rfl, rfl, _, _, _⟩ := NM.at hS
    obtain ⟨h1, h2⟩ := at_no hr hi hb
    refine (refPut_new (w := w) (B := B) (r := r) (n := F.length) (i := i) (Ks := F.map (fun x : It => x.1)) (Vs := F.map (fun x : It => x.2)) (X := X) hS hB (by simp) (by simp) hi.1 hn k x ha).mono ?_
    rintro e w' ⟨rfl, ⟨vK, vV, hs⟩, hbl⟩
    refine ⟨true, F.take i ++ (k, x) :: F.drop i, vK, vV, rfl, .inr ⟨rfl, h1, h2 x⟩, ?_, hbl⟩
    rw [nm_eq, map_in, map_in]
    exact hs
/-- Between the tree's Put and the list's: the tree has F', the list still F. -/
def NmP (w0 w : World) (most p q r c : Nat) (Y : List Pc) (F F' : List It) : Prop := ∃ vK vV, BT w w0.heap.size p q most F' (NM r vK vV F ++ Y) ∧ Rise F ∧ F.length ≤ c ∧ F'.length ≤ c + 1 ∧ (∀ y ∈ F, y.1.size ≤ 281474976710656) ∧ (∀ y ∈ F', y.1.size ≤ 281474976710656) ∧ Below w0.heap.size w0 w
theorem nm_put {w0 w : World} {most p q r c : Nat} {Y : List Pc} (h3 : 3 ≤ most) (h64 : most ≤ 64) (h : Nm w0 w most p q r c Y) (hc : c ≤ 50000) (k : ByteArray) (hk : k.size ≤ 281474976710656) (x : Int) :
    Calls Try.prog 10 #[.pointer (some ⟨p, 0, none⟩), .string k, .int .u64 x] w fun e w' => ∃ b F F', e = .returned (.tuple #[.bool b, .int .i64 0]) ∧ PutF F k x b F' ∧ NmP w0 w' most p q r c Y F F' := by
  obtain ⟨F, vK, vV, h1, h2, hz, h4⟩ := h
  refine (put_any h3 h64 h1 h4.size (by omega) k hk x).mono ?_
  rintro e w' ⟨⟨b, F', hp, rfl, ht⟩, hb⟩
  refine ⟨b, F, F', rfl, hp, vK, vV, ht, h1.2, h2, by have := hp.len; omega, hz, fun y hy => ?_, h4.trans hb⟩
  rcases (hp.has y.1).1 ⟨y.2, hy⟩ with h5 | ⟨v, h5⟩
  · rw [h5]; exact hk
  · exact hz (y.1, v) h5
theorem nm_rput {w0 w : World} {most p q r c : Nat} {Y : List Pc} {F F' : List It} {k : ByteArray} {x : Int} {b : Bool} (hp : PutF F k x b F') (h : NmP w0 w most p q r c Y F F') (hc : c ≤ 50000) (hk : k.size ≤ 281474976710656) :
    Calls Try.prog 11 #[.pointer (some ⟨r, 0, none⟩), .string k, .int .u64 x] w fun e w' => e = .returned (.tuple #[.bool b, .int .i64 0]) ∧ Nm w0 w' most p q r (c + 1) Y := by
  obtain ⟨vK, vV, h1, hr, h2, h5, hz, hz', h4⟩ := h
  obtain ⟨X, hS0, hback⟩ := h1.focus
  have hS := hS0
  rw [List.append_assoc] at hS
  refine (refPut_any hS h4.size hr hz k hk x (by omega)).mono ?_
  rintro e w' ⟨b2, F2, vK2, vV2, rfl, hp2, hs2, hb2⟩
  obtain ⟨rfl, rfl⟩ := PutF.one hr hp hp2
  exact ⟨rfl, F', vK2, vV2, hback w' _ (by rw [List.append_assoc]; exact hs2), h5, hz', h4.trans hb2⟩
theorem nm_get {w0 w : World} {most p q r c : Nat} {Y : List Pc} (h64 : most ≤ 64) (h : Nm w0 w most p q r c Y) (hc : c ≤ 50000) (k : ByteArray) (hk : k.size ≤ 281474976710656) :
    ∃ (v : Int) (b : Bool), (∀ W, Below w.heap.size w W → Calls Try.prog 12 #[.pointer (some ⟨p, 0, none⟩), .string k] W fun e w' => e = .returned (.tuple #[.int .u64 v, .bool b]) ∧ Below W.heap.size W w') ∧ (∀ W, Below w.heap.size w W → Calls Try.prog 13 #[.pointer (some ⟨r, 0, none⟩), .string k] W fun e w' => e = .returned (.tuple #[.int .u64 v, .bool b]) ∧ Below W.heap.size W w') := by
  obtain ⟨F, vK, vV, h1, h2, hz, h4⟩ := h
  by_cases hin : ∀ y ∈ F, cmpN y.1 k ≠ 0
  · refine ⟨0, false, fun W hW => ?_, fun W hW => ?_⟩
    · refine (get_any h64 (h1.below hW) k).mono ?_
      rintro e w' ⟨⟨v, hv, rfl⟩ | ⟨_, rfl⟩, hb⟩
      · exact absurd (cmpN_self k) (hin (k, v) hv)
      · exact ⟨rfl, hb⟩
    · obtain ⟨X, hS, _⟩ := (h1.below hW).focus
      rw [List.append_assoc] at hS
      refine (refGet_any hS h1.2 hz k hk (by omega)).mono ?_
      rintro e w' ⟨⟨v, hv, rfl⟩ | ⟨_, rfl⟩, hb⟩
      · exact absurd (cmpN_self k) (hin (k, v) hv)
      · exact ⟨rfl, hb⟩
  · obtain ⟨u, hu⟩ : ∃ u, (k, u) ∈ F := by
      apply Classical.byContradiction
      intro hno
      refine hin (fun y hy h9 => hno ⟨y.2, ?_⟩)
      have := cmpN_zero h9
      rw [← this]
      exact hy
    refine ⟨u, true, fun W hW => ?_, fun W hW => ?_⟩
    · refine (get_any h64 (h1.below hW) k).mono ?_
      rintro e w' ⟨⟨v, hv, rfl⟩ | ⟨h9, rfl⟩, hb⟩
      · rw [key_one h1.2 hu hv]; exact ⟨rfl, hb⟩
      · exact absurd (cmpN_self k) (h9 (k, u) hu)
    · obtain ⟨X, hS, _⟩ := (h1.below hW).focus
      rw [List.append_assoc] at hS
      refine (refGet_any hS h1.2 hz k hk (by omega)).mono ?_
      rintro e w' ⟨⟨v, hv, rfl⟩ | ⟨h9, rfl⟩, hb⟩
      · rw [key_one h1.2 hu hv]; exact ⟨rfl, hb⟩
      · exact absurd (cmpN_self k) (h9 (k, u) hu)
/-- Between the two Drops, either first. -/
def NmD (w0 w : World) (most p q r c : Nat) (Y : List Pc) (F G : List It) : Prop := ∃ vK vV, BT w w0.heap.size p q most F (NM r vK vV G ++ Y) ∧ Rise G ∧ F.length ≤ c ∧ G.length ≤ c ∧ (∀ y ∈ F, y.1.size ≤ 281474976710656) ∧ (∀ y ∈ G, y.1.size ≤ 281474976710656) ∧ Below w0.heap.size w0 w
theorem Nm.of {w0 w : World} {most p q r c : Nat} {Y : List Pc} {F : List It} (h : NmD w0 w most p q r c Y F F) : Nm w0 w most p q r c Y := by
  obtain ⟨vK, vV, h1, _, h2, _, h3, _, h4⟩ := h
  exact ⟨F, vK, vV, h1, h2, h3, h4⟩
theorem Nm.to {w0 w : World} {most p q r c : Nat} {Y : List Pc} (h : Nm w0 w most p q r c Y) : ∃ F, NmD w0 w most p q r c Y F F ∧ Rise F := by
  obtain ⟨F, vK, vV, h1, h2, h3, h4⟩ := h
  exact ⟨F, ⟨vK, vV, h1, h1.2, h2, h2, h3, h3, h4⟩, h1.2⟩
theorem NmD.below {w0 w w' : World} {most p q r c : Nat} {Y : List Pc} {F G : List It} (h : NmD w0 w most p q r c Y F G) (hb : Below w.heap.size w w') : NmD w0 w' most p q r c Y F G := by
  obtain ⟨vK, vV, h1, h2, h3, h4, h5, h6, h7⟩ := h
  exact ⟨vK, vV, h1.below hb, h2, h3, h4, h5, h6, h7.trans (hb.mono h7.size)⟩
noncomputable def drF (F : List It) (k : ByteArray) : List It := ltF F k ++ gtF F k
/-- What a drop makes of items. -/
theorem Del.is {F F' : List It} {k : ByteArray} (hr : Rise F) (h : Del F k F') : F' = drF F k := by
  obtain ⟨A, v, C, e1, e2⟩ := h
  subst e1
  obtain ⟨h3, h4⟩ := cut_eq hr
  unfold drF
  rw [h3, h4, e2]
theorem no_del {F : List It} {k : ByteArray} (h : ∀ y ∈ F, cmpN y.1 k ≠ 0) (hr : Rise F) : drF F k = F := by
  obtain ⟨i, hi⟩ := At.is hr k
  have hb : isAt F k i = false := by
    cases hb : isAt F k i with
    | false => rfl
    | true =>
      obtain ⟨v, A, C, hv, _⟩ := at_yes hb
      exact absurd (cmpN_self k) (h (k, v) (List.mem_of_getElem? hv))
  have h1 := hi.split.1
  have h2 := isAt_false hr hi hb
  have h3 := cut_lt h1 h2
  rw [List.take_append_drop] at h3
  unfold drF
  rw [h3.1, h3.2, List.take_append_drop]
theorem drF_sub (F : List It) (k : ByteArray) : ∀ y ∈ drF F k, y ∈ F := by
  intro y hy
  rcases List.mem_append.1 hy with h | h
  · exact (List.mem_filter.1 h).1
  · exact (List.mem_filter.1 h).1
theorem nm_drop {w0 w : World} {most p q r c : Nat} {Y : List Pc} {F G : List It} (h3 : 3 ≤ most) (h64 : most ≤ 64) (hF : Rise F) (h : NmD w0 w most p q r c Y F G) (hc : c ≤ 50000) (k : ByteArray) {b : Bool} (hb : (∀ y ∈ F, cmpN y.1 k ≠ 0) ↔ b = false) :
    Calls Try.prog 14 #[.pointer (some ⟨p, 0, none⟩), .string k] w fun e w' => e = .returned (.bool b) ∧ NmD w0 w' most p q r c Y (drF F k) G := by
  obtain ⟨vK, vV, h1, hG, h2, h5, hz, hz', h4⟩ := h
  refine (drop_any h3 h64 h1 h4.size (by omega) k).mono ?_
  rintro e w' ⟨⟨rfl, F', hd, ht⟩ | ⟨hno, rfl, ht⟩, hbl⟩
  · have e1 := hd.is hF
    subst e1
    have hbt : b = true := by
      cases b with
      | true => rfl
      | false => exact absurd (hb.2 rfl) hd.has
    subst hbt
    exact ⟨rfl, vK, vV, ht, hG, by have := Drop.len (.inl hd); omega, h5, fun y hy => hz y (drF_sub F k y hy), hz', h4.trans hbl⟩
  · have hbf : b = false := hb.1 hno
    subst hbf
    rw [no_del hno hF]
    exact ⟨rfl, vK, vV, ht, hG, h2, h5, hz, hz', h4.trans hbl⟩
theorem nm_rdrop {w0 w : World} {most p q r c : Nat} {Y : List Pc} {F G : List It} (h : NmD w0 w most p q r c Y F G) (hc : c ≤ 50000) (k : ByteArray) (hk : k.size ≤ 281474976710656) {b : Bool} (hb : (∀ y ∈ G, cmpN y.1 k ≠ 0) ↔ b = false) :
    Calls Try.prog 15 #[.pointer (some ⟨r, 0, none⟩), .string k] w fun e w' => e = .returned (.bool b) ∧ NmD w0 w' most p q r c Y F (drF G k) := by
  obtain ⟨vK, vV, h1, hG, h2, h5, hz, hz', h4⟩ := h
  obtain ⟨X, hS0, hback⟩ := h1.focus
  have hS := hS0
  rw [List.append_assoc] at hS
  refine (refDrop_any hS h4.size hG hz' k hk (by omega)).mono ?_
  rintro e w' ⟨⟨rfl, F', vK2, vV2, hd, hs⟩ | ⟨hno, rfl, hs⟩, hbl⟩
  · have e1 := hd.is hG
    subst e1
    have hbt : b = true := by
      cases b with
      | true => rfl
      | false => exact absurd (hb.2 rfl) hd.has
    subst hbt
    have hlen : (drF G k).length ≤ c := by have := Drop.len (.inl hd); omega
    have hrise : Rise (drF G k) := by
      obtain ⟨A, v, C, e1, e2⟩ := hd
      rw [e2]
      rw [e1] at hG
      exact hG.sub ((List.sublist_cons_self _ _).append_left A)
    exact ⟨rfl, vK2, vV2, hback w' _ (by rw [List.append_assoc]; exact hs), hrise, h2, hlen, hz, fun y hy => hz' y (drF_sub G k y hy), h4.trans hbl⟩
  · have hbf : b = false := hb.1 hno
    subst hbf
    rw [no_del hno hG]
    exact ⟨rfl, vK, vV, hback w' _ (by rw [List.append_assoc]; exact hs), hG, h2, h5, hz, hz', h4.trans hbl⟩
end Go.Proofs.Ytelfjgnmbikofaa

namespace Go.Proofs.Ytelfjgnmbikofaa
open Go.RowKit
set_option linter.unusedVariables false
set_option maxRecDepth 100000

/-- A tree and the document's list of the items F, beside other pieces. -/
def NmF (w0 w : World) (most p q r : Nat) (Y : List Pc) (F : List It) : Prop := ∃ vK vV, BT w w0.heap.size p q most F (NM r vK vV F ++ Y) ∧ F.length ≤ 200 ∧ (∀ y ∈ F, y.1.size ≤ 281474976710656) ∧ Below w0.heap.size w0 w
theorem Nm.toF {w0 w : World} {most p q r c : Nat} {Y : List Pc} (h : Nm w0 w most p q r c Y) (hc : c ≤ 200) : ∃ F, NmF w0 w most p q r Y F := by
  obtain ⟨F, vK, vV, h1, h2, h3, h4⟩ := h
  exact ⟨F, vK, vV, h1, by omega, h3, h4⟩
theorem NmF.below {w0 w w' : World} {most p q r : Nat} {Y : List Pc} {F : List It} (h : NmF w0 w most p q r Y F) (hb : Below w.heap.size w w') : NmF w0 w' most p q r Y F := by
  obtain ⟨vK, vV, h1, h2, h3, h4⟩ := h
  exact ⟨vK, vV, h1.below hb, h2, h3, h4.trans (hb.mono h4.size)⟩
theorem NmF.bel {w0 w : World} {most p q r : Nat} {Y : List Pc} {F : List It} (h : NmF w0 w most p q r Y F) : Below w0.heap.size w0 w := by
  obtain ⟨vK, vV, h1, h2, h3, h4⟩ := h
  exact h4
theorem NmF.len {w0 w : World} {most p q r : Nat} {Y : List Pc} {F : List It} (h : NmF w0 w most p q r Y F) : F.length ≤ 200 := by
  obtain ⟨vK, vV, h1, h2, h3, h4⟩ := h
  exact h2
theorem NmF.sub {w0 w : World} {most p q r : Nat} {Y Y' : List Pc} {F : List It} (h : NmF w0 w most p q r Y F) (hs : List.Sublist Y' Y) : NmF w0 w most p q r Y' F := by
  obtain ⟨vK, vV, h1, h2, h3, h4⟩ := h
  obtain ⟨X, hS, hback⟩ := h1.focus
  exact ⟨vK, vV, hback w _ (hS.sub ((hs.append_left _).append_right X)), h2, h3, h4⟩
theorem perm_front (A : List Pc) (x : Pc) (Y : List Pc) : List.Perm (x :: (A ++ Y)) (A ++ x :: Y) := List.perm_middle.symm
theorem BT.perm {w : World} {B p q most : Nat} {F : List It} {R R' : List Pc} (h : BT w B p q most F R) (hp : List.Perm R R') : BT w B p q most F R' := by
  obtain ⟨X, hS, hback⟩ := h.focus
  exact hback w _ (hS.perm (hp.append_right X))
theorem nm_keys {w0 w : World} {most p q r : Nat} {Y : List Pc} {F : List It} (h3 : 3 ≤ most) (h64 : most ≤ 64) (h : NmF w0 w most p q r Y F) :
    Calls Try.prog 17 #[.pointer (some ⟨p, 0, none⟩)] w fun e w' => ∃ vO, e = .returned vO ∧ NmF w0 w' most p q r (rowS vO (F.map (·.1)) :: Y) F := by
  obtain ⟨vK, vV, h1, h2, hz, h4⟩ := h
  refine (keys_any h3 h64 h1 h4.size (by omega) hz).mono ?_
  rintro e w' ⟨vO, rfl, ht, hb⟩
  exact ⟨vO, rfl, vK, vV, ht.perm (perm_front _ _ _), h2, hz, h4.trans hb⟩
theorem nm_span {w0 w : World} {most p q r : Nat} {Y : List Pc} {F : List It} (h3 : 3 ≤ most) (h64 : most ≤ 64) (h : NmF w0 w most p q r Y F) (sl sh : ByteArray) :
    Calls Try.prog 19 #[.pointer (some ⟨p, 0, none⟩), .string sl, .string sh] w fun e w' => ∃ vO, e = .returned vO ∧ NmF w0 w' most p q r (rowS vO ((spanF sl sh F).map (·.1)) :: Y) F := by
  obtain ⟨vK, vV, h1, h2, hz, h4⟩ := h
  refine (span_any h3 h64 h1 h4.size (by omega) hz sl sh).mono ?_
  rintro e w' ⟨vO, rfl, ht, hb⟩
  exact ⟨vO, rfl, vK, vV, ht.perm (perm_front _ _ _), h2, hz, h4.trans hb⟩
theorem nm_rspan {w0 w : World} {most p q r : Nat} {Y : List Pc} {F : List It} (h : NmF w0 w most p q r Y F) (sl sh : ByteArray) (hl : sl.size ≤ maxLen) (hh : sh.size ≤ maxLen) :
    Calls Try.prog 20 #[.pointer (some ⟨r, 0, none⟩), .string sl, .string sh] w fun e w' => ∃ vO, e = .returned vO ∧ NmF w0 w' most p q r (rowS vO ((spanF sl sh F).map (·.1)) :: Y) F := by
  obtain ⟨vK, vV, h1, h2, hz, h4⟩ := h
  obtain ⟨X, hS, hback⟩ := h1.focus
  rw [List.append_assoc] at hS
  refine (refSpan_any hS h4.size hz sl sh hl hh (by omega)).mono ?_
  rintro e w' ⟨vO, rfl, hs, hb⟩
  refine ⟨vO, rfl, vK, vV, hback w' _ (hs.perm ?_), h2, hz, h4.trans hb⟩
  classical
  refine List.perm_iff_count.2 (fun a => ?_)
  simp only [List.count_append, List.count_cons]
  omega
/-- What was told reads as it was told; and the document's names. -/
theorem NmF.ss {w0 w : World} {most p q r : Nat} {Y : List Pc} {F : List It} (h : NmF w0 w most p q r Y F) {v : Value} {K : List ByteArray} (hm : rowS v K ∈ Y) : Ss w v K := by
  obtain ⟨vK, vV, h1, _⟩ := h
  obtain ⟨X, hS, _⟩ := h1.focus
  exact Ss.of_row (hS.at_ (rowS v K) (List.mem_append_left _ (List.mem_append_right _ hm)))
theorem NmF.k {w0 w : World} {most p q r : Nat} {Y : List Pc} {F : List It} (h : NmF w0 w most p q r Y F) : ∃ aoK capK, w.cell? ⟨r, 0, none⟩ = some (.slice aoK F.length capK) ∧ Ss w (.slice aoK F.length capK) (F.map (·.1)) := by
  obtain ⟨vK, vV, h1, _⟩ := h
  obtain ⟨X, hS, _⟩ := h1.focus
  have hS' := hS
  rw [List.append_assoc] at hS'
  obtain ⟨aoK, capK, aoV, capV, rfl, rfl, _, _, _⟩ := NM.at hS'
  exact ⟨aoK, capK, (NM.k hS').1, Ss.of_row (hS'.at_ (rowS (.slice aoK F.length capK) (F.map (fun x : It => x.1))) (by simp [NM]))⟩
/-- Keys, and where the document's names lie stays. -/
theorem nm_keysK {w0 w : World} {most p q r : Nat} {Y : List Pc} {F : List It} (h3 : 3 ≤ most) (h64 : most ≤ 64) (h : NmF w0 w most p q r Y F) :
    ∃ aoK capK, w.cell? ⟨r, 0, none⟩ = some (.slice aoK F.length capK) ∧ Calls Try.prog 17 #[.pointer (some ⟨p, 0, none⟩)] w fun e w' => ∃ vO, e = .returned vO ∧ NmF w0 w' most p q r (rowS vO (F.map (fun x : It => x.1)) :: Y) F ∧ w'.cell? ⟨r, 0, none⟩ = some (.slice aoK F.length capK) ∧ Ss w' (.slice aoK F.length capK) (F.map (fun x : It => x.1)) := by
  obtain ⟨vK, vV, h1, h2, hz, h4⟩ := h
  have hk : ∀ {W : World} {Z : List Pc}, BT W w0.heap.size p q most F (NM r vK vV F ++ Z) → ∃ aoK capK, vK = .slice aoK F.length capK ∧ W.cell? ⟨r, 0, none⟩ = some vK ∧ Ss W vK (F.map (fun x : It => x.1)) := by
    intro W Z hW
    obtain ⟨X, hS, _⟩ := hW.focus
    have hS' := hS
    rw [List.append_assoc] at hS'
    obtain ⟨aoK, capK, aoV, capV, e1, rfl, _, _, _⟩ := NM.at hS'
    subst e1
    exact ⟨aoK, capK, rfl, (NM.k hS').1, Ss.of_row (hS'.at_ (rowS (.slice aoK F.length capK) (F.map (fun x : It => x.1))) (by simp [NM]))⟩
  obtain ⟨aoK, capK, e1, q0, _⟩ := hk h1
  subst e1
  refine ⟨aoK, capK, q0, ?_⟩
  refine (keys_any h3 h64 h1 h4.size (by omega) hz).mono ?_
  rintro e w' ⟨vO, rfl, ht, hb⟩
  have h1' := ht.perm (perm_front _ _ _)
  obtain ⟨_, _, _, q2, s2⟩ := hk h1'
  exact ⟨vO, rfl, ⟨_, _, h1', h2, hz, h4.trans hb⟩, q2, s2⟩
/-- A key that was told is spoilt. -/
theorem NmF.spoil {w0 w : World} {most p q r g n cap i : Nat} {F : List It} {K : List ByteArray} (h : NmF w0 w most p q r [rowS (.slice (some ⟨g, 0, none⟩) n cap) K] F) (hK : K.length = n) (s : ByteArray) : NmF w0 (w.setCell ⟨g, i, none⟩ (.string s)) most p q r [rowS (.slice (some ⟨g, 0, none⟩) n cap) (K.set i s)] F := by
  subst hK
  obtain ⟨vK, vV, h1, h2, h3, h4⟩ := h
  obtain ⟨X, hS, hback⟩ := h1.focus
  have hS1 : Sep w w0.heap.size (NM r vK vV F ++ .row 9 1 (.slice (some ⟨g, 0, none⟩) K.length cap) K.length (gc encS K) :: X) := by rw [List.append_assoc] at hS; exact hS
  have h5 := hS1.storeRow _ i (.string s)
  have hg : w0.heap.size ≤ g := by
    have h6 : w.ownsRow w0.heap.size 9 1 (.slice (some ⟨g, 0, none⟩) K.length cap) K.length (gc encS K) := hS1.at_ (.row 9 1 (.slice (some ⟨g, 0, none⟩) K.length cap) K.length (gc encS K)) (by simp)
    exact (World.ownsRow.lt h6 g rfl).1
  have e : gc encS (K.set i s) = (gc encS K).set i (.string s) := by
    clear h1 h2 h3 h4 hS hback hS1 h5
    induction K generalizing i with
    | nil => rfl
    | cons y K ih =>
      cases i with
      | zero => rfl
      | succ i =>
        have h1 : gc encS (y :: K.set i s) = encS y ++ gc encS (K.set i s) := by rw [← List.singleton_append, gc_append, gc_one]
        have h2 : gc encS (y :: K) = encS y ++ gc encS K := by rw [← List.singleton_append, gc_append, gc_one]
        show gc encS (y :: K.set i s) = (gc encS (y :: K)).set (i + 1) _
        rw [h1, h2, ih]
        rfl
  refine ⟨vK, vV, hback _ _ ?_, h2, h3, h4.setCell hg _⟩
  rw [List.append_assoc]
  have e2 : rowS (.slice (some ⟨g, 0, none⟩) K.length cap) (K.set i s) = .row 9 1 (.slice (some ⟨g, 0, none⟩) K.length cap) K.length ((gc encS K).set i (.string s)) := by unfold rowS; rw [e, List.length_set]
  rw [e2]
  exact h5
theorem NmF.cell {w0 w : World} {most p q r g n cap i : Nat} {F : List It} {K : List ByteArray} (h : NmF w0 w most p q r [rowS (.slice (some ⟨g, 0, none⟩) n cap) K] F) (hi : i < K.length) : w.cell? ⟨g, i, none⟩ = some (.string (K[i])) ∧ w.frozen? ⟨g, i, none⟩ = false := by
  obtain ⟨vK, vV, h1, _⟩ := h
  obtain ⟨X, hS, _⟩ := h1.focus
  have h6 : w.ownsRow w0.heap.size 9 1 (.slice (some ⟨g, 0, none⟩) n cap) K.length (gc encS K) := hS.at_ (rowS (.slice (some ⟨g, 0, none⟩) n cap) K) (by simp)
  obtain ⟨_, _, h7, h8⟩ := row_at h6
  have := h8 _ _ (gc_at encS_len K i K[i] (List.getElem?_eq_getElem hi) 0 _ rfl)
  exact ⟨by simpa using this, h7 i⟩
/-- A guarded call of a function with a contract, as a step of a drawn region. -/
theorem step_callW {ops : Array Oper} {o : Oper} {a : Act} {w : World} {K : Act → World → Prop} {Q : Exit → Act → World → Prop} {E : Prop}
    (hw : Region.wanted o (yielded ops a.tmps) = true) (f : FuncId) (he : ∀ args w, (callFunc f args).run Try.prog w = .ok (.enter f args) w) (xs : Array Operand) (ts : Array TypeId) (hop : o.op = Op.call { callee := Callee.value (Operand.func f), args := xs, argTypes := ts })
    (vs : Array Value) (hev : xs.map a.eval = vs) (R : Value → World → Prop) (hC : Calls Try.prog f vs w fun e w' => ∃ v, e = .returned v ∧ R v w') (hK : ∀ v w', R v w' → K (a.put o.dst v) w') :
    if Region.wanted o (yielded ops a.tmps) = true then Oper.wp Try.prog o a w K Q else E := by
  rw [if_pos hw]
  have hf : a.eval (Operand.func f) = .func (.func f) #[] #[] := rfl
  have hev' : xs.map (fun x => a.eval x) = vs := hev
  unfold Oper.wp
  simp [execOp, hop, resolve, invoke, hev', hf, Oper.upon, Deferred.ofValue, he]
  refine hC.mono ?_
  rintro e w' ⟨v, rfl, h2⟩
  exact hK v w' h2
end Go.Proofs.Ytelfjgnmbikofaa

namespace Go.Proofs.Ytelfjgnmbikofaa
open Go.RowKit
set_option linter.unusedVariables false
set_option maxRecDepth 100000

/-- A new tree, and a new list of the document's. -/
theorem nm_new {w w1 : World} {mm p q : Nat} (h : BT w1 w.heap.size p q mm [] []) (hb : Below w.heap.size w w1) : Nm w (w1.alloc (.cells #[.slice none 0 0, .slice none 0 0] 29)) mm p q w1.heap.size 0 [] := by
  obtain ⟨X, hS, hback⟩ := h.focus
  have hbl : Below w1.heap.size w1 (w1.alloc (.cells #[.slice none 0 0, .slice none 0 0] 29)) := (Below.refl _ _).alloc (Nat.le_refl _) _
  refine ⟨[], .slice none 0 0, .slice none 0 0, hback _ _ ?_, Nat.le_refl _, (fun y hy => by cases hy), hb.trans (hbl.mono hb.size)⟩
  have hS' : Sep w1 w.heap.size X := hS
  have h1 := Sep.new (p := nmO w1.heap.size (.slice none 0 0) (.slice none 0 0)) hS' hbl ⟨heap_alloc_new w1 _, hb.size⟩ (by intro x hx; simp [nmO, Pc.blk] at hx; omega)
  have h2 := (h1.nil 31 1).nil 9 1
  refine h2.perm ?_
  show List.Perm (rowS (.slice none 0 0) [] :: rowU (.slice none 0 0) [] :: nmO w1.heap.size (.slice none 0 0) (.slice none 0 0) :: X) (nmO w1.heap.size (.slice none 0 0) (.slice none 0 0) :: rowS (.slice none 0 0) [] :: rowU (.slice none 0 0) [] :: X)
  classical
  refine List.perm_iff_count.2 (fun a => ?_)
  simp only [List.count_cons]
  omega
/-- An object of the law's own, beside. -/
theorem Nm.obj {w0 w : World} {most p q r c : Nat} (h : Nm w0 w most p q r c []) (a : Array Value) (T : TypeId) : Nm w0 (w.alloc (.cells a T)) most p q r c [.obj w.heap.size a T] :=
  h.swap (((Below.refl _ _).alloc (Nat.le_refl _) _).mono h.bel.size) (fun X hX => Sep.new (p := .obj w.heap.size a T) hX ((Below.refl _ _).alloc (Nat.le_refl _) _) ⟨heap_alloc_new w _, h.bel.size⟩ (by intro x hx; simp [Pc.blk] at hx; omega))
theorem Nm.drop {w0 w : World} {most p q r c : Nat} {x : Pc} (h : Nm w0 w most p q r c [x]) : Nm w0 w most p q r c [] :=
  h.swap (Below.refl _ _) (fun X hX => hX.tail)
/-- How many there are, of both. -/
theorem Nm.len {w0 w : World} {most p q r c : Nat} {Y : List Pc} (h : Nm w0 w most p q r c Y) : ∃ n aoK capK, n ≤ c ∧ (∀ k, Calls Try.prog 16 #[.pointer (some ⟨p, 0, none⟩)] (w.drewN k) fun e w' => e = .returned (.int .i64 ((n : Nat) : Int)) ∧ w' = w.drewN k) ∧ w.cell? ⟨r, 0, none⟩ = some (.slice aoK n capK) := by
  obtain ⟨F, vK, vV, h1, h2, h3, h4⟩ := h
  obtain ⟨X, hS, _⟩ := h1.focus
  rw [List.append_assoc] at hS
  obtain ⟨aoK, capK, aoV, capV, rfl, rfl, _, _, _⟩ := NM.at hS
  exact ⟨F.length, aoK, capK, h2, fun k => len_any (h1.below ⟨rfl, rfl, rfl, Nat.le_refl _, fun _ _ => rfl⟩), (NM.k hS).1⟩
theorem NmP.pc {w0 w : World} {most p q r c g : Nat} {a : Array Value} {T : TypeId} {Y : List Pc} {F F' : List It} (h : NmP w0 w most p q r c Y F F') (hm : Pc.obj g a T ∈ Y) : w.heap[g]? = some (.cells a T (0, 0)) := by
  obtain ⟨vK, vV, h1, _⟩ := h
  obtain ⟨X, hS, _⟩ := h1.focus
  exact hS.obj (List.mem_append_left _ (List.mem_append_right _ hm))
theorem NmD.pc {w0 w : World} {most p q r c g : Nat} {a : Array Value} {T : TypeId} {Y : List Pc} {F F' : List It} (h : NmD w0 w most p q r c Y F F') (hm : Pc.obj g a T ∈ Y) : w.heap[g]? = some (.cells a T (0, 0)) := by
  obtain ⟨vK, vV, h1, _⟩ := h
  obtain ⟨X, hS, _⟩ := h1.focus
  exact hS.obj (List.mem_append_left _ (List.mem_append_right _ hm))
theorem drewN_below {w : World} (k : Nat) : Below w.heap.size w (w.drewN k) := ⟨rfl, rfl, rfl, Nat.le_refl _, fun _ _ => rfl⟩
theorem NmF.at0 {w0 w : World} {most p q r n cap : Nat} {ao : Option Addr} {F : List It} {K : List ByteArray} (h : NmF w0 w most p q r [rowS (.slice ao n cap) K] F) (hn : 1 ≤ K.length) : ∃ g, ao = some ⟨g, 0, none⟩ := by
  obtain ⟨vK, vV, h1, _⟩ := h
  obtain ⟨X, hS, _⟩ := h1.focus
  have h6 : w.ownsRow w0.heap.size 9 1 (.slice ao n cap) K.length (gc encS K) := hS.at_ (rowS (.slice ao n cap) K) (by simp)
  obtain ⟨g, capg, hg, _⟩ := row_some h6 hn
  injection hg with e1 _ _
  exact ⟨g, e1⟩
end Go.Proofs.Ytelfjgnmbikofaa
