/-
  Two trees, known by their keys; what the walk of BtreeMixed leans on. No conditions.
-/
import Derived.Test.YtgkmhmffchlklabBMix
import Derived.Test.YtgkmhmffchlklabBLives
namespace Go.Proofs.Ytgkmhmffchlklab
open Go.RowKit
set_option linter.unusedVariables false
set_option maxRecDepth 100000

theorem take_snoc {α : Type} {L : List α} {i : Nat} {s : α} (h : L[i]? = some s) : ∀ k, k ∈ L.take (i + 1) ↔ k = s ∨ k ∈ L.take i := by
  intro k
  rw [List.take_add_one, h]
  simp only [Option.toList_some, List.mem_append, List.mem_singleton]
  exact or_comm
theorem drop_snoc {α : Type} {L : List α} {j : Nat} {s : α} (h : L[j]? = some s) : ∀ k, k ∈ L.drop j ↔ k = s ∨ k ∈ L.drop (j + 1) := by
  intro k
  obtain ⟨h1, h2⟩ := List.getElem?_eq_some_iff.1 h
  rw [← List.getElem_cons_drop h1, h2, List.mem_cons]
theorem mixed_small (most : Int) (vk vd : Value) (Ks Ds : List ByteArray) (w : World) (hk : Ss w vk Ks) (hd : Ss w vd Ds) (h : 200 < Ks.length ∨ 200 < Ds.length) (hkn : Ks.length ≤ 9223372036854775807) (hdn : Ds.length ≤ 9223372036854775807) : Calls Try.prog 4 #[.int .u64 most, vk, vd] w fun e w' => e = .returned (.bool true) ∧ Below w.heap.size w w' := by
  obtain ⟨aok, capk, rfl, _⟩ := hk
  obtain ⟨aod, capd, rfl, _⟩ := hd
  obtain ⟨n, HN⟩ : ∃ n, Hid (Ks.length = n) := ⟨_, rfl⟩
  obtain ⟨m, HM⟩ : ∃ m, Hid (Ds.length = m) := ⟨_, rfl⟩
  rw [HN.out] at h hkn ⊢
  rw [HM.out] at h hdn ⊢
  by_cases hn : 200 < n
  · have d1 : decide ((200 : Int) < (n : Int)) = true := by simp; omega
    go_enter Try.func4, Try.ntmps4
    go_wp2_with (go_at_call 8; refine (lives7_any _).mono ?_; rintro e w1 ⟨rfl, hb1⟩; have HB1 : Hid (Below w.heap.size w w1) := hb1; clear hb1)
    go_ret
    exact ⟨rfl, HB1.out⟩
  · have d1 : decide ((200 : Int) < (n : Int)) = false := by simp; omega
    have d2 : decide ((200 : Int) < (m : Int)) = true := by simp; omega
    go_enter Try.func4, Try.ntmps4
    go_wp2_with (go_at_call 8; refine (lives7_any _).mono ?_; rintro e w1 ⟨rfl, hb1⟩; have HB1 : Hid (Below w.heap.size w w1) := hb1; clear hb1)
    go_ret
    exact ⟨rfl, HB1.out⟩
/-- Two trees, known by their keys. -/
def Mx (w wr : World) (mm pa qa pb qb : Nat) (PA PB : ByteArray → Prop) (c : Nat) : Prop := ∃ Fa Fb, Two wr w.heap.size mm pa qa Fa pb qb Fb [] ∧ (∀ k, Has Fa k ↔ PA k) ∧ (∀ k, Has Fb k ↔ PB k) ∧ Fa.length ≤ c ∧ Fb.length ≤ c ∧ Below w.heap.size w wr
theorem Mx.congr {w wr : World} {mm pa qa pb qb c c' : Nat} {PA PB QA QB : ByteArray → Prop} (h : Mx w wr mm pa qa pb qb PA PB c) (ha : ∀ k, PA k ↔ QA k) (hb : ∀ k, PB k ↔ QB k) (hc : c ≤ c') : Mx w wr mm pa qa pb qb QA QB c' := by
  obtain ⟨Fa, Fb, h1, h2, h3, h4, h5, h6⟩ := h
  exact ⟨Fa, Fb, h1, fun k => (h2 k).trans (ha k), fun k => (h3 k).trans (hb k), by omega, by omega, h6⟩
theorem Mx.swap {w wr : World} {mm pa qa pb qb c : Nat} {PA PB : ByteArray → Prop} (h : Mx w wr mm pa qa pb qb PA PB c) : Mx w wr mm pb qb pa qa PB PA c := by
  obtain ⟨Fa, Fb, h1, h2, h3, h4, h5, h6⟩ := h
  exact ⟨Fb, Fa, h1.swap, h3, h2, h5, h4, h6⟩
theorem Mx.bel {w wr : World} {mm pa qa pb qb c : Nat} {PA PB : ByteArray → Prop} (h : Mx w wr mm pa qa pb qb PA PB c) : Below w.heap.size w wr := by
  obtain ⟨Fa, Fb, h1, h2, h3, h4, h5, h6⟩ := h
  exact h6
theorem mx_put {w wr : World} {mm pa qa pb qb c : Nat} {PA PB : ByteArray → Prop} (h3 : 3 ≤ mm) (h64 : mm ≤ 64) (h : Mx w wr mm pa qa pb qb PA PB c) (hc : c < 65536) (k : ByteArray) (hk : k.size ≤ 281474976710656) (x : Int) :
    Calls Try.prog 10 #[.pointer (some ⟨pa, 0, none⟩), .string k, .int .u64 x] wr fun e w' => ∃ b, e = .returned (.tuple #[.bool b, .int .i64 0]) ∧ Mx w w' mm pa qa pb qb (fun k' => k' = k ∨ PA k') PB (c + 1) := by
  obtain ⟨Fa, Fb, h1, h2, h4, h5, h6, h7⟩ := h
  refine (two_put h3 h64 h1 h7.size (by omega) k hk x).mono ?_
  rintro e w' ⟨⟨b, F', hp, rfl, ht⟩, hb⟩
  exact ⟨b, rfl, F', Fb, ht, fun k' => (hp.has k').trans (by rw [h2]), h4, by have := hp.len; omega, by omega, h7.trans hb⟩
theorem mx_drop {w wr : World} {mm pa qa pb qb c : Nat} {PA PB : ByteArray → Prop} (h3 : 3 ≤ mm) (h64 : mm ≤ 64) (h : Mx w wr mm pa qa pb qb PA PB c) (hc : c < 65536) (k : ByteArray) :
    Calls Try.prog 11 #[.pointer (some ⟨pa, 0, none⟩), .string k] wr fun e w' => ∃ b, e = .returned (.bool b) ∧ Mx w w' mm pa qa pb qb (fun k' => k' ≠ k ∧ PA k') PB c := by
  obtain ⟨Fa, Fb, h1, h2, h4, h5, h6, h7⟩ := h
  have hr : Rise Fa := by obtain ⟨_, _, _, hbt, _⟩ := h1; exact hbt.2
  refine (two_drop h3 h64 h1 h7.size (by omega) k).mono ?_
  rintro e w' ⟨⟨b, F', hp, rfl, ht⟩, hb⟩
  exact ⟨b, rfl, F', Fb, ht, fun k' => (Drop.has hr hp k').trans (by rw [h2]), h4, by have := Drop.len hp; omega, h6, h7.trans hb⟩
/-- Two trees of the same keys L; the rows of them that were handed out. -/
def My (w wr : World) (mm pa qa pb qb : Nat) (L : List ByteArray) (vs : List Value) : Prop := ∃ Fa Fb, Two wr w.heap.size mm pa qa Fa pb qb Fb (vs.map fun v => rowS v L) ∧ Fa.map (·.1) = L ∧ Fb.map (·.1) = L ∧ L.length ≤ 400 ∧ (∀ k ∈ L, k.size ≤ 281474976710656) ∧ Below w.heap.size w wr
theorem my_of {w wr : World} {mm pa qa pb qb : Nat} {PA PB : ByteArray → Prop} (h : Mx w wr mm pa qa pb qb PA PB 400) (he : ∀ k, PA k ↔ PB k) (hz : ∀ k, PA k → k.size ≤ 281474976710656) : ∃ L, My w wr mm pa qa pb qb L [] := by
  obtain ⟨Fa, Fb, h1, h2, h3, h4, h5, h6⟩ := h
  have hra : Rise Fa := by obtain ⟨_, _, _, hbt, _⟩ := h1; exact hbt.2
  have hrb : Rise Fb := by obtain ⟨_, _, _, hbt, _, _, _, hr⟩ := h1; exact hr
  refine ⟨Fa.map (·.1), Fa, Fb, h1, rfl, (keys_eq hra hrb fun k => ((h2 k).trans (he k)).trans (h3 k).symm).symm, by simpa using h4, fun k hk => ?_, h6⟩
  obtain ⟨y, hy, rfl⟩ := List.mem_map.1 hk
  exact hz _ ((h2 _).1 ⟨y.2, hy⟩)
theorem My.swap {w wr : World} {mm pa qa pb qb : Nat} {L : List ByteArray} {vs : List Value} (h : My w wr mm pa qa pb qb L vs) : My w wr mm pb qb pa qa L vs := by
  obtain ⟨Fa, Fb, h1, h2, h3, h4⟩ := h
  exact ⟨Fb, Fa, h1.swap, h3, h2, h4⟩
theorem My.below {w wr w' : World} {mm pa qa pb qb : Nat} {L : List ByteArray} {vs : List Value} (h : My w wr mm pa qa pb qb L vs) (hb : Below wr.heap.size wr w') : My w w' mm pa qa pb qb L vs := by
  obtain ⟨Fa, Fb, h1, h2, h3, h4, h5, h6⟩ := h
  exact ⟨Fa, Fb, h1.below hb, h2, h3, h4, h5, h6.trans (hb.mono h6.size)⟩
theorem My.row {w wr : World} {mm pa qa pb qb : Nat} {L : List ByteArray} {vs : List Value} (h : My w wr mm pa qa pb qb L vs) {v : Value} (hv : v ∈ vs) : Ss wr v L := by
  obtain ⟨Fa, Fb, h1, h2, h3, h4⟩ := h
  exact h1.row (List.mem_map.2 ⟨v, hv, rfl⟩)
theorem My.bel {w wr : World} {mm pa qa pb qb : Nat} {L : List ByteArray} {vs : List Value} (h : My w wr mm pa qa pb qb L vs) : Below w.heap.size w wr ∧ L.length ≤ 400 ∧ ∀ i s t, L[i]? = some s → L[i + 1]? = some t → cmpN s t < 0 := by
  obtain ⟨Fa, Fb, h1, h2, h3, h4, h5, h6⟩ := h
  have hra : Rise Fa := by obtain ⟨_, _, _, hbt, _⟩ := h1; exact hbt.2
  refine ⟨h6, h4, fun i s t hs ht => ?_⟩
  have hp : L.Pairwise (fun a b => cmpN a b < 0) := by rw [← h2]; exact List.pairwise_map.2 hra
  obtain ⟨a1, a2⟩ := List.getElem?_eq_some_iff.1 hs
  obtain ⟨b1, b2⟩ := List.getElem?_eq_some_iff.1 ht
  have := List.pairwise_iff_getElem.1 hp i (i + 1) a1 b1 (by omega)
  rw [a2, b2] at this
  exact this
theorem my_keys {w wr : World} {mm pa qa pb qb : Nat} {L : List ByteArray} {vs : List Value} (h3 : 3 ≤ mm) (h64 : mm ≤ 64) (h : My w wr mm pa qa pb qb L vs) :
    Calls Try.prog 12 #[.pointer (some ⟨pa, 0, none⟩)] wr fun e w' => ∃ v, e = .returned v ∧ My w w' mm pa qa pb qb L (v :: vs) := by
  obtain ⟨Fa, Fb, h1, rfl, h4, h5, h6, h7⟩ := h
  refine (two_keys h3 h64 h1 h7.size (by simp at h5; omega) (fun y hy => h6 _ (List.mem_map.2 ⟨y, hy, rfl⟩))).mono ?_
  rintro e w' ⟨⟨v, rfl, ht⟩, hb⟩
  exact ⟨v, rfl, Fa, Fb, ht, rfl, h4, h5, h6, h7.trans hb⟩
theorem my_len {w wr : World} {mm pa qa pb qb : Nat} {L : List ByteArray} {vs : List Value} (h : My w wr mm pa qa pb qb L vs) :
    Calls Try.prog 7 #[.pointer (some ⟨pa, 0, none⟩)] wr fun e w' => e = .returned (.int .i64 (L.length : Int)) ∧ w' = wr := by
  obtain ⟨Fa, Fb, h1, rfl, h4⟩ := h
  simpa using two_len h1
theorem mx_new {w w1 : World} {mm pa qa : Nat} (h3 : 3 ≤ mm) (h64 : mm ≤ 64) (h1 : BT w1 w.heap.size pa qa mm [] []) (hb1 : Below w.heap.size w w1) :
    Calls Try.prog 9 #[.int .i64 (mm : Int)] w1 fun e w' => ∃ pb qb, e = .returned (.pointer (some ⟨pb, 0, none⟩)) ∧ Mx w w' mm pa qa pb qb (fun _ => False) (fun _ => False) 0 := by
  obtain ⟨⟨h, t, lo, hS, hs, hl, hf⟩, hr⟩ := h1
  refine (newNames_sep hS hb1.size mm h3 h64).mono ?_
  rintro e w2 ⟨pb, qb, rfl, h2, hb2⟩
  have hT : Two w2 w.heap.size mm pb qb [] pa qa [] [] := ⟨h, t, lo, h2, hs, hl, hf, hr⟩
  have hno : ∀ k, Has [] k ↔ False := fun k => ⟨fun hh => (by obtain ⟨v, hv⟩ := hh; cases hv), False.elim⟩
  exact ⟨pb, qb, rfl, [], [], hT.swap, hno, hno, Nat.le_refl _, Nat.le_refl _, hb1.trans (hb2.mono hb1.size)⟩
theorem sep_none (w : World) (B : Nat) : Sep w B [] := ⟨fun p hp => (List.not_mem_nil hp).elim, List.nodup_nil⟩
end Go.Proofs.Ytgkmhmffchlklab
