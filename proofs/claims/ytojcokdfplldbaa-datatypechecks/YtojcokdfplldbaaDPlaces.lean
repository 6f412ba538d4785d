/-
  The program's Places. Conditions: what is handed in lies in memory as a type.
-/
import Derived.Test.YtojcokdfplldbaaDPlA
namespace Go.Proofs.Ytojcokdfplldbaa
open Go.RowKit Go.Shelf
set_option linter.unusedVariables false
set_option maxRecDepth 100000

/-- What Places tells. -/
def plT {n : Nat} (T : Ty n) : List Pl := if sz n T 1 = 0 then [] else plF n T 0
/-- Places of the call's own. -/
def OwnPl (w : World) (B : Nat) (v : Value) (L : List Pl) : Prop := w.ownsRow B 46 4 v L.length (gc encP L)
theorem ps_new {w3 : World} {pp B : Nat} (hB : B ≤ w3.heap.size) (h : w3.cell? ⟨pp, 0, none⟩ = some (.slice none 0 0)) (hf : w3.frozen? ⟨pp, 0, none⟩ = false) (hp : pp < B) : PS w3 pp B (.slice none 0 0) [] :=
  ⟨h, hf, ⟨rfl, .inl ⟨rfl, rfl⟩⟩, hp⟩
theorem pp_made (w : World) : ∃ w1, w.alloc (.cells #[.slice none 0 0] 39) = w1 ∧ Below w.heap.size w w1 ∧ w1.heap.size = w.heap.size + 1 ∧ w1.cell? ⟨w.heap.size, 0, none⟩ = some (.slice none 0 0) ∧ w1.frozen? ⟨w.heap.size, 0, none⟩ = false := by
  have h2 : (w.alloc (.cells #[.slice none 0 0] 39)).heap[w.heap.size]? = some (.cells #[.slice none 0 0] 39 (0, 0)) := heap_alloc_new w _
  exact ⟨_, rfl, (Below.refl _ _).alloc (Nat.le_refl _) _, World.size_alloc _ _, cell_of_row _ _ 0 _ _ _ h2, free_of h2⟩
theorem ownsRow_mono {w : World} {B B' k n : Nat} {T : TypeId} {v : Value} {xs : List Value} (h : w.ownsRow B T k v n xs) (hB : B' ≤ B) : w.ownsRow B' T k v n xs := by
  obtain ⟨h1, h2 | ⟨g, cap, cur, e, hg, r⟩⟩ := h
  · exact ⟨h1, .inl h2⟩
  · exact ⟨h1, .inr ⟨g, cap, cur, e, Nat.le_trans hB hg, r⟩⟩
set_option maxHeartbeats 8000000 in
theorem places_any (n : Nat) (T : Ty n) (V : TV) (w : World) (h : TR n w V T) :
    Calls Try.prog 16 #[tyV (hd T) V] w fun e w2 => (∃ v, e = .returned (.tuple #[v, .int .i64 (szE T)]) ∧ OwnPl w2 w.heap.size v (plT T)) ∧ Below w.heap.size w w2 := by
  have eg : ∀ args w, (callFunc 32 args).run Try.prog w = .ok (.enter 32 args) w := enters_of Try.func32 (by kernel_rfl) rfl
  have HCH : Hid (∀ w', Below w.heap.size w w' → Calls Try.prog 14 #[.agg #[.int .i64 (hd T).1, .int .i64 (hd T).2.1, .bool (hd T).2.2, V.f, V.d, V.b, V.n]] w' fun e w2 => e = .returned (.int .i64 (szE T)) ∧ Below w'.heap.size w' w2) := fun w' hb => check_any n T V w' (h.below hb)
  have HWK : Hid (∀ (pw pp B : Nat) (w' : World), pw < B → pw ≠ pp → w.heap.size ≤ pp → Below w.heap.size w w' → B ≤ w'.heap.size → PlC w' pw pp → PS w' pp B (.slice none 0 0) [] → sz n T 1 ≠ 0 → Calls Try.prog 32 #[.agg #[.int .i64 (hd T).1, .int .i64 (hd T).2.1, .bool (hd T).2.2, V.f, V.d, V.b, V.n], .int .i64 0, .pointer (some ⟨pw, 0, none⟩), .pointer (some ⟨pp, 0, none⟩)] w' (PlP w' pp B (.slice none 0 0) (plF n T 0))) := fun pw pp B w' h1 h2 h3 hb hB hW hS hz => by
    have := walkPl_any w pw pp B h1 h2 h3 n T V 0 1 (.slice none 0 0) [] w' h hb hB hW hS (Nat.le_refl _) hz (by omega) (by have := sz_rng n T 1; omega) (by simp)
    rwa [List.nil_append] at this
  have HE : Hid (szE T = (if sz n T 1 = 0 then 15 else 0) ∧ plT T = if sz n T 1 = 0 then [] else plF n T 0) := ⟨rfl, rfl⟩
  unfold tyV
  obtain ⟨S, hS⟩ : ∃ S, sz n T 1 = S := ⟨_, rfl⟩
  rw [hS] at HE HWK
  clear h hS
  generalize plF n T 0 = PF at *
  generalize plT T = PT at *
  generalize szE T = er at *
  generalize (hd T).1 = x1 at *
  generalize (hd T).2.1 = x2 at *
  generalize (hd T).2.2 = x3 at *
  obtain ⟨w1, hw1, hb1, hs1, hx1⟩ := bx_made w x1 x2 x3 V.f V.d V.b V.n
  have HB1 : Hid (Below w.heap.size w w1) := hb1
  have HX1 : Hid (∀ w', Below w1.heap.size w1 w' → Bx w' w.heap.size x1 x2 x3 V.f V.d V.b V.n) := fun w' hb => hx1.below hb
  obtain ⟨c0, c1, c2, c3, c4, c5, c6⟩ := hx1
  clear hb1 hs1
  by_cases h0 : S = 0
  · obtain ⟨he1, he2⟩ := HE.out
    rw [if_pos h0] at he1 he2
    subst he1 he2
    go_enter Try.func16, Try.ntmps16
    go_wp2_with (go_at_call 14; refine Calls.mono (HCH.out _ HB1.out) ?_; rintro e w5 ⟨rfl, hb5⟩; have HB5 : Hid (Below w.heap.size w w5) := bel_next HB1.out hb5; clear hb5)
    go_ret2
    exact ⟨⟨_, rfl, ⟨rfl, .inl ⟨rfl, rfl⟩⟩⟩, HB5.out⟩
  · obtain ⟨he1, he2⟩ := HE.out
    rw [if_neg h0] at he1 he2
    subst he1 he2
    go_enter Try.func16, Try.ntmps16
    go_wp2_with (first | (go_at_call 14; refine Calls.mono (HCH.out _ HB1.out) ?_; rintro e w5 ⟨rfl, hb5⟩; obtain ⟨wa, hwa, hba, hsa, ca, fa⟩ := pp_made w5; obtain ⟨wb, wc, hwb, hwc, k0, kf, hbb, hbc, k1, kh⟩ := wk_made wa (.func (.func 32) #[] #[.pointer (some ⟨wa.heap.size, 0, none⟩), .pointer (some ⟨w5.heap.size, 0, none⟩)]) 70; have hbw : Below w1.heap.size w1 wc := bel_next (bel_next hb5 hba) hbc; have hlt : w5.heap.size < wa.heap.size := (by omega); have hcs : wa.heap.size < wc.heap.size := (Array.getElem?_eq_some_iff.1 kh).1; have HBW : Hid (Below w.heap.size w wc) := bel_next HB1.out hbw; have HPS : Hid (PS wc w5.heap.size (wa.heap.size + 1) (.slice none 0 0) []) := ps_new (by omega) ((hbc.cell (p := ⟨w5.heap.size, 0, none⟩) hlt).trans ca) ((hbc.frozen (p := ⟨w5.heap.size, 0, none⟩) hlt).trans fa) (by omega); have HPW : Hid (PlC wc wa.heap.size w5.heap.size) := k1; have HSZ : Hid (w.heap.size ≤ w5.heap.size ∧ wa.heap.size + 1 ≤ wc.heap.size ∧ w5.heap.size < wa.heap.size) := ⟨Nat.le_trans HB1.out.size hb5.size, hcs, hlt⟩; obtain ⟨e0, e1, e2, e3, e4, e5, e6⟩ := HX1.out wc hbw; clear hb5 hba hsa ca fa hbb hbc kh hbw hlt hcs) | (go_at_call 32; refine Calls.mono (HWK.out _ _ (wa.heap.size + 1) _ (Nat.lt_succ_self _) (by have := HSZ.out.2.2; omega) HSZ.out.1 HBW.out HSZ.out.2.1 HPW.out HPS.out h0) ?_; rintro e w6 ⟨rfl, v6, hs6, hm6⟩; have HS6 : Hid (PS w6 w5.heap.size (wa.heap.size + 1) v6 PT) := hs6; have HB6 : Hid (Below w.heap.size w w6) := hm6.below0 HPS.out HBW.out HSZ.out.1; have k6 := hs6.cell; clear hs6 hm6))
    go_ret2
    exact ⟨⟨_, rfl, ownsRow_mono HS6.out.own (by have := HSZ.out; omega)⟩, HB6.out⟩
end Go.Proofs.Ytojcokdfplldbaa
