/-
  The program's Bytes at a number's type, all of it. Conditions: the type may be, and lies in memory.
-/
import Derived.Test.YtojcokdfplldbaaDByN
namespace Go.Proofs.Ytojcokdfplldbaa
open Go.RowKit Go.Shelf
set_option linter.unusedVariables false
set_option maxRecDepth 100000

theorem one_made (w : World) (F : Value) (T : TypeId) : ∃ w1, w.alloc (.cells #[F] T) = w1 ∧ Below w.heap.size w w1 ∧ w1.heap.size = w.heap.size + 1 ∧ w1.cell? ⟨w.heap.size, 0, none⟩ = some F ∧ w1.frozen? ⟨w.heap.size, 0, none⟩ = false := by
  have h2 : (w.alloc (.cells #[F] T)).heap[w.heap.size]? = some (.cells #[F] T (0, 0)) := heap_alloc_new w _
  exact ⟨_, rfl, (Below.refl _ _).alloc (Nat.le_refl _) _, World.size_alloc _ _, cell_of_row _ _ 0 _ _ _ h2, free_of h2⟩
set_option maxHeartbeats 8000000 in
theorem bytesN_any (n : Nat) (T : Ty (n + 1)) (V : TV) (w : World) (h : TR (n + 1) w V T) (hc : TyN.c T = 1 ∨ TyN.c T = 2 ∨ TyN.c T = 3 ∨ TyN.c T = 4) (hw : 1 ≤ TyN.w T ∧ TyN.w T ≤ 8) (hz : szE T = 0) :
    Calls Try.prog 24 #[tyV (hd T) V] w fun e w2 => (∃ v, e = .returned (.tuple #[v, .int .i64 0]) ∧ Own w2 w.heap.size v [TyN.c T, TyN.w T, if TyN.b T then 1 else 0]) ∧ Below w.heap.size w w2 := by
  have eg : ∀ args w, (callFunc 46 args).run Try.prog w = .ok (.enter 46 args) w := enters_of Try.func46 (by kernel_rfl) rfl
  obtain ⟨fa, fn, fc, da, dn, dc, ba, bn, bc, na, nn, nc, rfl⟩ := TR.sl (n := n + 1) h
  have HCH : Hid (∀ w', Below w.heap.size w w' → Calls Try.prog 14 #[.agg #[.int .i64 (TyN.c T), .int .i64 (TyN.w T), .bool (TyN.b T), .slice fa fn fc, .slice da dn dc, .slice ba bn bc, .slice na nn nc]] w' fun e w2 => e = .returned (.int .i64 0) ∧ Below w'.heap.size w' w2) := fun w' hb => by
    rw [← hz]; exact check_any (n + 1) T ⟨.slice fa fn fc, .slice da dn dc, .slice ba bn bc, .slice na nn nc⟩ w' (TR.below (n := n + 1) h hb)
  show Calls _ _ #[.agg #[.int .i64 (TyN.c T), .int .i64 (TyN.w T), .bool (TyN.b T), _, _, _, _]] _ _
  clear h hz
  generalize TyN.c T = c at *
  generalize TyN.w T = wd at *
  generalize TyN.b T = b at *
  have HWK : Hid (∀ (pa pb pc po B : Nat) (w' : World), pa < B → pa ≠ po → PuC w' pa po → B ≤ w'.heap.size → QS w' po B (.slice none 0 0) [] → Calls Try.prog 46 #[.agg #[.int .i64 c, .int .i64 wd, .bool b, .slice fa fn fc, .slice da dn dc, .slice ba bn bc, .slice na nn nc], .pointer (some ⟨pa, 0, none⟩), .pointer (some ⟨pb, 0, none⟩), .pointer (some ⟨pc, 0, none⟩)] w' (QP w' po B (.slice none 0 0) [c, wd, if b then 1 else 0])) := fun pa pb pc po B w' h1 h2 h3 h4 h5 => by
    have := walkBN_any c wd b fa fn fc da dn dc ba bn bc na nn nc pa pb pc po B (.slice none 0 0) [] w' hc hw h1 h2 h3 h4 h5 (by simp)
    rwa [List.nil_append] at this
  obtain ⟨w1, hw1, hb1, hs1, hx1⟩ := bx_made w c wd b (.slice fa fn fc) (.slice da dn dc) (.slice ba bn bc) (.slice na nn nc)
  have HB1 : Hid (Below w.heap.size w w1) := hb1
  have HX1 : Hid (∀ w', Below w1.heap.size w1 w' → Bx w' w.heap.size c wd b (.slice fa fn fc) (.slice da dn dc) (.slice ba bn bc) (.slice na nn nc)) := fun w' hb => hx1.below hb
  obtain ⟨c0, c1, c2, c3, c4, c5, c6⟩ := hx1
  generalize [c, wd, if b then 1 else 0] = R at *
  clear hb1 hs1 hc hw
  go_enter Try.func24, Try.ntmps24
  go_wp2_with (first | (go_at_call 14; refine Calls.mono (HCH.out _ HB1.out) ?_; rintro e w5 ⟨rfl, hb5⟩; obtain ⟨wa, hwa, hba, hsa, ca, fa'⟩ := one_made w5 (.slice none 0 0) 55; obtain ⟨wb, hwb, hbb, hsb, cb, -⟩ := one_made wa (.func (.func 42) #[] #[.pointer (some ⟨w5.heap.size, 0, none⟩)]) 81; obtain ⟨wc, hwc, hbc, hsc, cc, -⟩ := one_made wb (.func (.func 44) #[] #[.pointer (some ⟨w5.heap.size, 0, none⟩)]) 83; obtain ⟨we, hwe, hbe, hse, k1, -⟩ := one_made wc (.func (.func 46) #[] #[.pointer (some ⟨wa.heap.size, 0, none⟩), .pointer (some ⟨wb.heap.size, 0, none⟩), .pointer (some ⟨wc.heap.size, 0, none⟩)]) 53; have h5e : Below w5.heap.size w5 we := bel_next (bel_next (bel_next hba hbb) hbc) hbe; have hae : Below wa.heap.size wa we := bel_next (bel_next hbb hbc) hbe; have hbe2 : Below wb.heap.size wb we := bel_next hbc hbe; have HBW : Hid (Below w.heap.size w we) := bel_next (bel_next HB1.out hb5) h5e; have HSZ : Hid (w.heap.size ≤ w5.heap.size ∧ wa.heap.size < we.heap.size ∧ wa.heap.size ≠ w5.heap.size ∧ w5.heap.size < we.heap.size) := ⟨Nat.le_trans HB1.out.size hb5.size, (by omega), (by omega), (by omega)⟩; have HQS : Hid (QS we w5.heap.size we.heap.size (.slice none 0 0) []) := ⟨(hae.cell (p := ⟨w5.heap.size, 0, none⟩) (by show w5.heap.size < wa.heap.size; omega)).trans ca, (hae.frozen (p := ⟨w5.heap.size, 0, none⟩) (by show w5.heap.size < wa.heap.size; omega)).trans fa', ⟨rfl, .inl ⟨rfl, rfl⟩⟩, HSZ.out.2.2.2⟩; have HPC : Hid (PuC we wa.heap.size w5.heap.size) := (hbe2.cell (p := ⟨wa.heap.size, 0, none⟩) (by show wa.heap.size < wb.heap.size; omega)).trans cb; obtain ⟨e0, e1, e2, e3, e4, e5, e6⟩ := HX1.out we (bel_next hb5 h5e); clear hb5 hba hsa ca fa' hbb hsb cb hbc hsc cc hbe hse h5e hae hbe2) | (go_at_call 46; refine Calls.mono (HWK.out _ _ _ _ we.heap.size _ HSZ.out.2.1 HSZ.out.2.2.1 HPC.out (Nat.le_refl _) HQS.out) ?_; rintro e w6 ⟨rfl, v6, hs6, hm6⟩; have HS6 : Hid (QS w6 w5.heap.size we.heap.size v6 R) := hs6; have HB6 : Hid (Below w.heap.size w w6) := HBW.out.trans (hm6.kp.below HBW.out.size (fun x e => e.elim (fun e => by have := HSZ.out.1; omega) (fun e => by cases e))); have k6 := hs6.cell; clear hs6 hm6))
  go_ret2
  exact ⟨⟨_, rfl, ownsRow_mono HS6.out.own (by have := HSZ.out; omega)⟩, HB6.out⟩
end Go.Proofs.Ytojcokdfplldbaa
