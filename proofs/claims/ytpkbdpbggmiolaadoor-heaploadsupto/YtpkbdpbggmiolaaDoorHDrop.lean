/-
  The walk of Drop; the other calls of no heap. Conditions: numbers are ints.
-/
import Derived.Test.YtpkbdpbggmiolaaDoorHAdd2
namespace Go.Proofs.YtpkbdpbggmiolaaDoor
open Go.RowKit Go.Maps
set_option linter.unusedVariables false
set_option maxRecDepth 100000

theorem hdrop_no (v : Value) (i : Int) (w : World) (h : NoHeap w v) : Calls Tryd.prog 11 #[v, .int .i64 i] w fun e w' => e = .returned (.int .i64 1) ∧ w' = w := by
  have H : Hid (NoHeap w v) := h
  clear h
  go_enter Tryd.func11, Tryd.ntmps11
  go_wp2_with (go_at_call 20; refine (hNone_no v w H.out).mono ?_; rintro e w1 ⟨rfl, hw1⟩; obtain rfl := hw1.symm)
  go_ret
  exact ⟨rfl, rfl⟩
theorem hget_no (v : Value) (i : Int) (w : World) (h : NoHeap w v) : Calls Tryd.prog 9 #[v, .int .i64 i] w fun e w' => e = .returned (.tuple #[.slice none 0 0, .int .i64 1]) ∧ w' = w := by
  have H : Hid (NoHeap w v) := h
  clear h
  go_enter Tryd.func9, Tryd.ntmps9
  go_wp2_with (go_at_call 20; refine (hNone_no v w H.out).mono ?_; rintro e w1 ⟨rfl, hw1⟩; obtain rfl := hw1.symm)
  go_ret2
  exact ⟨rfl, rfl⟩
theorem hlen_no (v : Value) (w : World) (h : NoHeap w v) : Calls Tryd.prog 19 #[v] w fun e w' => e = .returned (.int .i64 0) ∧ w' = w := by
  have H : Hid (NoHeap w v) := h
  clear h
  go_enter Tryd.func19, Tryd.ntmps19
  go_wp2_with (go_at_call 20; refine (hNone_no v w H.out).mono ?_; rintro e w1 ⟨rfl, hw1⟩; obtain rfl := hw1.symm)
  go_ret
  exact ⟨rfl, rfl⟩
theorem hids_no (v : Value) (w : World) (h : NoHeap w v) : Calls Tryd.prog 27 #[v] w fun e w' => e = .returned (.slice none 0 0) ∧ w' = w := by
  have H : Hid (NoHeap w v) := h
  clear h
  go_enter Tryd.func27, Tryd.ntmps27
  go_wp2_with (go_at_call 20; refine (hNone_no v w H.out).mono ?_; rintro e w1 ⟨rfl, hw1⟩; obtain rfl := hw1.symm)
  go_ret
  exact ⟨rfl, rfl⟩
theorem hbytes_no (v : Value) (w : World) (h : NoHeap w v) : Calls Tryd.prog 14 #[v] w fun e w' => e = .returned (.slice none 0 0) ∧ w' = w := by
  have H : Hid (NoHeap w v) := h
  clear h
  go_enter Tryd.func14, Tryd.ntmps14
  go_wp2_with (go_at_call 20; refine (hNone_no v w H.out).mono ?_; rintro e w1 ⟨rfl, hw1⟩; obtain rfl := hw1.symm)
  go_ret
  exact ⟨rfl, rfl⟩
theorem hdrop_none {w : World} {B p m c low N : Nat} {T : Int → Option (List Int)} {D : DataW Value} (h : HP w B p m c low N T D) (i : Int) (h0 : -9223372036854775808 ≤ i) (h1 : i ≤ 9223372036854775807) (hT : T i = none) :
    Calls Tryd.prog 11 #[.pointer (some ⟨p, 0, none⟩), .int .i64 i] w fun e w' => e = .returned (.int .i64 10) ∧ w' = w := by
  obtain ⟨c0, _, _⟩ := h.c0
  have HH : Hid _ := has_any h i h0 h1
  rw [hT, Option.isSome_none] at HH
  clear h
  go_enter Tryd.func11, Tryd.ntmps11
  go_wp2_with (first | (go_at_call 20; refine (hNone_any p m w c0).mono ?_; rintro e w1 ⟨rfl, hw1⟩; obtain rfl := hw1.symm) | (go_at_call 24; refine Calls.mono HH.out ?_; rintro e w1 ⟨rfl, hw1⟩; obtain rfl := hw1.symm))
  go_ret
  exact ⟨rfl, rfl⟩
theorem HP.count {w : World} {B p m c low N : Nat} {T : Int → Option (List Int)} {D : DataW Value} (h : HP w B p m c low N T D) {i : Int} {b : List Int} (hT : T i = some b) : 1 ≤ c := by
  obtain ⟨v, hv, _⟩ := h.mp.yes i b hT
  rw [← h.mp.sz]
  obtain ⟨es, rfl⟩ := h.mp.map.isMap
  cases es with
  | nil => simp [Maps.has] at hv
  | cons x es => simp [Maps.size]
theorem HP.struck {w w1 : World} {B p m c low N : Nat} {T : Int → Option (List Int)} {D : DataW Value} (h : HP w B p m (c + 1) low N T D) {k : Nat} (i : Nat) (hM : MP w1 m c (putT T i none) (D.del (ky i))) (hG : w.grownBy w1 (some m)) (hC : w1.heap[p]? = some (.cells #[.map (some m), .int .i64 (low : Int)] 59 (0, 0))) (hpm : p ≠ m) (hk : k ≤ low) (hki : k ≤ i) (hkN : k ≤ N) :
    HP (w1.setCell ⟨p, 1, none⟩ (.int .i64 (k : Int))) B p m c k N (putT T i none) (D.del (ky i)) := by
  have hAP : ∀ j b' v, putT T i none j = some b' → (D.del (ky i)).atKey (ky j) .nil = .held v → ∀ g, v.ownBlock = some g → g ≠ p := fun j b' v hj hat g hg => by
    have e : j ≠ i := fun e => by subst e; rw [putT_same] at hj; cases hj
    rw [putT_other T _ e] at hj
    rw [atKey_del_other (ky_ne e)] at hat
    exact h.apart j b' v hj hat g hg
  have hgs : w1.grownBy (w1.setCell ⟨p, 1, none⟩ (.int .i64 (k : Int))) (some p) := ⟨rfl, rfl, rfl, by simp [World.setCell], fun q hq hne => Below.heap_setCell _ _ _ _ (fun e => hne (by rw [e]))⟩
  refine ⟨?_, hM.kept hgs (fun e => hpm (Option.some.inj e)) (fun j b' v hj hat g hg e => hAP j b' v hj hat g hg (Option.some.inj e).symm), h.bp, h.bm, h.ne, hAP, fun j hj => ?_, fun j b' hj => ?_, h.hN, hkN⟩
  · rw [heap_setCell_same w1 p 1 _ _ _ hC]
    simp
  · obtain ⟨b', hb'⟩ := h.lowf j (by omega)
    exact ⟨b', by rw [putT_other T _ (by omega)]; exact hb'⟩
  · have e : j ≠ i := fun e => by subst e; rw [putT_same] at hj; cases hj
    rw [putT_other T _ e] at hj
    exact h.bd j b' hj
set_option maxHeartbeats 2000000 in
theorem hdrop_at {w : World} {B p m c low N : Nat} {T : Int → Option (List Int)} {D : DataW Value} (h : HP w B p m (c + 1) low N T D) (hB : B ≤ w.heap.size) (i : Nat) (b : List Int) (hT : T (i : Int) = some b) :
    Calls Tryd.prog 11 #[.pointer (some ⟨p, 0, none⟩), .int .i64 (i : Int)] w fun e w' => e = .returned (.int .i64 0) ∧ HP w' B p m c (min low i) N (putT T i none) (D.del (ky i)) ∧ Below B w w' ∧ (∀ x, x < w.heap.size → x ≠ p → x ≠ m → w'.heap[x]? = w.heap[x]?) := by
  obtain ⟨c0, c1, f1⟩ := h.c0
  have hiN := (h.bd _ _ hT).2
  have hN := h.hN
  have hi32 : i ≤ 4294967296 := by omega
  have h0 : -9223372036854775808 ≤ (i : Int) := by omega
  have h1 : (i : Int) ≤ 9223372036854775807 := by omega
  have HH : Hid _ := has_any h (i : Int) h0 h1
  rw [hT, Option.isSome_some] at HH
  have HP0 : Hid (HP w B p m (c + 1) low N T D) := h
  have HM : Hid (w.ownsMap Tryd.prog 3 Rv m (c + 1) D) := h.mp.map
  have HPM : Hid (p ≠ m ∧ p < w.heap.size) := ⟨fun e => h.ne e.symm, (Array.getElem?_eq_some_iff.1 h.cells).1⟩
  have HT : Hid (T (i : Int) = some b) := hT
  have HLN : Hid (low ≤ N) := h.hlow
  clear h hT
  have hcase : (min low i = low ∧ (low : Int) ≤ i) ∨ (min low i = i ∧ ¬ (low : Int) ≤ i) := by omega
  go_enter Tryd.func11, Tryd.ntmps11
  go_wp2_with (first | (go_at_call 20; refine (hNone_any p m w c0).mono ?_; rintro e w1 ⟨rfl, hw1⟩; obtain rfl := hw1.symm) | (go_at_call 24; refine Calls.mono HH.out ?_; rintro e w1 ⟨rfl, hw1⟩; obtain rfl := hw1.symm) | (at_delete; refine wpList_delete_own _ rfl _ _ 57 3 rfl 29 Tryd.keyed Tryd.underlying57 Rv m (c + 1) D rfl HM.out _ _ rfl (key_mk h0 h1) ?_; intro w1 ho1 ht1; have HM1 : Hid (MP w1 m c (putT T i none) (D.del (ky i))) := HP0.out.mp.del i (by rw [HT.out]; rfl) ho1 ht1; have HG1 : Hid (w.grownBy w1 (some m)) := ht1.grown; have HC1 : Hid (w1.heap[p]? = some (.cells #[.map (some m), .int .i64 (low : Int)] 59 (0, 0))) := (HG1.out.block p HPM.out.2 (fun e => HPM.out.1 (Option.some.inj e))).trans HP0.out.cells; have d1 : w1.cell? ⟨p, 1, none⟩ = some (.int .i64 (low : Int)) := (by simp [World.cell?, HC1.out]); have g1 : w1.frozen? ⟨p, 1, none⟩ = false := (by simp [World.frozen?, HC1.out]); clear ho1 ht1 c0 c1 f1; rcases hcase with ⟨hmn, hcs⟩ | ⟨hmn, hcs⟩))
  · go_ret
    refine ⟨rfl, ?_, ?_, fun x hx hxp hxm => (Below.heap_setCell _ _ _ _ (fun e => hxp e)).trans (HG1.out.block x hx (fun e => hxm (Option.some.inj e)))⟩
    · rw [hmn]
      exact HP0.out.struck i HM1.out HG1.out HC1.out HPM.out.1 (by omega) (by omega) (by have := HLN.out; omega)
    · have h2 : Below B w w1 := (Below.refl B w).grown HG1.out hB (fun j hj => by cases hj; exact HP0.out.bm)
      exact h2.setCell HP0.out.bp _
  · go_ret
    refine ⟨rfl, ?_, ?_, fun x hx hxp hxm => (Below.heap_setCell _ _ _ _ (fun e => hxp e)).trans (HG1.out.block x hx (fun e => hxm (Option.some.inj e)))⟩
    · rw [hmn]
      exact HP0.out.struck i HM1.out HG1.out HC1.out HPM.out.1 (by omega) (by omega) (by have := HLN.out; omega)
    · have h2 : Below B w w1 := (Below.refl B w).grown HG1.out hB (fun j hj => by cases hj; exact HP0.out.bm)
      exact h2.setCell HP0.out.bp _
theorem hdrop_any {w : World} {B p m c low N : Nat} {T : Int → Option (List Int)} {D : DataW Value} (h : HP w B p m (c + 1) low N T D) (hB : B ≤ w.heap.size) (i : Nat) (b : List Int) (hT : T (i : Int) = some b) :
    Calls Tryd.prog 11 #[.pointer (some ⟨p, 0, none⟩), .int .i64 (i : Int)] w fun e w' => e = .returned (.int .i64 0) ∧ HP w' B p m c (min low i) N (putT T i none) (D.del (ky i)) ∧ Below B w w' :=
  (hdrop_at h hB i b hT).mono fun e w' ⟨h1, h2, h3, _⟩ => ⟨h1, h2, h3⟩
end Go.Proofs.YtpkbdpbggmiolaaDoor
