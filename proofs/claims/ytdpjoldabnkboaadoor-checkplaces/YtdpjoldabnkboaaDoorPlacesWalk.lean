/-
  The walk of the law CheckPlaces: true for all bytes and every place. Conditions: lengths within the machine's bounds; the table stands as the program's text lays it.
-/
import Derived.Test.YtdpjoldabnkboaaDoorPlace
import Derived.BigRegion
import Derived.Deep.RegionHeld
namespace Go.Proofs.YtdpjoldabnkboaaDoor
open Go.ChangeShapes Go.WideShapes Go.ChangeAt Go.RowKit
set_option linter.unusedVariables false

/-- Two neighbours that change places. -/
theorem fletch_swapped (l : List Int) (k : Nat) (p q : Int) (hk : k + 1 < l.length) (hp : p = l.getD k 0) (hq : q = l.getD (k + 1) 0) (p0 : 0 ≤ p ∧ p ≤ 255) (q0 : 0 ≤ q ∧ q ≤ 255) :
    (fletch ((l.set k q).set (k + 1) p) == fletch l) = (p == q) := by
  have hp' : p = l[k] := by rw [hp]; simp [List.getD, show k < l.length by omega]
  have hq' : q = l[k + 1] := by rw [hq]; simp [List.getD, hk]
  have e : l = l.take k ++ p :: q :: l.drop (k + 2) := by
    have h1 := List.take_append_drop k l
    rw [List.drop_eq_getElem_cons (show k < l.length by omega), List.drop_eq_getElem_cons hk, ← hp', ← hq'] at h1
    exact h1.symm
  have hlen : (l.take k).length = k := by simp; omega
  have e2 : (l.set k q).set (k + 1) p = l.take k ++ q :: p :: l.drop (k + 2) := by
    have h1 : l.set k q = l.take k ++ q :: q :: l.drop (k + 2) := by
      rw [show l.set k q = (l.take k ++ p :: q :: l.drop (k + 2)).set k q by rw [← e], set_mid _ _ _ _ _ hlen.symm]
    have h2 : l.take k ++ q :: q :: l.drop (k + 2) = (l.take k ++ [q]) ++ q :: l.drop (k + 2) := by simp
    rw [h1, h2, set_mid _ _ _ _ _ (by simp; omega)]; simp
  have h := fletch_places (l.take k) (l.drop (k + 2)) p q p0 q0
  rw [← e, ← e2] at h
  by_cases hpq : p = q
  · have h1 := h.2 hpq
    rw [← h1, hpq]; simp
  · have h1 : ¬ fletch ((l.set k q).set (k + 1) p) = fletch l := fun e => hpq (h.1 e.symm)
    rw [beq_eq_false_iff_ne.2 h1, beq_eq_false_iff_ne.2 hpq]

set_option maxHeartbeats 4000000 in
theorem checkPlaces_walk (v0 : Value) (l0 : List Int) (a1 : Int) (w : World) (hT : Tab w) (b0 : Bs w v0 l0) (y0 : Byt l0) (z0 : l0.length ≤ 140737488351232) (w1 : (Lit.int .i64 a1).wf = true) :
    Calls Tryd.prog 8 #[v0, .int .i64 a1] w fun e w' => e = .returned (.bool true) ∧ Below w.heap.size w w' := by
  obtain ⟨i0, hi, hz0, hz1, hz2⟩ := info_parts Tryd.info5
  have ha := bounds_i64 w1
  clear w1
  have HB : Hid (Bs w v0 l0) := b0
  by_cases h2 : l0.length < 2
  · obtain ⟨ao, cap, rfl, hc, hn, hcell⟩ := b0
    clear hcell hn
    go_enter Tryd.func8, Tryd.ntmps8
    go_wp2_with (go_at_call 13; refine (lives2_any _ hT).mono ?_; rintro e w3 ⟨rfl, hb3⟩)
    go_ret
    exact ⟨rfl, by assumption⟩
  · obtain ⟨b, off, cap, rfl, hc, hcell⟩ := b0.opened (by omega)
    obtain ⟨n, hn⟩ : ∃ n, l0.length = n + 1 := ⟨l0.length - 1, by omega⟩
    obtain ⟨k, hk, hk1, hk2, hk3⟩ := place_any a1 n (by omega)
    have hn1 : 1 ≤ n := by omega
    have hn2 : n ≤ 140737488351231 := by omega
    have HN : Hid (l0.length = n + 1) := hn
    have HC0 : Hid (w.cell? ⟨b, off + k, none⟩ = some (.int .u8 (l0.getD k 0))) := hcell k (by omega)
    have HC1 : Hid (w.cell? ⟨b, off + (k + 1), none⟩ = some (.int .u8 (l0.getD (k + 1) 0))) := hcell (k + 1) (by omega)
    have hblt := World.block_lt_of_cell? w _ HC0.out
    have hblt' : b < w.heap.size := hblt
    rw [hn] at hc z0 ⊢
    clear hcell h2 hblt b0
    go_enter Tryd.func8, Tryd.ntmps8
    go_wp2_with (at_builtin; refine wpList_append_bytes _ rfl (.tmp 22) (.tmp 23) 22 rfl i0 Tryd.underlying22 hi hz0 hz1 hz2 w.heap.size _ _ [] l0 rfl rfl (Own.empty _ _ (Nat.le_refl _)) (by have := HB.out; rw [HN.out] at this; exact this.below ((Below.refl _ _).alloc (Nat.le_refl _) _)) (by rw [HN.out]; simp; omega) w ((Below.refl _ _).alloc (Nat.le_refl _) _) (by simp) ?_; intro ao1 cap1 w1 ho1 hb1 hs1 hc1; obtain ⟨g, rfl, hg1, hg2⟩ := hs1 (by rw [HN.out]; simp); clear hs1; simp only [List.length_nil, Nat.zero_add, List.nil_append] at ho1 hc1; rw [HN.out] at ho1 hc1; simp only [List.length_nil, Nat.zero_add]; rw [HN.out])
    have hp := y0 k
    have hq := y0 (k + 1)
    have hcb0 := cell_later hb1 HC0.out
    have hcb1 := cell_later hb1 HC1.out
    obtain ⟨hx0, hf0⟩ := ho1.cell HN.out k (by omega)
    obtain ⟨hx1, hf1⟩ := ho1.cell HN.out (k + 1) (by omega)
    obtain ⟨p, hpe⟩ : ∃ p, p = l0.getD k 0 := ⟨_, rfl⟩
    obtain ⟨q, hqe⟩ : ∃ q, q = l0.getD (k + 1) 0 := ⟨_, rfl⟩
    rw [← hpe] at hp hcb0 hx0
    rw [← hqe] at hq hcb1 hx1
    have HPE : Hid (p = l0.getD k 0) := hpe
    have HQE : Hid (q = l0.getD (k + 1) 0) := hqe
    have HO1 : Hid (Own w1 w.heap.size (.slice (some ⟨g, 0, none⟩) (n + 1) cap1) l0) := ho1
    have HB1 : Hid (Below w.heap.size w w1) := hb1
    have HT : Hid (Tab w) := hT
    clear hpe hqe ho1 hb1 hT
    have hwr : IntKind.i64.wrap ((k : Int) + 1) = (k : Int) + 1 := wrap_i64_in _ (by omega) (by omega)
    have hi0 : (0 : Int) ≤ (k : Int) := by omega
    have hi1 : (k : Int) < (n : Int) + 1 := by omega
    have hi2 : (0 : Int) ≤ (k : Int) + 1 := by omega
    have hi3 : (k : Int) + 1 < (n : Int) + 1 := by omega
    go_region
    obtain ⟨hs1, hgr1⟩ := HO1.out.stored HN.out k q
    obtain ⟨hs2, hgr2⟩ := hs1.stored (by rw [List.length_set, HN.out]) (k + 1) p
    have HX : Hid (Bs ((w1.setCell ⟨g, k, none⟩ (.int .u8 q)).setCell ⟨g, k + 1, none⟩ (.int .u8 p)).drew (.slice (some ⟨g, 0, none⟩) (n + 1) cap1) ((l0.set k q).set (k + 1) p)) := hs2.bs.drew
    have HB4 : Hid (Below w.heap.size w ((w1.setCell ⟨g, k, none⟩ (.int .u8 q)).setCell ⟨g, k + 1, none⟩ (.int .u8 p)).drew) :=
      ((HB1.out.grown hgr1 HB1.out.size (fun j hj => by simp at hj; omega)).grown hgr2 (by simpa using HB1.out.size) (fun j hj => by simp at hj; omega)).drew
    clear hs1 hgr1 hs2 hgr2 hcb0 hcb1 hx0 hx1 hf0 hf1
    generalize ((w1.setCell ⟨g, k, none⟩ (.int .u8 q)).setCell ⟨g, k + 1, none⟩ (.int .u8 p)).drew = w4 at *
    have hcb0 := cell_later HB4.out HC0.out
    have hcb1 := cell_later HB4.out HC1.out
    rw [← HPE.out] at hcb0
    rw [← HQE.out] at hcb1
    have HT4 : Hid (Tab w4) := HT.out.below HB4.out
    have HL4 : Hid (Bs w4 (.slice (some ⟨b, off, none⟩) (n + 1) cap) l0) := by have := HB.out.below HB4.out; rw [HN.out] at this; exact this
    have HY : Hid (Byt ((l0.set k q).set (k + 1) p)) := byt_set (byt_set y0 k hq) (k + 1) hp
    have HLen : Hid (((l0.set k q).set (k + 1) p).length = n + 1) := by show _ = _; rw [List.length_set, List.length_set, HN.out]
    have hfe : (fletch ((l0.set k q).set (k + 1) p) == fletch l0) = (p == q) := fletch_swapped l0 k p q (by rw [HN.out]; omega) HPE.out HQE.out hp hq
    generalize (l0.set k q).set (k + 1) p = l' at *
    go_wp2_with fail
    have hd0 : Below w4.heap.size w4 w4.drew := (Below.refl _ _).drew
    have HCB0 : Hid (w4.cell? ⟨b, off + k, none⟩ = some (.int .u8 p)) := hcb0
    have HCB1 : Hid (w4.cell? ⟨b, off + (k + 1), none⟩ = some (.int .u8 q)) := hcb1
    have HS : Hid (∀ w', Below w4.heap.size w4 w' → w'.cell? ⟨b, off + k, none⟩ = some (.int .u8 p) ∧ w'.cell? ⟨b, off + (k + 1), none⟩ = some (.int .u8 q)) := fun w' hw => ⟨cell_later hw hcb0, cell_later hw hcb1⟩
    clear hcb0 hcb1
    go_region_held (fun w' => w'.cell? ⟨b, off + k, none⟩ = some (.int .u8 p) ∧ w'.cell? ⟨b, off + (k + 1), none⟩ = some (.int .u8 q) ∧ Below w4.heap.size w4 w') (exact ⟨(HS.out _ (by assumption)).1, (HS.out _ (by assumption)).2, by assumption⟩) (first | (go_at_call 10; have hm2 := hm1; clear hm2; refine (fletcher_any _ l0 _ (HL4.out.below (by assumption)) (by rw [HN.out]; omega) y0).mono ?_; rintro e w5 ⟨rfl, rfl⟩) | (go_at_call 10; refine (fletcher_any _ l' _ (HX.out.below (by assumption)) (by rw [HLen.out]; omega) HY.out).mono ?_; rintro e w5 ⟨rfl, rfl⟩; have hm1 := True.intro) | (go_at_call 13; refine (lives2_any _ (HT4.out.below (by assumption))).mono ?_; rintro e w6 ⟨rfl, hb6⟩; have hb7 := below_undrew hb6))
    go_wp2
    go_ret
    exact ⟨rfl, HB4.out.trans (hb7.mono HB4.out.size)⟩

end Go.Proofs.YtdpjoldabnkboaaDoor
