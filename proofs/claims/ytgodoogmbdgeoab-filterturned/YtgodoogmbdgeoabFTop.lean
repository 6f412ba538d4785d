/-
  Shuffle, Unshuffle, Delta, Undelta of the program. Conditions: lengths are such as memory bears.
-/
import Derived.Test.YtgodoogmbdgeoabFEach
import Derived.Test.YtgodoogmbdgeoabFNum
namespace Go.Proofs.Ytgodoogmbdgeoab
open Go.RowKit Go.Shelf
set_option linter.unusedVariables false
set_option maxRecDepth 100000

/-- What the calls tell of a width, and their bytes. -/
def wE (z : Int) : Int := if 1 ≤ z ∧ z ≤ 8 then 0 else 2
def wL (z : Int) (F : Nat → List Int → List Int) (l : List Int) : List Int := if wE z = 0 then F z.toNat l else []
theorem wE_no {z : Int} (h : z < 1 ∨ 8 < z) : wE z = 2 := by rw [wE, if_neg (by omega)]
theorem wE_yes {z : Nat} (h1 : 1 ≤ z) (h8 : z ≤ 8) : wE (z : Int) = 0 := by rw [wE, if_pos (by omega)]
def ShP (w : World) (er : Int) (R : List Int) (e : Ending) (w' : World) : Prop := ∃ x, e = .returned (.tuple #[x, .int .i64 er]) ∧ Fr w' w.heap.size x R ∧ Below w.heap.size w w'
theorem box1 (w : World) (v : Value) (T : TypeId) : ∃ w', w.alloc (.cells #[v] T) = w' ∧ w'.cell? ⟨w.heap.size, 0, none⟩ = some v ∧ w'.frozen? ⟨w.heap.size, 0, none⟩ = false ∧ Below w.heap.size w w' ∧ w'.heap.size = w.heap.size + 1 := by
  have h : (w.alloc (.cells #[v] T)).heap[w.heap.size]? = some (.cells #[v] T (0, 0)) := heap_alloc_new w _
  have h2 : Below w.heap.size w (w.alloc (.cells #[v] T)) := (Below.refl _ _).alloc (Nat.le_refl _) _
  have h3 : (w.alloc (.cells #[v] T)).heap.size = w.heap.size + 1 := World.size_alloc _ _
  obtain ⟨w', hw⟩ : ∃ w', w.alloc (.cells #[v] T) = w' := ⟨_, rfl⟩
  rw [hw] at h h2 h3
  exact ⟨w', hw, cell_of_row _ _ 0 _ _ _ h, by simp [World.frozen?, h], h2, h3⟩
/-- A variable that is laid, and then stored into. -/
theorem box2 (w : World) (v0 v : Value) (T : TypeId) : ∃ wa wb, w.alloc (.cells #[v0] T) = wa ∧ wa.setCell ⟨w.heap.size, 0, none⟩ v = wb ∧ wa.cell? ⟨w.heap.size, 0, none⟩ = some v0 ∧ wa.frozen? ⟨w.heap.size, 0, none⟩ = false ∧ Below w.heap.size w wa ∧ wb.cell? ⟨w.heap.size, 0, none⟩ = some v ∧ wb.frozen? ⟨w.heap.size, 0, none⟩ = false ∧ Below w.heap.size w wb ∧ wb.heap.size = w.heap.size + 1 := by
  obtain ⟨wa, h0, h1, h2, h3, h4⟩ := box1 w v0 T
  exact ⟨wa, _, h0, rfl, h1, h2, h3, World.cell?_setCell_same _ _ _ h1, by rw [World.frozen?_setCell]; exact h2, h3.setCell (p := ⟨w.heap.size, 0, none⟩) (Nat.le_refl _) _, by simp [World.setCell]; exact h4⟩
set_option maxHeartbeats 8000000 in
theorem shuffle_any (z : Int) (v : Value) (l : List Int) (w : World) (hl : Bs w v l) (hby : Byt l) (hlb : l.length ≤ 140737488351232) :
    Calls Try.prog 12 #[.int .i64 z, v] w (ShP w (wE z) (wL z shL l)) := by
  obtain ⟨ao, cap, rfl, hc, hn, _⟩ := id hl
  obtain ⟨len, hll⟩ : ∃ len, l.length = len := ⟨_, rfl⟩
  rw [hll] at hc hlb hl ⊢
  obtain ⟨w1, hw1, a1, f1, b1, s1⟩ := box1 w (.int .i64 z) 3
  obtain ⟨w2, hw2, a2, f2, b2, s2⟩ := box1 w1 (.slice ao len cap) 23
  have c1 := bel_cellF b2 a1
  have HB2 : Hid (Below w.heap.size w w2) := b1.trans (b2.mono b1.size)
  have HL2 : Hid (Bs w2 (.slice ao len cap) l) := hl.below HB2.out
  by_cases hz : 1 ≤ z ∧ z ≤ 8
  · obtain ⟨zn, rfl⟩ : ∃ zn : Nat, z = (zn : Int) := ⟨z.toNat, by omega⟩
    have h1 : 1 ≤ zn := by omega
    have h8 : zn ≤ 8 := by omega
    have hwl : wL (zn : Int) shL l = shL zn l := by rw [wL, if_pos (wE_yes h1 h8)]; rfl
    obtain ⟨n, hnl⟩ : ∃ n, len / zn = n := ⟨_, rfl⟩
    have hnl' : l.length / zn = n := by rw [hll, hnl]
    have HEA : Hid (Calls Try.prog 20 #[.int .i64 (zn : Int), .slice ao len cap, .func (.func 21) #[] #[.pointer (some ⟨w.heap.size, 0, none⟩), .pointer (some ⟨w1.heap.size, 0, none⟩)]] w2 fun e w' => e = .returned (.tuple #[.slice (some ⟨w2.heap.size, 0, none⟩) len len, .int .i64 0]) ∧ Row w' w2.heap.size (shL zn l) ∧ Below w.heap.size w w') := by
      refine each_sh zn n (n * zn) len l (shT zn n 0 l) (shL zn l) ao cap _ _ w.heap.size w w2 (fun k w3 => Row w3 w2.heap.size (shT zn k 0 l) ∧ Below w2.heap.size w2 w3) hll hc hlb hnl h1 h8 rfl (by rw [← hnl']; exact shT_all zn l h1) hn (fun w3 h3 h4 => ⟨by rw [shT_zero, hll]; exact h3, h4⟩) (fun k w3 hk h => ?_) (fun w3 h => ⟨h.1, by rw [shT_len, hll], HL2.out.below h.2, HB2.out.trans (h.2.mono HB2.out.size)⟩) (by omega)
      exact shu1_any zn k n len l ao cap w2.heap.size _ _ w2 w3 HL2.out hll hlb hnl' c1 a2 h.2 h.1 (Nat.le_refl _) h1 h8 hk
    have HRL : Hid ((shL zn l).length = len) := by rw [Hid, shL_len, hll]
    rw [hwl, wE_yes h1 h8]
    have hsz : w.heap.size ≤ w2.heap.size := by omega
    clear hl hz hwl hnl hnl' b1 b2 s1 s2 a1 hll
    go_enter Try.func12, Try.ntmps12
    go_wp2_with fail
    refine Calls.mono HEA.out ?_
    rintro e w9 ⟨rfl, hr9, hb9⟩
    have HR9 : Hid (Row w9 w2.heap.size (shL zn l) ∧ Below w.heap.size w w9) := ⟨hr9, hb9⟩
    clear hr9 hb9
    go_wp2_with fail
    go_ret2
    exact ⟨_, rfl, .inr ⟨_, hsz, by rw [HRL.out]; rfl, HR9.out.1⟩, HR9.out.2⟩
  · have HN : Hid (Calls Try.prog 20 #[.int .i64 z, .slice ao len cap, .func (.func 21) #[] #[.pointer (some ⟨w.heap.size, 0, none⟩), .pointer (some ⟨w1.heap.size, 0, none⟩)]] w2 fun e w' => e = .returned (.tuple #[.slice none 0 0, .int .i64 2]) ∧ w' = w2) := each_no z _ _ _ (by omega)
    have HV : Hid (ShP w (wE z) (wL z shL l) (.returned (.tuple #[.slice none 0 0, .int .i64 2])) w2) := ⟨_, by rw [wE_no (by omega)], .inl ⟨rfl, by rw [wL, if_neg (by rw [wE_no (by omega)]; simp)]⟩, HB2.out⟩
    clear hl hz b1 b2 s1 s2 a1
    go_enter Try.func12, Try.ntmps12
    go_wp2_with fail
    refine Calls.mono HN.out ?_
    rintro e w9 ⟨rfl, rfl⟩
    go_wp2_with fail
    go_ret2
    exact HV.out
set_option maxHeartbeats 8000000 in
theorem unshuffle_any (z : Int) (v : Value) (l : List Int) (w : World) (hl : Bs w v l) (hby : Byt l) (hlb : l.length ≤ 140737488351232) :
    Calls Try.prog 13 #[.int .i64 z, v] w (ShP w (wE z) (wL z unL l)) := by
  obtain ⟨ao, cap, rfl, hc, hn, _⟩ := id hl
  obtain ⟨len, hll⟩ : ∃ len, l.length = len := ⟨_, rfl⟩
  rw [hll] at hc hlb hl ⊢
  obtain ⟨w1, hw1, a1, f1, b1, s1⟩ := box1 w (.int .i64 z) 3
  obtain ⟨w2, hw2, a2, f2, b2, s2⟩ := box1 w1 (.slice ao len cap) 23
  have c1 := bel_cellF b2 a1
  have HB2 : Hid (Below w.heap.size w w2) := b1.trans (b2.mono b1.size)
  have HL2 : Hid (Bs w2 (.slice ao len cap) l) := hl.below HB2.out
  by_cases hz : 1 ≤ z ∧ z ≤ 8
  · obtain ⟨zn, rfl⟩ : ∃ zn : Nat, z = (zn : Int) := ⟨z.toNat, by omega⟩
    have h1 : 1 ≤ zn := by omega
    have h8 : zn ≤ 8 := by omega
    have hwl : wL (zn : Int) unL l = unL zn l := by rw [wL, if_pos (wE_yes h1 h8)]; rfl
    obtain ⟨n, hnl⟩ : ∃ n, len / zn = n := ⟨_, rfl⟩
    have hnl' : l.length / zn = n := by rw [hll, hnl]
    have HEA : Hid (Calls Try.prog 20 #[.int .i64 (zn : Int), .slice ao len cap, .func (.func 22) #[] #[.pointer (some ⟨w.heap.size, 0, none⟩), .pointer (some ⟨w1.heap.size, 0, none⟩)]] w2 fun e w' => e = .returned (.tuple #[.slice (some ⟨w2.heap.size, 0, none⟩) len len, .int .i64 0]) ∧ Row w' w2.heap.size (unL zn l) ∧ Below w.heap.size w w') := by
      refine each_un zn n (n * zn) len l (unT zn n 0 l) (unL zn l) ao cap _ _ w.heap.size w w2 (fun k w3 => Row w3 w2.heap.size (unT zn k 0 l) ∧ Below w2.heap.size w2 w3) hll hc hlb hnl h1 h8 rfl (by rw [← hnl']; exact unT_all zn l h1) hn (fun w3 h3 h4 => ⟨by rw [unT_zero, hll]; exact h3, h4⟩) (fun k w3 hk h => ?_) (fun w3 h => ⟨h.1, by rw [unT_len, hll], HL2.out.below h.2, HB2.out.trans (h.2.mono HB2.out.size)⟩) (by omega)
      exact uns1_any zn k n len l ao cap w2.heap.size _ _ w2 w3 HL2.out hll hlb hnl' c1 a2 h.2 h.1 (Nat.le_refl _) h1 h8 hk
    have HRL : Hid ((unL zn l).length = len) := by rw [Hid, unL_len, hll]
    rw [hwl, wE_yes h1 h8]
    have hsz : w.heap.size ≤ w2.heap.size := by omega
    clear hl hz hwl hnl hnl' b1 b2 s1 s2 a1 hll
    go_enter Try.func13, Try.ntmps13
    go_wp2_with fail
    refine Calls.mono HEA.out ?_
    rintro e w9 ⟨rfl, hr9, hb9⟩
    have HR9 : Hid (Row w9 w2.heap.size (unL zn l) ∧ Below w.heap.size w w9) := ⟨hr9, hb9⟩
    clear hr9 hb9
    go_wp2_with fail
    go_ret2
    exact ⟨_, rfl, .inr ⟨_, hsz, by rw [HRL.out]; rfl, HR9.out.1⟩, HR9.out.2⟩
  · have HN : Hid (Calls Try.prog 20 #[.int .i64 z, .slice ao len cap, .func (.func 22) #[] #[.pointer (some ⟨w.heap.size, 0, none⟩), .pointer (some ⟨w1.heap.size, 0, none⟩)]] w2 fun e w' => e = .returned (.tuple #[.slice none 0 0, .int .i64 2]) ∧ w' = w2) := each_no z _ _ _ (by omega)
    have HV : Hid (ShP w (wE z) (wL z unL l) (.returned (.tuple #[.slice none 0 0, .int .i64 2])) w2) := ⟨_, by rw [wE_no (by omega)], .inl ⟨rfl, by rw [wL, if_neg (by rw [wE_no (by omega)]; simp)]⟩, HB2.out⟩
    clear hl hz b1 b2 s1 s2 a1
    go_enter Try.func13, Try.ntmps13
    go_wp2_with fail
    refine Calls.mono HN.out ?_
    rintro e w9 ⟨rfl, rfl⟩
    go_wp2_with fail
    go_ret2
    exact HV.out
set_option maxHeartbeats 8000000 in
theorem delta_any (z : Int) (v : Value) (l : List Int) (w : World) (hl : Bs w v l) (hby : Byt l) (hlb : l.length ≤ 140737488351232) :
    Calls Try.prog 14 #[.int .i64 z, v] w (ShP w (wE z) (wL z deL l)) := by
  obtain ⟨ao, cap, rfl, hc, hn, _⟩ := id hl
  obtain ⟨len, hll⟩ : ∃ len, l.length = len := ⟨_, rfl⟩
  rw [hll] at hc hlb hl ⊢
  obtain ⟨w1, hw1, a1, f1, b1, s1⟩ := box1 w (.int .i64 z) 3
  obtain ⟨w2, hw2, a2, f2, b2, s2⟩ := box1 w1 (.slice ao len cap) 23
  have c1 := bel_cellF b2 a1
  have HB2 : Hid (Below w.heap.size w w2) := b1.trans (b2.mono b1.size)
  have HL2 : Hid (Bs w2 (.slice ao len cap) l) := hl.below HB2.out
  by_cases hz : 1 ≤ z ∧ z ≤ 8
  · obtain ⟨zn, rfl⟩ : ∃ zn : Nat, z = (zn : Int) := ⟨z.toNat, by omega⟩
    have h1 : 1 ≤ zn := by omega
    have h8 : zn ≤ 8 := by omega
    have hwl : wL (zn : Int) deL l = deL zn l := by rw [wL, if_pos (wE_yes h1 h8)]; rfl
    obtain ⟨n, hnl⟩ : ∃ n, len / zn = n := ⟨_, rfl⟩
    have hnl' : l.length / zn = n := by rw [hll, hnl]
    obtain ⟨wa, w3, hwa, hw3, xa, fa, ya, a3, f3, b3, s3⟩ := box2 w2 (.int .u64 0) (.int .u64 0) 43
    have HB3 : Hid (Below w.heap.size w w3) := HB2.out.trans (b3.mono HB2.out.size)
    have HB23 : Hid (Below w2.heap.size w2 w3) := b3
    have HEA : Hid (Calls Try.prog 20 #[.int .i64 (zn : Int), .slice ao len cap, .func (.func 23) #[] #[.pointer (some ⟨w1.heap.size, 0, none⟩), .pointer (some ⟨w.heap.size, 0, none⟩), .pointer (some ⟨w2.heap.size, 0, none⟩)]] w3 fun e w' => e = .returned (.tuple #[.slice (some ⟨w3.heap.size, 0, none⟩) len len, .int .i64 0]) ∧ Row w' w3.heap.size (deL zn l) ∧ Below w.heap.size w w') := by
      refine each_de zn n (n * zn) len l (laidT (dlN zn l) zn len n) (deL zn l) ao cap _ _ _ w.heap.size w w3 (fun k w4 => k ≤ n ∧ Row w4 w3.heap.size (laidT (dlN zn l) zn len k) ∧ Below w2.heap.size w2 w4 ∧ w4.cell? ⟨w2.heap.size, 0, none⟩ = some (.int .u64 (preN (nm zn l) k)) ∧ w4.frozen? ⟨w2.heap.size, 0, none⟩ = false) hll hc hlb hnl h1 h8 rfl (by rw [← hnl, ← hll]; exact laidT_all _ zn l) hn (fun w4 h3 h4 => ⟨Nat.zero_le _, by rw [laidT_zero]; exact h3, b3.trans (h4.mono b3.size), bel_cellF h4 a3, (h4.frozen (p := ⟨w2.heap.size, 0, none⟩) (show w2.heap.size < w3.heap.size by omega)).trans f3⟩) (fun k w4 hk h => ?_) (fun w4 h => ⟨h.2.1, laidT_len (by rw [← hnl]; exact Nat.div_mul_le_self _ _), HL2.out.below h.2.2.1, HB2.out.trans (h.2.2.1.mono HB2.out.size)⟩) (by omega)
      refine (del1_any zn k n len l ao cap w3.heap.size _ _ w2.heap.size w2 w4 HL2.out hby hll hlb hnl' c1 a2 h.2.2.1 h.2.1 (Nat.le_refl _) (by omega) h1 h8 hk h.2.2.2.1 h.2.2.2.2).mono fun e w' h => ⟨h.1, hk, h.2⟩
    have HRL : Hid ((deL zn l).length = len) := by rw [Hid, deL_len, hll]
    rw [hwl, wE_yes h1 h8]
    have hsz : w.heap.size ≤ w3.heap.size := by omega
    have c13 := bel_cellF b3 c1
    have a23 := bel_cellF b3 a2
    have ya1 := bel_cellF ya c1
    have ya2 := bel_cellF ya a2
    clear hl hz hwl hnl hnl' b1 b2 ya b3 s1 s2 s3 a1 hll
    go_enter Try.func14, Try.ntmps14
    go_wp2_with fail
    refine Calls.mono HEA.out ?_
    rintro e w9 ⟨rfl, hr9, hb9⟩
    have HR9 : Hid (Row w9 w3.heap.size (deL zn l) ∧ Below w.heap.size w w9) := ⟨hr9, hb9⟩
    clear hr9 hb9
    go_wp2_with fail
    go_ret2
    exact ⟨_, rfl, .inr ⟨_, hsz, by rw [HRL.out]; rfl, HR9.out.1⟩, HR9.out.2⟩
  · obtain ⟨wa, w3, hwa, hw3, xa, fa, ya, a3, f3, b3, s3⟩ := box2 w2 (.int .u64 0) (.int .u64 0) 43
    have c13 := bel_cellF b3 c1
    have a23 := bel_cellF b3 a2
    have ya1 := bel_cellF ya c1
    have ya2 := bel_cellF ya a2
    have HN : Hid (Calls Try.prog 20 #[.int .i64 z, .slice ao len cap, .func (.func 23) #[] #[.pointer (some ⟨w1.heap.size, 0, none⟩), .pointer (some ⟨w.heap.size, 0, none⟩), .pointer (some ⟨w2.heap.size, 0, none⟩)]] w3 fun e w' => e = .returned (.tuple #[.slice none 0 0, .int .i64 2]) ∧ w' = w3) := each_no z _ _ _ (by omega)
    have HV : Hid (ShP w (wE z) (wL z deL l) (.returned (.tuple #[.slice none 0 0, .int .i64 2])) w3) := ⟨_, by rw [wE_no (by omega)], .inl ⟨rfl, by rw [wL, if_neg (by rw [wE_no (by omega)]; simp)]⟩, HB2.out.trans (b3.mono HB2.out.size)⟩
    clear hl hz b1 b2 s1 s2 a1 ya b3 s3
    go_enter Try.func14, Try.ntmps14
    go_wp2_with fail
    refine Calls.mono HN.out ?_
    rintro e w9 ⟨rfl, rfl⟩
    go_wp2_with fail
    go_ret2
    exact HV.out
set_option maxHeartbeats 8000000 in
theorem undelta_any (z : Int) (v : Value) (l : List Int) (w : World) (hl : Bs w v l) (hby : Byt l) (hlb : l.length ≤ 140737488351232) :
    Calls Try.prog 15 #[.int .i64 z, v] w (ShP w (wE z) (wL z udL l)) := by
  obtain ⟨ao, cap, rfl, hc, hn, _⟩ := id hl
  obtain ⟨len, hll⟩ : ∃ len, l.length = len := ⟨_, rfl⟩
  rw [hll] at hc hlb hl ⊢
  obtain ⟨w1, hw1, a1, f1, b1, s1⟩ := box1 w (.int .i64 z) 3
  obtain ⟨w2, hw2, a2, f2, b2, s2⟩ := box1 w1 (.slice ao len cap) 23
  have c1 := bel_cellF b2 a1
  have HB2 : Hid (Below w.heap.size w w2) := b1.trans (b2.mono b1.size)
  have HL2 : Hid (Bs w2 (.slice ao len cap) l) := hl.below HB2.out
  by_cases hz : 1 ≤ z ∧ z ≤ 8
  · obtain ⟨zn, rfl⟩ : ∃ zn : Nat, z = (zn : Int) := ⟨z.toNat, by omega⟩
    have h1 : 1 ≤ zn := by omega
    have h8 : zn ≤ 8 := by omega
    have hwl : wL (zn : Int) udL l = udL zn l := by rw [wL, if_pos (wE_yes h1 h8)]; rfl
    obtain ⟨n, hnl⟩ : ∃ n, len / zn = n := ⟨_, rfl⟩
    have hnl' : l.length / zn = n := by rw [hll, hnl]
    obtain ⟨wa, w3, hwa, hw3, xa, fa, ya, a3, f3, b3, s3⟩ := box2 w2 (.int .u64 0) (.int .u64 0) 43
    have HB3 : Hid (Below w.heap.size w w3) := HB2.out.trans (b3.mono HB2.out.size)
    have HB23 : Hid (Below w2.heap.size w2 w3) := b3
    have HEA : Hid (Calls Try.prog 20 #[.int .i64 (zn : Int), .slice ao len cap, .func (.func 26) #[] #[.pointer (some ⟨w2.heap.size, 0, none⟩), .pointer (some ⟨w1.heap.size, 0, none⟩), .pointer (some ⟨w.heap.size, 0, none⟩)]] w3 fun e w' => e = .returned (.tuple #[.slice (some ⟨w3.heap.size, 0, none⟩) len len, .int .i64 0]) ∧ Row w' w3.heap.size (udL zn l) ∧ Below w.heap.size w w') := by
      refine each_ud zn n (n * zn) len l (laidT (smN zn l) zn len n) (udL zn l) ao cap _ _ _ w.heap.size w w3 (fun k w4 => k ≤ n ∧ Row w4 w3.heap.size (laidT (smN zn l) zn len k) ∧ Below w2.heap.size w2 w4 ∧ w4.cell? ⟨w2.heap.size, 0, none⟩ = some (.int .u64 (preN (smN zn l) k)) ∧ w4.frozen? ⟨w2.heap.size, 0, none⟩ = false) hll hc hlb hnl h1 h8 rfl (by rw [← hnl, ← hll]; exact laidT_all _ zn l) hn (fun w4 h3 h4 => ⟨Nat.zero_le _, by rw [laidT_zero]; exact h3, b3.trans (h4.mono b3.size), bel_cellF h4 a3, (h4.frozen (p := ⟨w2.heap.size, 0, none⟩) (show w2.heap.size < w3.heap.size by omega)).trans f3⟩) (fun k w4 hk h => ?_) (fun w4 h => ⟨h.2.1, laidT_len (by rw [← hnl]; exact Nat.div_mul_le_self _ _), HL2.out.below h.2.2.1, HB2.out.trans (h.2.2.1.mono HB2.out.size)⟩) (by omega)
      refine (und1_any zn k n len l ao cap w3.heap.size _ _ w2.heap.size w2 w4 HL2.out hby hll hlb hnl' c1 a2 h.2.2.1 h.2.1 (Nat.le_refl _) (by omega) h1 h8 hk h.2.2.2.1 h.2.2.2.2).mono fun e w' h => ⟨h.1, hk, h.2⟩
    have HRL : Hid ((udL zn l).length = len) := by rw [Hid, udL_len, hll]
    rw [hwl, wE_yes h1 h8]
    have hsz : w.heap.size ≤ w3.heap.size := by omega
    have c13 := bel_cellF b3 c1
    have a23 := bel_cellF b3 a2
    have ya1 := bel_cellF ya c1
    have ya2 := bel_cellF ya a2
    clear hl hz hwl hnl hnl' b1 b2 ya b3 s1 s2 s3 a1 hll
    go_enter Try.func15, Try.ntmps15
    go_wp2_with fail
    refine Calls.mono HEA.out ?_
    rintro e w9 ⟨rfl, hr9, hb9⟩
    have HR9 : Hid (Row w9 w3.heap.size (udL zn l) ∧ Below w.heap.size w w9) := ⟨hr9, hb9⟩
    clear hr9 hb9
    go_wp2_with fail
    go_ret2
    exact ⟨_, rfl, .inr ⟨_, hsz, by rw [HRL.out]; rfl, HR9.out.1⟩, HR9.out.2⟩
  · obtain ⟨wa, w3, hwa, hw3, xa, fa, ya, a3, f3, b3, s3⟩ := box2 w2 (.int .u64 0) (.int .u64 0) 43
    have c13 := bel_cellF b3 c1
    have a23 := bel_cellF b3 a2
    have ya1 := bel_cellF ya c1
    have ya2 := bel_cellF ya a2
    have HN : Hid (Calls Try.prog 20 #[.int .i64 z, .slice ao len cap, .func (.func 26) #[] #[.pointer (some ⟨w2.heap.size, 0, none⟩), .pointer (some ⟨w1.heap.size, 0, none⟩), .pointer (some ⟨w.heap.size, 0, none⟩)]] w3 fun e w' => e = .returned (.tuple #[.slice none 0 0, .int .i64 2]) ∧ w' = w3) := each_no z _ _ _ (by omega)
    have HV : Hid (ShP w (wE z) (wL z udL l) (.returned (.tuple #[.slice none 0 0, .int .i64 2])) w3) := ⟨_, by rw [wE_no (by omega)], .inl ⟨rfl, by rw [wL, if_neg (by rw [wE_no (by omega)]; simp)]⟩, HB2.out.trans (b3.mono HB2.out.size)⟩
    clear hl hz b1 b2 s1 s2 a1 ya b3 s3
    go_enter Try.func15, Try.ntmps15
    go_wp2_with fail
    refine Calls.mono HN.out ?_
    rintro e w9 ⟨rfl, rfl⟩
    go_wp2_with fail
    go_ret2
    exact HV.out
end Go.Proofs.Ytgodoogmbdgeoab
