/-
  What Delta and Undelta do with each number. Conditions: the number is one of those that there are.
-/
import Derived.Test.YtgodoogmbdgeoabFShW
import Derived.Deep.RegionLaw
import Derived.Deep.RegionWith
import Derived.Deep.DeepCutAuto
namespace Go.Proofs.Ytgodoogmbdgeoab
open Go.RowKit
set_option linter.unusedVariables false
set_option maxRecDepth 100000

theorem pl_in {z n k len : Nat} (hn : n * z ≤ len) (hk : k < n) : k * z + z ≤ len := by
  have : (k + 1) * z ≤ n * z := Nat.mul_le_mul_right z hk
  rw [Nat.add_mul, Nat.one_mul] at this
  omega
theorem read_any (v : Value) (l : List Int) (z k : Nat) (w : World) (hl : Bs w v l) (hb : l.length ≤ 140737488351232) (hby : Byt l) (hz1 : 1 ≤ z) (hz8 : z ≤ 8) (hk : k < l.length / z) :
    Calls Try.prog 24 #[v, .int .i64 (z : Int), .int .i64 (k : Int)] w fun e w' => e = .returned (.int .u64 (nm z l k)) ∧ Below w.heap.size w w' := by
  have hp := pl_in (num_le l z) hk
  have HG : Hid (Calls Try.prog 31 #[v, .int .i64 (k * z : Nat), .int .i64 (z : Int), .bool false] w fun e w' => e = .returned (.tuple #[.int .u64 (nm z l k), .int .i64 0]) ∧ Below w.heap.size w w') := by
    have := get_yes v l (k * z) z false w hl hb hby hz1 hz8 hp
    rwa [val_nm z l hk] at this
  obtain ⟨ao, cap, rfl, _⟩ := hl
  obtain ⟨p, hpp⟩ : ∃ p, k * z = p := ⟨_, rfl⟩
  rw [hpp] at HG hp
  have e1 : IntKind.i64.wrap ((k : Int) * (z : Int)) = (p : Int) := wrap_nat (by rw [← Int.natCast_mul, hpp]) (by omega)
  obtain ⟨x, hx⟩ : ∃ x, nm z l k = x := ⟨_, rfl⟩
  rw [hx] at HG ⊢
  clear hx hpp hk hp
  go_enter Try.func24, Try.ntmps24
  go_wp2_with (go_at_call 31; refine Calls.mono HG.out ?_; rintro e w1 ⟨rfl, hb1⟩; have HB1 : Hid (Below w.heap.size w w1) := hb1; clear hb1)
  go_ret
  exact ⟨rfl, HB1.out⟩
theorem put8_any (u : Int) (w : World) (hu0 : 0 ≤ u) (hu1 : u < 18446744073709551616) : Calls Try.prog 29 #[.slice none 0 0, .int .i64 8, .bool false, .int .u64 u] w fun e w' => e = .returned (.tuple #[.slice (some ⟨w.heap.size, 0, none⟩) 8 8, .int .i64 0]) ∧ Row w' w.heap.size (digs u 8) ∧ Below w.heap.size w w' :=
  (put_yes (.slice none 0 0) [] u 8 false w (Bs.nil w) (by simp) hu0 hu1 (numErr_of hu0 (by omega) (by omega) hu1)).mono fun e w' h => h
set_option maxHeartbeats 4000000 in
theorem lay_any (z k len g : Nat) (L R : List Int) (u : Int) (w : World) (hr : Row w g L) (hL : L.length = len) (hlb : len ≤ 140737488351232) (hp : k * z + z ≤ len) (hz1 : 1 ≤ z) (hz8 : z ≤ 8) (hu0 : 0 ≤ u) (hu1 : u < 18446744073709551616)
    (hR : L.take (k * z) ++ (digs u z ++ L.drop (k * z + z)) = R) :
    Calls Try.prog 25 #[.slice (some ⟨g, 0, none⟩) len len, .int .i64 (z : Int), .int .i64 (k : Int), .int .u64 u] w fun e w' => e = .returned (.tuple #[]) ∧ Row w' g R ∧ Below g w w' := by
  have hgl := hr.lt
  obtain ⟨p, hpp⟩ : ∃ p, k * z = p := ⟨_, rfl⟩
  obtain ⟨q, hqq⟩ : ∃ q, p + z = q := ⟨_, rfl⟩
  rw [hpp] at hp hR
  have e1 : IntKind.i64.wrap ((k : Int) * (z : Int)) = (p : Int) := wrap_nat (by rw [← Int.natCast_mul, hpp]) (by omega)
  have hk1 : k ≤ len := by
    have : k * 1 ≤ k * z := Nat.mul_le_mul_left k hz1
    omega
  have e2 : IntKind.i64.wrap (((k : Int) + 1) * (z : Int)) = (q : Int) := wrap_nat (by rw [Int.add_mul, ← Int.natCast_mul, hpp]; omega) (by omega)
  have e3 : q - p = z := by omega
  have ne1 : (len = p) = False := by simp; omega
  have HPUT : Hid _ := put8_any u w hu0 hu1
  have HR0 : Hid (Row w g L) := hr
  have HTK : Hid ((digs u 8).take z = digs u z) := by rw [Hid]; exact digs_take u 8 z hz8
  have HFIT : Hid (p + (digs u z).length ≤ L.length) := by rw [Hid, digs_length, hL]; exact hp
  have HJ : Hid (L.take p ++ (digs u z ++ L.drop (p + (digs u z).length)) = R) := by rw [Hid, digs_length]; exact hR
  clear hr hR hpp hL
  go_enter Try.func25, Try.ntmps25
  go_wp2_with (first
    | (go_at_call 29; refine Calls.mono HPUT.out ?_; rintro e w1 ⟨rfl, hr1, hb1⟩; have H1 : Hid (Row w1 w.heap.size (digs u 8) ∧ Below w.heap.size w w1) := ⟨hr1, hb1⟩; clear hr1 hb1)
    | (refine wpList_copy_min rfl (.tmp 23) (.tmp 24) 23 rfl Try.underlying23 Try.size5 g p z (len - p) (some ⟨g, p, none⟩) rfl _ rfl L (digs u 8) (digs u z) HTK.out (fun _ => rfl) (HR0.out.below H1.out.2 hgl) (by have h9 := H1.out.1.whole; rw [digs_length] at h9; exact h9) HFIT.out R HJ.out g w (H1.out.2.mono (by omega)) (Nat.le_refl _) ?_; intro w2 hr2 hb2; have H2 : Hid (Row w2 g R ∧ Below g w w2) := ⟨hr2, hb2⟩; clear hr2 hb2))
  go_end0
  exact ⟨rfl, H2.out.1, H2.out.2⟩
/-- The bytes of the numbers up to one. -/
def preN (g : Nat → Int) : Nat → Int
  | 0 => 0
  | k + 1 => g k
theorem dl_step (z : Nat) (l : List Int) (k : Nat) : dlN z l k = (nm z l k - preN (nm z l) k) % M64 := by
  cases k with
  | zero => rw [dlN, preN]; congr 1; omega
  | succ k => rfl
theorem sm_step (z : Nat) (l : List Int) (k : Nat) : smN z l k = (preN (smN z l) k + nm z l k) % M64 := by
  cases k with
  | zero => rw [smN, preN]; congr 1; omega
  | succ k => rfl
theorem m64_bd (x : Int) : 0 ≤ x % M64 ∧ x % M64 < 18446744073709551616 := ⟨Int.emod_nonneg _ (by decide), Int.emod_lt_of_pos _ (by decide)⟩
theorem wrap_u64 (x : Int) : IntKind.u64.wrap x = x % M64 := by rfl
theorem pre_bd {g : Nat → Int} (h : ∀ k, 0 ≤ g k ∧ g k < 18446744073709551616) (k : Nat) : 0 ≤ preN g k ∧ preN g k < 18446744073709551616 := by
  cases k with
  | zero => exact ⟨Int.le_refl _, (by decide : (0 : Int) < 18446744073709551616)⟩
  | succ k => exact h k
theorem sm_bd (z : Nat) (l : List Int) (k : Nat) : 0 ≤ smN z l k ∧ smN z l k < 18446744073709551616 := by rw [sm_step]; exact m64_bd _
theorem row_other {w w' : World} {g b : Nat} {x : Value} (hb : Below g w w') (hbg : b < g) (h : w.cell? ⟨b, 0, none⟩ = some x) : w'.cell? ⟨b, 0, none⟩ = some x := (hb.cell (p := ⟨b, 0, none⟩) hbg).trans h
set_option maxHeartbeats 4000000 in
/-- Delta's closure: the number, what it is more than the one ahead. -/
theorem del1_any (z k n len : Nat) (l : List Int) (ao : Option Addr) (cap g bz bb pa : Nat) (w0 w : World) (hl : Bs w0 (.slice ao len cap) l) (hby : Byt l) (hll : l.length = len) (hlb : len ≤ 140737488351232) (hnl : l.length / z = n)
    (cz : w0.cell? ⟨bz, 0, none⟩ = some (.int .i64 (z : Int))) (cb : w0.cell? ⟨bb, 0, none⟩ = some (.slice ao len cap)) (hb : Below w0.heap.size w0 w) (hr : Row w g (laidT (dlN z l) z len k)) (hpa : w0.heap.size ≤ pa) (hg : pa < g) (hz1 : 1 ≤ z) (hz8 : z ≤ 8) (hk : k < n)
    (ca : w.cell? ⟨pa, 0, none⟩ = some (.int .u64 (preN (nm z l) k))) (fa : w.frozen? ⟨pa, 0, none⟩ = false) :
    Calls Try.prog 23 #[.slice (some ⟨g, 0, none⟩) len len, .int .i64 (n : Int), .int .i64 (k : Int), .pointer (some ⟨bb, 0, none⟩), .pointer (some ⟨bz, 0, none⟩), .pointer (some ⟨pa, 0, none⟩)] w fun e w' => e = .returned (.tuple #[]) ∧ Row w' g (laidT (dlN z l) z len (k + 1)) ∧ Below w0.heap.size w0 w' ∧ w'.cell? ⟨pa, 0, none⟩ = some (.int .u64 (preN (nm z l) (k + 1))) ∧ w'.frozen? ⟨pa, 0, none⟩ = false := by
  have hnz : n * z ≤ len := by rw [← hnl, ← hll]; exact num_le l z
  have hp := pl_in hnz hk
  have HRD : Hid (Calls Try.prog 24 #[.slice ao len cap, .int .i64 (z : Int), .int .i64 (k : Int)] w fun e w' => e = .returned (.int .u64 (nm z l k)) ∧ Below w.heap.size w w') := read_any _ l z k w (hl.below hb) (by rw [hll]; exact hlb) hby hz1 hz8 (by rw [hnl]; exact hk)
  have hbd := nm_bd hby hz8 (z := z) k
  have c1 := bel_cellF hb cz
  have c2 := bel_cellF hb cb
  have HR0 : Hid (Row w g (laidT (dlN z l) z len k)) := hr
  have HB0 : Hid (Below w0.heap.size w0 w) := hb
  have hgl := hr.lt
  obtain ⟨u, hu⟩ : ∃ u, dlN z l k = u := ⟨_, rfl⟩
  have hub := m64_bd (nm z l k - preN (nm z l) k)
  have hwr : IntKind.u64.wrap (nm z l k - preN (nm z l) k) = u := by rw [wrap_u64, ← dl_step, hu]
  rw [← dl_step, hu] at hub
  have HST : Hid ((laidT (dlN z l) z len k).take (k * z) ++ (digs u z ++ (laidT (dlN z l) z len k).drop (k * z + z)) = laidT (dlN z l) z len (k + 1)) := by
    rw [Hid, ← hu]; exact laidT_step (by rw [Nat.add_mul, Nat.one_mul]; exact hp)
  have HLE : Hid ((laidT (dlN z l) z len k).length = len) := laidT_len (by omega)
  have HPRE : Hid (preN (nm z l) (k + 1) = nm z l k) := rfl
  rw [HPRE.out]
  obtain ⟨x, hx⟩ : ∃ x, nm z l k = x := ⟨_, rfl⟩
  obtain ⟨y, hy⟩ : ∃ y, preN (nm z l) k = y := ⟨_, rfl⟩
  rw [hx] at HRD hbd hwr ⊢
  rw [hy] at ca hwr
  have hx1 : 0 ≤ x := hbd.1
  obtain ⟨LT, hLT⟩ : ∃ LT, laidT (dlN z l) z len (k + 1) = LT := ⟨_, rfl⟩
  rw [hLT] at HST ⊢
  obtain ⟨L0, hL0⟩ : ∃ L0, laidT (dlN z l) z len k = L0 := ⟨_, rfl⟩
  rw [hL0] at HST HR0 HLE
  have HLAY : Hid (∀ w1, Below w.heap.size w w1 → Calls Try.prog 25 #[.slice (some ⟨g, 0, none⟩) len len, .int .i64 (z : Int), .int .i64 (k : Int), .int .u64 u] w1 fun e w' => e = .returned (.tuple #[]) ∧ Row w' g LT ∧ Below g w1 w') := fun w1 h => lay_any z k len g L0 LT u w1 (HR0.out.below h hgl) HLE.out hlb hp hz1 hz8 hub.1 hub.2 HST.out
  clear hl hll hnl cz cb hb hr hnz hu hx hy hbd hLT hL0 HPRE hp hub
  go_enter Try.func23, Try.ntmps23
  go_wp2_with (first
    | (go_at_call 24; refine Calls.mono HRD.out ?_; rintro e w1 ⟨rfl, hb1⟩; have HB1 : Hid (Below w.heap.size w w1) := hb1; have ca1 := bel_cellF hb1 ca; have c11 := bel_cellF hb1 c1; have fa1 : w1.frozen? ⟨pa, 0, none⟩ = false := (hb1.frozen (p := ⟨pa, 0, none⟩) (Nat.lt_trans hg hgl)).trans fa; clear hb1)
    | (go_at_call 25; refine Calls.mono (HLAY.out _ HB1.out) ?_; rintro e w2 ⟨rfl, hr2, hb2⟩; have H2 : Hid (Row w2 g LT ∧ Below g w1 w2) := ⟨hr2, hb2⟩; have ca2 := row_other hb2 hg ca1; have fa2 : w2.frozen? ⟨pa, 0, none⟩ = false := (hb2.frozen (p := ⟨pa, 0, none⟩) hg).trans fa1; clear hr2 hb2))
  have hfin : Row (w2.setCell ⟨pa, 0, none⟩ (.int .u64 x)) g LT := H2.out.1.of_block (Below.heap_setCell _ _ _ _ (by show g ≠ pa; omega))
  go_end0
  exact ⟨rfl, hfin, ((HB0.out.trans (HB1.out.mono HB0.out.size)).trans (H2.out.2.mono (by omega))).setCell (p := ⟨pa, 0, none⟩) hpa _, World.cell?_setCell_same _ _ _ ca2, by rw [World.frozen?_setCell]; exact fa2⟩
set_option maxHeartbeats 4000000 in
/-- Undelta's closure: the sum so far. -/
theorem und1_any (z k n len : Nat) (l : List Int) (ao : Option Addr) (cap g bz bb pa : Nat) (w0 w : World) (hl : Bs w0 (.slice ao len cap) l) (hby : Byt l) (hll : l.length = len) (hlb : len ≤ 140737488351232) (hnl : l.length / z = n)
    (cz : w0.cell? ⟨bz, 0, none⟩ = some (.int .i64 (z : Int))) (cb : w0.cell? ⟨bb, 0, none⟩ = some (.slice ao len cap)) (hb : Below w0.heap.size w0 w) (hr : Row w g (laidT (smN z l) z len k)) (hpa : w0.heap.size ≤ pa) (hg : pa < g) (hz1 : 1 ≤ z) (hz8 : z ≤ 8) (hk : k < n)
    (ca : w.cell? ⟨pa, 0, none⟩ = some (.int .u64 (preN (smN z l) k))) (fa : w.frozen? ⟨pa, 0, none⟩ = false) :
    Calls Try.prog 26 #[.slice (some ⟨g, 0, none⟩) len len, .int .i64 (n : Int), .int .i64 (k : Int), .pointer (some ⟨pa, 0, none⟩), .pointer (some ⟨bb, 0, none⟩), .pointer (some ⟨bz, 0, none⟩)] w fun e w' => e = .returned (.tuple #[]) ∧ Row w' g (laidT (smN z l) z len (k + 1)) ∧ Below w0.heap.size w0 w' ∧ w'.cell? ⟨pa, 0, none⟩ = some (.int .u64 (preN (smN z l) (k + 1))) ∧ w'.frozen? ⟨pa, 0, none⟩ = false := by
  have hnz : n * z ≤ len := by rw [← hnl, ← hll]; exact num_le l z
  have hp := pl_in hnz hk
  have HRD : Hid (Calls Try.prog 24 #[.slice ao len cap, .int .i64 (z : Int), .int .i64 (k : Int)] w.drew fun e w' => e = .returned (.int .u64 (nm z l k)) ∧ Below w.drew.heap.size w.drew w') := read_any _ l z k w.drew (hl.below hb).drew (by rw [hll]; exact hlb) hby hz1 hz8 (by rw [hnl]; exact hk)
  have hbd := nm_bd hby hz8 (z := z) k
  have c1 := bel_cellF hb cz
  have c2 := bel_cellF hb cb
  have HBZ : Hid (bz < w0.heap.size) := World.block_lt_of_cell? _ _ cz
  have HR0 : Hid (Row w g (laidT (smN z l) z len k)) := hr
  have HB0 : Hid (Below w0.heap.size w0 w) := hb
  have hgl := hr.lt
  obtain ⟨u, hu⟩ : ∃ u, smN z l k = u := ⟨_, rfl⟩
  have hub := m64_bd (preN (smN z l) k + nm z l k)
  have hwr : IntKind.u64.wrap (preN (smN z l) k + nm z l k) = u := by rw [wrap_u64, ← sm_step, hu]
  rw [← sm_step, hu] at hub
  have HST : Hid ((laidT (smN z l) z len k).take (k * z) ++ (digs u z ++ (laidT (smN z l) z len k).drop (k * z + z)) = laidT (smN z l) z len (k + 1)) := by
    rw [Hid, ← hu]; exact laidT_step (by rw [Nat.add_mul, Nat.one_mul]; exact hp)
  have HLE : Hid ((laidT (smN z l) z len k).length = len) := laidT_len (by omega)
  have HPRE : Hid (preN (smN z l) (k + 1) = u) := hu
  rw [HPRE.out]
  obtain ⟨x, hx⟩ : ∃ x, nm z l k = x := ⟨_, rfl⟩
  obtain ⟨y, hy⟩ : ∃ y, preN (smN z l) k = y := ⟨_, rfl⟩
  rw [hx] at HRD hwr
  rw [hy] at ca hwr
  obtain ⟨LT, hLT⟩ : ∃ LT, laidT (smN z l) z len (k + 1) = LT := ⟨_, rfl⟩
  rw [hLT] at HST ⊢
  obtain ⟨L0, hL0⟩ : ∃ L0, laidT (smN z l) z len k = L0 := ⟨_, rfl⟩
  rw [hL0] at HST HR0 HLE
  have HLAY : Hid (∀ w1, Row w1 g L0 → Calls Try.prog 25 #[.slice (some ⟨g, 0, none⟩) len len, .int .i64 (z : Int), .int .i64 (k : Int), .int .u64 u] w1 fun e w' => e = .returned (.tuple #[]) ∧ Row w' g LT ∧ Below g w1 w') := fun w1 h => lay_any z k len g L0 LT u w1 h HLE.out hlb hp hz1 hz8 hub.1 hub.2 HST.out
  clear hl hll hnl cz cb hb hr hnz hu hx hy hbd hLT hL0 HPRE hp hub
  go_enter Try.func26, Try.ntmps26
  go_wp2_with fail
  go_cut [14] (fun t wc => t = .int .u64 u ∧ ∃ w1, Below w.heap.size w w1 ∧ wc = w1.setCell ⟨pa, 0, none⟩ (.int .u64 u))
  case first =>
    go_region_with (go_at_call 24; refine Calls.mono HRD.out ?_; rintro e w1 ⟨rfl, hb1'⟩; have hb1 := below_undrew hb1'; have HB1 : Hid (Below w.heap.size w w1) := hb1; have ca1 := bel_cellF hb1 ca; have c11 := bel_cellF hb1 c1; have fa1 : w1.frozen? ⟨pa, 0, none⟩ = false := (hb1.frozen (p := ⟨pa, 0, none⟩) (Nat.lt_trans hg hgl)).trans fa; clear hb1 hb1')
    all_goals (go_wp2_with fail; go_meet; exact ⟨rfl, w1, HB1.out, rfl⟩)
  case rest =>
    obtain ⟨rfl, w1, hb1, hwc⟩ := hcut
    have ca1 := bel_cellF hb1 ca
    have c11 := bel_cellF hb1 c1
    have fa1 : w1.frozen? ⟨pa, 0, none⟩ = false := (hb1.frozen (p := ⟨pa, 0, none⟩) (Nat.lt_trans hg hgl)).trans fa
    have HR3 : Hid (Row wc g L0) := by
      rw [hwc]
      exact ((HR0.out.below hb1 hgl)).of_block (Below.heap_setCell _ _ _ _ (by show g ≠ pa; omega))
    have ca3 : wc.cell? ⟨pa, 0, none⟩ = some (.int .u64 u) := by rw [hwc]; exact World.cell?_setCell_same _ _ _ ca1
    have fa3 : wc.frozen? ⟨pa, 0, none⟩ = false := by rw [hwc, World.frozen?_setCell]; exact fa1
    have c13 : wc.cell? ⟨bz, 0, none⟩ = some (.int .i64 (z : Int)) := by
      rw [hwc, World.cell?_setCell_other _ _ _ _ (fun e => by have := congrArg Addr.block e; have h8 := HBZ.out; simp at this; omega)]
      exact c11
    have HB3 : Hid (Below w0.heap.size w0 wc) := by
      rw [hwc]
      exact (HB0.out.trans (hb1.mono HB0.out.size)).setCell (p := ⟨pa, 0, none⟩) hpa _
    clear hwc hb1 ca1 c11 fa1
    go_wp2_with (go_at_call 25; refine Calls.mono (HLAY.out _ HR3.out) ?_; rintro e w2 ⟨rfl, hr2, hb2⟩; have H2 : Hid (Row w2 g LT ∧ Below g wc w2) := ⟨hr2, hb2⟩; have HC2 : Hid (w2.cell? ⟨pa, 0, none⟩ = some (.int .u64 u)) := row_other hb2 hg ca3; have HF2 : Hid (w2.frozen? ⟨pa, 0, none⟩ = false) := (hb2.frozen (p := ⟨pa, 0, none⟩) hg).trans fa3; clear hr2 hb2)
    go_end0
    exact ⟨rfl, H2.out.1, HB3.out.trans (H2.out.2.mono (by omega)), HC2.out, HF2.out⟩
end Go.Proofs.Ytgodoogmbdgeoab
