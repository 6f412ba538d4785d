/-
  The document's Put of a new name. Conditions: lengths are such as memory bears.
-/
import Derived.Test.YtelfjgnmbikofaaBNm2
import Derived.Test.YtelfjgnmbikofaaRLast
namespace Go.Proofs.Ytelfjgnmbikofaa
open Go.RowKit
set_option linter.unusedVariables false
set_option maxRecDepth 100000

set_option maxHeartbeats 4000000 in
theorem refPut_new {w : World} {B r n i : Nat} {aoK aoV : Option Addr} {capK capV : Nat} {Ks : List ByteArray} {Vs : List Int} {X : List Pc} (hS : Sep w B (NM2 r (.slice aoK n capK) (.slice aoV n capV) Ks Vs ++ X)) (hB : B ≤ w.heap.size) (hKs : Ks.length = n) (hVs : Vs.length = n) (hin : i ≤ n) (hn : n ≤ 60000) (k : ByteArray) (x : Int)
    (hat : Calls Try.prog 34 #[.pointer (some ⟨r, 0, none⟩), .string k] w fun e w' => e = .returned (.tuple #[.int .i64 (i : Int), .bool false]) ∧ Below w.heap.size w w') :
    Calls Try.prog 11 #[.pointer (some ⟨r, 0, none⟩), .string k, .int .u64 x] w fun e w' => e = .returned (.tuple #[.bool true, .int .i64 0]) ∧ (∃ vK vV, Sep w' B (NM2 r vK vV (Ks.take i ++ k :: Ks.drop i) (Vs.take i ++ x :: Vs.drop i) ++ X)) ∧ Below B w w' := by
  obtain ⟨i1, hi1, hy0, hy1, hy2⟩ := info_partsG Try.infoS
  obtain ⟨j1, hj1, hv0, hv1, hv2⟩ := info_partsG Try.infoU
  have HKs : Hid (Ks.length = n) := hKs
  have HVs : Hid (Vs.length = n) := hVs
  have HSw : Hid (Sep w B (NM2 r (.slice aoK n capK) (.slice aoV n capV) Ks Vs ++ X)) := hS
  have HQw : Hid (∀ W, Sep W B (NM2 r (.slice aoK n capK) (.slice aoV n capV) Ks Vs ++ X) → W.cell? ⟨r, 0, none⟩ = some (.slice aoK n capK)) := fun W hW => (NM2.k (n := n) hW).1
  have HAT : Hid _ := hat
  have hini : (i : Int) ≤ (n : Int) := by omega
  have hne : ((n : Int) == 65536) = false := by simp; omega
  have hne2 : ¬ (n : Int) = 65536 := by omega
  clear hS hat hKs hVs
  go_enter Try.func11, Try.ntmps11
  go_upto_region 7 with (go_at_call 34; refine Calls.mono HAT.out ?_; rintro e w1 ⟨rfl, hb1⟩; have HS0 : Hid (Sep w1 B (NM2 r (.slice aoK n capK) (.slice aoV n capV) Ks Vs ++ X)) := HSw.out.below hb1; have HB0 : Hid (Below B w w1) := hb1.mono hB; have qw := HQw.out w1 HS0.out; clear hb1)
  clear qw
  obtain ⟨q0, f0, ro⟩ := NM2.k (n := n) HS0.out
  have HRO : Hid (∀ W, Sep W B (NM2 r (.slice aoK n capK) (.slice aoV n capV) Ks Vs ++ X) → W.ownsRow B 9 1 (.slice aoK n capK) n (gc encS Ks)) := fun W hW => (NM2.k (n := n) hW).2.2 HKs.out
  have HQ0 : Hid (∀ W, Sep W B (NM2 r (.slice aoK n capK) (.slice aoV n capV) Ks Vs ++ X) → W.cell? ⟨r, 0, none⟩ = some (.slice aoK n capK) ∧ W.frozen? ⟨r, 0, none⟩ = false) := fun W hW => ⟨(NM2.k (n := n) hW).1, (NM2.k (n := n) hW).2.1⟩
  have hcp : n ≤ capK := row_cap (HRO.out _ HS0.out)
  have hcpi : (n : Int) ≤ (capK : Int) := by omega
  have hic : i ≤ capK := by omega
  have hic3 : i ≤ n := by omega
  have hic4 : (i : Int) ≤ (capK : Int) := by omega
  obtain ⟨wA, eA⟩ : ∃ ww, w1.drew.alloc (.cells #[] 9) = ww := ⟨_, rfl⟩
  obtain ⟨wB, eB⟩ : ∃ ww, wA.alloc (.cells #[.string k] 9) = ww := ⟨_, rfl⟩
  obtain ⟨wK, eK⟩ : ∃ ww, w1.drew.alloc (.cells #[.string k] 9) = ww := ⟨_, rfl⟩
  obtain ⟨wC, eC⟩ : ∃ ww, wK.alloc (.cells #[] 9) = ww := ⟨_, rfl⟩
  have hB0 : B ≤ w1.heap.size := Nat.le_trans hB HB0.out.size
  have HBA : Hid (Below w1.heap.size w1 wA) := by unfold Hid; rw [← eA]; exact (Below.refl _ _).drew.alloc (Nat.le_refl _) _
  have HBK : Hid (Below w1.heap.size w1 wK) := by unfold Hid; rw [← eK]; exact (Below.refl _ _).drew.alloc (Nat.le_refl _) _
  have HBAB : Hid (Below wA.heap.size wA wB) := by unfold Hid; rw [← eB]; exact (Below.refl _ _).alloc (Nat.le_refl _) _
  have HBKC : Hid (Below wK.heap.size wK wC) := by unfold Hid; rw [← eC]; exact (Below.refl _ _).alloc (Nat.le_refl _) _
  have hsA : wA.heap.size = w1.heap.size + 1 := by rw [← eA]; simp
  have hsK : wK.heap.size = w1.heap.size + 1 := by rw [← eK]; simp
  have hsB : wB.heap.size = w1.heap.size + 2 := by rw [← eB]; simp [hsA]
  have hsC : wC.heap.size = w1.heap.size + 2 := by rw [← eC]; simp [hsK]
  have HSA : Hid (Sep wA B (.row 9 1 (.slice (some ⟨w1.heap.size, 0, none⟩) 0 0) 0 (gc encS []) :: (NM2 r (.slice aoK n capK) (.slice aoV n capV) Ks Vs ++ X))) := Sep.new HS0.out HBA.out (by rw [← eA]; exact World.ownsRow_made w1.drew #[] 0 hB0 (Nat.zero_le _) rfl) (by intro y hy; simp [Pc.blk, Value.ownBlock] at hy; omega)
  have HSB : Hid (Sep wB B (.row 9 1 (.slice (some ⟨w1.heap.size, 0, none⟩) 0 0) 0 (gc encS []) :: (NM2 r (.slice aoK n capK) (.slice aoV n capV) Ks Vs ++ X))) := HSA.out.below HBAB.out
  have HSK : Hid (Sep wK B (NM2 r (.slice aoK n capK) (.slice aoV n capV) Ks Vs ++ X)) := HS0.out.below HBK.out
  have HSC : Hid (Sep wC B (.row 9 1 (.slice (some ⟨wK.heap.size, 0, none⟩) 0 0) 0 (gc encS []) :: (NM2 r (.slice aoK n capK) (.slice aoV n capV) Ks Vs ++ X))) := Sep.new HSK.out HBKC.out (by rw [← eC]; exact World.ownsRow_made wK #[] 0 (by omega) (Nat.zero_le _) rfl) (by intro y hy; simp [Pc.blk, Value.ownBlock] at hy; omega)
  have HB0A : Hid (Below B w wA) := HB0.out.trans (HBA.out.mono hB0)
  have HB0B : Hid (Below B w wB) := HB0A.out.trans (HBAB.out.mono (by omega))
  have HB0K : Hid (Below B w wK) := HB0.out.trans (HBK.out.mono hB0)
  have HB0C : Hid (Below B w wC) := HB0K.out.trans (HBKC.out.mono (by omega))
  have HKB : Hid (wB.heap[wA.heap.size]? = some (.cells #[.string k] 9 (0, 0))) := by unfold Hid; rw [← eB]; exact heap_alloc_new wA _
  have HKC : Hid (wC.heap[w1.heap.size]? = some (.cells #[.string k] 9 (0, 0))) := by unfold Hid; rw [HBKC.out.block _ (by omega), ← eK]; exact heap_alloc_new w1.drew _
  have HSZ : Hid (wA.heap.size = w1.heap.size + 1 ∧ wK.heap.size = w1.heap.size + 1 ∧ wB.heap.size = w1.heap.size + 2 ∧ wC.heap.size = w1.heap.size + 2) := ⟨hsA, hsK, hsB, hsC⟩
  clear hsA hsK hsB hsC
  obtain ⟨qA, fA⟩ := HQ0.out wA HSA.out.tail
  obtain ⟨qB, fB⟩ := HQ0.out wB HSB.out.tail
  obtain ⟨qK, fK⟩ := HQ0.out wK HSK.out
  obtain ⟨qC, fC⟩ := HQ0.out wC HSC.out.tail
  have HON : Hid (∀ (l : List ByteArray), ∀ u ∈ gc encS l, u.oneCell' = true) := one_gcS
  have HON1 : Hid (∀ u ∈ encS k, u.oneCell' = true) := fun u hu => one_gcS [k] u (by rw [gc_one]; exact hu)
  go_cut [50] (fun _ wc => ∃ ao9 cap9, Hid (Sep wc B (NM2 r (.slice ao9 (n + 1) cap9) (.slice aoV n capV) (Ks.take i ++ k :: Ks.drop i) Vs ++ X)) ∧ Hid (Below B w wc))
  case first =>
    refine wp_region_L (S := fun w' => w'.cell? ⟨r, 0, none⟩ = some (.slice aoK n capK)) 21 (by kernel_rfl) q0 (fun hHeld => ?_)
    refine GoL.takeD (some 30) (i := 0) (v := ?_) rfl rfl (by kernel_rfl) (by kernel_rfl) (by kernel_rfl) (by decide) (fun _ _ _ h => h) (Or.inl ⟨by rfl, ?_⟩) (by assumption) ?_
    rotate_left 1
    · intro w hSw
      (try dsimp only at hSw)
      go_simp
      try with_reducible rfl
    try simp only [Act.put, List.setIfInBounds_toArray, List.set_cons_zero, List.set_cons_succ]
    refine GoL.takeD (some 32) (i := 2) (v := ?_) rfl rfl (by kernel_rfl) (by kernel_rfl) (by kernel_rfl) (by decide) (fun _ _ _ h => h) (Or.inl ⟨by rfl, ?_⟩) (by assumption) ?_
    rotate_left 1
    · intro w hSw
      (try dsimp only at hSw)
      go_simp
      try with_reducible rfl
    try simp only [Act.put, List.setIfInBounds_toArray, List.set_cons_zero, List.set_cons_succ]
    refine GoL.takeD (some 33) (i := 3) (v := ?_) rfl rfl (by kernel_rfl) (by kernel_rfl) (by kernel_rfl) (by decide) (fun _ _ _ h => h) (Or.inl ⟨by rfl, ?_⟩) (by assumption) ?_
    rotate_left 1
    · intro w hSw
      (try dsimp only at hSw)
      go_simp
      try with_reducible rfl
    try simp only [Act.put, List.setIfInBounds_toArray, List.set_cons_zero, List.set_cons_succ]
    refine GoL.takeD (some 34) (i := 4) (v := ?_) rfl rfl (by kernel_rfl) (by kernel_rfl) (by kernel_rfl) (by decide) (fun _ _ _ h => h) (Or.inl ⟨by rfl, ?_⟩) (by assumption) ?_
    rotate_left 1
    · intro w hSw
      (try dsimp only at hSw)
      go_simp
      try with_reducible rfl
    try simp only [Act.put, List.setIfInBounds_toArray, List.set_cons_zero, List.set_cons_succ]
    refine GoL.takeD (some 35) (i := 5) (v := ?_) rfl rfl (by kernel_rfl) (by kernel_rfl) (by kernel_rfl) (by decide) (fun _ _ _ h => h) (Or.inl ⟨by rfl, ?_⟩) (by assumption) ?_
    rotate_left 1
    · intro w hSw
      (try dsimp only at hSw)
      go_simp
      try with_reducible rfl
    try simp only [Act.put, List.setIfInBounds_toArray, List.set_cons_zero, List.set_cons_succ]
    refine GoL.takeD (some 36) (i := 6) (v := ?_) rfl rfl (by kernel_rfl) (by kernel_rfl) (by kernel_rfl) (by decide) (fun _ _ _ h => h) (Or.inl ⟨by rfl, ?_⟩) (by assumption) ?_
    rotate_left 1
    · intro w hSw
      (try dsimp only at hSw)
      go_simp
      try with_reducible rfl
    try simp only [Act.put, List.setIfInBounds_toArray, List.set_cons_zero, List.set_cons_succ]
    refine GoL.takeD (some 37) (i := 7) (v := ?_) rfl rfl (by kernel_rfl) (by kernel_rfl) (by kernel_rfl) (by decide) (fun _ _ _ h => h) (Or.inl ⟨by rfl, ?_⟩) (by assumption) ?_
    rotate_left 1
    · intro w hSw
      (try dsimp only at hSw)
      go_simp
      try with_reducible rfl
    try simp only [Act.put, List.setIfInBounds_toArray, List.set_cons_zero, List.set_cons_succ]
    refine GoL.takeD (some 39) (i := 9) (v := ?_) rfl rfl (by kernel_rfl) (by kernel_rfl) (by kernel_rfl) (by decide) (fun _ _ _ h => h) (Or.inl ⟨by rfl, ?_⟩) (by assumption) ?_
    rotate_left 1
    · intro w hSw
      (try dsimp only at hSw)
      go_simp
      try with_reducible rfl
    try simp only [Act.put, List.setIfInBounds_toArray, List.set_cons_zero, List.set_cons_succ]
    refine GoL.takeD (some 42) (i := 12) (v := ?_) rfl rfl (by kernel_rfl) (by kernel_rfl) (by kernel_rfl) (by decide) (fun _ _ _ h => h) (Or.inl ⟨by rfl, ?_⟩) (by assumption) ?_
    rotate_left 1
    · intro w hSw
      (try dsimp only at hSw)
      go_simp
      try with_reducible rfl
    try simp only [Act.put, List.setIfInBounds_toArray, List.set_cons_zero, List.set_cons_succ]
    refine GoL.takeD (some 43) (i := 13) (v := ?_) rfl rfl (by kernel_rfl) (by kernel_rfl) (by kernel_rfl) (by decide) (fun _ _ _ h => h) (Or.inl ⟨by rfl, ?_⟩) (by assumption) ?_
    rotate_left 1
    · intro w hSw
      (try dsimp only at hSw)
      go_simp
      try with_reducible rfl
    try simp only [Act.put, List.setIfInBounds_toArray, List.set_cons_zero, List.set_cons_succ]
    refine GoL.takeD (some 44) (i := 14) (v := ?_) rfl rfl (by kernel_rfl) (by kernel_rfl) (by kernel_rfl) (by decide) (fun _ _ _ h => h) (Or.inl ⟨by rfl, ?_⟩) (by assumption) ?_
    rotate_left 1
    · intro w hSw
      (try dsimp only at hSw)
      go_simp
      try with_reducible rfl
    try simp only [Act.put, List.setIfInBounds_toArray, List.set_cons_zero, List.set_cons_succ]
    refine GoL.takeD (some 45) (i := 15) (v := ?_) rfl rfl (by kernel_rfl) (by kernel_rfl) (by kernel_rfl) (by decide) (fun _ _ _ h => h) (Or.inl ⟨by rfl, ?_⟩) (by assumption) ?_
    rotate_left 1
    · intro w hSw
      (try dsimp only at hSw)
      go_simp
      try with_reducible rfl
    try simp only [Act.put, List.setIfInBounds_toArray, List.set_cons_zero, List.set_cons_succ]
    refine GoL.takeD (some 46) (i := 16) (v := ?_) rfl rfl (by kernel_rfl) (by kernel_rfl) (by kernel_rfl) (by decide) (fun _ _ _ h => h) (Or.inl ⟨by rfl, ?_⟩) (by assumption) ?_
    rotate_left 1
    · intro w hSw
      (try dsimp only at hSw)
      go_simp
      try with_reducible rfl
    try simp only [Act.put, List.setIfInBounds_toArray, List.set_cons_zero, List.set_cons_succ]
    refine GoL.takeD (some 47) (i := 17) (v := ?_) rfl rfl (by kernel_rfl) (by kernel_rfl) (by kernel_rfl) (by decide) (fun _ _ _ h => h) (Or.inl ⟨by rfl, ?_⟩) (by assumption) ?_
    rotate_left 1
    · intro w hSw
      (try dsimp only at hSw)
      go_simp
      try with_reducible rfl
    try simp only [Act.put, List.setIfInBounds_toArray, List.set_cons_zero, List.set_cons_succ]
    refine GoL.ready (rs := [1, 10]) (by kernel_rfl) (by simp) (by decide) ?_
    refine AllL.cons rfl (fun K hK => ?_) (AllL.cons rfl (fun K hK => ?_) AllL.nil)
    · go_simp
      refine hK.out _ _ qA (fun hHeld => ?_)
      clear hK K
      refine GoL.ready (rs := [8, 10]) (by kernel_rfl) (by simp) (by decide) ?_
      refine AllL.cons rfl (fun K hK => ?_) (AllL.cons rfl (fun K hK => ?_) AllL.nil)
      · refine step_append_T 38 rfl rfl (.tmp 31) (.tmp 37) 26 9 rfl i1 Try.underlying26 hi1 _ hy0 1 16 hy1 hy2 rfl (by omega) B (.slice (some ⟨w1.heap.size, 0, none⟩) 0 0) (.slice aoK i capK) 0 i (gc encS []) (gc encS (Ks.take i)) rfl rfl (HSA.out.at_ (.row 9 1 (.slice (some ⟨w1.heap.size, 0, none⟩) 0 0) 0 (gc encS [])) (List.Mem.head _)) (by have h9 := rd_front (m := i) (HRO.out wA HSA.out.tail) (by omega); rw [Nat.mul_one] at h9; have h8 := gc_take encS_len Ks i; rw [Nat.mul_one] at h8; rw [h8] at h9; exact h9) (HON.out _) (by omega) (by omega) (Nat.le_trans hB HB0A.out.size) i (by omega) ?_; intro ao3 cap3 w3 ho3 hg3 ha3; have HS3 : Hid (Sep w3 B (.row 9 1 (.slice ao3 i cap3) i (gc encS (Ks.take i)) :: (NM2 r (.slice aoK n capK) (.slice aoV n capV) Ks Vs ++ X))) := Sep.turn [] (v := .slice (some ⟨w1.heap.size, 0, none⟩) 0 0) (n := 0) (xs := gc encS []) HSA.out ho3 hg3 (ha3.imp id (fun e => by intro y hy; rw [e] at hy; injection hy with hy; omega)); have HB3 : Hid (Below B w w3) := below_gr HB0A.out (Nat.le_trans hB HB0A.out.size) (HSA.out.at_ (.row 9 1 (.slice (some ⟨w1.heap.size, 0, none⟩) 0 0) 0 (gc encS [])) (List.Mem.head _)) hg3; obtain ⟨q3, f3⟩ := HQ0.out w3 HS3.out.tail; have hr3 : r < w3.heap.size := World.block_lt_of_cell? w3 _ q3; have hr4 : ¬ w3.heap.size = r := (by omega); have hr5 : ¬ r = w3.heap.size := (by omega); have MA : Hid True := trivial; clear ho3 hg3 ha3
        refine hK.out _ _ q3 (fun hHeld => ?_)
        clear hK K
        refine GoL.ready (rs := [10]) (by kernel_rfl) (by simp) (by decide) (AllL.cons rfl (fun K hK => ?_) AllL.nil)
        go_simp
        refine hK.out _ _ ((((Below.refl w3.heap.size w3).alloc (Nat.le_refl _) (.cells #[.string k] 9)).cell hr3).trans q3) (fun hHeld => ?_)
        clear hK K
        refine GoL.ready (rs := [11]) (by kernel_rfl) (by simp) (by decide) (AllL.cons rfl (fun K hK => ?_) AllL.nil)
        have hg := MA; clear hg; refine step_append_T 41 rfl rfl (.tmp 38) (.tmp 40) 26 9 rfl i1 Try.underlying26 hi1 _ hy0 1 16 hy1 hy2 rfl (by omega) B (.slice ao3 i cap3) (.slice (some ⟨w3.heap.size, 0, none⟩) 1 1) i 1 (gc encS (Ks.take i)) (encS k) rfl rfl ((HS3.out.below (((Below.refl w3.heap.size w3).alloc (Nat.le_refl _) (.cells #[.string k] 9)) : Below w3.heap.size w3 (w3.alloc (.cells #[.string k] 9)))).at_ (.row 9 1 (.slice ao3 i cap3) i (gc encS (Ks.take i))) (List.Mem.head _)) ⟨rfl, .inr ⟨_, 1, rfl, news_one (heap_alloc_new w3 _)⟩⟩ HON1.out (by omega) (by omega) (Nat.le_trans hB (HB3.out.trans ((((Below.refl w3.heap.size w3).alloc (Nat.le_refl _) (.cells #[.string k] 9)) : Below w3.heap.size w3 (w3.alloc (.cells #[.string k] 9))).mono (Nat.le_trans hB HB3.out.size))).size) (i + 1) rfl ?_; intro ao4 cap4 w4 ho4 hg4 ha4; have HS4 : Hid (Sep w4 B (.row 9 1 (.slice ao4 (i + 1) cap4) (i + 1) (gc encS (Ks.take i) ++ encS k) :: (NM2 r (.slice aoK n capK) (.slice aoV n capV) Ks Vs ++ X))) := Sep.turn [] (v := .slice ao3 i cap3) (n := i) (xs := gc encS (Ks.take i)) (HS3.out.below (((Below.refl w3.heap.size w3).alloc (Nat.le_refl _) (.cells #[.string k] 9)) : Below w3.heap.size w3 (w3.alloc (.cells #[.string k] 9)))) ho4 hg4 (ha4.imp id (fun e => by intro y hy; rw [e] at hy; injection hy with hy; omega)); have HB4 : Hid (Below B w w4) := below_gr (HB3.out.trans ((((Below.refl w3.heap.size w3).alloc (Nat.le_refl _) (.cells #[.string k] 9)) : Below w3.heap.size w3 (w3.alloc (.cells #[.string k] 9))).mono (Nat.le_trans hB HB3.out.size))) (Nat.le_trans hB (HB3.out.trans ((((Below.refl w3.heap.size w3).alloc (Nat.le_refl _) (.cells #[.string k] 9)) : Below w3.heap.size w3 (w3.alloc (.cells #[.string k] 9))).mono (Nat.le_trans hB HB3.out.size))).size) ((HS3.out.below (((Below.refl w3.heap.size w3).alloc (Nat.le_refl _) (.cells #[.string k] 9)) : Below w3.heap.size w3 (w3.alloc (.cells #[.string k] 9)))).at_ (.row 9 1 (.slice ao3 i cap3) i (gc encS (Ks.take i))) (List.Mem.head _)) hg4; obtain ⟨q4, f4⟩ := HQ0.out w4 HS4.out.tail; clear ho4 hg4 ha4
        refine hK.out _ _ q4 (fun hHeld => ?_)
        clear hK K
        refine GoL.ready (rs := [18]) (by kernel_rfl) (by simp) (by decide) (AllL.cons rfl (fun K hK => ?_) AllL.nil)
        refine step_append_T 48 rfl rfl (.tmp 41) (.tmp 47) 26 9 rfl i1 Try.underlying26 hi1 _ hy0 1 16 hy1 hy2 rfl (by omega) B (.slice ao4 (i + 1) cap4) (.slice (pkA capK i aoK) (n - i) (capK - i)) (i + 1) (n - i) (gc encS (Ks.take i) ++ encS k) (gc encS (Ks.drop i)) rfl rfl (HS4.out.at_ (.row 9 1 (.slice ao4 (i + 1) cap4) (i + 1) (gc encS (Ks.take i) ++ encS k)) (List.Mem.head _)) (by have h9 := rd_back (m := i) (HRO.out w4 HS4.out.tail) (by omega) _ (pkA0 capK i aoK) (pkA1 (m := i) (by omega)) (pkA2 capK i aoK); rw [Nat.mul_one] at h9; have h8 := gc_drop encS_len Ks i; rw [Nat.mul_one] at h8; rw [h8] at h9; exact h9) (HON.out _) (by omega) (by omega) (Nat.le_trans hB HB4.out.size) (n + 1) (by omega) ?_; intro ao5 cap5 w5 ho5 hg5 ha5; have HS5 : Hid (Sep w5 B (.row 9 1 (.slice ao5 (n + 1) cap5) (n + 1) ((gc encS (Ks.take i) ++ encS k) ++ gc encS (Ks.drop i)) :: (NM2 r (.slice aoK n capK) (.slice aoV n capV) Ks Vs ++ X))) := Sep.turn [] (v := .slice ao4 (i + 1) cap4) (n := i + 1) (xs := gc encS (Ks.take i) ++ encS k) HS4.out ho5 hg5 (ha5.imp id (fun e => by intro y hy; rw [e] at hy; injection hy with hy; omega)); have HB5 : Hid (Below B w w5) := below_gr HB4.out (Nat.le_trans hB HB4.out.size) (HS4.out.at_ (.row 9 1 (.slice ao4 (i + 1) cap4) (i + 1) (gc encS (Ks.take i) ++ encS k)) (List.Mem.head _)) hg5; obtain ⟨q5, f5⟩ := HQ0.out w5 HS5.out.tail; clear ho5 hg5 ha5
        refine hK.out _ _ q5 (fun hHeld => ?_)
        clear hK K
        refine GoL.takeD (some 49) (i := 19) (v := ?_) rfl rfl (by kernel_rfl) (by kernel_rfl) (by kernel_rfl) (by decide) (fun _ _ _ h => h) (Or.inl ⟨by rfl, ?_⟩) (by assumption) ?_
        rotate_left 1
        · intro w hSw
          (try dsimp only at hSw)
          go_simp
          try with_reducible rfl
        try simp only [Act.put, List.setIfInBounds_toArray, List.set_cons_zero, List.set_cons_succ]
        refine GoL.takeD (some 50) (i := 20) (v := ?_) rfl rfl (by kernel_rfl) (by kernel_rfl) (by kernel_rfl) (by decide) (fun _ _ _ h => h) (Or.inl ⟨by rfl, ?_⟩) (by assumption) ?_
        rotate_left 1
        · intro w hSw
          (try dsimp only at hSw)
          go_simp
          try with_reducible rfl
        try simp only [Act.put, List.setIfInBounds_toArray, List.set_cons_zero, List.set_cons_succ]
        refine GoL.last (by kernel_rfl) (by kernel_rfl) rfl (fun K hK => ?_)
        go_simp
        refine hK.out _ _ ?_
        all_goals go_wp2_with fail
        all_goals go_meet
        all_goals exact ⟨ao5, cap5, nm_k (n := n) (by rw [List.length_append, List.length_cons, List.length_take, List.length_drop, HKs.out]; omega) (by rw [gc_append, ← List.singleton_append, gc_append, gc_one, List.append_assoc]) HS5.out, nm_below HB5.out (obj_ge HS5.out)⟩
      · go_simp
        refine hK.out _ _ qB (fun hHeld => ?_)
        clear hK K
        refine GoL.ready (rs := [8]) (by kernel_rfl) (by simp) (by decide) (AllL.cons rfl (fun K hK => ?_) AllL.nil)
        refine step_append_T 38 rfl rfl (.tmp 31) (.tmp 37) 26 9 rfl i1 Try.underlying26 hi1 _ hy0 1 16 hy1 hy2 rfl (by omega) B (.slice (some ⟨w1.heap.size, 0, none⟩) 0 0) (.slice aoK i capK) 0 i (gc encS []) (gc encS (Ks.take i)) rfl rfl (HSB.out.at_ (.row 9 1 (.slice (some ⟨w1.heap.size, 0, none⟩) 0 0) 0 (gc encS [])) (List.Mem.head _)) (by have h9 := rd_front (m := i) (HRO.out wB HSB.out.tail) (by omega); rw [Nat.mul_one] at h9; have h8 := gc_take encS_len Ks i; rw [Nat.mul_one] at h8; rw [h8] at h9; exact h9) (HON.out _) (by omega) (by omega) (Nat.le_trans hB HB0B.out.size) i (by omega) ?_; intro ao3 cap3 w3 ho3 hg3 ha3; have HS3 : Hid (Sep w3 B (.row 9 1 (.slice ao3 i cap3) i (gc encS (Ks.take i)) :: (NM2 r (.slice aoK n capK) (.slice aoV n capV) Ks Vs ++ X))) := Sep.turn [] (v := .slice (some ⟨w1.heap.size, 0, none⟩) 0 0) (n := 0) (xs := gc encS []) HSB.out ho3 hg3 (ha3.imp id (fun e => by intro y hy; rw [e] at hy; injection hy with hy; omega)); have HB3 : Hid (Below B w w3) := below_gr HB0B.out (Nat.le_trans hB HB0B.out.size) (HSB.out.at_ (.row 9 1 (.slice (some ⟨w1.heap.size, 0, none⟩) 0 0) 0 (gc encS [])) (List.Mem.head _)) hg3; obtain ⟨q3, f3⟩ := HQ0.out w3 HS3.out.tail; have hr3 : r < w3.heap.size := World.block_lt_of_cell? w3 _ q3; have hr4 : ¬ w3.heap.size = r := (by omega); have hr5 : ¬ r = w3.heap.size := (by omega); have HK3 : Hid (w3.heap[wA.heap.size]? = some (.cells #[.string k] 9 (0, 0))) := (hg3.block wA.heap.size (by have := HSZ.out; omega) (by simp [Value.ownBlock]; have := HSZ.out; omega)).trans HKB.out; have MB : Hid True := trivial; clear ho3 hg3 ha3
        refine hK.out _ _ q3 (fun hHeld => ?_)
        clear hK K
        refine GoL.ready (rs := [11]) (by kernel_rfl) (by simp) (by decide) (AllL.cons rfl (fun K hK => ?_) AllL.nil)
        have hg := MB; clear hg; refine step_append_T 41 rfl rfl (.tmp 38) (.tmp 40) 26 9 rfl i1 Try.underlying26 hi1 _ hy0 1 16 hy1 hy2 rfl (by omega) B (.slice ao3 i cap3) (.slice (some ⟨wA.heap.size, 0, none⟩) 1 1) i 1 (gc encS (Ks.take i)) (encS k) rfl rfl (HS3.out.at_ (.row 9 1 (.slice ao3 i cap3) i (gc encS (Ks.take i))) (List.Mem.head _)) ⟨rfl, .inr ⟨_, 1, rfl, news_one HK3.out⟩⟩ HON1.out (by omega) (by omega) (Nat.le_trans hB HB3.out.size) (i + 1) rfl ?_; intro ao4 cap4 w4 ho4 hg4 ha4; have HS4 : Hid (Sep w4 B (.row 9 1 (.slice ao4 (i + 1) cap4) (i + 1) (gc encS (Ks.take i) ++ encS k) :: (NM2 r (.slice aoK n capK) (.slice aoV n capV) Ks Vs ++ X))) := Sep.turn [] (v := .slice ao3 i cap3) (n := i) (xs := gc encS (Ks.take i)) HS3.out ho4 hg4 (ha4.imp id (fun e => by intro y hy; rw [e] at hy; injection hy with hy; omega)); have HB4 : Hid (Below B w w4) := below_gr HB3.out (Nat.le_trans hB HB3.out.size) (HS3.out.at_ (.row 9 1 (.slice ao3 i cap3) i (gc encS (Ks.take i))) (List.Mem.head _)) hg4; obtain ⟨q4, f4⟩ := HQ0.out w4 HS4.out.tail; clear ho4 hg4 ha4
        refine hK.out _ _ q4 (fun hHeld => ?_)
        clear hK K
        refine GoL.ready (rs := [18]) (by kernel_rfl) (by simp) (by decide) (AllL.cons rfl (fun K hK => ?_) AllL.nil)
        refine step_append_T 48 rfl rfl (.tmp 41) (.tmp 47) 26 9 rfl i1 Try.underlying26 hi1 _ hy0 1 16 hy1 hy2 rfl (by omega) B (.slice ao4 (i + 1) cap4) (.slice (pkA capK i aoK) (n - i) (capK - i)) (i + 1) (n - i) (gc encS (Ks.take i) ++ encS k) (gc encS (Ks.drop i)) rfl rfl (HS4.out.at_ (.row 9 1 (.slice ao4 (i + 1) cap4) (i + 1) (gc encS (Ks.take i) ++ encS k)) (List.Mem.head _)) (by have h9 := rd_back (m := i) (HRO.out w4 HS4.out.tail) (by omega) _ (pkA0 capK i aoK) (pkA1 (m := i) (by omega)) (pkA2 capK i aoK); rw [Nat.mul_one] at h9; have h8 := gc_drop encS_len Ks i; rw [Nat.mul_one] at h8; rw [h8] at h9; exact h9) (HON.out _) (by omega) (by omega) (Nat.le_trans hB HB4.out.size) (n + 1) (by omega) ?_; intro ao5 cap5 w5 ho5 hg5 ha5; have HS5 : Hid (Sep w5 B (.row 9 1 (.slice ao5 (n + 1) cap5) (n + 1) ((gc encS (Ks.take i) ++ encS k) ++ gc encS (Ks.drop i)) :: (NM2 r (.slice aoK n capK) (.slice aoV n capV) Ks Vs ++ X))) := Sep.turn [] (v := .slice ao4 (i + 1) cap4) (n := i + 1) (xs := gc encS (Ks.take i) ++ encS k) HS4.out ho5 hg5 (ha5.imp id (fun e => by intro y hy; rw [e] at hy; injection hy with hy; omega)); have HB5 : Hid (Below B w w5) := below_gr HB4.out (Nat.le_trans hB HB4.out.size) (HS4.out.at_ (.row 9 1 (.slice ao4 (i + 1) cap4) (i + 1) (gc encS (Ks.take i) ++ encS k)) (List.Mem.head _)) hg5; obtain ⟨q5, f5⟩ := HQ0.out w5 HS5.out.tail; clear ho5 hg5 ha5
        refine hK.out _ _ q5 (fun hHeld => ?_)
        clear hK K
        refine GoL.takeD (some 49) (i := 19) (v := ?_) rfl rfl (by kernel_rfl) (by kernel_rfl) (by kernel_rfl) (by decide) (fun _ _ _ h => h) (Or.inl ⟨by rfl, ?_⟩) (by assumption) ?_
        rotate_left 1
        · intro w hSw
          (try dsimp only at hSw)
          go_simp
          try with_reducible rfl
        try simp only [Act.put, List.setIfInBounds_toArray, List.set_cons_zero, List.set_cons_succ]
        refine GoL.takeD (some 50) (i := 20) (v := ?_) rfl rfl (by kernel_rfl) (by kernel_rfl) (by kernel_rfl) (by decide) (fun _ _ _ h => h) (Or.inl ⟨by rfl, ?_⟩) (by assumption) ?_
        rotate_left 1
        · intro w hSw
          (try dsimp only at hSw)
          go_simp
          try with_reducible rfl
        try simp only [Act.put, List.setIfInBounds_toArray, List.set_cons_zero, List.set_cons_succ]
        refine GoL.last (by kernel_rfl) (by kernel_rfl) rfl (fun K hK => ?_)
        go_simp
        refine hK.out _ _ ?_
        all_goals go_wp2_with fail
        all_goals go_meet
        all_goals exact ⟨ao5, cap5, nm_k (n := n) (by rw [List.length_append, List.length_cons, List.length_take, List.length_drop, HKs.out]; omega) (by rw [gc_append, ← List.singleton_append, gc_append, gc_one, List.append_assoc]) HS5.out, nm_below HB5.out (obj_ge HS5.out)⟩
    · go_simp
      refine hK.out _ _ qK (fun hHeld => ?_)
      clear hK K
      refine GoL.ready (rs := [1]) (by kernel_rfl) (by simp) (by decide) (AllL.cons rfl (fun K hK => ?_) AllL.nil)
      go_simp
      refine hK.out _ _ qC (fun hHeld => ?_)
      clear hK K
      refine GoL.ready (rs := [8]) (by kernel_rfl) (by simp) (by decide) (AllL.cons rfl (fun K hK => ?_) AllL.nil)
      refine step_append_T 38 rfl rfl (.tmp 31) (.tmp 37) 26 9 rfl i1 Try.underlying26 hi1 _ hy0 1 16 hy1 hy2 rfl (by omega) B (.slice (some ⟨wK.heap.size, 0, none⟩) 0 0) (.slice aoK i capK) 0 i (gc encS []) (gc encS (Ks.take i)) rfl rfl (HSC.out.at_ (.row 9 1 (.slice (some ⟨wK.heap.size, 0, none⟩) 0 0) 0 (gc encS [])) (List.Mem.head _)) (by have h9 := rd_front (m := i) (HRO.out wC HSC.out.tail) (by omega); rw [Nat.mul_one] at h9; have h8 := gc_take encS_len Ks i; rw [Nat.mul_one] at h8; rw [h8] at h9; exact h9) (HON.out _) (by omega) (by omega) (Nat.le_trans hB HB0C.out.size) i (by omega) ?_; intro ao3 cap3 w3 ho3 hg3 ha3; have HS3 : Hid (Sep w3 B (.row 9 1 (.slice ao3 i cap3) i (gc encS (Ks.take i)) :: (NM2 r (.slice aoK n capK) (.slice aoV n capV) Ks Vs ++ X))) := Sep.turn [] (v := .slice (some ⟨wK.heap.size, 0, none⟩) 0 0) (n := 0) (xs := gc encS []) HSC.out ho3 hg3 (ha3.imp id (fun e => by intro y hy; rw [e] at hy; injection hy with hy; omega)); have HB3 : Hid (Below B w w3) := below_gr HB0C.out (Nat.le_trans hB HB0C.out.size) (HSC.out.at_ (.row 9 1 (.slice (some ⟨wK.heap.size, 0, none⟩) 0 0) 0 (gc encS [])) (List.Mem.head _)) hg3; obtain ⟨q3, f3⟩ := HQ0.out w3 HS3.out.tail; have hr3 : r < w3.heap.size := World.block_lt_of_cell? w3 _ q3; have hr4 : ¬ w3.heap.size = r := (by omega); have hr5 : ¬ r = w3.heap.size := (by omega); have HK3 : Hid (w3.heap[w1.heap.size]? = some (.cells #[.string k] 9 (0, 0))) := (hg3.block w1.heap.size (by have := HSZ.out; omega) (by simp [Value.ownBlock]; have := HSZ.out; omega)).trans HKC.out; have MC : Hid True := trivial; clear ho3 hg3 ha3
      refine hK.out _ _ q3 (fun hHeld => ?_)
      clear hK K
      refine GoL.ready (rs := [11]) (by kernel_rfl) (by simp) (by decide) (AllL.cons rfl (fun K hK => ?_) AllL.nil)
      have hg := MC; clear hg; refine step_append_T 41 rfl rfl (.tmp 38) (.tmp 40) 26 9 rfl i1 Try.underlying26 hi1 _ hy0 1 16 hy1 hy2 rfl (by omega) B (.slice ao3 i cap3) (.slice (some ⟨w1.heap.size, 0, none⟩) 1 1) i 1 (gc encS (Ks.take i)) (encS k) rfl rfl (HS3.out.at_ (.row 9 1 (.slice ao3 i cap3) i (gc encS (Ks.take i))) (List.Mem.head _)) ⟨rfl, .inr ⟨_, 1, rfl, news_one HK3.out⟩⟩ HON1.out (by omega) (by omega) (Nat.le_trans hB HB3.out.size) (i + 1) rfl ?_; intro ao4 cap4 w4 ho4 hg4 ha4; have HS4 : Hid (Sep w4 B (.row 9 1 (.slice ao4 (i + 1) cap4) (i + 1) (gc encS (Ks.take i) ++ encS k) :: (NM2 r (.slice aoK n capK) (.slice aoV n capV) Ks Vs ++ X))) := Sep.turn [] (v := .slice ao3 i cap3) (n := i) (xs := gc encS (Ks.take i)) HS3.out ho4 hg4 (ha4.imp id (fun e => by intro y hy; rw [e] at hy; injection hy with hy; omega)); have HB4 : Hid (Below B w w4) := below_gr HB3.out (Nat.le_trans hB HB3.out.size) (HS3.out.at_ (.row 9 1 (.slice ao3 i cap3) i (gc encS (Ks.take i))) (List.Mem.head _)) hg4; obtain ⟨q4, f4⟩ := HQ0.out w4 HS4.out.tail; clear ho4 hg4 ha4
      refine hK.out _ _ q4 (fun hHeld => ?_)
      clear hK K
      refine GoL.ready (rs := [18]) (by kernel_rfl) (by simp) (by decide) (AllL.cons rfl (fun K hK => ?_) AllL.nil)
      refine step_append_T 48 rfl rfl (.tmp 41) (.tmp 47) 26 9 rfl i1 Try.underlying26 hi1 _ hy0 1 16 hy1 hy2 rfl (by omega) B (.slice ao4 (i + 1) cap4) (.slice (pkA capK i aoK) (n - i) (capK - i)) (i + 1) (n - i) (gc encS (Ks.take i) ++ encS k) (gc encS (Ks.drop i)) rfl rfl (HS4.out.at_ (.row 9 1 (.slice ao4 (i + 1) cap4) (i + 1) (gc encS (Ks.take i) ++ encS k)) (List.Mem.head _)) (by have h9 := rd_back (m := i) (HRO.out w4 HS4.out.tail) (by omega) _ (pkA0 capK i aoK) (pkA1 (m := i) (by omega)) (pkA2 capK i aoK); rw [Nat.mul_one] at h9; have h8 := gc_drop encS_len Ks i; rw [Nat.mul_one] at h8; rw [h8] at h9; exact h9) (HON.out _) (by omega) (by omega) (Nat.le_trans hB HB4.out.size) (n + 1) (by omega) ?_; intro ao5 cap5 w5 ho5 hg5 ha5; have HS5 : Hid (Sep w5 B (.row 9 1 (.slice ao5 (n + 1) cap5) (n + 1) ((gc encS (Ks.take i) ++ encS k) ++ gc encS (Ks.drop i)) :: (NM2 r (.slice aoK n capK) (.slice aoV n capV) Ks Vs ++ X))) := Sep.turn [] (v := .slice ao4 (i + 1) cap4) (n := i + 1) (xs := gc encS (Ks.take i) ++ encS k) HS4.out ho5 hg5 (ha5.imp id (fun e => by intro y hy; rw [e] at hy; injection hy with hy; omega)); have HB5 : Hid (Below B w w5) := below_gr HB4.out (Nat.le_trans hB HB4.out.size) (HS4.out.at_ (.row 9 1 (.slice ao4 (i + 1) cap4) (i + 1) (gc encS (Ks.take i) ++ encS k)) (List.Mem.head _)) hg5; obtain ⟨q5, f5⟩ := HQ0.out w5 HS5.out.tail; clear ho5 hg5 ha5
      refine hK.out _ _ q5 (fun hHeld => ?_)
      clear hK K
      refine GoL.takeD (some 49) (i := 19) (v := ?_) rfl rfl (by kernel_rfl) (by kernel_rfl) (by kernel_rfl) (by decide) (fun _ _ _ h => h) (Or.inl ⟨by rfl, ?_⟩) (by assumption) ?_
      rotate_left 1
      · intro w hSw
        (try dsimp only at hSw)
        go_simp
        try with_reducible rfl
      try simp only [Act.put, List.setIfInBounds_toArray, List.set_cons_zero, List.set_cons_succ]
      refine GoL.takeD (some 50) (i := 20) (v := ?_) rfl rfl (by kernel_rfl) (by kernel_rfl) (by kernel_rfl) (by decide) (fun _ _ _ h => h) (Or.inl ⟨by rfl, ?_⟩) (by assumption) ?_
      rotate_left 1
      · intro w hSw
        (try dsimp only at hSw)
        go_simp
        try with_reducible rfl
      try simp only [Act.put, List.setIfInBounds_toArray, List.set_cons_zero, List.set_cons_succ]
      refine GoL.last (by kernel_rfl) (by kernel_rfl) rfl (fun K hK => ?_)
      go_simp
      refine hK.out _ _ ?_
      all_goals go_wp2_with fail
      all_goals go_meet
      all_goals exact ⟨ao5, cap5, nm_k (n := n) (by rw [List.length_append, List.length_cons, List.length_take, List.length_drop, HKs.out]; omega) (by rw [gc_append, ← List.singleton_append, gc_append, gc_one, List.append_assoc]) HS5.out, nm_below HB5.out (obj_ge HS5.out)⟩
  case rest =>
    obtain ⟨aoN, capN, HS9, HB9⟩ := hcut
    clear q0 f0 ro qA fA qB fB qK fK qC fC HSA HSB HSK HSC HBA HBK HBAB HBKC HB0A HB0B HB0K HB0C HKB HKC HSZ HRO HQ0 HS0 HB0 eA eB eK eC hcp hcpi hic hic3 hic4 hB0 HON HON1 wA wB wK wC
    have HS0 : Hid (Sep wc B (NM2 r (.slice aoN (n + 1) capN) (.slice aoV n capV) (Ks.take i ++ k :: Ks.drop i) Vs ++ X)) := HS9.out
    have HB0 : Hid (Below B w wc) := HB9.out
    obtain ⟨q0, f0, ro⟩ := NM2.v (n := n) HS0.out
    have HRO : Hid (∀ W, Sep W B (NM2 r (.slice aoN (n + 1) capN) (.slice aoV n capV) (Ks.take i ++ k :: Ks.drop i) Vs ++ X) → W.ownsRow B 31 1 (.slice aoV n capV) n (gc encU Vs)) := fun W hW => (NM2.v (n := n) hW).2.2 HVs.out
    have HQ0 : Hid (∀ W, Sep W B (NM2 r (.slice aoN (n + 1) capN) (.slice aoV n capV) (Ks.take i ++ k :: Ks.drop i) Vs ++ X) → W.cell? ⟨r, 1, none⟩ = some (.slice aoV n capV) ∧ W.frozen? ⟨r, 1, none⟩ = false) := fun W hW => ⟨(NM2.v (n := n) hW).1, (NM2.v (n := n) hW).2.1⟩
    have hcp : n ≤ capV := row_cap (HRO.out _ HS0.out)
    have hcpi : (n : Int) ≤ (capV : Int) := by omega
    have hic : i ≤ capV := by omega
    have hic3 : i ≤ n := by omega
    have hic4 : (i : Int) ≤ (capV : Int) := by omega
    obtain ⟨wA, eA⟩ : ∃ ww, wc.drew.alloc (.cells #[] 31) = ww := ⟨_, rfl⟩
    obtain ⟨wB, eB⟩ : ∃ ww, wA.alloc (.cells #[.int .u64 x] 31) = ww := ⟨_, rfl⟩
    obtain ⟨wK, eK⟩ : ∃ ww, wc.drew.alloc (.cells #[.int .u64 x] 31) = ww := ⟨_, rfl⟩
    obtain ⟨wC, eC⟩ : ∃ ww, wK.alloc (.cells #[] 31) = ww := ⟨_, rfl⟩
    have hB0 : B ≤ wc.heap.size := Nat.le_trans hB HB0.out.size
    have HBA : Hid (Below wc.heap.size wc wA) := by unfold Hid; rw [← eA]; exact (Below.refl _ _).drew.alloc (Nat.le_refl _) _
    have HBK : Hid (Below wc.heap.size wc wK) := by unfold Hid; rw [← eK]; exact (Below.refl _ _).drew.alloc (Nat.le_refl _) _
    have HBAB : Hid (Below wA.heap.size wA wB) := by unfold Hid; rw [← eB]; exact (Below.refl _ _).alloc (Nat.le_refl _) _
    have HBKC : Hid (Below wK.heap.size wK wC) := by unfold Hid; rw [← eC]; exact (Below.refl _ _).alloc (Nat.le_refl _) _
    have hsA : wA.heap.size = wc.heap.size + 1 := by rw [← eA]; simp
    have hsK : wK.heap.size = wc.heap.size + 1 := by rw [← eK]; simp
    have hsB : wB.heap.size = wc.heap.size + 2 := by rw [← eB]; simp [hsA]
    have hsC : wC.heap.size = wc.heap.size + 2 := by rw [← eC]; simp [hsK]
    have HSA : Hid (Sep wA B (.row 31 1 (.slice (some ⟨wc.heap.size, 0, none⟩) 0 0) 0 (gc encU []) :: (NM2 r (.slice aoN (n + 1) capN) (.slice aoV n capV) (Ks.take i ++ k :: Ks.drop i) Vs ++ X))) := Sep.new HS0.out HBA.out (by rw [← eA]; exact World.ownsRow_made wc.drew #[] 0 hB0 (Nat.zero_le _) rfl) (by intro y hy; simp [Pc.blk, Value.ownBlock] at hy; omega)
    have HSB : Hid (Sep wB B (.row 31 1 (.slice (some ⟨wc.heap.size, 0, none⟩) 0 0) 0 (gc encU []) :: (NM2 r (.slice aoN (n + 1) capN) (.slice aoV n capV) (Ks.take i ++ k :: Ks.drop i) Vs ++ X))) := HSA.out.below HBAB.out
    have HSK : Hid (Sep wK B (NM2 r (.slice aoN (n + 1) capN) (.slice aoV n capV) (Ks.take i ++ k :: Ks.drop i) Vs ++ X)) := HS0.out.below HBK.out
    have HSC : Hid (Sep wC B (.row 31 1 (.slice (some ⟨wK.heap.size, 0, none⟩) 0 0) 0 (gc encU []) :: (NM2 r (.slice aoN (n + 1) capN) (.slice aoV n capV) (Ks.take i ++ k :: Ks.drop i) Vs ++ X))) := Sep.new HSK.out HBKC.out (by rw [← eC]; exact World.ownsRow_made wK #[] 0 (by omega) (Nat.zero_le _) rfl) (by intro y hy; simp [Pc.blk, Value.ownBlock] at hy; omega)
    have HB0A : Hid (Below B w wA) := HB0.out.trans (HBA.out.mono hB0)
    have HB0B : Hid (Below B w wB) := HB0A.out.trans (HBAB.out.mono (by omega))
    have HB0K : Hid (Below B w wK) := HB0.out.trans (HBK.out.mono hB0)
    have HB0C : Hid (Below B w wC) := HB0K.out.trans (HBKC.out.mono (by omega))
    have HKB : Hid (wB.heap[wA.heap.size]? = some (.cells #[.int .u64 x] 31 (0, 0))) := by unfold Hid; rw [← eB]; exact heap_alloc_new wA _
    have HKC : Hid (wC.heap[wc.heap.size]? = some (.cells #[.int .u64 x] 31 (0, 0))) := by unfold Hid; rw [HBKC.out.block _ (by omega), ← eK]; exact heap_alloc_new wc.drew _
    have HSZ : Hid (wA.heap.size = wc.heap.size + 1 ∧ wK.heap.size = wc.heap.size + 1 ∧ wB.heap.size = wc.heap.size + 2 ∧ wC.heap.size = wc.heap.size + 2) := ⟨hsA, hsK, hsB, hsC⟩
    clear hsA hsK hsB hsC
    obtain ⟨qA, fA⟩ := HQ0.out wA HSA.out.tail
    obtain ⟨qB, fB⟩ := HQ0.out wB HSB.out.tail
    obtain ⟨qK, fK⟩ := HQ0.out wK HSK.out
    obtain ⟨qC, fC⟩ := HQ0.out wC HSC.out.tail
    have HON : Hid (∀ (l : List Int), ∀ u ∈ gc encU l, u.oneCell' = true) := one_gcU
    have HON1 : Hid (∀ u ∈ encU x, u.oneCell' = true) := fun u hu => one_gcU [x] u (by rw [gc_one]; exact hu)
    go_upto_region 8 with fail
    go_cut [71] (fun _ wc => ∃ ao9 cap9, Hid (Sep wc B (NM2 r (.slice aoN (n + 1) capN) (.slice ao9 (n + 1) cap9) (Ks.take i ++ k :: Ks.drop i) (Vs.take i ++ x :: Vs.drop i) ++ X)) ∧ Hid (Below B w wc))
    case first =>
      refine wp_region_L (S := fun w' => w'.cell? ⟨r, 1, none⟩ = some (.slice aoV n capV)) 21 (by kernel_rfl) q0 (fun hHeld => ?_)
      refine GoL.takeD (some 51) (i := 0) (v := ?_) rfl rfl (by kernel_rfl) (by kernel_rfl) (by kernel_rfl) (by decide) (fun _ _ _ h => h) (Or.inl ⟨by rfl, ?_⟩) (by assumption) ?_
      rotate_left 1
      · intro w hSw
        (try dsimp only at hSw)
        go_simp
        try with_reducible rfl
      try simp only [Act.put, List.setIfInBounds_toArray, List.set_cons_zero, List.set_cons_succ]
      refine GoL.takeD (some 53) (i := 2) (v := ?_) rfl rfl (by kernel_rfl) (by kernel_rfl) (by kernel_rfl) (by decide) (fun _ _ _ h => h) (Or.inl ⟨by rfl, ?_⟩) (by assumption) ?_
      rotate_left 1
      · intro w hSw
        (try dsimp only at hSw)
        go_simp
        try with_reducible rfl
      try simp only [Act.put, List.setIfInBounds_toArray, List.set_cons_zero, List.set_cons_succ]
      refine GoL.takeD (some 54) (i := 3) (v := ?_) rfl rfl (by kernel_rfl) (by kernel_rfl) (by kernel_rfl) (by decide) (fun _ _ _ h => h) (Or.inl ⟨by rfl, ?_⟩) (by assumption) ?_
      rotate_left 1
      · intro w hSw
        (try dsimp only at hSw)
        go_simp
        try with_reducible rfl
      try simp only [Act.put, List.setIfInBounds_toArray, List.set_cons_zero, List.set_cons_succ]
      refine GoL.takeD (some 55) (i := 4) (v := ?_) rfl rfl (by kernel_rfl) (by kernel_rfl) (by kernel_rfl) (by decide) (fun _ _ _ h => h) (Or.inl ⟨by rfl, ?_⟩) (by assumption) ?_
      rotate_left 1
      · intro w hSw
        (try dsimp only at hSw)
        go_simp
        try with_reducible rfl
      try simp only [Act.put, List.setIfInBounds_toArray, List.set_cons_zero, List.set_cons_succ]
      refine GoL.takeD (some 56) (i := 5) (v := ?_) rfl rfl (by kernel_rfl) (by kernel_rfl) (by kernel_rfl) (by decide) (fun _ _ _ h => h) (Or.inl ⟨by rfl, ?_⟩) (by assumption) ?_
      rotate_left 1
      · intro w hSw
        (try dsimp only at hSw)
        go_simp
        try with_reducible rfl
      try simp only [Act.put, List.setIfInBounds_toArray, List.set_cons_zero, List.set_cons_succ]
      refine GoL.takeD (some 57) (i := 6) (v := ?_) rfl rfl (by kernel_rfl) (by kernel_rfl) (by kernel_rfl) (by decide) (fun _ _ _ h => h) (Or.inl ⟨by rfl, ?_⟩) (by assumption) ?_
      rotate_left 1
      · intro w hSw
        (try dsimp only at hSw)
        go_simp
        try with_reducible rfl
      try simp only [Act.put, List.setIfInBounds_toArray, List.set_cons_zero, List.set_cons_succ]
      refine GoL.takeD (some 58) (i := 7) (v := ?_) rfl rfl (by kernel_rfl) (by kernel_rfl) (by kernel_rfl) (by decide) (fun _ _ _ h => h) (Or.inl ⟨by rfl, ?_⟩) (by assumption) ?_
      rotate_left 1
      · intro w hSw
        (try dsimp only at hSw)
        go_simp
        try with_reducible rfl
      try simp only [Act.put, List.setIfInBounds_toArray, List.set_cons_zero, List.set_cons_succ]
      refine GoL.takeD (some 60) (i := 9) (v := ?_) rfl rfl (by kernel_rfl) (by kernel_rfl) (by kernel_rfl) (by decide) (fun _ _ _ h => h) (Or.inl ⟨by rfl, ?_⟩) (by assumption) ?_
      rotate_left 1
      · intro w hSw
        (try dsimp only at hSw)
        go_simp
        try with_reducible rfl
      try simp only [Act.put, List.setIfInBounds_toArray, List.set_cons_zero, List.set_cons_succ]
      refine GoL.takeD (some 63) (i := 12) (v := ?_) rfl rfl (by kernel_rfl) (by kernel_rfl) (by kernel_rfl) (by decide) (fun _ _ _ h => h) (Or.inl ⟨by rfl, ?_⟩) (by assumption) ?_
      rotate_left 1
      · intro w hSw
        (try dsimp only at hSw)
        go_simp
        try with_reducible rfl
      try simp only [Act.put, List.setIfInBounds_toArray, List.set_cons_zero, List.set_cons_succ]
      refine GoL.takeD (some 64) (i := 13) (v := ?_) rfl rfl (by kernel_rfl) (by kernel_rfl) (by kernel_rfl) (by decide) (fun _ _ _ h => h) (Or.inl ⟨by rfl, ?_⟩) (by assumption) ?_
      rotate_left 1
      · intro w hSw
        (try dsimp only at hSw)
        go_simp
        try with_reducible rfl
      try simp only [Act.put, List.setIfInBounds_toArray, List.set_cons_zero, List.set_cons_succ]
      refine GoL.takeD (some 65) (i := 14) (v := ?_) rfl rfl (by kernel_rfl) (by kernel_rfl) (by kernel_rfl) (by decide) (fun _ _ _ h => h) (Or.inl ⟨by rfl, ?_⟩) (by assumption) ?_
      rotate_left 1
      · intro w hSw
        (try dsimp only at hSw)
        go_simp
        try with_reducible rfl
      try simp only [Act.put, List.setIfInBounds_toArray, List.set_cons_zero, List.set_cons_succ]
      refine GoL.takeD (some 66) (i := 15) (v := ?_) rfl rfl (by kernel_rfl) (by kernel_rfl) (by kernel_rfl) (by decide) (fun _ _ _ h => h) (Or.inl ⟨by rfl, ?_⟩) (by assumption) ?_
      rotate_left 1
      · intro w hSw
        (try dsimp only at hSw)
        go_simp
        try with_reducible rfl
      try simp only [Act.put, List.setIfInBounds_toArray, List.set_cons_zero, List.set_cons_succ]
      refine GoL.takeD (some 67) (i := 16) (v := ?_) rfl rfl (by kernel_rfl) (by kernel_rfl) (by kernel_rfl) (by decide) (fun _ _ _ h => h) (Or.inl ⟨by rfl, ?_⟩) (by assumption) ?_
      rotate_left 1
      · intro w hSw
        (try dsimp only at hSw)
        go_simp
        try with_reducible rfl
      try simp only [Act.put, List.setIfInBounds_toArray, List.set_cons_zero, List.set_cons_succ]
      refine GoL.takeD (some 68) (i := 17) (v := ?_) rfl rfl (by kernel_rfl) (by kernel_rfl) (by kernel_rfl) (by decide) (fun _ _ _ h => h) (Or.inl ⟨by rfl, ?_⟩) (by assumption) ?_
      rotate_left 1
      · intro w hSw
        (try dsimp only at hSw)
        go_simp
        try with_reducible rfl
      try simp only [Act.put, List.setIfInBounds_toArray, List.set_cons_zero, List.set_cons_succ]
      refine GoL.ready (rs := [1, 10]) (by kernel_rfl) (by simp) (by decide) ?_
      refine AllL.cons rfl (fun K hK => ?_) (AllL.cons rfl (fun K hK => ?_) AllL.nil)
      · go_simp
        refine hK.out _ _ qA (fun hHeld => ?_)
        clear hK K
        refine GoL.ready (rs := [8, 10]) (by kernel_rfl) (by simp) (by decide) ?_
        refine AllL.cons rfl (fun K hK => ?_) (AllL.cons rfl (fun K hK => ?_) AllL.nil)
        · refine step_append_T 59 rfl rfl (.tmp 52) (.tmp 58) 27 31 rfl j1 Try.underlying27 hj1 _ hv0 1 8 hv1 hv2 rfl (by omega) B (.slice (some ⟨wc.heap.size, 0, none⟩) 0 0) (.slice aoV i capV) 0 i (gc encU []) (gc encU (Vs.take i)) rfl rfl (HSA.out.at_ (.row 31 1 (.slice (some ⟨wc.heap.size, 0, none⟩) 0 0) 0 (gc encU [])) (List.Mem.head _)) (by have h9 := rd_front (m := i) (HRO.out wA HSA.out.tail) (by omega); rw [Nat.mul_one] at h9; have h8 := gc_take encU_len Vs i; rw [Nat.mul_one] at h8; rw [h8] at h9; exact h9) (HON.out _) (by omega) (by omega) (Nat.le_trans hB HB0A.out.size) i (by omega) ?_; intro ao3 cap3 w3 ho3 hg3 ha3; have HS3 : Hid (Sep w3 B (.row 31 1 (.slice ao3 i cap3) i (gc encU (Vs.take i)) :: (NM2 r (.slice aoN (n + 1) capN) (.slice aoV n capV) (Ks.take i ++ k :: Ks.drop i) Vs ++ X))) := Sep.turn [] (v := .slice (some ⟨wc.heap.size, 0, none⟩) 0 0) (n := 0) (xs := gc encU []) HSA.out ho3 hg3 (ha3.imp id (fun e => by intro y hy; rw [e] at hy; injection hy with hy; omega)); have HB3 : Hid (Below B w w3) := below_gr HB0A.out (Nat.le_trans hB HB0A.out.size) (HSA.out.at_ (.row 31 1 (.slice (some ⟨wc.heap.size, 0, none⟩) 0 0) 0 (gc encU [])) (List.Mem.head _)) hg3; obtain ⟨q3, f3⟩ := HQ0.out w3 HS3.out.tail; have hr3 : r < w3.heap.size := World.block_lt_of_cell? w3 _ q3; have hr4 : ¬ w3.heap.size = r := (by omega); have hr5 : ¬ r = w3.heap.size := (by omega); have MA : Hid True := trivial; clear ho3 hg3 ha3
          refine hK.out _ _ q3 (fun hHeld => ?_)
          clear hK K
          refine GoL.ready (rs := [10]) (by kernel_rfl) (by simp) (by decide) (AllL.cons rfl (fun K hK => ?_) AllL.nil)
          go_simp
          refine hK.out _ _ ((((Below.refl w3.heap.size w3).alloc (Nat.le_refl _) (.cells #[.int .u64 x] 31)).cell hr3).trans q3) (fun hHeld => ?_)
          clear hK K
          refine GoL.ready (rs := [11]) (by kernel_rfl) (by simp) (by decide) (AllL.cons rfl (fun K hK => ?_) AllL.nil)
          have hg := MA; clear hg; refine step_append_T 62 rfl rfl (.tmp 59) (.tmp 61) 27 31 rfl j1 Try.underlying27 hj1 _ hv0 1 8 hv1 hv2 rfl (by omega) B (.slice ao3 i cap3) (.slice (some ⟨w3.heap.size, 0, none⟩) 1 1) i 1 (gc encU (Vs.take i)) (encU x) rfl rfl ((HS3.out.below (((Below.refl w3.heap.size w3).alloc (Nat.le_refl _) (.cells #[.int .u64 x] 31)) : Below w3.heap.size w3 (w3.alloc (.cells #[.int .u64 x] 31)))).at_ (.row 31 1 (.slice ao3 i cap3) i (gc encU (Vs.take i))) (List.Mem.head _)) ⟨rfl, .inr ⟨_, 1, rfl, news_one (heap_alloc_new w3 _)⟩⟩ HON1.out (by omega) (by omega) (Nat.le_trans hB (HB3.out.trans ((((Below.refl w3.heap.size w3).alloc (Nat.le_refl _) (.cells #[.int .u64 x] 31)) : Below w3.heap.size w3 (w3.alloc (.cells #[.int .u64 x] 31))).mono (Nat.le_trans hB HB3.out.size))).size) (i + 1) rfl ?_; intro ao4 cap4 w4 ho4 hg4 ha4; have HS4 : Hid (Sep w4 B (.row 31 1 (.slice ao4 (i + 1) cap4) (i + 1) (gc encU (Vs.take i) ++ encU x) :: (NM2 r (.slice aoN (n + 1) capN) (.slice aoV n capV) (Ks.take i ++ k :: Ks.drop i) Vs ++ X))) := Sep.turn [] (v := .slice ao3 i cap3) (n := i) (xs := gc encU (Vs.take i)) (HS3.out.below (((Below.refl w3.heap.size w3).alloc (Nat.le_refl _) (.cells #[.int .u64 x] 31)) : Below w3.heap.size w3 (w3.alloc (.cells #[.int .u64 x] 31)))) ho4 hg4 (ha4.imp id (fun e => by intro y hy; rw [e] at hy; injection hy with hy; omega)); have HB4 : Hid (Below B w w4) := below_gr (HB3.out.trans ((((Below.refl w3.heap.size w3).alloc (Nat.le_refl _) (.cells #[.int .u64 x] 31)) : Below w3.heap.size w3 (w3.alloc (.cells #[.int .u64 x] 31))).mono (Nat.le_trans hB HB3.out.size))) (Nat.le_trans hB (HB3.out.trans ((((Below.refl w3.heap.size w3).alloc (Nat.le_refl _) (.cells #[.int .u64 x] 31)) : Below w3.heap.size w3 (w3.alloc (.cells #[.int .u64 x] 31))).mono (Nat.le_trans hB HB3.out.size))).size) ((HS3.out.below (((Below.refl w3.heap.size w3).alloc (Nat.le_refl _) (.cells #[.int .u64 x] 31)) : Below w3.heap.size w3 (w3.alloc (.cells #[.int .u64 x] 31)))).at_ (.row 31 1 (.slice ao3 i cap3) i (gc encU (Vs.take i))) (List.Mem.head _)) hg4; obtain ⟨q4, f4⟩ := HQ0.out w4 HS4.out.tail; clear ho4 hg4 ha4
          refine hK.out _ _ q4 (fun hHeld => ?_)
          clear hK K
          refine GoL.ready (rs := [18]) (by kernel_rfl) (by simp) (by decide) (AllL.cons rfl (fun K hK => ?_) AllL.nil)
          refine step_append_T 69 rfl rfl (.tmp 62) (.tmp 68) 27 31 rfl j1 Try.underlying27 hj1 _ hv0 1 8 hv1 hv2 rfl (by omega) B (.slice ao4 (i + 1) cap4) (.slice (pkA capV i aoV) (n - i) (capV - i)) (i + 1) (n - i) (gc encU (Vs.take i) ++ encU x) (gc encU (Vs.drop i)) rfl rfl (HS4.out.at_ (.row 31 1 (.slice ao4 (i + 1) cap4) (i + 1) (gc encU (Vs.take i) ++ encU x)) (List.Mem.head _)) (by have h9 := rd_back (m := i) (HRO.out w4 HS4.out.tail) (by omega) _ (pkA0 capV i aoV) (pkA1 (m := i) (by omega)) (pkA2 capV i aoV); rw [Nat.mul_one] at h9; have h8 := gc_drop encU_len Vs i; rw [Nat.mul_one] at h8; rw [h8] at h9; exact h9) (HON.out _) (by omega) (by omega) (Nat.le_trans hB HB4.out.size) (n + 1) (by omega) ?_; intro ao5 cap5 w5 ho5 hg5 ha5; have HS5 : Hid (Sep w5 B (.row 31 1 (.slice ao5 (n + 1) cap5) (n + 1) ((gc encU (Vs.take i) ++ encU x) ++ gc encU (Vs.drop i)) :: (NM2 r (.slice aoN (n + 1) capN) (.slice aoV n capV) (Ks.take i ++ k :: Ks.drop i) Vs ++ X))) := Sep.turn [] (v := .slice ao4 (i + 1) cap4) (n := i + 1) (xs := gc encU (Vs.take i) ++ encU x) HS4.out ho5 hg5 (ha5.imp id (fun e => by intro y hy; rw [e] at hy; injection hy with hy; omega)); have HB5 : Hid (Below B w w5) := below_gr HB4.out (Nat.le_trans hB HB4.out.size) (HS4.out.at_ (.row 31 1 (.slice ao4 (i + 1) cap4) (i + 1) (gc encU (Vs.take i) ++ encU x)) (List.Mem.head _)) hg5; obtain ⟨q5, f5⟩ := HQ0.out w5 HS5.out.tail; clear ho5 hg5 ha5
          refine hK.out _ _ q5 (fun hHeld => ?_)
          clear hK K
          refine GoL.takeD (some 70) (i := 19) (v := ?_) rfl rfl (by kernel_rfl) (by kernel_rfl) (by kernel_rfl) (by decide) (fun _ _ _ h => h) (Or.inl ⟨by rfl, ?_⟩) (by assumption) ?_
          rotate_left 1
          · intro w hSw
            (try dsimp only at hSw)
            go_simp
            try with_reducible rfl
          try simp only [Act.put, List.setIfInBounds_toArray, List.set_cons_zero, List.set_cons_succ]
          refine GoL.takeD (some 71) (i := 20) (v := ?_) rfl rfl (by kernel_rfl) (by kernel_rfl) (by kernel_rfl) (by decide) (fun _ _ _ h => h) (Or.inl ⟨by rfl, ?_⟩) (by assumption) ?_
          rotate_left 1
          · intro w hSw
            (try dsimp only at hSw)
            go_simp
            try with_reducible rfl
          try simp only [Act.put, List.setIfInBounds_toArray, List.set_cons_zero, List.set_cons_succ]
          refine GoL.last (by kernel_rfl) (by kernel_rfl) rfl (fun K hK => ?_)
          go_simp
          refine hK.out _ _ ?_
          all_goals go_wp2_with fail
          all_goals go_meet
          all_goals exact ⟨ao5, cap5, nm_v (n := n) (by rw [List.length_append, List.length_cons, List.length_take, List.length_drop, HVs.out]; omega) (by rw [gc_append, ← List.singleton_append, gc_append, gc_one, List.append_assoc]) HS5.out, nm_below HB5.out (obj_ge HS5.out)⟩
        · go_simp
          refine hK.out _ _ qB (fun hHeld => ?_)
          clear hK K
          refine GoL.ready (rs := [8]) (by kernel_rfl) (by simp) (by decide) (AllL.cons rfl (fun K hK => ?_) AllL.nil)
          refine step_append_T 59 rfl rfl (.tmp 52) (.tmp 58) 27 31 rfl j1 Try.underlying27 hj1 _ hv0 1 8 hv1 hv2 rfl (by omega) B (.slice (some ⟨wc.heap.size, 0, none⟩) 0 0) (.slice aoV i capV) 0 i (gc encU []) (gc encU (Vs.take i)) rfl rfl (HSB.out.at_ (.row 31 1 (.slice (some ⟨wc.heap.size, 0, none⟩) 0 0) 0 (gc encU [])) (List.Mem.head _)) (by have h9 := rd_front (m := i) (HRO.out wB HSB.out.tail) (by omega); rw [Nat.mul_one] at h9; have h8 := gc_take encU_len Vs i; rw [Nat.mul_one] at h8; rw [h8] at h9; exact h9) (HON.out _) (by omega) (by omega) (Nat.le_trans hB HB0B.out.size) i (by omega) ?_; intro ao3 cap3 w3 ho3 hg3 ha3; have HS3 : Hid (Sep w3 B (.row 31 1 (.slice ao3 i cap3) i (gc encU (Vs.take i)) :: (NM2 r (.slice aoN (n + 1) capN) (.slice aoV n capV) (Ks.take i ++ k :: Ks.drop i) Vs ++ X))) := Sep.turn [] (v := .slice (some ⟨wc.heap.size, 0, none⟩) 0 0) (n := 0) (xs := gc encU []) HSB.out ho3 hg3 (ha3.imp id (fun e => by intro y hy; rw [e] at hy; injection hy with hy; omega)); have HB3 : Hid (Below B w w3) := below_gr HB0B.out (Nat.le_trans hB HB0B.out.size) (HSB.out.at_ (.row 31 1 (.slice (some ⟨wc.heap.size, 0, none⟩) 0 0) 0 (gc encU [])) (List.Mem.head _)) hg3; obtain ⟨q3, f3⟩ := HQ0.out w3 HS3.out.tail; have hr3 : r < w3.heap.size := World.block_lt_of_cell? w3 _ q3; have hr4 : ¬ w3.heap.size = r := (by omega); have hr5 : ¬ r = w3.heap.size := (by omega); have HK3 : Hid (w3.heap[wA.heap.size]? = some (.cells #[.int .u64 x] 31 (0, 0))) := (hg3.block wA.heap.size (by have := HSZ.out; omega) (by simp [Value.ownBlock]; have := HSZ.out; omega)).trans HKB.out; have MB : Hid True := trivial; clear ho3 hg3 ha3
          refine hK.out _ _ q3 (fun hHeld => ?_)
          clear hK K
          refine GoL.ready (rs := [11]) (by kernel_rfl) (by simp) (by decide) (AllL.cons rfl (fun K hK => ?_) AllL.nil)
          have hg := MB; clear hg; refine step_append_T 62 rfl rfl (.tmp 59) (.tmp 61) 27 31 rfl j1 Try.underlying27 hj1 _ hv0 1 8 hv1 hv2 rfl (by omega) B (.slice ao3 i cap3) (.slice (some ⟨wA.heap.size, 0, none⟩) 1 1) i 1 (gc encU (Vs.take i)) (encU x) rfl rfl (HS3.out.at_ (.row 31 1 (.slice ao3 i cap3) i (gc encU (Vs.take i))) (List.Mem.head _)) ⟨rfl, .inr ⟨_, 1, rfl, news_one HK3.out⟩⟩ HON1.out (by omega) (by omega) (Nat.le_trans hB HB3.out.size) (i + 1) rfl ?_; intro ao4 cap4 w4 ho4 hg4 ha4; have HS4 : Hid (Sep w4 B (.row 31 1 (.slice ao4 (i + 1) cap4) (i + 1) (gc encU (Vs.take i) ++ encU x) :: (NM2 r (.slice aoN (n + 1) capN) (.slice aoV n capV) (Ks.take i ++ k :: Ks.drop i) Vs ++ X))) := Sep.turn [] (v := .slice ao3 i cap3) (n := i) (xs := gc encU (Vs.take i)) HS3.out ho4 hg4 (ha4.imp id (fun e => by intro y hy; rw [e] at hy; injection hy with hy; omega)); have HB4 : Hid (Below B w w4) := below_gr HB3.out (Nat.le_trans hB HB3.out.size) (HS3.out.at_ (.row 31 1 (.slice ao3 i cap3) i (gc encU (Vs.take i))) (List.Mem.head _)) hg4; obtain ⟨q4, f4⟩ := HQ0.out w4 HS4.out.tail; clear ho4 hg4 ha4
          refine hK.out _ _ q4 (fun hHeld => ?_)
          clear hK K
          refine GoL.ready (rs := [18]) (by kernel_rfl) (by simp) (by decide) (AllL.cons rfl (fun K hK => ?_) AllL.nil)
          refine step_append_T 69 rfl rfl (.tmp 62) (.tmp 68) 27 31 rfl j1 Try.underlying27 hj1 _ hv0 1 8 hv1 hv2 rfl (by omega) B (.slice ao4 (i + 1) cap4) (.slice (pkA capV i aoV) (n - i) (capV - i)) (i + 1) (n - i) (gc encU (Vs.take i) ++ encU x) (gc encU (Vs.drop i)) rfl rfl (HS4.out.at_ (.row 31 1 (.slice ao4 (i + 1) cap4) (i + 1) (gc encU (Vs.take i) ++ encU x)) (List.Mem.head _)) (by have h9 := rd_back (m := i) (HRO.out w4 HS4.out.tail) (by omega) _ (pkA0 capV i aoV) (pkA1 (m := i) (by omega)) (pkA2 capV i aoV); rw [Nat.mul_one] at h9; have h8 := gc_drop encU_len Vs i; rw [Nat.mul_one] at h8; rw [h8] at h9; exact h9) (HON.out _) (by omega) (by omega) (Nat.le_trans hB HB4.out.size) (n + 1) (by omega) ?_; intro ao5 cap5 w5 ho5 hg5 ha5; have HS5 : Hid (Sep w5 B (.row 31 1 (.slice ao5 (n + 1) cap5) (n + 1) ((gc encU (Vs.take i) ++ encU x) ++ gc encU (Vs.drop i)) :: (NM2 r (.slice aoN (n + 1) capN) (.slice aoV n capV) (Ks.take i ++ k :: Ks.drop i) Vs ++ X))) := Sep.turn [] (v := .slice ao4 (i + 1) cap4) (n := i + 1) (xs := gc encU (Vs.take i) ++ encU x) HS4.out ho5 hg5 (ha5.imp id (fun e => by intro y hy; rw [e] at hy; injection hy with hy; omega)); have HB5 : Hid (Below B w w5) := below_gr HB4.out (Nat.le_trans hB HB4.out.size) (HS4.out.at_ (.row 31 1 (.slice ao4 (i + 1) cap4) (i + 1) (gc encU (Vs.take i) ++ encU x)) (List.Mem.head _)) hg5; obtain ⟨q5, f5⟩ := HQ0.out w5 HS5.out.tail; clear ho5 hg5 ha5
          refine hK.out _ _ q5 (fun hHeld => ?_)
          clear hK K
          refine GoL.takeD (some 70) (i := 19) (v := ?_) rfl rfl (by kernel_rfl) (by kernel_rfl) (by kernel_rfl) (by decide) (fun _ _ _ h => h) (Or.inl ⟨by rfl, ?_⟩) (by assumption) ?_
          rotate_left 1
          · intro w hSw
            (try dsimp only at hSw)
            go_simp
            try with_reducible rfl
          try simp only [Act.put, List.setIfInBounds_toArray, List.set_cons_zero, List.set_cons_succ]
          refine GoL.takeD (some 71) (i := 20) (v := ?_) rfl rfl (by kernel_rfl) (by kernel_rfl) (by kernel_rfl) (by decide) (fun _ _ _ h => h) (Or.inl ⟨by rfl, ?_⟩) (by assumption) ?_
          rotate_left 1
          · intro w hSw
            (try dsimp only at hSw)
            go_simp
            try with_reducible rfl
          try simp only [Act.put, List.setIfInBounds_toArray, List.set_cons_zero, List.set_cons_succ]
          refine GoL.last (by kernel_rfl) (by kernel_rfl) rfl (fun K hK => ?_)
          go_simp
          refine hK.out _ _ ?_
          all_goals go_wp2_with fail
          all_goals go_meet
          all_goals exact ⟨ao5, cap5, nm_v (n := n) (by rw [List.length_append, List.length_cons, List.length_take, List.length_drop, HVs.out]; omega) (by rw [gc_append, ← List.singleton_append, gc_append, gc_one, List.append_assoc]) HS5.out, nm_below HB5.out (obj_ge HS5.out)⟩
      · go_simp
        refine hK.out _ _ qK (fun hHeld => ?_)
        clear hK K
        refine GoL.ready (rs := [1]) (by kernel_rfl) (by simp) (by decide) (AllL.cons rfl (fun K hK => ?_) AllL.nil)
        go_simp
        refine hK.out _ _ qC (fun hHeld => ?_)
        clear hK K
        refine GoL.ready (rs := [8]) (by kernel_rfl) (by simp) (by decide) (AllL.cons rfl (fun K hK => ?_) AllL.nil)
        refine step_append_T 59 rfl rfl (.tmp 52) (.tmp 58) 27 31 rfl j1 Try.underlying27 hj1 _ hv0 1 8 hv1 hv2 rfl (by omega) B (.slice (some ⟨wK.heap.size, 0, none⟩) 0 0) (.slice aoV i capV) 0 i (gc encU []) (gc encU (Vs.take i)) rfl rfl (HSC.out.at_ (.row 31 1 (.slice (some ⟨wK.heap.size, 0, none⟩) 0 0) 0 (gc encU [])) (List.Mem.head _)) (by have h9 := rd_front (m := i) (HRO.out wC HSC.out.tail) (by omega); rw [Nat.mul_one] at h9; have h8 := gc_take encU_len Vs i; rw [Nat.mul_one] at h8; rw [h8] at h9; exact h9) (HON.out _) (by omega) (by omega) (Nat.le_trans hB HB0C.out.size) i (by omega) ?_; intro ao3 cap3 w3 ho3 hg3 ha3; have HS3 : Hid (Sep w3 B (.row 31 1 (.slice ao3 i cap3) i (gc encU (Vs.take i)) :: (NM2 r (.slice aoN (n + 1) capN) (.slice aoV n capV) (Ks.take i ++ k :: Ks.drop i) Vs ++ X))) := Sep.turn [] (v := .slice (some ⟨wK.heap.size, 0, none⟩) 0 0) (n := 0) (xs := gc encU []) HSC.out ho3 hg3 (ha3.imp id (fun e => by intro y hy; rw [e] at hy; injection hy with hy; omega)); have HB3 : Hid (Below B w w3) := below_gr HB0C.out (Nat.le_trans hB HB0C.out.size) (HSC.out.at_ (.row 31 1 (.slice (some ⟨wK.heap.size, 0, none⟩) 0 0) 0 (gc encU [])) (List.Mem.head _)) hg3; obtain ⟨q3, f3⟩ := HQ0.out w3 HS3.out.tail; have hr3 : r < w3.heap.size := World.block_lt_of_cell? w3 _ q3; have hr4 : ¬ w3.heap.size = r := (by omega); have hr5 : ¬ r = w3.heap.size := (by omega); have HK3 : Hid (w3.heap[wc.heap.size]? = some (.cells #[.int .u64 x] 31 (0, 0))) := (hg3.block wc.heap.size (by have := HSZ.out; omega) (by simp [Value.ownBlock]; have := HSZ.out; omega)).trans HKC.out; have MC : Hid True := trivial; clear ho3 hg3 ha3
        refine hK.out _ _ q3 (fun hHeld => ?_)
        clear hK K
        refine GoL.ready (rs := [11]) (by kernel_rfl) (by simp) (by decide) (AllL.cons rfl (fun K hK => ?_) AllL.nil)
        have hg := MC; clear hg; refine step_append_T 62 rfl rfl (.tmp 59) (.tmp 61) 27 31 rfl j1 Try.underlying27 hj1 _ hv0 1 8 hv1 hv2 rfl (by omega) B (.slice ao3 i cap3) (.slice (some ⟨wc.heap.size, 0, none⟩) 1 1) i 1 (gc encU (Vs.take i)) (encU x) rfl rfl (HS3.out.at_ (.row 31 1 (.slice ao3 i cap3) i (gc encU (Vs.take i))) (List.Mem.head _)) ⟨rfl, .inr ⟨_, 1, rfl, news_one HK3.out⟩⟩ HON1.out (by omega) (by omega) (Nat.le_trans hB HB3.out.size) (i + 1) rfl ?_; intro ao4 cap4 w4 ho4 hg4 ha4; have HS4 : Hid (Sep w4 B (.row 31 1 (.slice ao4 (i + 1) cap4) (i + 1) (gc encU (Vs.take i) ++ encU x) :: (NM2 r (.slice aoN (n + 1) capN) (.slice aoV n capV) (Ks.take i ++ k :: Ks.drop i) Vs ++ X))) := Sep.turn [] (v := .slice ao3 i cap3) (n := i) (xs := gc encU (Vs.take i)) HS3.out ho4 hg4 (ha4.imp id (fun e => by intro y hy; rw [e] at hy; injection hy with hy; omega)); have HB4 : Hid (Below B w w4) := below_gr HB3.out (Nat.le_trans hB HB3.out.size) (HS3.out.at_ (.row 31 1 (.slice ao3 i cap3) i (gc encU (Vs.take i))) (List.Mem.head _)) hg4; obtain ⟨q4, f4⟩ := HQ0.out w4 HS4.out.tail; clear ho4 hg4 ha4
        refine hK.out _ _ q4 (fun hHeld => ?_)
        clear hK K
        refine GoL.ready (rs := [18]) (by kernel_rfl) (by simp) (by decide) (AllL.cons rfl (fun K hK => ?_) AllL.nil)
        refine step_append_T 69 rfl rfl (.tmp 62) (.tmp 68) 27 31 rfl j1 Try.underlying27 hj1 _ hv0 1 8 hv1 hv2 rfl (by omega) B (.slice ao4 (i + 1) cap4) (.slice (pkA capV i aoV) (n - i) (capV - i)) (i + 1) (n - i) (gc encU (Vs.take i) ++ encU x) (gc encU (Vs.drop i)) rfl rfl (HS4.out.at_ (.row 31 1 (.slice ao4 (i + 1) cap4) (i + 1) (gc encU (Vs.take i) ++ encU x)) (List.Mem.head _)) (by have h9 := rd_back (m := i) (HRO.out w4 HS4.out.tail) (by omega) _ (pkA0 capV i aoV) (pkA1 (m := i) (by omega)) (pkA2 capV i aoV); rw [Nat.mul_one] at h9; have h8 := gc_drop encU_len Vs i; rw [Nat.mul_one] at h8; rw [h8] at h9; exact h9) (HON.out _) (by omega) (by omega) (Nat.le_trans hB HB4.out.size) (n + 1) (by omega) ?_; intro ao5 cap5 w5 ho5 hg5 ha5; have HS5 : Hid (Sep w5 B (.row 31 1 (.slice ao5 (n + 1) cap5) (n + 1) ((gc encU (Vs.take i) ++ encU x) ++ gc encU (Vs.drop i)) :: (NM2 r (.slice aoN (n + 1) capN) (.slice aoV n capV) (Ks.take i ++ k :: Ks.drop i) Vs ++ X))) := Sep.turn [] (v := .slice ao4 (i + 1) cap4) (n := i + 1) (xs := gc encU (Vs.take i) ++ encU x) HS4.out ho5 hg5 (ha5.imp id (fun e => by intro y hy; rw [e] at hy; injection hy with hy; omega)); have HB5 : Hid (Below B w w5) := below_gr HB4.out (Nat.le_trans hB HB4.out.size) (HS4.out.at_ (.row 31 1 (.slice ao4 (i + 1) cap4) (i + 1) (gc encU (Vs.take i) ++ encU x)) (List.Mem.head _)) hg5; obtain ⟨q5, f5⟩ := HQ0.out w5 HS5.out.tail; clear ho5 hg5 ha5
        refine hK.out _ _ q5 (fun hHeld => ?_)
        clear hK K
        refine GoL.takeD (some 70) (i := 19) (v := ?_) rfl rfl (by kernel_rfl) (by kernel_rfl) (by kernel_rfl) (by decide) (fun _ _ _ h => h) (Or.inl ⟨by rfl, ?_⟩) (by assumption) ?_
        rotate_left 1
        · intro w hSw
          (try dsimp only at hSw)
          go_simp
          try with_reducible rfl
        try simp only [Act.put, List.setIfInBounds_toArray, List.set_cons_zero, List.set_cons_succ]
        refine GoL.takeD (some 71) (i := 20) (v := ?_) rfl rfl (by kernel_rfl) (by kernel_rfl) (by kernel_rfl) (by decide) (fun _ _ _ h => h) (Or.inl ⟨by rfl, ?_⟩) (by assumption) ?_
        rotate_left 1
        · intro w hSw
          (try dsimp only at hSw)
          go_simp
          try with_reducible rfl
        try simp only [Act.put, List.setIfInBounds_toArray, List.set_cons_zero, List.set_cons_succ]
        refine GoL.last (by kernel_rfl) (by kernel_rfl) rfl (fun K hK => ?_)
        go_simp
        refine hK.out _ _ ?_
        all_goals go_wp2_with fail
        all_goals go_meet
        all_goals exact ⟨ao5, cap5, nm_v (n := n) (by rw [List.length_append, List.length_cons, List.length_take, List.length_drop, HVs.out]; omega) (by rw [gc_append, ← List.singleton_append, gc_append, gc_one, List.append_assoc]) HS5.out, nm_below HB5.out (obj_ge HS5.out)⟩
    case rest =>
      obtain ⟨aoM, capM, HS8, HB8⟩ := hcut
      go_wp2_with fail
      go_ret2
      exact ⟨rfl, ⟨_, _, HS8.out⟩, HB8.out⟩
end Go.Proofs.Ytelfjgnmbikofaa
