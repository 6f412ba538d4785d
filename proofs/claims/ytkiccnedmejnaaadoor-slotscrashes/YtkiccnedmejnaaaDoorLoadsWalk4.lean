/-
  A root's bytes lead back to its numbers.
  The law's lives and plain. Conditions: the two listed variables stand.
  The walk of the law SlotsBytes. Conditions: the two listed variables stand as the program's text lays them.
  The walk of the law SlotsLoads. Conditions: the two listed variables stand as the program's text lays them.
-/
import Derived.Test.YtkiccnedmejnaaaDoorPutWalk4
import Derived.Test.YtkiccnedmejnaaaDoorCutMath
import Derived.Test.YtkiccnedmejnaaaDoorReadsWalk
import Derived.Deep.RegionHeld
namespace Go.Proofs.YtkiccnedmejnaaaDoor
open Go.RowKit
set_option linter.unusedVariables false
set_option maxRecDepth 100000

theorem mid_part (A U R : List Int) (n m : Nat) (hn : A.length = n) (hm : U.length = m) : ((A ++ (U ++ R)).drop n).take m = U := by
  subst hn hm
  rw [List.drop_left, List.take_left]
theorem ldG_root {g a z : Int} (h0 : 0 ≤ g) (h1 : g < 18446744073709551616) : ldG (rootB g a z) = g := by
  unfold ldG
  have e : rootB g a z = [83, 76, 65, 66] ++ (digs g 8 ++ (digs 0 4 ++ (digs a 4 ++ (digs z 4 ++ (digs 0 4 ++ digs (crcN (rootL g a z)) 4))))) := by unfold rootB sealN rootL; simp only [List.append_assoc]
  rw [e, mid_part _ _ _ 4 8 rfl (digs_length _ _)]
  exact val_back (m := 8) false h0 (by show g < (18446744073709551616 : Int); exact h1)
theorem ldA_root {g a z : Int} (h0 : 0 ≤ a) (h1 : a ≤ 4194304) : ldA (rootB g a z) = a := by
  unfold ldA
  have e : rootB g a z = ([83, 76, 65, 66] ++ digs g 8 ++ digs 0 4) ++ (digs a 4 ++ (digs z 4 ++ (digs 0 4 ++ digs (crcN (rootL g a z)) 4))) := by unfold rootB sealN rootL; simp only [List.append_assoc]
  rw [e, mid_part _ _ _ 16 4 (by simp [digs_length]) (digs_length _ _)]
  exact val_back (m := 4) false h0 (by show a < (4294967296 : Int); omega)
theorem ldZ_root {g a z : Int} (h0 : 0 ≤ z) (h1 : z ≤ 4194304) : ldZ (rootB g a z) = z := by
  unfold ldZ
  have e : rootB g a z = ([83, 76, 65, 66] ++ digs g 8 ++ digs 0 4 ++ digs a 4) ++ (digs z 4 ++ (digs 0 4 ++ digs (crcN (rootL g a z)) 4)) := by unfold rootB sealN rootL; simp only [List.append_assoc]
  rw [e, mid_part _ _ _ 20 4 (by simp [digs_length]) (digs_length _ _)]
  exact val_back (m := 4) false h0 (by show z < (4294967296 : Int); omega)
theorem isRt_root {g a z : Int} (h0 : 0 ≤ g) (h1 : g < 18446744073709551616) (ha0 : 0 ≤ a) (ha1 : a ≤ 4194304) (hz0 : 0 ≤ z) (hz1 : z ≤ 4194304) : isRt (rootB g a z) = true := by
  unfold isRt
  rw [ldG_root h0 h1, ldA_root ha0 ha1, ldZ_root hz0 hz1, inF_true ha0 ha1, inF_true hz0 hz1, List.take_of_length_le (by rw [rootB_length]; omega)]
  simp
theorem root_take (g a z : Int) : (rootB g a z).take 32 = rootB g a z := List.take_of_length_le (by rw [rootB_length]; omega)
theorem ownR_root {g a z k : Int} (h0 : 0 ≤ g) (h1 : g < 18446744073709551616) (ha0 : 0 ≤ a) (ha1 : a ≤ 4194304) (hz0 : 0 ≤ z) (hz1 : z ≤ 4194304) (hk : g % 2 = k) : ownR k (rootB g a z) = some (g, a, z) := by
  unfold ownR
  rw [root_take, if_pos ⟨by rw [rootB_length]; omega, isRt_root h0 h1 ha0 ha1 hz0 hz1, by rw [ldG_root h0 h1]; exact hk⟩, ldG_root h0 h1, ldA_root ha0 ha1, ldZ_root hz0 hz1]
/-- A slot of bytes that do not begin as a root's is none. -/
theorem ownR_other {x : List Int} (k : Int) (h : x.getD 0 0 ≠ 83) : ownR k x = none := by
  unfold ownR
  refine if_neg (fun hc => ?_)
  obtain ⟨h1, h2, h3⟩ := hc
  unfold isRt at h2
  simp only [Bool.and_eq_true, beq_iff_eq] at h2
  have e := h2.2
  rw [List.take_take, Nat.min_self] at e
  have e0 := congrArg (fun l => l.getD 0 0) e
  simp only [rootB, sealN, rootL, List.getD, List.cons_append, List.nil_append, List.append_assoc, List.getElem?_cons_zero, Option.getD_some] at e0
  rw [List.getElem?_take_of_lt (by omega)] at e0
  exact h e0.symm
def bestR (bs : List Int) : Option Rt := bestO (slotR bs 0) (slotR bs 1)
end Go.Proofs.YtkiccnedmejnaaaDoor

namespace Go.Proofs.YtkiccnedmejnaaaDoor
open Go.RowKit
set_option linter.unusedVariables false
set_option maxRecDepth 100000

theorem best_on {w : World} {B p : Nat} {F : Mdl} {vb vr : Value} {rv : List RawV} (h : PF w B p F vb vr rv) (ho : F.off = false) (hS : Sl w) (hby : Byt F.bs) :
    Calls Tryd.prog 16 #[.pointer (some ⟨p, 0, none⟩)] w fun e w' => e = .returned (.tuple #[rtZ (bestR F.bs), .bool (bestR F.bs).isSome, .int .i64 0]) ∧ Below w.heap.size w w' :=
  best_go _ (slotR F.bs 0) (slotR F.bs 1) w hS.nor (fun r hr => (ownR_some (slotX_byt hby 0) hr).2.1.1) (fun r hr => (ownR_some (slotX_byt hby 1) hr).2.1.1) (fun w1 hb1 => standing_on (h.below hb1) ho (hS.below hb1) hby)

theorem plain4_any (g a z : Int) (w : World) :
    Calls Tryd.prog 11 #[.agg #[.int .u64 g, .int .i64 a, .int .i64 z]] w fun e w' => e = .returned (.agg #[.int .u64 g, .int .i64 a, .int .i64 z]) ∧ Below w.heap.size w w' := by
  obtain ⟨W, HW⟩ : ∃ W, Hid (W = (w.alloc (.cells #[.int .u64 g, .int .i64 a, .int .i64 z] 24)).alloc (.cells #[.int .u64 0, .int .i64 0, .int .i64 0] 31)) := ⟨_, rfl⟩
  have HB : Hid (Below w.heap.size w W) := by rw [Hid, HW.out]; exact ((Below.refl _ w).alloc (Nat.le_refl _) _).alloc (by simp) _
  have q0 : W.heap[w.heap.size]? = some (.cells #[.int .u64 g, .int .i64 a, .int .i64 z] 24 (0, 0)) := by
    rw [HW.out, Below.heap_alloc _ _ _ (by simp)]; exact heap_alloc_new w _
  have q1 : W.heap[w.heap.size + 1]? = some (.cells #[.int .u64 0, .int .i64 0, .int .i64 0] 31 (0, 0)) := by
    rw [HW.out]
    have := heap_alloc_new (w.alloc (.cells #[.int .u64 g, .int .i64 a, .int .i64 z] 24)) (.cells #[.int .u64 0, .int .i64 0, .int .i64 0] 31)
    simpa using this
  obtain ⟨a0, a1, a2, _, _, _⟩ := three_cells q0
  obtain ⟨d0, d1, d2, f0, f1, f2⟩ := three_cells q1
  have HQ : Hid _ := q1
  clear q0 q1
  go_enter Tryd.func11, Tryd.ntmps11
  go_upto_region 1 with fail
  rw [← HW.out]
  go_wp2
  refine bodyPost_ret (v := .agg #[.int .u64 g, .int .i64 a, .int .i64 z]) ?_ rfl ?_
  · have d0 := three_set HQ.out (.int .u64 g) (.int .i64 a) (.int .i64 z) 0
    have d1 := three_set HQ.out (.int .u64 g) (.int .i64 a) (.int .i64 z) 1
    have d2 := three_set HQ.out (.int .u64 g) (.int .i64 a) (.int .i64 z) 2
    simp at d0 d1 d2
    simp [results, Tryd.f11, go_sem, d0, d1, d2]
  · exact ⟨rfl, ((HB.out.setCell (by simp) _).setCell (by simp) _).setCell (by simp) _⟩

theorem byt_zeros (n : Nat) : Byt (List.replicate n 0) := fun i => by
  rw [List.getD, List.getElem?_replicate]
  split <;> simp
theorem putX_byt (F : Mdl) (g a z : Int) : Byt (putX F g a z) := byt_append (byt_zeros _) (rootB_byt g a z)

/-- What lives puts. -/
theorem lives4_put : ∃ F', wrM (newM [] 100) (putAt (newM [] 100) 1 : Nat) (putX (newM [] 100) 1 64 9) = (0, F') ∧ F'.bs = List.replicate 32 0 ++ rootB 1 64 9 ∧ F'.off = false := by
  have hx : putX (newM [] 100) 1 64 9 = List.replicate 32 0 ++ rootB 1 64 9 := rfl
  have ha : putAt (newM [] 100) 1 = 0 := rfl
  rw [hx, ha]
  have hl : (List.replicate 32 0 ++ rootB 1 64 9).length = 64 := by rw [List.length_append, List.length_replicate, rootB_length]
  obtain ⟨F', h1, h2, _, h4, _⟩ := wrM_plain (F := newM [] 100) (q := 0) (x := List.replicate 32 0 ++ rootB 1 64 9) rfl rfl (Nat.zero_le _) (by rw [hl]; show (64 : Int) ≤ 100 - 0; omega)
  refine ⟨F', h1, ?_, h4⟩
  rw [h2]
  simp [layN, newM]
theorem lives4_best : bestR (List.replicate 32 0 ++ rootB 1 64 9) = some (1, 64, 9) := by
  have h0 : slotR (List.replicate 32 0 ++ rootB 1 64 9) 0 = none := by
    unfold slotR slotX
    rw [if_pos (by rw [List.length_append, List.length_replicate, rootB_length]; omega)]
    refine ownR_other _ ?_
    simp
  have h1 : slotR (List.replicate 32 0 ++ rootB 1 64 9) 1 = some (1, 64, 9) := by
    unfold slotR slotX
    rw [if_pos (by rw [List.length_append, List.length_replicate, rootB_length]; omega), show (List.replicate 32 (0 : Int) ++ rootB 1 64 9).drop (32 * 1) = rootB 1 64 9 from List.drop_left' (by simp), root_take]
    exact ownR_root (by omega) (by omega) (by omega) (by omega) (by omega) (by omega) (by rfl)
  unfold bestR
  rw [h0, h1]
  rfl

set_option maxHeartbeats 2000000 in
theorem lives4_any (w : World) (hS : Sl w) : Calls Tryd.prog 12 #[] w fun e w' => e = .returned (.bool true) ∧ Below w.heap.size w w' := by
  have HS : Hid (Sl w) := hS
  clear hS
  go_enter Tryd.func12, Tryd.ntmps12
  go_wp2_with fail
  refine (new_some 100 w (by omega) (by omega)).mono ?_
  rintro e w1 ⟨p, vb, rfl, hp1, hb1⟩
  have HP1 : Hid (PF w1 w.heap.size p (newM [] 100) vb (.slice none 0 0) []) := hp1
  have HB1 : Hid (Below w.heap.size w w1) := hb1
  clear hp1 hb1
  obtain ⟨F', hw, hbs, hoff⟩ := lives4_put
  have HPU : Hid _ := rput_any HP1.out HB1.out.size 1 64 9 (HS.out.below HB1.out).tab (by omega) (by omega) rfl rfl (by simp)
  rw [hw] at HPU
  have HBS : Hid (F'.bs = List.replicate 32 0 ++ rootB 1 64 9) := hbs
  have HOF : Hid (F'.off = false) := hoff
  have HLN : Hid (F'.bs.length = 64) := by unfold Hid; rw [hbs, List.length_append, List.length_replicate, rootB_length]
  clear hw hbs hoff
  go_wp2_with fail
  refine Calls.mono HPU.out ?_
  rintro e w2 ⟨vb2, vr2, rv2, rfl, hp2, hm2⟩
  have HP2 : Hid (PF w2 w.heap.size p F' vb2 vr2 rv2) := hp2
  have HB2 : Hid (Below w.heap.size w w2) := HB1.out.trans (hm2.below HP1.out HB1.out.size)
  clear hp2 hm2 HPU
  have HLE : Hid _ := len_any HP2.out
  rw [HLN.out] at HLE
  go_wp2_with fail
  refine Calls.mono HLE.out ?_
  rintro e w3 ⟨rfl, hw3⟩
  obtain rfl := hw3.symm
  have HBE : Hid _ := best_on HP2.out HOF.out (HS.out.below HB2.out) (by rw [HBS.out]; exact byt_append (byt_zeros _) (rootB_byt _ _ _))
  rw [HBS.out, lives4_best, show rtZ (some ((1 : Int), (64 : Int), (9 : Int))) = .agg #[.int .u64 1, .int .i64 64, .int .i64 9] from rfl, show (some ((1 : Int), (64 : Int), (9 : Int))).isSome = true from rfl] at HBE
  clear HLE
  go_wp2_with fail
  refine Calls.mono HBE.out ?_
  rintro e w4 ⟨rfl, hb4⟩
  have HB4 : Hid (Below w.heap.size w w4) := HB2.out.trans (hb4.mono HB2.out.size)
  clear hb4 HBE
  go_wp2_with fail
  go_ret
  exact ⟨rfl, HB4.out.alloc HB4.out.size _⟩
end Go.Proofs.YtkiccnedmejnaaaDoor

namespace Go.Proofs.YtkiccnedmejnaaaDoor
open Go.RowKit
set_option linter.unusedVariables false
set_option maxRecDepth 100000

theorem inF_bounds {a : Int} (h : inF a = true) : 0 ≤ a ∧ a ≤ 4194304 := by
  rcases inF_cases a with ⟨_, h0, h1⟩ | ⟨h1, _⟩
  · exact ⟨h0, h1⟩
  · rw [h] at h1; cases h1

set_option maxHeartbeats 4000000 in
theorem slotsBytes_walk (x : Rt) (W : World) (hS : Sl W) (hx : RtW x) :
    Calls Tryd.prog 3 #[rtV x] W fun e W' => e = .returned (.bool true) ∧ Below W.heap.size W W' := by
  obtain ⟨g, a, z⟩ := x
  obtain ⟨⟨g0, g1⟩, ⟨a0, a1⟩, z0, z1⟩ := hx
  dsimp only at g0 g1 a0 a1 z0 z1
  unfold rtV
  dsimp only
  have HS : Hid (Sl W) := hS
  obtain ⟨W1, HW1⟩ : ∃ W1, Hid (W1 = W.alloc (.cells #[.int .u64 g, .int .i64 a, .int .i64 z] 24)) := ⟨_, rfl⟩
  have HB1 : Hid (Below W.heap.size W W1) := by rw [Hid, HW1.out]; exact (Below.refl _ W).alloc (Nat.le_refl _) _
  have HC1 : Hid (W1.heap[W.heap.size]? = some (.cells #[.int .u64 g, .int .i64 a, .int .i64 z] 24 (0, 0))) := by rw [Hid, HW1.out]; exact heap_alloc_new W _
  have HCC : Hid (∀ w', Below W1.heap.size W1 w' → w'.cell? ⟨W.heap.size, 0, none⟩ = some (.int .u64 g) ∧ w'.cell? ⟨W.heap.size, 1, none⟩ = some (.int .i64 a) ∧ w'.cell? ⟨W.heap.size, 2, none⟩ = some (.int .i64 z)) := fun w' hb => by
    have := (hb.block _ (Array.getElem?_eq_some_iff.1 HC1.out).1).trans HC1.out
    obtain ⟨c0, c1, c2, _⟩ := three_cells this
    exact ⟨c0, c1, c2⟩
  have HBW : Hid (∀ w', Below W1.heap.size W1 w' → Below W.heap.size W w') := fun w' hb => HB1.out.trans (hb.mono HB1.out.size)
  clear hS
  go_enter Tryd.func3, Tryd.ntmps3
  go_upto_region 1 with fail
  rw [← HW1.out]
  obtain ⟨c0, c1, c2⟩ := HCC.out _ (Below.refl _ _)
  by_cases hin : inF a = false ∨ inF z = false
  · go_wp2_with fail
    refine (rBytes_no g a z W1 hin).mono ?_
    rintro e w2 ⟨rfl, hb2⟩
    have HB2 : Hid (Below W1.heap.size W1 w2) := hb2
    clear hb2 c0 c1 c2
    obtain ⟨c0, c1, c2⟩ := HCC.out _ HB2.out
    go_wp2_with fail
    refine (rBytes_no g a z w2 hin).mono ?_
    rintro e w3 ⟨rfl, hb3⟩
    have HB3 : Hid (Below W1.heap.size W1 w3) := HB2.out.trans (hb3.mono HB2.out.size)
    clear hb3 c0 c1 c2
    obtain ⟨c0, c1, c2⟩ := HCC.out _ HB3.out
    go_wp2_with fail
    refine (plain4_any g a z w3).mono ?_
    rintro e w4 ⟨rfl, hb4⟩
    have HB4 : Hid (Below W1.heap.size W1 w4) := HB3.out.trans (hb4.mono HB3.out.size)
    clear hb4 c0 c1 c2
    go_wp2_with fail
    refine (refRBytes_no g a z w4 hin).mono ?_
    rintro e w5 ⟨rfl, hb5⟩
    have HB5 : Hid (Below W1.heap.size W1 w5) := HB4.out.trans (hb5.mono HB4.out.size)
    clear hb5
    have s1 := str_of (Bs.nil w5)
    go_wp2_with fail
    refine wp_loop_rounds 1 ?_
    rw [rounds_succ]
    go_wp2_with fail
    refine (lives4_any w5 (HS.out.below (HBW.out _ HB5.out))).mono ?_
    rintro e w6 ⟨rfl, hb6⟩
    go_wp2_with fail
    go_ret
    exact ⟨rfl, (HBW.out _ HB5.out).trans (hb6.mono (HBW.out _ HB5.out).size)⟩
  · have hA : inF a = true := by cases h1 : inF a <;> simp_all
    have hZ : inF z = true := by cases h1 : inF z <;> simp_all
    obtain ⟨ha0, ha1⟩ := inF_bounds hA
    obtain ⟨hz0, hz1⟩ := inF_bounds hZ
    have HRL : Hid ((rootB g a z).length = 32) := rootB_length g a z
    go_wp2_with fail
    refine (rBytes_ok g a z W1 (HS.out.below HB1.out).tab g0 g1 hA hZ ha0 ha1 hz0 hz1).mono ?_
    rintro e w2 ⟨b2, rfl, hr2, hl2, hb2⟩
    have HB2 : Hid (Below W1.heap.size W1 w2) := hb2
    have HR2 : Hid (Row w2 b2 (rootB g a z)) := hr2
    have HL2 : Hid (W1.heap.size ≤ b2) := hl2
    clear hb2 hr2 hl2 c0 c1 c2
    obtain ⟨c0, c1, c2⟩ := HCC.out _ HB2.out
    go_wp2_with fail
    refine (rBytes_ok g a z w2 (HS.out.below (HBW.out _ HB2.out)).tab g0 g1 hA hZ ha0 ha1 hz0 hz1).mono ?_
    rintro e w3 ⟨b3, rfl, hr3, hl3, hb3⟩
    have HB3 : Hid (Below W1.heap.size W1 w3) := HB2.out.trans (hb3.mono HB2.out.size)
    have HR3 : Hid (Row w3 b3 (rootB g a z)) := hr3
    have HN3 : Hid (b3 ≠ b2) := fun e => by have := HR2.out.lt; omega
    have HR23 : Hid (Row w3 b2 (rootB g a z)) := HR2.out.below hb3 HR2.out.lt
    clear hb3 hr3 hl3 c0 c1 c2
    obtain ⟨c0, c1, c2⟩ := HCC.out _ HB3.out
    go_wp2_with fail
    refine (plain4_any g a z w3).mono ?_
    rintro e w4 ⟨rfl, hb4⟩
    have HB34 : Hid (Below w3.heap.size w3 w4) := hb4
    have HB4 : Hid (Below W1.heap.size W1 w4) := HB3.out.trans (hb4.mono HB3.out.size)
    clear hb4 c0 c1 c2
    go_wp2_with fail
    refine (refRBytes_ok g a z w4 g0 g1 ha0 ha1 hz0 hz1).mono ?_
    rintro e w5 ⟨a5, cap5, rfl, ho5, hb5⟩
    have HB5 : Hid (Below W1.heap.size W1 w5) := HB4.out.trans (hb5.mono HB4.out.size)
    have HB35 : Hid (Below w3.heap.size w3 w5) := HB34.out.trans (hb5.mono HB34.out.size)
    have HO5 : Hid (Own w5 w4.heap.size (.slice a5 32 cap5) (rootB g a z)) := ho5
    have HN5 : Hid (∀ k, (Value.slice a5 32 cap5).ownBlock = some k → ¬ k = b2) := fun k hk e => by
      have h1 := (World.ownsRow.lt ho5 k hk).1
      have h2 := HR23.out.lt
      have h3 := HB34.out.size
      omega
    have HR25 : Hid (Row w5 b2 (rootB g a z)) := HR23.out.below HB35.out HR23.out.lt
    have HR35 : Hid (Row w5 b3 (rootB g a z)) := HR3.out.below HB35.out HR3.out.lt
    have s1 := str_of (row_bs HR25.out HRL.out)
    have s2 := str_of ho5.bs
    clear hb5 ho5
    go_wp2_with fail
    clear s1 s2
    go_loopw [9] (fun i wr => ∃ k : Nat, k ≤ 32 ∧ i = .int .i64 (k : Int) ∧ Hid (∃ l, Row wr b2 l ∧ l.length = 32) ∧ Hid (Row wr b3 (rootB g a z)) ∧ Hid (Bs wr (.slice a5 32 cap5) (rootB g a z)) ∧ Hid (Below W1.heap.size W1 wr)) (fun i _ => 32 - (intOf i).toNat)
    case atStart => exact ⟨0, by omega, rfl, ⟨_, HR25.out, HRL.out⟩, HR35.out, HO5.out.bs, HB5.out⟩
    case round =>
      obtain ⟨k, hk, rfl, HA, HC, HD, HE⟩ := hrel
      by_cases hlt : k < 32
      · obtain ⟨l, hl1, hl2⟩ := HA.out
        have HLR : Hid (Row wr b2 l) := hl1
        have HLL : Hid (l.length = 32) := hl2
        have d0 := hl1.cell (i := k) (by omega)
        have d1 := hl1.free k
        clear hl1 hl2
        generalize l.getD k 0 = y at d0
        go_wp2_with fail
        go_roundw
        case rel =>
          refine ⟨k + 1, by omega, by simp, ⟨_, HLR.out.set k _, by rw [List.length_set]; exact HLL.out⟩, ?_, ?_, ?_⟩
          · unfold Hid Row
            rw [Below.heap_setCell _ _ _ _ (fun e => HN3.out e)]
            exact HC.out
          · exact HD.out.chg (Chg.cell wr b2 k _) (fun q hq => HN5.out q hq)
          · exact HE.out.setCell HL2.out _
        case measure => simp [intOf]; omega
      · obtain rfl : k = 32 := by omega
        have s1 := str_of (row_bs HC.out HRL.out)
        have s2 := str_of HD.out
        go_wp2_with fail
        refine (lives4_any wr (HS.out.below (HBW.out _ HE.out))).mono ?_
        rintro e w6 ⟨rfl, hb6⟩
        go_wp2_with fail
        go_ret
        exact ⟨rfl, (HBW.out _ HE.out).trans (hb6.mono (HBW.out _ HE.out).size)⟩
end Go.Proofs.YtkiccnedmejnaaaDoor

namespace Go.Proofs.YtkiccnedmejnaaaDoor
open Go.RowKit
set_option linter.unusedVariables false
set_option maxRecDepth 100000

def lOk (l : List Int) : Bool := decide (32 ≤ l.length) && isRt (l.take 32)
def lE (l : List Int) : Int := if l.length < 32 then 4 else ldErr (l.take 32)
def lG (l : List Int) : Int := if lOk l = true then ldG (l.take 32) else 0
def lA (l : List Int) : Int := if lOk l = true then ldA (l.take 32) else 0
def lZ (l : List Int) : Int := if lOk l = true then ldZ (l.take 32) else 0
def lR (l : List Int) : Value := .agg #[.int .u64 (lG l), .int .i64 (lA l), .int .i64 (lZ l)]
theorem lR_short {l : List Int} (h : l.length < 32) : lR l = .agg #[.int .u64 0, .int .i64 0, .int .i64 0] ∧ lE l = 4 := by
  have : lOk l = false := by unfold lOk; simp; omega
  unfold lR lG lA lZ lE
  rw [this, if_pos h]
  exact ⟨rfl, rfl⟩
theorem lR_long {l : List Int} (h : 32 ≤ l.length) : lR l = ldRoot (l.take 32) ∧ lE l = ldErr (l.take 32) := by
  have h1 : lE l = ldErr (l.take 32) := by unfold lE; rw [if_neg (by omega)]
  refine ⟨?_, h1⟩
  unfold lR lG lA lZ lOk ldRoot
  cases hr : isRt (l.take 32)
  · simp
  · simp [h]
theorem load4_any (v : Value) (l : List Int) (w : World) (hl : Bs w v l) (hb : l.length ≤ 140737488355328) (hby : Byt l) (hT : Tab w) :
    Calls Tryd.prog 13 #[v] w fun e w' => e = .returned (.tuple #[lR l, .int .i64 (lE l)]) ∧ Below w.heap.size w w' := by
  by_cases h : l.length < 32
  · rw [(lR_short h).1, (lR_short h).2]; exact load_short v l w hl h
  · rw [(lR_long (by omega)).1, (lR_long (l := l) (by omega)).2]; exact load_long v l w hl hb hby (by omega) hT
theorem refLoad4_any (v : Value) (l : List Int) (w : World) (hl : Bs w v l) (hb : l.length ≤ 140737488351232) (hby : Byt l) :
    Calls Tryd.prog 14 #[v] w fun e w' => e = .returned (.tuple #[lR l, .int .i64 (lE l)]) ∧ Below w.heap.size w w' := by
  by_cases h : l.length < 32
  · rw [(lR_short h).1, (lR_short h).2]; exact refRLoad_short v l w hl h
  · rw [(lR_long (by omega)).1, (lR_long (l := l) (by omega)).2]; exact refRLoad_long v l w hl hb hby (by omega)

set_option maxHeartbeats 4000000 in
theorem slotsLoads_walk (v : Value) (l : List Int) (W : World) (hS : Sl W) (hl : Bs W v l) (hby : Byt l) (hb : l.length ≤ 140737488351232) :
    Calls Tryd.prog 4 #[v] W fun e W' => e = .returned (.bool true) ∧ Below W.heap.size W W' := by
  obtain ⟨i0, hi, hz0, hz1, hz2⟩ := info_parts Tryd.info5
  have HS : Hid (Sl W) := hS
  have HL : Hid (Bs W v l) := hl
  have HBY : Hid (Byt l) := hby
  obtain ⟨n, HN⟩ : ∃ n, Hid (l.length = n) := ⟨_, rfl⟩
  have hn : n ≤ 140737488351232 := by rw [← HN.out]; exact hb
  obtain ⟨ao, cap, rfl, hc, _⟩ := hl
  rw [HN.out] at HL hc ⊢
  clear hS hby hb
  go_enter Tryd.func4, Tryd.ntmps4
  go_wp2_with (first | (at_builtin; refine wpList_append_bytes _ rfl (.tmp 8) (.tmp 9) 25 rfl i0 Tryd.underlying25 hi hz0 hz1 hz2 W.heap.size _ _ [] l rfl rfl (Own.empty _ _ (Nat.le_refl _)) (HL.out.below ((Below.refl _ _).alloc (Nat.le_refl _) _)) (by rw [HN.out]; simp; omega) W ((Below.refl _ _).alloc (Nat.le_refl _) _) (by simp) ?_; intro ao1 cap1 w1 ho1 hb1 _ _; rw [HN.out] at ho1 ⊢; simp only [List.length_nil, Nat.zero_add, List.nil_append] at ho1 ⊢; have HO1 : Hid (Own w1 W.heap.size (.slice ao1 n cap1) l) := ho1; have HB1 : Hid (Below W.heap.size W w1) := hb1; clear ho1 hb1) | (at_builtin; refine wpList_append_bytes _ rfl (.tmp 10) (.tmp 11) 25 rfl i0 Tryd.underlying25 hi hz0 hz1 hz2 W.heap.size _ _ l [90] rfl rfl (HO1.out.alloc _) (Bs.one _ _) (by rw [HN.out]; simp; omega) W (HB1.out.alloc HB1.out.size _) (by have := HB1.out.size; simp; omega) ?_; intro ao2 cap2 w2 ho2 hb2 hs2 hc2; rw [HN.out] at ho2 hs2 hc2 ⊢; simp only [List.length_cons, List.length_nil, Nat.zero_add] at hc2 ho2 hs2 ⊢; obtain ⟨gI, hgI, _, _⟩ := hs2 (by omega); subst hgI; clear hs2; have HO2 : Hid (Bs w2 (.slice (some ⟨gI, 0, none⟩) (n + 1) cap2) (l ++ [90])) := ho2.bs; have HB2 : Hid (Below W.heap.size W w2) := hb2; have hc2i : ((n : Int)) ≤ (cap2 : Int) := (by omega); clear ho2 hb2))
  have HL2 : Hid (Bs w2 (.slice (some ⟨gI, 0, none⟩) n cap2) l) := by
    have := HO2.out
    rw [← HN.out] at this
    have := lent_bs this
    rw [HN.out] at this
    exact this
  refine (load4_any _ l w2 HL2.out (by rw [HN.out]; omega) HBY.out (HS.out.below HB2.out).tab).mono ?_
  rintro e w3 ⟨rfl, hb3⟩
  unfold lR
  obtain ⟨G, HG⟩ : ∃ x, Hid (lG l = x) := ⟨_, rfl⟩
  obtain ⟨A, HA⟩ : ∃ x, Hid (lA l = x) := ⟨_, rfl⟩
  obtain ⟨Z, HZ⟩ : ∃ x, Hid (lZ l = x) := ⟨_, rfl⟩
  obtain ⟨E, HE⟩ : ∃ x, Hid (lE l = x) := ⟨_, rfl⟩
  rw [HG.out, HA.out, HZ.out, HE.out]
  obtain ⟨W3, HW3⟩ : ∃ W3, Hid (W3 = w3.alloc (.cells #[.int .u64 G, .int .i64 A, .int .i64 Z] 24)) := ⟨_, rfl⟩
  have HC3 : Hid (W3.heap[w3.heap.size]? = some (.cells #[.int .u64 G, .int .i64 A, .int .i64 Z] 24 (0, 0))) := by rw [Hid, HW3.out]; exact heap_alloc_new _ _
  have HB23 : Hid (Below w2.heap.size w2 W3) := by rw [Hid, HW3.out]; exact hb3.alloc hb3.size _
  have HBW3 : Hid (Below W.heap.size W W3) := HB2.out.trans (HB23.out.mono HB2.out.size)
  clear hb3
  have HRL : Hid _ := refLoad4_any _ l W3 (HL.out.below HBW3.out) (by rw [HN.out]; omega) HBY.out
  unfold lR at HRL
  rw [HG.out, HA.out, HZ.out, HE.out] at HRL
  go_upto_region 3 with fail
  rw [← HW3.out]
  go_wp2_with fail
  refine Calls.mono HRL.out ?_
  rintro e w4 ⟨rfl, hb4⟩
  obtain ⟨W4, HW4⟩ : ∃ W4, Hid (W4 = w4.alloc (.cells #[.int .u64 G, .int .i64 A, .int .i64 Z] 31)) := ⟨_, rfl⟩
  have HC4 : Hid (W4.heap[w4.heap.size]? = some (.cells #[.int .u64 G, .int .i64 A, .int .i64 Z] 31 (0, 0))) := by rw [Hid, HW4.out]; exact heap_alloc_new _ _
  have HB34 : Hid (Below W3.heap.size W3 W4) := by rw [Hid, HW4.out]; exact hb4.alloc hb4.size _
  have HBW4 : Hid (Below W.heap.size W W4) := HBW3.out.trans (HB34.out.mono HBW3.out.size)
  have HB24 : Hid (Below w2.heap.size w2 W4) := HB23.out.trans (HB34.out.mono HB23.out.size)
  have HC34 : Hid _ := (HB34.out.block _ (Array.getElem?_eq_some_iff.1 HC3.out).1).trans HC3.out
  clear hb4 HRL
  have HK : Hid (∀ w', Below W4.heap.size W4 w' → (w'.cell? ⟨w3.heap.size, 0, none⟩ = some (.int .u64 G) ∧ w'.cell? ⟨w3.heap.size, 1, none⟩ = some (.int .i64 A) ∧ w'.cell? ⟨w3.heap.size, 2, none⟩ = some (.int .i64 Z) ∧ w'.cell? ⟨w4.heap.size, 0, none⟩ = some (.int .u64 G) ∧ w'.cell? ⟨w4.heap.size, 1, none⟩ = some (.int .i64 A) ∧ w'.cell? ⟨w4.heap.size, 2, none⟩ = some (.int .i64 Z)) ∧
      Sem.run Tryd.prog (convert 25 9 (.slice (some ⟨gI, 0, none⟩) (n + 1) cap2)) w' = .ok (.string (strOfNums (l ++ [90]))) w' ∧ Sem.run Tryd.prog (convert 25 9 (.slice ao n cap)) w' = .ok (.string (strOfNums l)) w' ∧ Below W4.heap.size W4 w') := fun w' hb => by
    obtain ⟨c0, c1, c2, _⟩ := three_cells ((hb.block _ (Array.getElem?_eq_some_iff.1 HC34.out).1).trans HC34.out)
    obtain ⟨d0, d1, d2, _⟩ := three_cells ((hb.block _ (Array.getElem?_eq_some_iff.1 HC4.out).1).trans HC4.out)
    exact ⟨⟨c0, c1, c2, d0, d1, d2⟩, str_of ((HO2.out.below HB24.out).below hb), str_of ((HL.out.below HBW4.out).below hb), hb⟩
  have hadd := fun W => str_add (P := Tryd.prog) l 90 ⟨#[90]⟩ rfl (by rw [HN.out]; omega) W
  go_upto_region 4 with fail
  rw [← HW4.out]
  have hd0 : Below W4.heap.size W4 W4.drew := (Below.refl _ _).drew
  go_region_held (fun w' => (w'.cell? ⟨w3.heap.size, 0, none⟩ = some (.int .u64 G) ∧ w'.cell? ⟨w3.heap.size, 1, none⟩ = some (.int .i64 A) ∧ w'.cell? ⟨w3.heap.size, 2, none⟩ = some (.int .i64 Z) ∧ w'.cell? ⟨w4.heap.size, 0, none⟩ = some (.int .u64 G) ∧ w'.cell? ⟨w4.heap.size, 1, none⟩ = some (.int .i64 A) ∧ w'.cell? ⟨w4.heap.size, 2, none⟩ = some (.int .i64 Z)) ∧
      Sem.run Tryd.prog (convert 25 9 (.slice (some ⟨gI, 0, none⟩) (n + 1) cap2)) w' = .ok (.string (strOfNums (l ++ [90]))) w' ∧ Sem.run Tryd.prog (convert 25 9 (.slice ao n cap)) w' = .ok (.string (strOfNums l)) w' ∧ Below W4.heap.size W4 w') (exact HK.out _ (by assumption)) (first | (go_at_call 11; refine (plain4_any G A Z _).mono ?_; rintro e w5 ⟨rfl, hb5'⟩; have hb5 : Below W4.heap.size W4 w5 := below_undrew hb5'; clear hb5') | (go_at_call 12; refine (lives4_any _ (HS.out.below (HBW4.out.trans (Below.mono (by assumption) HBW4.out.size)))).mono ?_; rintro e w6 ⟨rfl, hb6'⟩; have hb6 : Below W4.heap.size W4 w6 := Below.trans (by assumption) (hb6'.mono (Below.size (by assumption))); clear hb6'))
  all_goals
    have HB6 : Hid (Below W4.heap.size W4 w6) := hb6
    clear hb6
    go_wp2
    go_ret
    exact ⟨rfl, HBW4.out.trans (HB6.out.mono HBW4.out.size)⟩
end Go.Proofs.YtkiccnedmejnaaaDoor
