/-
  Nodes of a tree whose root is a leaf. Conditions: lengths are such as memory bears.
-/
import Derived.Test.YtggbbmbnbhiggaaBPut
import Derived.OwnWalk
namespace Go.Proofs.Ytggbbmbnbhiggaa
open Go.RowKit
set_option linter.unusedVariables false
set_option maxRecDepth 100000

theorem Try.infoNd : (Try.prog.info? 61).map (fun i => (i.zero, i.size, i.bytes)) = some (some (.agg #[.int .i64 0, .bool false, .slice none 0 0]), 3, 40) := by kernel_rfl
theorem Try.infoStr : (Try.prog.info? 9).map (fun i => (i.zero, i.size, i.bytes)) = some (some (.string ByteArray.empty), 1, 16) := by kernel_rfl
theorem below_of_grownB {w w' : World} (h : w.grownBy w' none) : Below w.heap.size w w' := ⟨h.os, h.tape, h.output, h.size, fun k hk => h.block k hk (fun e => by cases e)⟩
def encN (s : ByteArray) : List Value := [.string s]
theorem encN_len (s : ByteArray) : (encN s).length = 1 := rfl

set_option maxHeartbeats 4000000 in
theorem appendNodes_leaf {w : World} {B p q n : Nat} {most c : Int} {vI : Value} {L : List It} (h : LT w B p q n most c vI L) (hn : L.length ≤ 1000) (hk : ∀ y ∈ L, y.1.size ≤ 281474976710656) :
    Calls Try.prog 42 #[.pointer (some ⟨p, 0, none⟩), .slice none 0 0, .pointer (some ⟨n, 0, none⟩), .int .i64 0] w fun e w' => ∃ g cap vK, e = .returned (.slice (some ⟨g, 0, none⟩) 1 cap) ∧ w'.ownsRow w.heap.size 61 3 (.slice (some ⟨g, 0, none⟩) 1 cap) 1 [.int .i64 0, .bool true, vK] ∧ w'.ownsRow w.heap.size 9 1 vK L.length (gc encN (L.map (·.1))) ∧ Below w.heap.size w w' := by
  obtain ⟨i1, hi1, hy0, hy1, hy2⟩ := info_partsT Try.infoNd
  obtain ⟨i2, hi2, hz0, hz1, hz2⟩ := info_partsT Try.infoStr
  have HH : Hid (LT w B p q n most c vI L) := h
  obtain ⟨t0, t1, t2, t3⟩ := h.t
  obtain ⟨n0, n1, n2⟩ := h.n
  obtain ⟨m, HM⟩ : ∃ m, Hid (L.length = m) := ⟨_, rfl⟩
  obtain ⟨ao, cap, rfl, hcap, hcell⟩ := Its.of_row h.row
  have HC : Hid (∀ i x, L[i]? = some x → ∃ g o, ao = some ⟨g, o, none⟩ ∧ w.cell? ⟨g, o + i * 2, none⟩ = some (.string x.1) ∧ w.cell? ⟨g, o + i * 2 + 1, none⟩ = some (.int .u64 x.2)) := hcell
  rw [HM.out] at hn hcap n0 HH ⊢
  clear h hcell
  go_enter Try.func42, Try.ntmps42
  go_wp2_with (at_make; refine wpList_make_own _ rfl _ _ 26 rfl w.heap.size 9 i2 _ 1 Try.underlying26 hi2 hz0 hz1 _ _ _ m rfl rfl rfl (by rw [hz2]; omega) (by unfold maxLen; omega) (Nat.le_refl _) ?_; intro w1 ho1 hg1; have HO1 : Hid (w1.ownsRow w.heap.size 9 1 (.slice (some ⟨w.heap.size, 0, none⟩) 0 m) 0 []) := ho1; have HB1 : Hid (Below w.heap.size w w1) := below_of_grownB hg1; have HH1 : Hid (LT w1 B p q n most c (.slice ao m cap) L) := HH.out.below HB1.out; obtain ⟨a0, a1, _⟩ := HH1.out.n; clear ho1 hg1)
  go_loopw [9, 25] (fun x y wr => ∃ (i g cp : Nat), i ≤ m ∧ y = .int .i64 (i : Int) ∧ x = .slice (some ⟨g, 0, none⟩) i cp ∧ Hid (wr.ownsRow w.heap.size 9 1 (.slice (some ⟨g, 0, none⟩) i cp) i (gc encN ((L.take i).map (·.1)))) ∧ Hid (Below w.heap.size w wr)) (fun _ y _ => m - (intOf y).toNat)
  case atStart => exact ⟨0, w.heap.size, m, Nat.zero_le _, by simp, rfl, HO1.out, HB1.out⟩
  case round =>
    obtain ⟨i, g, cp, him, rfl, rfl, HO, HB⟩ := hrel
    by_cases hlt : i < m
    · obtain ⟨z, hz⟩ : ∃ z, L[i]? = some z := ⟨L[i]'(by rw [HM.out]; omega), List.getElem?_eq_getElem _⟩
      obtain ⟨gi, o, rfl, c1, c2⟩ := HC.out i z hz
      have d1 : wr.cell? ⟨gi, o + i * 2, none⟩ = some (.string z.1) := (HB.out.cell (World.block_lt_of_cell? w _ c1)).trans c1
      have d2 : wr.cell? ⟨gi, o + i * 2 + 1, none⟩ = some (.int .u64 z.2) := (HB.out.cell (World.block_lt_of_cell? w _ c2)).trans c2
      have HZ : Hid (L[i]? = some z) := hz
      have HZS : Hid (z.1.size ≤ 281474976710656) := hk z (List.mem_of_getElem? hz)
      obtain ⟨k, x⟩ := z
      have HBA : Hid (Below w.heap.size w (wr.alloc (.cells #[.string k, .int .u64 x] 69))) := HB.out.alloc HB.out.size _
      have HCA : Hid ((wr.alloc (.cells #[.string k, .int .u64 x] 69)).heap[wr.heap.size]? = some (.cells #[.string k, .int .u64 x] 69 (0, 0))) := heap_alloc_new wr _
      have HOA : Hid ((wr.alloc (.cells #[.string k, .int .u64 x] 69)).ownsRow w.heap.size 9 1 (.slice (some ⟨g, 0, none⟩) i cp) i (gc encN ((L.take i).map (·.1)))) := ownsRow_below HO.out ((Below.refl _ _).alloc (Nat.le_refl _) _)
      clear c1 c2 hz t0 t1 t2 t3 n0 n1 n2 a0 a1
      go_wp2_with fail
      generalize wr.alloc (.cells #[.string k, .int .u64 x] 69) = wa at HBA HCA HOA ⊢
      have HHA : Hid (LT wa B p q n most c (.slice (some ⟨gi, o, none⟩) m cap) L) := HH.out.below HBA.out
      obtain ⟨_, t1, _, _⟩ := HHA.out.t
      have x0 : wa.cell? ⟨wr.heap.size, 0, none⟩ = some (.string k) := by simp [World.cell?, HCA.out]
      have HBD : Hid (Below w.heap.size w wa.drew) := HBA.out.drew
      go_region_law (first
        | (refine step_ownN rfl (.tmp 33) (.tmp 35) rfl k rfl rfl HZS.out ?_; intro w2 hb2; have HB2 : Hid (Below w.heap.size w w2) := HBD.out.trans (hb2.mono HBD.out.size); have HO2 : Hid (w2.ownsRow w.heap.size 9 1 (.slice (some ⟨g, 0, none⟩) i cp) i (gc encN ((L.take i).map (·.1)))) := ownsRow_below HOA.out ((Below.refl _ _).drew.trans hb2); clear hb2)
        | (refine step_append_G 38 rfl rfl (.tmp 29) (.tmp 37) 26 9 rfl i2 Try.underlying26 hi2 _ hz0 1 16 hz1 hz2 rfl (by omega) w.heap.size (.slice (some ⟨g, 0, none⟩) i cp) i (gc encN ((L.take i).map (·.1))) ⟨w2.heap.size, 0, none⟩ 1 1 (encN k) rfl rfl (HO2.out.alloc _) rfl (news_one (heap_alloc_new w2 _)) (by simp [encN, Value.oneCell']) (by omega) (by omega) (by omega) (by have := HB2.out.size; simp; omega) ?_; intro g3 cap3 w3 ho3 hg3 hat3; have HO3 : Hid (w3.ownsRow w.heap.size 9 1 (.slice (some ⟨g3, 0, none⟩) (i + 1) cap3) (i + 1) (gc encN ((L.take i).map (·.1)) ++ encN k)) := ho3; have HB3 : Hid (Below w.heap.size w w3) := (HB2.out.alloc HB2.out.size _).grown hg3 (by have := HB2.out.size; simp; omega) (fun j hj => (World.ownsRow.lt HO2.out j hj).1); clear ho3 hg3 hat3))
      all_goals
        go_wp2_with fail
        go_roundw
        case rel =>
          refine ⟨i + 1, g3, cap3, by omega, by simp, rfl, ?_, HB3.out⟩
          rw [show (L.take (i + 1)).map (·.1) = (L.take i).map (·.1) ++ [k] by rw [List.take_add_one, HZ.out]; simp, gc_append, gc_one]
          exact HO3.out
        case measure => simp [intOf]; omega
    · obtain rfl : i = m := by omega
      have HHR : Hid (LT wr B p q n most c (.slice ao i cap) L) := HH.out.below HB.out
      obtain ⟨b0, b1, _⟩ := HHR.out.n
      have HOE : Hid (wr.ownsRow w.heap.size 9 1 (.slice (some ⟨g, 0, none⟩) i cp) i (gc encN (L.map (·.1)))) := by have := HO.out; rw [List.take_of_length_le (by rw [HM.out]; exact Nat.le_refl _)] at this; exact this
      go_wp2_with (first
        | (go_at_call 45; refine (isLeaf_yes n _ b1).mono ?_; rintro e w2 ⟨rfl, hw2⟩; obtain rfl := hw2.symm)
        | (at_builtin; refine wpList_append_G _ rfl (.tmp 40) (.tmp 46) 55 rfl 61 i1 Try.underlying55 hi1 _ hy0 3 40 hy1 hy2 rfl (by omega) w.heap.size (.slice none 0 0) 0 [] ⟨wr.heap.size, 0, none⟩ 1 1 [.int .i64 0, .bool true, .slice (some ⟨g, 0, none⟩) i cp] rfl rfl ⟨rfl, .inl ⟨rfl, rfl⟩⟩ rfl (news_one (heap_alloc_new wr _)) (by simp [Value.oneCell']) (by omega) (by omega) (by omega) (by have := HB.out.size; simp; omega) ?_; intro g3 cap3 w3 ho3 hg3 hat3; have HO3 : Hid (w3.ownsRow w.heap.size 61 3 (.slice (some ⟨g3, 0, none⟩) 1 cap3) 1 [.int .i64 0, .bool true, .slice (some ⟨g, 0, none⟩) i cp]) := ho3; have HB3 : Hid (Below wr.heap.size wr w3) := ((Below.refl _ _).alloc (Nat.le_refl _) _).trans ((below_of_grownB hg3).mono (by simp)); have e1 := (HHR.out.below HB3.out).n.2.1; clear ho3 hg3 hat3))
      go_loopw [1, 53] (fun x y wq => x = .slice (some ⟨g3, 0, none⟩) 1 cap3 ∧ y = .int .i64 0 ∧ wq = w3) (fun _ _ _ => 0)
      case atStart => exact ⟨rfl, rfl, rfl⟩
      case round =>
        obtain ⟨rfl, rfl, rfl⟩ := hrel
        go_wp2_with fail
        go_ret
        exact ⟨g3, cap3, _, rfl, HO3.out, ownsRow_below HOE.out HB3.out, HB.out.trans (HB3.out.mono HB.out.size)⟩

theorem nodes_leaf {w : World} {B p q n : Nat} {most c : Int} {vI : Value} {L : List It} (h : LT w B p q n most c vI L) (hn : L.length ≤ 1000) (hk : ∀ y ∈ L, y.1.size ≤ 281474976710656) (hc : c ≠ 0) :
    Calls Try.prog 25 #[.pointer (some ⟨p, 0, none⟩)] w fun e w' => ∃ g cap vK, e = .returned (.slice (some ⟨g, 0, none⟩) 1 cap) ∧ w'.ownsRow w.heap.size 61 3 (.slice (some ⟨g, 0, none⟩) 1 cap) 1 [.int .i64 0, .bool true, vK] ∧ w'.ownsRow w.heap.size 9 1 vK L.length (gc encN (L.map (·.1))) ∧ Below w.heap.size w w' := by
  have HA : Hid _ := appendNodes_leaf h hn hk
  obtain ⟨t0, t1, t2, t3⟩ := h.t
  obtain ⟨k0, k1, k2⟩ := h.k
  have d0 : (c == 0) = false := by simpa using hc
  go_enter Try.func25, Try.ntmps25
  go_wp2_with (first
    | (go_at_call 30; refine (tNone_any p q _ t3).mono ?_; rintro e w1 ⟨rfl, hw1⟩; obtain rfl := hw1.symm)
    | (go_at_call 42; refine Calls.mono HA.out ?_; rintro e w1 ⟨g, cap, vK, rfl, h1, h2, h3⟩; have H1 : Hid _ := h1; have H2 : Hid _ := h2; have H3 : Hid _ := h3; clear h1 h2 h3))
  go_ret
  exact ⟨g, cap, vK, rfl, H1.out, H2.out, H3.out⟩
theorem newNames_bad (m : Int) (w : World) (h : m < 3 ∨ 64 < m) : Calls Try.prog 8 #[.int .i64 m] w fun e w' => e = .returned (.pointer none) ∧ w' = w := by
  go_enter Try.func8, Try.ntmps8
  go_wp2_with (go_at_call 28; refine (newTree_bad m _ h).mono ?_; rintro e w1 ⟨rfl, hw1⟩; obtain rfl := hw1.symm)
  go_ret
  exact ⟨rfl, rfl⟩
theorem newNames_any (m : Int) (w : World) (h3 : 3 ≤ m) (h64 : m ≤ 64) : Calls Try.prog 8 #[.int .i64 m] w fun e w' => ∃ p q n, e = .returned (.pointer (some ⟨p, 0, none⟩)) ∧ LT w' w.heap.size p q n m 0 (.slice none 0 0) [] ∧ Below w.heap.size w w' := by
  go_enter Try.func8, Try.ntmps8
  go_wp2_with (go_at_call 28; refine (newTree_any m _ h3 h64).mono ?_; rintro e w1 ⟨p, q, n, rfl, h1, h2⟩; have H1 : Hid _ := h1; have H2 : Hid _ := h2; clear h1 h2)
  go_ret
  exact ⟨p, q, n, rfl, H1.out, H2.out⟩
end Go.Proofs.Ytggbbmbnbhiggaa
