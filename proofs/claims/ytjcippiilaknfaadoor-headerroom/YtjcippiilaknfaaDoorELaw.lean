/-
  What the laws of header ask besides: heavy, lives. Conditions: the table of the sum and the empty extent stand.
-/
import Derived.Test.YtjcippiilaknfaaDoorELay
import Derived.Lib.SlBytesConst
namespace Go.Proofs.YtjcippiilaknfaaDoor
open Go.RowKit
set_option linter.unusedVariables false
set_option maxRecDepth 100000

/-- It tells true or false, and leaves the world alone. -/
def HvP (w : World) (e : Ending) (w' : World) : Prop := ∃ b, e = .returned (.bool b) ∧ w' = w
theorem hvP {w : World} {e : Ending} {b : Bool} (h : e = .returned (.bool b)) : HvP w e w := ⟨b, h, rfl⟩
set_option maxHeartbeats 4000000 in
theorem heavy_any (w : World) (vl vr : Value) (l : List Msg) (r : List Ext) (hM : Ms w vl l) (hn : l.length ≤ 140737488351232) (hR : Xs w vr r) (hr : r.length ≤ 281474976710656) :
    Calls Tryd.prog 9 #[vl, vr] w fun e w' => HvP w e w' := by
  obtain ⟨aol, capl, rfl, hcl, hcm⟩ := hM
  have HC : Hid _ := hcm
  obtain ⟨aor, capr, rfl, hcr, hcx⟩ := hR.opened
  have HX : Hid (∀ i, i < r.length → ∃ b off, aor = some ⟨b, off, none⟩ ∧ w.cell? ⟨b, off + i * 2, none⟩ = some (.int .i64 (r.getD i (0, 0)).1) ∧ w.cell? ⟨b, off + i * 2 + 1, none⟩ = some (.int .i64 (r.getD i (0, 0)).2) ∧ b < w.heap.size) := hcx
  obtain ⟨n, HN⟩ : ∃ n, Hid (l.length = n) := ⟨_, rfl⟩
  obtain ⟨rn, HRN⟩ : ∃ rn, Hid (r.length = rn) := ⟨_, rfl⟩
  rw [HN.out] at hn hcl ⊢
  rw [HRN.out] at hr hcr ⊢
  clear hcm hcx hR
  go_enter Tryd.func9, Tryd.ntmps9
  go_wp2_with fail
  go_loopw [6, 5] (fun x y wr => ∃ i : Nat, i ≤ n ∧ x = .int .i64 (i : Int) ∧ (∃ s : Int, y = .int .i64 s) ∧ Hid (wr = w)) (fun x _ _ => n - (intOf x).toNat)
  case atStart => exact ⟨0, Nat.zero_le _, rfl, ⟨_, rfl⟩, rfl⟩
  case round =>
    obtain ⟨i, hin, rfl, ⟨s, rfl⟩, hwr⟩ := hrel
    obtain rfl := hwr.out
    by_cases hlt : i < n
    · obtain ⟨m, hm⟩ : ∃ m, l[i]? = some m := ⟨l[i]'(by rw [HN.out]; exact hlt), List.getElem?_eq_getElem _⟩
      obtain ⟨hbs, g, o, rfl, c1, c2⟩ := HC.out i m hm
      obtain ⟨aom, capm, hv, _⟩ := hbs
      rw [hv] at c2
      obtain ⟨ml, HML⟩ : ∃ ml, Hid (m.2.2.length = ml) := ⟨_, rfl⟩
      rw [HML.out] at c2
      have hili : (i : Int) < (n : Int) := by omega
      clear hm hv c1
      go_wp2_with fail
      go_roundw
      case rel => exact ⟨i + 1, by omega, by simp, ⟨_, rfl⟩, by first | exact rfl | exact trivial⟩
      case measure => simp [intOf]; omega
    · have hili : ¬ (i : Int) < (n : Int) := by omega
      go_wp2_with fail
      go_loopw [7] (fun x wr' => ∃ k : Nat, k ≤ rn ∧ x = .int .i64 (k : Int) ∧ Hid (wr' = wr)) (fun x _ => rn - (intOf x).toNat)
      case atStart => exact ⟨0, Nat.zero_le _, rfl, rfl⟩
      case round =>
        obtain ⟨k, hkn, rfl, hwk⟩ := hrel
        obtain rfl := hwk.out
        by_cases hkl : k < rn
        · obtain ⟨b, off, rfl, c1, c2, _⟩ := HX.out k (by rw [HRN.out]; exact hkl)
          generalize r.getD k (0, 0) = x at *
          have hkni : (k : Int) < (rn : Int) := by omega
          by_cases h1 : (5000 : Int) < x.2
          · by_cases h2 : x.2 ≤ 4194304
            · go_wp2_with fail
              go_ret
              exact hvP rfl
            · go_wp2_with fail
              go_roundw
              case rel => exact ⟨k + 1, by omega, by simp, by first | exact rfl | exact trivial⟩
              case measure => simp [intOf]; omega
          · go_wp2_with fail
            go_roundw
            case rel => exact ⟨k + 1, by omega, by simp, by first | exact rfl | exact trivial⟩
            case measure => simp [intOf]; omega
        · have hkni : ¬ (k : Int) < (rn : Int) := by omega
          by_cases h1 : (200000 : Int) < s
          · go_wp2_with fail
            go_ret
            exact hvP rfl
          · by_cases h2 : (100 : Int) < (rn : Int)
            · go_wp2_with fail
              go_ret
              exact hvP rfl
            · go_wp2_with fail
              go_ret
              exact hvP rfl
theorem ms_one {w : World} {g gb : Nat} {k : Int} {bs : List Int} {n : Nat} (hn : bs.length = n) (hg : w.heap[g]? = some (.cells #[.int .i64 k, .slice (some ⟨gb, 0, none⟩) n n] 56 (0, 0))) (hb : Bs w (.slice (some ⟨gb, 0, none⟩) n n) bs) : Ms w (.slice (some ⟨g, 0, none⟩) 1 1) [(k, .slice (some ⟨gb, 0, none⟩) n n, bs)] := by
  subst hn
  refine ⟨some ⟨g, 0, none⟩, 1, rfl, Nat.le_refl _, fun i m hm => ?_⟩
  cases i with
  | zero =>
    have e : m = (k, .slice (some ⟨gb, 0, none⟩) bs.length bs.length, bs) := by simpa using hm.symm
    subst e
    exact ⟨hb, g, 0, rfl, by simpa using cellO hg 0 rfl, by simpa using cellO hg 1 rfl⟩
  | succ i => simp at hm
theorem lives_sz (v : Value) : szN [(3, v, [97, 98])] = 14 ∧ szErr [(3, v, [97, 98])] = 0 ∧ layErr [(3, v, [97, 98])] [(40, 20), (0, 30)] = 0 := by
  have h1 : szErr [(3, v, [97, 98])] = 0 := by simp [szErr, longB, kindB]
  refine ⟨by simp [szN, h1, szOf], h1, ?_⟩
  unfold layErr
  have h2 : ([(40, 20), (0, 30)] : List Ext).any narrowB = false := by decide
  have h3 : meetsB ([(40, 20), (0, 30)] : List Ext) = false := by decide
  have h4 : roomOf ([(40, 20), (0, 30)] : List Ext) = 18 := by decide
  have h5 : szOf [(3, v, [97, 98])] = 14 := by simp [szOf]
  rw [h1, h2, h3, h4, h5]
  simp
/-- What lives asks of the blocks. -/
theorem lives_blk {v : Value} {L : List Blk} (h : L.map plB = layL [(3, v, [97, 98])] [(40, 20), (0, 30)]) : ∃ b1 b2, L = [b1, b2] ∧ b1.1 = 40 ∧ b1.2.2.length = 20 ∧ b1.2.2.getD 3 0 = 4 ∧ b1.2.2.getD 11 0 = 30 := by
  have hs : strm [(3, v, [97, 98])] = [0, 0, 0, 1, 0, 0, 0, 3, 0, 0, 0, 2, 97, 98] := by simp [strm, msgL, d4, dig2, digs, qd]
  rw [layL, if_pos (lives_sz v).2.2, hs] at h
  have hb : blksM [(40, 20), (0, 30)] [0, 0, 0, 1, 0, 0, 0, 3, 0, 0, 0, 2, 97, 98] = [(40, blkL [0, 0, 0, 1] (0, 30) 20), (0, blkL [0, 0, 0, 3, 0, 0, 0, 2, 97, 98] (0, 0) 30)] := by simp [blksM, rmX]
  rw [hb] at h
  match L, h with
  | [b1, b2], h =>
    simp only [List.map_cons, List.map_nil, List.cons.injEq, and_true] at h
    obtain ⟨h1, _⟩ := h
    have e1 : b1.1 = 40 := congrArg Prod.fst h1
    have e2 : b1.2.2 = blkL [0, 0, 0, 1] (0, 30) 20 := congrArg Prod.snd h1
    have e3 : blkP [0, 0, 0, 1] (0, 30) 20 = [0, 0, 0, 4, 0, 0, 0, 0, 0, 0, 0, 30, 0, 0, 0, 1] := by simp [blkP, d4, dig2, digs, qd]
    refine ⟨b1, b2, rfl, e1, ?_, ?_, ?_⟩
    · rw [e2, blkL_length (by decide)]
    · rw [e2, blkL, sealN, e3]; simp [List.getD]
    · rw [e2, blkL, sealN, e3]; simp [List.getD]
  | [], h => simp at h
  | [_], h => simp at h
  | _ :: _ :: _ :: _, h => simp at h
theorem al2g (w : World) (o : Obj) (C : Array Value) (U : TypeId) : ((w.alloc o).alloc (.cells C U)).heap[w.heap.size + 1]? = some (.cells C U (0, 0)) ∧ Below w.heap.size w ((w.alloc o).alloc (.cells C U)) ∧ Below (w.alloc o).heap.size (w.alloc o) ((w.alloc o).alloc (.cells C U)) ∧ ((w.alloc o).alloc (.cells C U)).heap.size = w.heap.size + 2 := by
  have h1 : Below w.heap.size w (w.alloc o) := (Below.refl _ _).alloc (Nat.le_refl _) _
  have hs : (w.alloc o).heap.size = w.heap.size + 1 := by simp
  refine ⟨?_, h1.alloc h1.size _, (Below.refl _ _).alloc (Nat.le_refl _) _, by simp⟩
  have := heap_alloc_new (w.alloc o) (.cells C U)
  rw [hs] at this
  exact this
theorem al3g (w : World) (o : Obj) (C E : Array Value) (U V : TypeId) : (((w.alloc o).alloc (.cells C U)).alloc (.cells E V)).heap[w.heap.size + 1]? = some (.cells C U (0, 0)) ∧ (((w.alloc o).alloc (.cells C U)).alloc (.cells E V)).heap[w.heap.size + 2]? = some (.cells E V (0, 0)) ∧ Below w.heap.size w (((w.alloc o).alloc (.cells C U)).alloc (.cells E V)) ∧ Below (w.alloc o).heap.size (w.alloc o) (((w.alloc o).alloc (.cells C U)).alloc (.cells E V)) := by
  obtain ⟨h2, h3, h5, h4⟩ := al2g w o C U
  refine ⟨?_, ?_, h3.alloc h3.size _, h5.alloc h5.size _⟩
  · rw [Below.heap_alloc _ _ _ (by rw [h4]; omega)]; exact h2
  · have := heap_alloc_new ((w.alloc o).alloc (.cells C U)) (.cells E V)
    rw [h4] at this
    exact this
/-- What Lay tells there. -/
def LvP (W : World) (e : Ending) (w' : World) : Prop := ∃ gv cap vb1 cap1, e = .returned (.tuple #[.slice (some ⟨gv, 0, none⟩) 2 cap, .int .i64 0]) ∧ w'.cell? ⟨gv, 0, none⟩ = some (.int .i64 40) ∧ w'.cell? ⟨gv, 1, none⟩ = some (.slice (some ⟨vb1, 0, none⟩) 20 cap1) ∧ w'.cell? ⟨vb1, 3, none⟩ = some (.int .u8 4) ∧ w'.cell? ⟨vb1, 11, none⟩ = some (.int .u8 30) ∧ Below W.heap.size W w'
set_option maxHeartbeats 4000000 in
theorem lives8_any (w : World) (hT : Tab w) (hX : NoX w) : Calls Tryd.prog 10 #[] w fun e w' => e = .returned (.bool true) ∧ Below w.heap.size w w' := by
  have HT : Hid (Tab w) := hT
  have HX : Hid (NoX w) := hX
  have HSZ : Hid (∀ W g gb, W.heap[g]? = some (.cells #[.int .i64 3, .slice (some ⟨gb, 0, none⟩) 2 2] 56 (0, 0)) → Bs W (.slice (some ⟨gb, 0, none⟩) 2 2) [97, 98] → Calls Tryd.prog 11 #[.slice (some ⟨g, 0, none⟩) 1 1] W fun e w' => e = .returned (.tuple #[.int .i64 14, .int .i64 0]) ∧ Below W.heap.size W w') := by
    intro W g gb h1 h2
    have h3 := size_any W _ _ (ms_one (n := 2) (bs := [97, 98]) rfl h1 h2) (by simp)
    rw [(lives_sz _).1, (lives_sz _).2.1] at h3
    exact h3
  have HLY : Hid (∀ W g gb gx, Below w.heap.size w W → W.heap[g]? = some (.cells #[.int .i64 3, .slice (some ⟨gb, 0, none⟩) 2 2] 56 (0, 0)) → Bs W (.slice (some ⟨gb, 0, none⟩) 2 2) [97, 98] → W.heap[gx]? = some (.cells #[.int .i64 40, .int .i64 20, .int .i64 0, .int .i64 30] 49 (0, 0)) → Calls Tryd.prog 15 #[.slice (some ⟨g, 0, none⟩) 1 1, .slice (some ⟨gx, 0, none⟩) 2 2] W fun e w' => LvP W e w') := by
    intro W g gb gx hW h1 h2 h3
    have h4 : Xs W (.slice (some ⟨gx, 0, none⟩) 2 2) [(40, 20), (0, 30)] := by
      refine ⟨_, 2, rfl, Nat.le_refl _, (fun h => by cases h), ?_⟩
      intro ad ha j u hj
      obtain rfl := Option.some.inj ha
      exact news_one (xs := [.int .i64 40, .int .i64 20, .int .i64 0, .int .i64 30]) h3 j u hj
    have h5 : EWs [(40, 20), (0, 30)] := by
      intro x hx
      simp at hx
      rcases hx with rfl | rfl <;> (unfold EW; simp)
    have h6 : MOk [((3 : Int), Value.slice (some ⟨gb, 0, none⟩) 2 2, ([97, 98] : List Int))] := by
      intro m hm
      simp at hm
      subst hm
      refine ⟨by simp, by simp, ?_⟩
      intro i
      match i with
      | 0 => simp
      | 1 => simp
      | i + 2 => simp [List.getD]
    refine (lay_any W _ _ _ _ (ms_one (n := 2) (bs := [97, 98]) rfl h1 h2) h6 (by simp) h4 h5 (by simp) (HT.out.below hW) (HX.out.below hW)).mono ?_
    rintro e w' ⟨v, L, rfl, hl, hk, hb⟩
    rw [(lives_sz _).2.2]
    obtain ⟨b1, b2, rfl, e1, e2, e3, e4⟩ := lives_blk hl
    have hr : w'.ownsRow W.heap.size 47 2 v 2 (gc encBk [b1, b2]) := hk.at_ (rowBk v [b1, b2]) (List.Mem.head _)
    have hr1 : w'.ownsRow W.heap.size 5 1 b1.2.1 b1.2.2.length (bcells b1.2.2) := hk.at_ (byR b1) (by simp)
    rcases ownsRow_shape hr with ⟨_, h0⟩ | ⟨gv, cap, rfl, _, _, _, _, _, hc⟩
    · omega
    · rcases ownsRow_shape hr1 with ⟨_, h0⟩ | ⟨gb1, cap1, hv1, _, _, _, _, _, hc1⟩
      · omega
      · rw [e2] at hv1
        refine ⟨gv, cap, gb1, cap1, rfl, ?_, ?_, ?_, ?_, hb⟩
        · rw [← e1]; exact hc 0 _ rfl
        · rw [← hv1]; exact hc 1 _ rfl
        · have h7 := hc1 3 (.int .u8 (b1.2.2.getD 3 0)) (by simp [bcells, List.getD, e2])
          rw [e3] at h7; exact h7
        · have h7 := hc1 11 (.int .u8 (b1.2.2.getD 11 0)) (by simp [bcells, List.getD, e2])
          rw [e4] at h7; exact h7
  have hcv := fun w => Lib.run_convert_bytes_const (P := Tryd.prog) w 31 5 #[.int .u8 97, .int .u8 98] 2 2 Tryd.underlying31 Tryd.underlying5
  clear hT hX
  go_enter Tryd.func10, Tryd.ntmps10
  go_wp2_with (first
    | (go_at_call 11; have ha := al2g w (.cells #[.int .u8 97, .int .u8 98] 5 (2, 3)) #[.int .i64 3, .slice (some ⟨w.heap.size, 0, none⟩) 2 2] 56; have HA : Hid (Below w.heap.size w ((w.alloc (.cells #[.int .u8 97, .int .u8 98] 5 (2, 3))).alloc (.cells #[.int .i64 3, .slice (some ⟨w.heap.size, 0, none⟩) 2 2] 56))) := ha.2.1; refine Calls.mono (HSZ.out _ (w.heap.size + 1) w.heap.size ha.1 ((Bs.made w [97, 98] #[.int .u8 97, .int .u8 98] rfl (2, 3)).below ha.2.2.1)) ?_; clear ha; rintro e w1 ⟨rfl, hb1⟩; have HB1 : Hid (Below w.heap.size w w1) := HA.out.trans (hb1.mono HA.out.size); clear hb1)
    | (go_at_call 15; have ha := al3g w1 (.cells #[.int .u8 97, .int .u8 98] 5 (2, 3)) #[.int .i64 3, .slice (some ⟨w1.heap.size, 0, none⟩) 2 2] #[.int .i64 40, .int .i64 20, .int .i64 0, .int .i64 30] 56 49; have HA2 : Hid (Below w.heap.size w (((w1.alloc (.cells #[.int .u8 97, .int .u8 98] 5 (2, 3))).alloc (.cells #[.int .i64 3, .slice (some ⟨w1.heap.size, 0, none⟩) 2 2] 56)).alloc (.cells #[.int .i64 40, .int .i64 20, .int .i64 0, .int .i64 30] 49))) := HB1.out.trans (ha.2.2.1.mono HB1.out.size); refine Calls.mono (HLY.out _ (w1.heap.size + 1) w1.heap.size (w1.heap.size + 2) HA2.out ha.1 ((Bs.made w1 [97, 98] #[.int .u8 97, .int .u8 98] rfl (2, 3)).below ha.2.2.2) ha.2.1) ?_; clear ha; rintro e w2 ⟨gv, cap, gb1, cap1, rfl, q1, q2, q3, q4, hb2⟩; have HB2 : Hid (Below w.heap.size w w2) := HA2.out.trans (hb2.mono HA2.out.size); clear hb2))
  go_ret
  exact ⟨rfl, HB2.out⟩
end Go.Proofs.YtjcippiilaknfaaDoor
