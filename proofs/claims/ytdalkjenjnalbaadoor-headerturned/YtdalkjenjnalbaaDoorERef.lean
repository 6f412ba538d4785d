/-
  What the laws of header ask besides: heavy, lives. Conditions: the table of the sum and the empty extent stand.
  What HeaderRoom asks of the blocks. No conditions.
  Messages in the document's form; the document's May and Stream. Conditions: lengths are such as memory bears.
-/
import Derived.Test.YtdalkjenjnalbaaDoorELay
import Derived.Lib.SlBytesConst
import Derived.Deep.QuietTactic
import Derived.BigQuiet
namespace Go.Proofs.YtdalkjenjnalbaaDoor
open Go.RowKit
set_option linter.unusedVariables false
set_option maxRecDepth 100000

/-- It tells true or false, and leaves the world alone. -/
def HvP (w : World) (e : Ending) (w' : World) : Prop := ∃ b, e = .returned (.bool b) ∧ w' = w
theorem hvP {w : World} {e : Ending} {b : Bool} (h : e = .returned (.bool b)) : HvP w e w := ⟨b, h, rfl⟩
set_option maxHeartbeats 4000000 in
theorem heavy_any (w : World) (vl vr : Value) (l : List Msg) (r : List Ext) (hM : Ms w vl l) (hn : l.length ≤ 140737488351232) (hR : Xs w vr r) (hr : r.length ≤ 281474976710656) :
    Calls Tryd.prog 9 #[vl, vr] w fun e w' => HvP w e w' := by
  obtain ⟨aol, capl, rfl, hcl, hcm⟩ := hM
  have HC : Hid _ := hcm
  obtain ⟨aor, capr, rfl, hcr, hcx⟩ := hR.opened
  have HX : Hid (∀ i, i < r.length → ∃ b off, aor = some ⟨b, off, none⟩ ∧ w.cell? ⟨b, off + i * 2, none⟩ = some (.int .i64 (r.getD i (0, 0)).1) ∧ w.cell? ⟨b, off + i * 2 + 1, none⟩ = some (.int .i64 (r.getD i (0, 0)).2) ∧ b < w.heap.size) := hcx
  obtain ⟨n, HN⟩ : ∃ n, Hid (l.length = n) := ⟨_, rfl⟩
  obtain ⟨rn, HRN⟩ : ∃ rn, Hid (r.length = rn) := ⟨_, rfl⟩
  rw [HN.out] at hn hcl ⊢
  rw [HRN.out] at hr hcr ⊢
  clear hcm hcx hR
  go_enter Tryd.func9, Tryd.ntmps9
  go_wp2_with fail
  go_loopw [6, 5] (fun x y wr => ∃ i : Nat, i ≤ n ∧ x = .int .i64 (i : Int) ∧ (∃ s : Int, y = .int .i64 s) ∧ Hid (wr = w)) (fun x _ _ => n - (intOf x).toNat)
  case atStart => exact ⟨0, Nat.zero_le _, rfl, ⟨_, rfl⟩, rfl⟩
  case round =>
    obtain ⟨i, hin, rfl, ⟨s, rfl⟩, hwr⟩ := hrel
    obtain rfl := hwr.out
    by_cases hlt : i < n
    · obtain ⟨m, hm⟩ : ∃ m, l[i]? = some m := ⟨l[i]'(by rw [HN.out]; exact hlt), List.getElem?_eq_getElem _⟩
      obtain ⟨hbs, g, o, rfl, c1, c2⟩ := HC.out i m hm
      obtain ⟨aom, capm, hv, _⟩ := hbs
      rw [hv] at c2
      obtain ⟨ml, HML⟩ : ∃ ml, Hid (m.2.2.length = ml) := ⟨_, rfl⟩
      rw [HML.out] at c2
      have hili : (i : Int) < (n : Int) := by omega
      clear hm hv c1
      go_wp2_with fail
      go_roundw
      case rel => exact ⟨i + 1, by omega, by simp, ⟨_, rfl⟩, by first | exact rfl | exact trivial⟩
      case measure => simp [intOf]; omega
    · have hili : ¬ (i : Int) < (n : Int) := by omega
      go_wp2_with fail
      go_loopw [7] (fun x wr' => ∃ k : Nat, k ≤ rn ∧ x = .int .i64 (k : Int) ∧ Hid (wr' = wr)) (fun x _ => rn - (intOf x).toNat)
      case atStart => exact ⟨0, Nat.zero_le _, rfl, rfl⟩
      case round =>
        obtain ⟨k, hkn, rfl, hwk⟩ := hrel
        obtain rfl := hwk.out
        by_cases hkl : k < rn
        · obtain ⟨b, off, rfl, c1, c2, _⟩ := HX.out k (by rw [HRN.out]; exact hkl)
          generalize r.getD k (0, 0) = x at *
          have hkni : (k : Int) < (rn : Int) := by omega
          by_cases h1 : (5000 : Int) < x.2
          · by_cases h2 : x.2 ≤ 4194304
            · go_wp2_with fail
              go_ret
              exact hvP rfl
            · go_wp2_with fail
              go_roundw
              case rel => exact ⟨k + 1, by omega, by simp, by first | exact rfl | exact trivial⟩
              case measure => simp [intOf]; omega
          · go_wp2_with fail
            go_roundw
            case rel => exact ⟨k + 1, by omega, by simp, by first | exact rfl | exact trivial⟩
            case measure => simp [intOf]; omega
        · have hkni : ¬ (k : Int) < (rn : Int) := by omega
          by_cases h1 : (200000 : Int) < s
          · go_wp2_with fail
            go_ret
            exact hvP rfl
          · by_cases h2 : (100 : Int) < (rn : Int)
            · go_wp2_with fail
              go_ret
              exact hvP rfl
            · go_wp2_with fail
              go_ret
              exact hvP rfl
theorem ms_one {w : World} {g gb : Nat} {k : Int} {bs : List Int} {n : Nat} (hn : bs.length = n) (hg : w.heap[g]? = some (.cells #[.int .i64 k, .slice (some ⟨gb, 0, none⟩) n n] 56 (0, 0))) (hb : Bs w (.slice (some ⟨gb, 0, none⟩) n n) bs) : Ms w (.slice (some ⟨g, 0, none⟩) 1 1) [(k, .slice (some ⟨gb, 0, none⟩) n n, bs)] := by
  subst hn
  refine ⟨some ⟨g, 0, none⟩, 1, rfl, Nat.le_refl _, fun i m hm => ?_⟩
  cases i with
  | zero =>
    have e : m = (k, .slice (some ⟨gb, 0, none⟩) bs.length bs.length, bs) := by simpa using hm.symm
    subst e
    exact ⟨hb, g, 0, rfl, by simpa using cellO hg 0 rfl, by simpa using cellO hg 1 rfl⟩
  | succ i => simp at hm
theorem lives_sz (v : Value) : szN [(3, v, [97, 98])] = 14 ∧ szErr [(3, v, [97, 98])] = 0 ∧ layErr [(3, v, [97, 98])] [(40, 20), (0, 30)] = 0 := by
  have h1 : szErr [(3, v, [97, 98])] = 0 := by simp [szErr, longB, kindB]
  refine ⟨by simp [szN, h1, szOf], h1, ?_⟩
  unfold layErr
  have h2 : ([(40, 20), (0, 30)] : List Ext).any narrowB = false := by decide
  have h3 : meetsB ([(40, 20), (0, 30)] : List Ext) = false := by decide
  have h4 : roomOf ([(40, 20), (0, 30)] : List Ext) = 18 := by decide
  have h5 : szOf [(3, v, [97, 98])] = 14 := by simp [szOf]
  rw [h1, h2, h3, h4, h5]
  simp
/-- What lives asks of the blocks. -/
theorem lives_blk {v : Value} {L : List Blk} (h : L.map plB = layL [(3, v, [97, 98])] [(40, 20), (0, 30)]) : ∃ b1 b2, L = [b1, b2] ∧ b1.1 = 40 ∧ b1.2.2.length = 20 ∧ b1.2.2.getD 3 0 = 4 ∧ b1.2.2.getD 11 0 = 30 := by
  have hs : strm [(3, v, [97, 98])] = [0, 0, 0, 1, 0, 0, 0, 3, 0, 0, 0, 2, 97, 98] := by simp [strm, msgL, d4, dig2, digs, qd]
  rw [layL, if_pos (lives_sz v).2.2, hs] at h
  have hb : blksM [(40, 20), (0, 30)] [0, 0, 0, 1, 0, 0, 0, 3, 0, 0, 0, 2, 97, 98] = [(40, blkL [0, 0, 0, 1] (0, 30) 20), (0, blkL [0, 0, 0, 3, 0, 0, 0, 2, 97, 98] (0, 0) 30)] := by simp [blksM, rmX]
  rw [hb] at h
  match L, h with
  | [b1, b2], h =>
    simp only [List.map_cons, List.map_nil, List.cons.injEq, and_true] at h
    obtain ⟨h1, _⟩ := h
    have e1 : b1.1 = 40 := congrArg Prod.fst h1
    have e2 : b1.2.2 = blkL [0, 0, 0, 1] (0, 30) 20 := congrArg Prod.snd h1
    have e3 : blkP [0, 0, 0, 1] (0, 30) 20 = [0, 0, 0, 4, 0, 0, 0, 0, 0, 0, 0, 30, 0, 0, 0, 1] := by simp [blkP, d4, dig2, digs, qd]
    refine ⟨b1, b2, rfl, e1, ?_, ?_, ?_⟩
    · rw [e2, blkL_length (by decide)]
    · rw [e2, blkL, sealN, e3]; simp [List.getD]
    · rw [e2, blkL, sealN, e3]; simp [List.getD]
  | [], h => simp at h
  | [_], h => simp at h
  | _ :: _ :: _ :: _, h => simp at h
theorem al2g (w : World) (o : Obj) (C : Array Value) (U : TypeId) : ((w.alloc o).alloc (.cells C U)).heap[w.heap.size + 1]? = some (.cells C U (0, 0)) ∧ Below w.heap.size w ((w.alloc o).alloc (.cells C U)) ∧ Below (w.alloc o).heap.size (w.alloc o) ((w.alloc o).alloc (.cells C U)) ∧ ((w.alloc o).alloc (.cells C U)).heap.size = w.heap.size + 2 := by
  have h1 : Below w.heap.size w (w.alloc o) := (Below.refl _ _).alloc (Nat.le_refl _) _
  have hs : (w.alloc o).heap.size = w.heap.size + 1 := by simp
  refine ⟨?_, h1.alloc h1.size _, (Below.refl _ _).alloc (Nat.le_refl _) _, by simp⟩
  have := heap_alloc_new (w.alloc o) (.cells C U)
  rw [hs] at this
  exact this
theorem al3g (w : World) (o : Obj) (C E : Array Value) (U V : TypeId) : (((w.alloc o).alloc (.cells C U)).alloc (.cells E V)).heap[w.heap.size + 1]? = some (.cells C U (0, 0)) ∧ (((w.alloc o).alloc (.cells C U)).alloc (.cells E V)).heap[w.heap.size + 2]? = some (.cells E V (0, 0)) ∧ Below w.heap.size w (((w.alloc o).alloc (.cells C U)).alloc (.cells E V)) ∧ Below (w.alloc o).heap.size (w.alloc o) (((w.alloc o).alloc (.cells C U)).alloc (.cells E V)) := by
  obtain ⟨h2, h3, h5, h4⟩ := al2g w o C U
  refine ⟨?_, ?_, h3.alloc h3.size _, h5.alloc h5.size _⟩
  · rw [Below.heap_alloc _ _ _ (by rw [h4]; omega)]; exact h2
  · have := heap_alloc_new ((w.alloc o).alloc (.cells C U)) (.cells E V)
    rw [h4] at this
    exact this
/-- What Lay tells there. -/
def LvP (W : World) (e : Ending) (w' : World) : Prop := ∃ gv cap vb1 cap1, e = .returned (.tuple #[.slice (some ⟨gv, 0, none⟩) 2 cap, .int .i64 0]) ∧ w'.cell? ⟨gv, 0, none⟩ = some (.int .i64 40) ∧ w'.cell? ⟨gv, 1, none⟩ = some (.slice (some ⟨vb1, 0, none⟩) 20 cap1) ∧ w'.cell? ⟨vb1, 3, none⟩ = some (.int .u8 4) ∧ w'.cell? ⟨vb1, 11, none⟩ = some (.int .u8 30) ∧ Below W.heap.size W w'
set_option maxHeartbeats 4000000 in
theorem lives8_any (w : World) (hT : Tab w) (hX : NoX w) : Calls Tryd.prog 10 #[] w fun e w' => e = .returned (.bool true) ∧ Below w.heap.size w w' := by
  have HT : Hid (Tab w) := hT
  have HX : Hid (NoX w) := hX
  have HSZ : Hid (∀ W g gb, W.heap[g]? = some (.cells #[.int .i64 3, .slice (some ⟨gb, 0, none⟩) 2 2] 56 (0, 0)) → Bs W (.slice (some ⟨gb, 0, none⟩) 2 2) [97, 98] → Calls Tryd.prog 11 #[.slice (some ⟨g, 0, none⟩) 1 1] W fun e w' => e = .returned (.tuple #[.int .i64 14, .int .i64 0]) ∧ Below W.heap.size W w') := by
    intro W g gb h1 h2
    have h3 := size_any W _ _ (ms_one (n := 2) (bs := [97, 98]) rfl h1 h2) (by simp)
    rw [(lives_sz _).1, (lives_sz _).2.1] at h3
    exact h3
  have HLY : Hid (∀ W g gb gx, Below w.heap.size w W → W.heap[g]? = some (.cells #[.int .i64 3, .slice (some ⟨gb, 0, none⟩) 2 2] 56 (0, 0)) → Bs W (.slice (some ⟨gb, 0, none⟩) 2 2) [97, 98] → W.heap[gx]? = some (.cells #[.int .i64 40, .int .i64 20, .int .i64 0, .int .i64 30] 49 (0, 0)) → Calls Tryd.prog 15 #[.slice (some ⟨g, 0, none⟩) 1 1, .slice (some ⟨gx, 0, none⟩) 2 2] W fun e w' => LvP W e w') := by
    intro W g gb gx hW h1 h2 h3
    have h4 : Xs W (.slice (some ⟨gx, 0, none⟩) 2 2) [(40, 20), (0, 30)] := by
      refine ⟨_, 2, rfl, Nat.le_refl _, (fun h => by cases h), ?_⟩
      intro ad ha j u hj
      obtain rfl := Option.some.inj ha
      exact news_one (xs := [.int .i64 40, .int .i64 20, .int .i64 0, .int .i64 30]) h3 j u hj
    have h5 : EWs [(40, 20), (0, 30)] := by
      intro x hx
      simp at hx
      rcases hx with rfl | rfl <;> (unfold EW; simp)
    have h6 : MOk [((3 : Int), Value.slice (some ⟨gb, 0, none⟩) 2 2, ([97, 98] : List Int))] := by
      intro m hm
      simp at hm
      subst hm
      refine ⟨by simp, by simp, ?_⟩
      intro i
      match i with
      | 0 => simp
      | 1 => simp
      | i + 2 => simp [List.getD]
    refine (lay_any W _ _ _ _ (ms_one (n := 2) (bs := [97, 98]) rfl h1 h2) h6 (by simp) h4 h5 (by simp) (HT.out.below hW) (HX.out.below hW)).mono ?_
    rintro e w' ⟨v, L, rfl, hl, hk, hb⟩
    rw [(lives_sz _).2.2]
    obtain ⟨b1, b2, rfl, e1, e2, e3, e4⟩ := lives_blk hl
    have hr : w'.ownsRow W.heap.size 47 2 v 2 (gc encBk [b1, b2]) := hk.at_ (rowBk v [b1, b2]) (List.Mem.head _)
    have hr1 : w'.ownsRow W.heap.size 5 1 b1.2.1 b1.2.2.length (bcells b1.2.2) := hk.at_ (byR b1) (by simp)
    rcases ownsRow_shape hr with ⟨_, h0⟩ | ⟨gv, cap, rfl, _, _, _, _, _, hc⟩
    · omega
    · rcases ownsRow_shape hr1 with ⟨_, h0⟩ | ⟨gb1, cap1, hv1, _, _, _, _, _, hc1⟩
      · omega
      · rw [e2] at hv1
        refine ⟨gv, cap, gb1, cap1, rfl, ?_, ?_, ?_, ?_, hb⟩
        · rw [← e1]; exact hc 0 _ rfl
        · rw [← hv1]; exact hc 1 _ rfl
        · have h7 := hc1 3 (.int .u8 (b1.2.2.getD 3 0)) (by simp [bcells, List.getD, e2])
          rw [e3] at h7; exact h7
        · have h7 := hc1 11 (.int .u8 (b1.2.2.getD 11 0)) (by simp [bcells, List.getD, e2])
          rw [e4] at h7; exact h7
  have hcv := fun w => Lib.run_convert_bytes_const (P := Tryd.prog) w 31 5 #[.int .u8 97, .int .u8 98] 2 2 Tryd.underlying31 Tryd.underlying5
  clear hT hX
  go_enter Tryd.func10, Tryd.ntmps10
  go_wp2_with (first
    | (go_at_call 11; have ha := al2g w (.cells #[.int .u8 97, .int .u8 98] 5 (2, 3)) #[.int .i64 3, .slice (some ⟨w.heap.size, 0, none⟩) 2 2] 56; have HA : Hid (Below w.heap.size w ((w.alloc (.cells #[.int .u8 97, .int .u8 98] 5 (2, 3))).alloc (.cells #[.int .i64 3, .slice (some ⟨w.heap.size, 0, none⟩) 2 2] 56))) := ha.2.1; refine Calls.mono (HSZ.out _ (w.heap.size + 1) w.heap.size ha.1 ((Bs.made w [97, 98] #[.int .u8 97, .int .u8 98] rfl (2, 3)).below ha.2.2.1)) ?_; clear ha; rintro e w1 ⟨rfl, hb1⟩; have HB1 : Hid (Below w.heap.size w w1) := HA.out.trans (hb1.mono HA.out.size); clear hb1)
    | (go_at_call 15; have ha := al3g w1 (.cells #[.int .u8 97, .int .u8 98] 5 (2, 3)) #[.int .i64 3, .slice (some ⟨w1.heap.size, 0, none⟩) 2 2] #[.int .i64 40, .int .i64 20, .int .i64 0, .int .i64 30] 56 49; have HA2 : Hid (Below w.heap.size w (((w1.alloc (.cells #[.int .u8 97, .int .u8 98] 5 (2, 3))).alloc (.cells #[.int .i64 3, .slice (some ⟨w1.heap.size, 0, none⟩) 2 2] 56)).alloc (.cells #[.int .i64 40, .int .i64 20, .int .i64 0, .int .i64 30] 49))) := HB1.out.trans (ha.2.2.1.mono HB1.out.size); refine Calls.mono (HLY.out _ (w1.heap.size + 1) w1.heap.size (w1.heap.size + 2) HA2.out ha.1 ((Bs.made w1 [97, 98] #[.int .u8 97, .int .u8 98] rfl (2, 3)).below ha.2.2.2) ha.2.1) ?_; clear ha; rintro e w2 ⟨gv, cap, gb1, cap1, rfl, q1, q2, q3, q4, hb2⟩; have HB2 : Hid (Below w.heap.size w w2) := HA2.out.trans (hb2.mono HA2.out.size); clear hb2))
  go_ret
  exact ⟨rfl, HB2.out⟩
end Go.Proofs.YtdalkjenjnalbaaDoor

namespace Go.Proofs.YtdalkjenjnalbaaDoor
open Go.RowKit
set_option linter.unusedVariables false
set_option maxRecDepth 100000

theorem roomOf_cons (x : Ext) (r : List Ext) : roomOf (x :: r) = rmX x + roomOf r := by simp [roomOf]
theorem blks_len : ∀ (r : List Ext) (s : List Int), (blksM r s).length ≤ r.length
  | [], s => by simp [blksM]
  | x :: r, s => by
    by_cases h : s = []
    · rw [h, blksM_nil]; simp
    · rw [blksM_cons h, List.length_cons, List.length_cons]
      have := blks_len r (s.drop (rmX x))
      omega
theorem blks_at : ∀ (r : List Ext) (s : List Int), (∀ x ∈ r, Wd x) → ∀ (i : Nat) (b : Int × List Int), (blksM r s)[i]? = some b → ∃ x, r[i]? = some x ∧ b.1 = x.1 ∧ b.2.length = x.2.toNat ∧ roomOf (r.take i) < s.length
  | [], s, _, i, b, h => by simp [blksM] at h
  | x :: r, s, hw, i, b, h => by
    by_cases hs : s = []
    · rw [hs, blksM_nil] at h; simp at h
    · rw [blksM_cons hs] at h
      cases i with
      | zero =>
        have e : b = (x.1, blkL (s.take (rmX x)) (if s.drop (rmX x) = [] then (0, 0) else r.headD (0, 0)) x.2.toNat) := by simpa using h.symm
        subst e
        have hx := hw x List.mem_cons_self
        refine ⟨x, rfl, rfl, ?_, by simp [roomOf]; cases s with | nil => exact absurd rfl hs | cons a l => simp⟩
        refine blkL_length ?_
        rw [List.length_take]
        have h1 := hx.2.1
        unfold rmX
        omega
      | succ i =>
        have h' : (blksM r (s.drop (rmX x)))[i]? = some b := by simpa using h
        obtain ⟨y, h1, h2, h3, h4⟩ := blks_at r _ (fun z hz => hw z (List.mem_cons_of_mem _ hz)) i b h'
        refine ⟨y, by simpa using h1, h2, h3, ?_⟩
        rw [List.take_succ_cons, roomOf_cons]
        rw [List.length_drop] at h4
        omega
theorem blks_all : ∀ (r : List Ext) (s : List Int), s.length ≤ roomOf r → s.length ≤ roomOf (r.take (blksM r s).length)
  | [], s, h => by simpa [blksM] using h
  | x :: r, s, h => by
    by_cases hs : s = []
    · rw [hs]; simp
    · rw [blksM_cons hs, List.length_cons, List.take_succ_cons, roomOf_cons]
      rw [roomOf_cons] at h
      have := blks_all r (s.drop (rmX x)) (by rw [List.length_drop]; omega)
      rw [List.length_drop] at this
      omega
theorem roomOf_next {r : List Ext} {i : Nat} {x : Ext} (h : r[i]? = some x) : roomOf (r.take (i + 1)) = roomOf (r.take i) + rmX x := by
  rw [List.take_add_one, h]
  simp [roomOf]
theorem roomOf_le (r : List Ext) (hw : ∀ x ∈ r, Wd x) : roomOf r ≤ r.length * 4194304 := by
  induction r with
  | nil => simp [roomOf]
  | cons y q ihq =>
    have h1 := ihq (fun z hz => hw z (List.mem_cons_of_mem _ hz))
    have h2 := hw y List.mem_cons_self
    have h4 : rmX y ≤ 4194304 := by unfold rmX; have := h2.1; have := h2.2.1; have := h2.2.2; omega
    rw [roomOf_cons, List.length_cons, Nat.add_mul]
    omega
/-- What Size and Lay tell together. -/
theorem lay_cases (l : List Msg) (r : List Ext) : (szErr l ≠ 0 ∧ layErr l r = szErr l ∧ layL l r = []) ∨ (szErr l = 0 ∧ (layErr l r = 2 ∨ layErr l r = 3) ∧ layL l r = []) ∨ (szErr l = 0 ∧ r.length ≤ 65536 ∧ (∀ x ∈ r, Wd x) ∧ layErr l r = 7 ∧ (roomOf r : Int) < szOf l ∧ layL l r = []) ∨ (szErr l = 0 ∧ r.length ≤ 65536 ∧ (∀ x ∈ r, Wd x) ∧ layErr l r = 0 ∧ szOf l ≤ (roomOf r : Int) ∧ layL l r = blksM r (strm l)) := by
  by_cases h0 : szErr l = 0
  · right
    have hl : layErr l r = if 65536 < r.length then 3 else if r.any narrowB then 2 else if meetsB r then 2 else if (roomOf r : Int) < szOf l then 7 else 0 := by unfold layErr; rw [if_neg (by simp [h0])]
    by_cases h1 : 65536 < r.length
    · rw [if_pos h1] at hl
      exact .inl ⟨h0, .inr hl, by unfold layL; rw [hl, if_neg (by decide)]⟩
    · rw [if_neg h1] at hl
      by_cases h2 : r.any narrowB = true
      · rw [if_pos h2] at hl
        exact .inl ⟨h0, .inl hl, by unfold layL; rw [hl, if_neg (by decide)]⟩
      · rw [if_neg h2] at hl
        have hw : ∀ x ∈ r, Wd x := fun x hx => wide_of (by
          have h3 : r.any narrowB = false := by simpa using h2
          have := (List.any_eq_false.1 h3) x hx
          simpa using this)
        by_cases h3 : meetsB r = true
        · rw [if_pos h3] at hl
          exact .inl ⟨h0, .inl hl, by unfold layL; rw [hl, if_neg (by decide)]⟩
        · rw [if_neg h3] at hl
          right
          by_cases h4 : (roomOf r : Int) < szOf l
          · rw [if_pos h4] at hl
            exact .inl ⟨h0, by omega, hw, hl, h4, by unfold layL; rw [hl, if_neg (by decide)]⟩
          · rw [if_neg h4] at hl
            exact .inr ⟨h0, by omega, hw, hl, by omega, by unfold layL; rw [if_pos hl]⟩
  · have e : layErr l r = szErr l := by unfold layErr; rw [if_pos h0]
    exact .inl ⟨h0, e, by unfold layL; rw [e, if_neg h0]⟩
theorem szOf_bd {l : List Msg} (h : szErr l = 0) : szN l = szOf l ∧ 0 ≤ szOf l ∧ szOf l ≤ 5000000000 := by
  obtain ⟨h1, h2, h3⟩ := szErr_zero h
  have h4 := szTo_bd h2 l.length
  have h5 : szTo l l.length = szOf l := by unfold szTo szOf; rw [List.take_length]
  rw [h5] at h4
  exact ⟨by rw [szN, if_pos h], h4.1, by omega⟩
/-- Blocks as they lie in memory. -/
theorem BkS.cells {w : World} {B : Nat} {v : Value} {L : List Blk} (h : BkS w B v L) : ∃ ao cap, v = .slice ao L.length cap ∧ ∀ (i : Nat) (b : Blk), L[i]? = some b → ∃ g gb capb, ao = some ⟨g, 0, none⟩ ∧ w.cell? ⟨g, i * 2, none⟩ = some (.int .i64 b.1) ∧ w.cell? ⟨g, i * 2 + 1, none⟩ = some (.slice gb b.2.2.length capb) ∧ b.2.1 = .slice gb b.2.2.length capb := by
  have hr : w.ownsRow B 47 2 v L.length (gc encBk L) := h.at_ (rowBk v L) (List.Mem.head _)
  obtain ⟨ao, cap, hv⟩ := row_sliceE hr
  refine ⟨ao, cap, hv, fun i b hb => ?_⟩
  have hi := (List.getElem?_eq_some_iff.1 hb).1
  have hrb : w.ownsRow B 5 1 b.2.1 b.2.2.length (bcells b.2.2) := h.at_ (byR b) (List.mem_cons_of_mem _ (List.mem_map.2 ⟨b, List.mem_of_getElem? hb, rfl⟩))
  obtain ⟨gb, capb, hvb⟩ := row_sliceE hrb
  rcases ownsRow_shape hr with ⟨_, h0⟩ | ⟨g, cap', hg, _, _, _, _, _, hc⟩
  · omega
  · rw [hv] at hg
    injection hg with e1 e2 e3
    have c0 := hc _ _ (gc_at encBk_len L i b hb 0 _ rfl)
    have c1 := hc _ _ (gc_at encBk_len L i b hb 1 _ rfl)
    rw [hvb] at c1
    exact ⟨g, gb, capb, e1, by simpa using c0, c1, hvb⟩
end Go.Proofs.YtdalkjenjnalbaaDoor

namespace Go.Proofs.YtdalkjenjnalbaaDoor
open Go.RowKit
set_option linter.unusedVariables false
set_option maxRecDepth 100000

def encM (m : Msg) : List Value := [.int .i64 m.1, m.2.1]
theorem encM_len (m : Msg) : (encM m).length = 2 := rfl
theorem Tryd.infoRM : (Tryd.prog.info? 64).map (fun i => (i.zero, i.size, i.bytes)) = some (some (.agg #[.int .i64 0, .slice none 0 0]), 2, 32) := by kernel_rfl
theorem ms_of_row {w : World} {B n : Nat} {T : TypeId} {v : Value} {l : List Msg} (hl : l.length = n) (h : w.ownsRow B T 2 v n (gc encM l)) (hb : ∀ (i : Nat) (m : Msg), l[i]? = some m → Bs w m.2.1 m.2.2) : Ms w v l := by
  subst hl
  rcases ownsRow_shape h with ⟨rfl, h0⟩ | ⟨g, cap, rfl, _, _, hc, _, _, hcell⟩
  · refine ⟨none, 0, by rw [h0], by omega, fun i m hm => ?_⟩
    have := (List.getElem?_eq_some_iff.1 hm).1
    omega
  · refine ⟨some ⟨g, 0, none⟩, cap, rfl, hc, fun i m hm => ⟨hb i m hm, g, 0, rfl, ?_, ?_⟩⟩
    · have := hcell _ _ (gc_at encM_len l i m hm 0 _ rfl)
      simpa using this
    · have := hcell _ _ (gc_at encM_len l i m hm 1 _ rfl)
      simpa using this
set_option maxHeartbeats 4000000 in
theorem plain_any (w : World) (v : Value) (l : List Msg) (hM : Ms w v l) (hn : l.length ≤ 4398046510976) :
    Calls Tryd.prog 13 #[v] w fun e w' => ∃ v', e = .returned v' ∧ Ms w' v' l ∧ Below w.heap.size w w' := by
  obtain ⟨i1, hi1, hy0, hy1, hy2⟩ := info_parts2 Tryd.infoRM
  obtain ⟨ao, cap, rfl, hcap, hc⟩ := hM
  have HC : Hid _ := hc
  obtain ⟨n, HN⟩ : ∃ n, Hid (l.length = n) := ⟨_, rfl⟩
  rw [HN.out] at hcap hn ⊢
  have HR0 : Hid (w.ownsRow w.heap.size 64 2 (.slice none 0 0) 0 []) := ⟨rfl, .inl ⟨rfl, rfl⟩⟩
  clear hc
  go_enter Tryd.func13, Tryd.ntmps13
  go_wp2_with fail
  go_loopw [4, 3] (fun x y wr => ∃ (i : Nat) (aoY : Option Addr) (capY : Nat), i ≤ n ∧ x = .int .i64 (i : Int) ∧ y = .slice aoY i capY ∧ Hid (wr.ownsRow w.heap.size 64 2 (.slice aoY i capY) i (gc encM (l.take i))) ∧ Hid (Below w.heap.size w wr)) (fun x _ _ => n - (intOf x).toNat)
  case atStart => exact ⟨0, none, 0, Nat.zero_le _, rfl, rfl, HR0.out, Below.refl _ _⟩
  case round =>
    obtain ⟨i, aoY, capY, hin, rfl, rfl, HR, HB⟩ := hrel
    clear HR0
    by_cases hlt : i < n
    · obtain ⟨m, hm⟩ : ∃ m, l[i]? = some m := ⟨l[i]'(by rw [HN.out]; exact hlt), List.getElem?_eq_getElem _⟩
      obtain ⟨hbs, g, o, rfl, c1, c2⟩ := HC.out i m hm
      obtain ⟨aom, capm, hv, _⟩ := hbs
      have HT : Hid (gc encM (l.take (i + 1)) = gc encM (l.take i) ++ [.int .i64 m.1, .slice aom m.2.2.length capm]) := by unfold Hid; rw [List.take_add_one, hm, gc_append]; show _ ++ gc encM [m] = _; rw [gc_one, encM, hv]
      rw [hv] at c2
      obtain ⟨ml, HML⟩ : ∃ ml, Hid (m.2.2.length = ml) := ⟨_, rfl⟩
      rw [HML.out] at c2 HT
      have d1 : wr.cell? ⟨g, o + i * 2, none⟩ = some (.int .i64 m.1) := (HB.out.cell (World.block_lt_of_cell? w _ c1)).trans c1
      have d2 : wr.cell? ⟨g, o + i * 2 + 1, none⟩ = some (.slice aom ml capm) := (HB.out.cell (World.block_lt_of_cell? w _ c2)).trans c2
      have hili : (i : Int) < (n : Int) := by omega
      have HWB : Hid (Below wr.heap.size wr (wr.drew.alloc (.cells #[.int .i64 m.1, .slice aom ml capm] 64))) := (Below.refl _ _).drew.alloc (Nat.le_refl _) _
      have HGX : Hid ((wr.drew.alloc (.cells #[.int .i64 m.1, .slice aom ml capm] 64)).heap[wr.heap.size]? = some (.cells #[.int .i64 m.1, .slice aom ml capm] 64 (0, 0))) := heap_alloc_new wr.drew _
      have HRW : Hid ((wr.drew.alloc (.cells #[.int .i64 m.1, .slice aom ml capm] 64)).ownsRow w.heap.size 64 2 (.slice aoY i capY) i (gc encM (l.take i))) := ownsRow_below HR.out HWB.out
      have HBW : Hid (Below w.heap.size w (wr.drew.alloc (.cells #[.int .i64 m.1, .slice aom ml capm] 64))) := HB.out.trans (HWB.out.mono HB.out.size)
      clear hm hv c1 c2
      go_upto_region 5 with fail
      go_region_law (refine step_append_G 24 rfl rfl (.tmp 11) (.tmp 23) 29 64 rfl i1 Tryd.underlying29 hi1 _ hy0 2 32 hy1 hy2 rfl (by omega) w.heap.size (.slice aoY i capY) i (gc encM (l.take i)) ⟨wr.heap.size, 0, none⟩ 1 1 [.int .i64 m.1, .slice aom ml capm] rfl rfl HRW.out rfl (news_one HGX.out) (by intro u hu; simp at hu; rcases hu with rfl | rfl <;> rfl) (by omega) (by omega) (by omega) HBW.out.size ?_; intro g3 cap3 w3 ho3 hg3 ha3; have HO3 : Hid (w3.ownsRow w.heap.size 64 2 (.slice (some ⟨g3, 0, none⟩) (i + 1) cap3) (i + 1) (gc encM (l.take i) ++ [.int .i64 m.1, .slice aom ml capm])) := ho3; have HB3 : Hid (Below w.heap.size w w3) := blk_below HBW.out HRW.out hg3; clear ho3 hg3 ha3)
      all_goals
        go_wp2_with fail
        go_roundw
        case rel => exact ⟨i + 1, some ⟨g3, 0, none⟩, cap3, by omega, by simp, rfl, by unfold Hid; rw [HT.out]; exact HO3.out, HB3.out⟩
        case measure => simp [intOf]; omega
    · obtain rfl : i = n := by omega
      have HE : Hid (Ms wr (.slice aoY i capY) l) := by
        have h := HR.out
        rw [List.take_of_length_le (by rw [HN.out]; exact Nat.le_refl _)] at h
        exact ms_of_row HN.out h (fun j m hm => ((HC.out j m hm).1).below HB.out)
      have hii : ¬ (i : Int) < (i : Int) := by omega
      go_wp2_with fail
      go_ret
      exact ⟨_, rfl, HE.out, HB.out⟩
set_option maxHeartbeats 4000000 in
theorem refMay8_any (w : World) (v : Value) (l : List Msg) (hM : Ms w v l) (hn : l.length ≤ 140737488351232) :
    Calls Tryd.prog 12 #[v] w fun e w' => e = .returned (.int .i64 (szErr l)) ∧ w' = w := by
  obtain ⟨ao, cap, rfl, hcap, hc⟩ := hM
  have HC : Hid _ := hc
  obtain ⟨n, HN⟩ : ∃ n, Hid (l.length = n) := ⟨_, rfl⟩
  obtain ⟨er, HER⟩ : ∃ er, Hid (szErr l = er) := ⟨_, rfl⟩
  have HSE : Hid (er = if 65536 < n then 3 else if l.any longB then 3 else if l.any kindB then 2 else 0) := by unfold Hid; rw [← HER.out, szErr, HN.out]
  rw [HN.out] at hcap hn ⊢
  rw [HER.out]
  clear hc
  by_cases hbig : 65536 < n
  · have hbi : (65536 : Int) < (n : Int) := by omega
    have e1 : er = 3 := by rw [HSE.out, if_pos hbig]
    subst e1
    go_enter Tryd.func12, Tryd.ntmps12
    go_wp2_with fail
    go_ret
    exact ⟨rfl, rfl⟩
  · have hbi : ¬ (65536 : Int) < (n : Int) := by omega
    have hse : er = if l.any longB then 3 else if l.any kindB then 2 else 0 := by rw [HSE.out, if_neg hbig]
    have HSE2 : Hid (er = if l.any longB then 3 else if l.any kindB then 2 else 0) := hse
    clear hse HSE
    go_enter Tryd.func12, Tryd.ntmps12
    go_wp2_with fail
    go_loopw [3] (fun x wr => ∃ i : Nat, i ≤ n ∧ x = .int .i64 (i : Int) ∧ Hid ((l.take i).any longB = false) ∧ Hid (wr = w)) (fun x _ => n - (intOf x).toNat)
    case atStart => exact ⟨0, Nat.zero_le _, rfl, rfl, rfl⟩
    case round =>
      obtain ⟨i, hin, rfl, HA, hwr⟩ := hrel
      obtain rfl := hwr.out
      clear hwr
      by_cases hlt : i < n
      · obtain ⟨m, hm⟩ : ∃ m, l[i]? = some m := ⟨l[i]'(by rw [HN.out]; exact hlt), List.getElem?_eq_getElem _⟩
        obtain ⟨hbs, g, o, rfl, c1, c2⟩ := HC.out i m hm
        obtain ⟨aom, capm, hv, _⟩ := hbs
        rw [hv] at c2
        have HT : Hid ((l.take (i + 1)).any longB = longB m) := by unfold Hid; rw [List.take_add_one, hm, List.any_append, HA.out]; simp
        have HAL : Hid (longB m = true → er = 3) := fun h => by rw [HSE2.out, if_pos (List.any_eq_true.2 ⟨m, List.mem_of_getElem? hm, h⟩)]
        have HLB : Hid (longB m = decide (65536 < (m.2.2.length : Int))) := rfl
        obtain ⟨ml, HML⟩ : ∃ ml, Hid (m.2.2.length = ml) := ⟨_, rfl⟩
        rw [HML.out] at c2 HLB
        have hili : (i : Int) < (n : Int) := by omega
        clear hm hv
        by_cases hl : (65536 : Int) < (ml : Int)
        · have e1 : er = 3 := HAL.out (by rw [HLB.out]; simpa using hl)
          subst e1
          go_wp2_with fail
          go_ret
          exact ⟨rfl, rfl⟩
        · have HF : Hid (longB m = false) := by unfold Hid; rw [HLB.out]; simpa using hl
          go_wp2_with fail
          go_roundw
          case rel => exact ⟨i + 1, by omega, by simp, by unfold Hid; rw [HT.out, HF.out], by first | exact rfl | exact trivial⟩
          case measure => simp [intOf]; omega
      · obtain rfl : i = n := by omega
        have hii : ¬ (i : Int) < (i : Int) := by omega
        have HE : Hid (l.any longB = false) := by have h := HA.out; rwa [List.take_of_length_le (by rw [HN.out]; exact Nat.le_refl _)] at h
        have HSE3 : Hid (er = if l.any kindB then 2 else 0) := by unfold Hid; rw [HSE2.out, HE.out]; simp
        go_wp2_with fail
        go_loopw [4] (fun x wr' => ∃ k : Nat, k ≤ i ∧ x = .int .i64 (k : Int) ∧ Hid ((l.take k).any kindB = false) ∧ Hid (wr' = wr)) (fun x _ => i - (intOf x).toNat)
        case atStart => exact ⟨0, Nat.zero_le _, rfl, rfl, rfl⟩
        case round =>
          obtain ⟨k, hkn, rfl, HK, hwr⟩ := hrel
          obtain rfl := hwr.out
          clear hwr
          by_cases hlt : k < i
          · obtain ⟨m, hm⟩ : ∃ m, l[k]? = some m := ⟨l[k]'(by rw [HN.out]; exact hlt), List.getElem?_eq_getElem _⟩
            obtain ⟨_, g, o, rfl, c1, c2⟩ := HC.out k m hm
            have HT : Hid ((l.take (k + 1)).any kindB = kindB m) := by unfold Hid; rw [List.take_add_one, hm, List.any_append, HK.out]; simp
            have HAL : Hid (kindB m = true → er = 2) := fun h => by rw [HSE3.out, if_pos (List.any_eq_true.2 ⟨m, List.mem_of_getElem? hm, h⟩)]
            have HKB : Hid (kindB m = (decide (m.1 < 1) || decide (255 < m.1))) := rfl
            obtain ⟨ki, HKI⟩ : ∃ ki, Hid (m.1 = ki) := ⟨_, rfl⟩
            rw [HKI.out] at c1 HKB
            have hili : (k : Int) < (i : Int) := by omega
            clear hm c2
            by_cases h1 : ki < 1
            · have e1 : er = 2 := HAL.out (by rw [HKB.out]; simp [h1])
              subst e1
              go_wp2_with fail
              go_ret
              exact ⟨rfl, rfl⟩
            · by_cases h2 : 255 < ki
              · have e1 : er = 2 := HAL.out (by rw [HKB.out]; simp [h2])
                subst e1
                go_wp2_with fail
                go_ret
                exact ⟨rfl, rfl⟩
              · have HF : Hid (kindB m = false) := by unfold Hid; rw [HKB.out]; simp; omega
                go_wp2_with fail
                go_roundw
                case rel => exact ⟨k + 1, by omega, by simp, by unfold Hid; rw [HT.out, HF.out], by first | exact rfl | exact trivial⟩
                case measure => simp [intOf]; omega
          · obtain rfl : k = i := by omega
            have hkk : ¬ (k : Int) < (k : Int) := by omega
            have HKE : Hid (l.any kindB = false) := by have h := HK.out; rwa [List.take_of_length_le (by rw [HN.out]; exact Nat.le_refl _)] at h
            have e1 : er = 0 := by rw [HSE3.out, HKE.out]; simp
            subst e1
            go_wp2_with fail
            go_ret
            exact ⟨rfl, rfl⟩
set_option maxHeartbeats 4000000 in
theorem refStream_any (w : World) (v : Value) (l : List Msg) (hM : Ms w v l) (hn : l.length ≤ 65536) (hL : l.any longB = false) (hK : l.any kindB = false) :
    Calls Tryd.prog 14 #[v] w fun e w' => ∃ v', e = .returned v' ∧ Own w' w.heap.size v' (strm l) ∧ Below w.heap.size w w' := by
  obtain ⟨i0, hi, hz0, hz1, hz2⟩ := info_parts Tryd.info5
  obtain ⟨ao, cap, rfl, hcap, hc⟩ := hM
  have HC : Hid _ := hc
  have HLL : Hid _ := any_false_len hL
  have HKK : Hid (∀ (i : Nat) (m : Msg), l[i]? = some m → 1 ≤ m.1 ∧ m.1 ≤ 255) := by
    intro i m hm
    have := (List.any_eq_false.1 hK) m (List.mem_of_getElem? hm)
    simp [kindB] at this
    omega
  have HLEN : Hid (∀ i : Nat, i ≤ 65536 → (strmTo l i).length ≤ 5000000000) := by
    intro i hi
    have h1 := strmTo_len l i
    have h2 := szTo_bd hL i
    omega
  have HNX : Hid (∀ (i : Nat) (m : Msg), l[i]? = some m → strmTo l (i + 1) = strmTo l i ++ msgL m) := fun i m h => strmTo_next h
  obtain ⟨n, HN⟩ : ∃ n, Hid (l.length = n) := ⟨_, rfl⟩
  have HS0 : Hid (strmTo l 0 = d4 (n : Int)) := by unfold Hid strmTo; rw [HN.out]; simp
  have HSE : Hid (strmTo l n = strm l) := by unfold Hid strmTo strm; rw [← HN.out, List.take_length]
  rw [HN.out] at hn hcap ⊢
  have hwn : IntKind.u64.wrap (n : Int) = (n : Int) := by simp [IntKind.wrap, IntKind.bits, IntKind.signed]; omega
  have HDG : Hid (∀ (u : Int) (W : World), 0 ≤ u → u < 4294967296 → Calls Tryd.prog 28 #[.int .i64 4, .bool true, .int .u64 u] W fun e w' => ∃ v', e = .returned v' ∧ Own w' W.heap.size v' (d4 u) ∧ Below W.heap.size W w') := fun u W h0 h1 => refDigits_four u W h0 (by omega)
  clear hc hL hK
  go_enter Tryd.func14, Tryd.ntmps14
  go_wp2_with (go_at_call 28; refine Calls.mono (HDG.out (n : Int) _ (by omega) (by omega)) ?_; rintro e w1 ⟨v1, rfl, ho1, hb1⟩; have HO1 : Hid (Own w1 w.heap.size v1 (d4 (n : Int))) := ho1; have HB1 : Hid (Below w.heap.size w w1) := hb1; clear ho1 hb1)
  go_loopw [4, 3] (fun x y wr => ∃ i : Nat, i ≤ n ∧ x = .int .i64 (i : Int) ∧ Hid (Own wr w.heap.size y (strmTo l i)) ∧ Hid (Below w.heap.size w wr)) (fun x _ _ => n - (intOf x).toNat)
  case atStart => exact ⟨0, Nat.zero_le _, rfl, by unfold Hid; rw [HS0.out]; exact HO1.out, HB1.out⟩
  case round =>
    obtain ⟨i, hin, rfl, HO, HB⟩ := hrel
    clear HO1 HB1
    by_cases hlt : i < n
    · obtain ⟨m, hm⟩ : ∃ m, l[i]? = some m := ⟨l[i]'(by rw [HN.out]; exact hlt), List.getElem?_eq_getElem _⟩
      obtain ⟨hbs, g, o, rfl, c1, c2⟩ := HC.out i m hm
      have HBS : Hid (Bs w m.2.1 m.2.2) := hbs
      obtain ⟨aom, capm, hv, _⟩ := hbs
      have hml := HLL.out i m hm
      obtain ⟨hk1, hk2⟩ := HKK.out i m hm
      have HN2 : Hid (strmTo l (i + 1) = ((strmTo l i ++ d4 m.1) ++ d4 m.2.2.length) ++ m.2.2) := by unfold Hid; rw [HNX.out i m hm, msgL]; simp
      have HLI : Hid ((strmTo l i).length ≤ 5000000000) := HLEN.out i (by omega)
      rw [hv] at c2 HBS
      obtain ⟨k, HKe⟩ : ∃ k, Hid (m.1 = k) := ⟨_, rfl⟩
      rw [HKe.out] at c1 hk1 hk2 HN2
      obtain ⟨bl, HBl⟩ : ∃ bl, Hid (m.2.2 = bl) := ⟨_, rfl⟩
      rw [HBl.out] at c2 hml HN2 HBS
      obtain ⟨ml, HML⟩ : ∃ ml, Hid (bl.length = ml) := ⟨_, rfl⟩
      rw [HML.out] at c2 hml HN2 HBS
      have HCA : Hid (∀ W, Below w.heap.size w W → W.cell? ⟨g, o + i * 2, none⟩ = some (.int .i64 k) ∧ W.cell? ⟨g, o + i * 2 + 1, none⟩ = some (.slice aom ml capm)) := fun W hW => ⟨(hW.cell (World.block_lt_of_cell? w _ c1)).trans c1, (hW.cell (World.block_lt_of_cell? w _ c2)).trans c2⟩
      obtain ⟨d1, d2⟩ := HCA.out wr HB.out
      have hwk : IntKind.u64.wrap k = k := by simp [IntKind.wrap, IntKind.bits, IntKind.signed]; omega
      have hwm : IntKind.u64.wrap (ml : Int) = (ml : Int) := by simp [IntKind.wrap, IntKind.bits, IntKind.signed]; omega
      have hili : (i : Int) < (n : Int) := by omega
      obtain ⟨p, HP⟩ : ∃ p, Hid ((strmTo l i).length = p) := ⟨_, rfl⟩
      have hp : p ≤ 5000000000 := by rw [← HP.out]; exact HLI.out
      have HP1 : Hid ((strmTo l i ++ d4 k).length = p + 4) := by unfold Hid; rw [List.length_append, d4_length, HP.out]
      have HP2 : Hid (((strmTo l i ++ d4 k) ++ d4 (ml : Int)).length = p + 4 + 4) := by unfold Hid; rw [List.length_append, d4_length, HP1.out]
      have HDK : Hid ((d4 k).length = 4) := d4_length _
      have HDM : Hid ((d4 (ml : Int)).length = 4) := d4_length _
      clear c1 c2 hv hm
      go_wp2_with (first
        | (have hg := HB5; clear hg; at_builtin; refine wpList_append_bg w5 rfl (.tmp 34) (.tmp 39) 31 rfl i0 Tryd.underlying31 hi hz0 hz1 hz2 w.heap.size (.slice ao5 (p + 4 + 4) cap5) (.slice aom ml capm) ((strmTo l i ++ d4 k) ++ d4 (ml : Int)) bl (p + 4 + 4) ml HP2.out HML.out rfl rfl HO5.out (HBS.out.below HB5.out) (by omega) HB5.out.size ?_; intro ao6 cap6 w6 ho6 hg6 _; have HB6 : Hid (Below w.heap.size w w6) := below_gr8 HB5.out HO5.out hg6; have HO6 : Hid (Own w6 w.heap.size (.slice ao6 (p + 4 + 4 + ml) cap6) (((strmTo l i ++ d4 k) ++ d4 (ml : Int)) ++ bl)) := ho6; clear ho6 hg6)
        | (have hg := HB4; clear hg; at_builtin; refine wpList_append_bg w4 rfl (.tmp 24) (.tmp 32) 31 rfl i0 Tryd.underlying31 hi hz0 hz1 hz2 w.heap.size (.slice ao3 (p + 4) cap3) v4 (strmTo l i ++ d4 k) (d4 (ml : Int)) (p + 4) 4 HP1.out HDM.out rfl rfl HO4.out HD4.out (by omega) HB4.out.size ?_; intro ao5 cap5 w5 ho5 hg5 _; have HB5 : Hid (Below w.heap.size w w5) := below_gr8 HB4.out HO4.out hg5; have HO5 : Hid (Own w5 w.heap.size (.slice ao5 (p + 4 + 4) cap5) ((strmTo l i ++ d4 k) ++ d4 (ml : Int))) := ho5; have e5 := (HCA.out w5 HB5.out).2; clear ho5 hg5)
        | (have hg := HB3; clear hg; go_at_call 28; refine Calls.mono (HDG.out (ml : Int) _ (by omega) (by omega)) ?_; rintro e w4 ⟨v4, rfl, ho4, hb4⟩; have HD4 : Hid (Bs w4 v4 (d4 (ml : Int))) := ho4.bs; have HB4 : Hid (Below w.heap.size w w4) := HB3.out.trans (hb4.mono HB3.out.size); have HO4 : Hid (Own w4 w.heap.size (.slice ao3 (p + 4) cap3) (strmTo l i ++ d4 k)) := HO3.out.below hb4; clear ho4 hb4)
        | (have hg := HB2; clear hg; at_builtin; refine wpList_append_bg w2 rfl (.tmp 15) (.tmp 22) 31 rfl i0 Tryd.underlying31 hi hz0 hz1 hz2 w.heap.size u3 v2 (strmTo l i) (d4 k) p 4 HP.out HDK.out rfl rfl HO2.out HD2.out (by omega) HB2.out.size ?_; intro ao3 cap3 w3 ho3 hg3 _; have HB3 : Hid (Below w.heap.size w w3) := below_gr8 HB2.out HO2.out hg3; have HO3 : Hid (Own w3 w.heap.size (.slice ao3 (p + 4) cap3) (strmTo l i ++ d4 k)) := ho3; have e3 := (HCA.out w3 HB3.out).2; clear ho3 hg3)
        | (go_at_call 28; refine Calls.mono (HDG.out k _ (by omega) (by omega)) ?_; rintro e w2 ⟨v2, rfl, ho2, hb2⟩; have HD2 : Hid (Bs w2 v2 (d4 k)) := ho2.bs; have HB2 : Hid (Below w.heap.size w w2) := HB.out.trans (hb2.mono HB.out.size); have HO2 : Hid (Own w2 w.heap.size u3 (strmTo l i)) := HO.out.below hb2; clear ho2 hb2))
      go_roundw
      case rel => exact ⟨i + 1, by omega, by simp, by unfold Hid; rw [HN2.out]; exact HO6.out, HB6.out⟩
      case measure => simp [intOf]; omega
    · obtain rfl : i = n := by omega
      have hii : ¬ (i : Int) < (i : Int) := by omega
      have HE : Hid (Own wr w.heap.size u3 (strm l)) := by unfold Hid; rw [← HSE.out]; exact HO.out
      go_wp2_with fail
      go_ret
      exact ⟨_, rfl, HE.out, HB.out⟩
end Go.Proofs.YtdalkjenjnalbaaDoor

namespace Go.Proofs.YtdalkjenjnalbaaDoor
open Go.RowKit
set_option linter.unusedVariables false
set_option maxRecDepth 100000
set_option maxHeartbeats 2000000

theorem drewN_belowE (w : World) (k : Nat) : Below w.heap.size w (w.drewN k) := ⟨rfl, rfl, rfl, Nat.le_refl _, fun _ _ => rfl⟩
theorem sameMs_yes (va vb : Value) (la lb : List Msg) (w : World) (ha : Ms w va la) (hb : Ms w vb lb) (hl : la.length = lb.length) (he : ∀ (i : Nat) (a b : Msg), la[i]? = some a → lb[i]? = some b → a.1 = b.1 ∧ a.2.2 = b.2.2) (hn : la.length ≤ 281474976710656) :
    Calls Tryd.prog 19 #[va, vb] w fun e w' => e = .returned (.bool true) ∧ Below w.heap.size w w' := by
  obtain ⟨aoa, ca, rfl, hca, hA⟩ := ha
  obtain ⟨aob, cb, rfl, hcb, hB⟩ := hb
  have HA : Hid _ := hA
  have HB : Hid _ := hB
  have HE : Hid _ := he
  obtain ⟨n, HN⟩ : ∃ n, Hid (la.length = n) := ⟨_, rfl⟩
  have HM : Hid (lb.length = n) := by unfold Hid; rw [← hl]; exact HN.out
  rw [HN.out] at hca hn ⊢
  rw [HM.out] at hcb ⊢
  clear hA hB he hl
  go_enter Tryd.func19, Tryd.ntmps19
  go_wp2
  go_loopw [5] (fun x wr => ∃ i : Nat, i ≤ n ∧ x = .int .i64 (i : Int) ∧ Hid (Below w.heap.size w wr)) (fun x _ => n - (intOf x).toNat)
  case atStart => exact ⟨0, Nat.zero_le _, rfl, Below.refl _ _⟩
  case round =>
    obtain ⟨i, hi, rfl, HW⟩ := hrel
    by_cases hlt : i < n
    · have hia : i < la.length := by rw [HN.out]; exact hlt
      have hib : i < lb.length := by rw [HM.out]; exact hlt
      obtain ⟨⟨ka, xa, ya⟩, ea⟩ : ∃ a, la[i]? = some a := ⟨la[i], List.getElem?_eq_getElem hia⟩
      obtain ⟨⟨kb, xb, yb⟩, eb⟩ : ∃ b, lb[i]? = some b := ⟨lb[i], List.getElem?_eq_getElem hib⟩
      obtain ⟨e1, e2⟩ := HE.out i _ _ ea eb
      dsimp only at e1 e2
      subst e1; subst e2
      obtain ⟨sa, ga, oa, rfl, c1, c2⟩ := HA.out i _ ea
      obtain ⟨sb, gb, ob, rfl, c3, c4⟩ := HB.out i _ eb
      dsimp only at sa sb c1 c2 c3 c4
      have d1 := (HW.out.cell (World.block_lt_of_cell? w _ c1)).trans c1
      have d2 := (HW.out.cell (World.block_lt_of_cell? w _ c2)).trans c2
      have d3 := (HW.out.cell (World.block_lt_of_cell? w _ c3)).trans c3
      have d4 := (HW.out.cell (World.block_lt_of_cell? w _ c4)).trans c4
      have t1 : ∀ k, Sem.run Tryd.prog (convert 31 9 xa) (wr.drewN k) = .ok (.string (strOfNums ya)) (wr.drewN k) := fun k => ((sa.below (HW.out)).below (drewN_belowE wr k)).str Tryd.underlying31 Tryd.underlying5 Tryd.underlying9
      have t2 : ∀ k, Sem.run Tryd.prog (convert 31 9 xb) (wr.drewN k) = .ok (.string (strOfNums ya)) (wr.drewN k) := fun k => ((sb.below (HW.out)).below (drewN_belowE wr k)).str Tryd.underlying31 Tryd.underlying5 Tryd.underlying9
      have hk : (ka != ka) = false := by simp
      have hili : (i : Int) < (n : Int) := by omega
      have HX : Hid (∀ k, Below w.heap.size w (wr.drewN k)) := fun k => HW.out.trans ((drewN_belowE wr k).mono HW.out.size)
      clear ea eb c1 c2 c3 c4 sa sb hia hib
      go_wp2
      go_quiet (fail)
      go_wp2
      go_roundw
      case rel => exact ⟨i + 1, by omega, by go_num, HX.out _⟩
      case measure => simp [intOf]; omega
    · have hili : ¬ (i : Int) < (n : Int) := by omega
      go_wp2
      go_ret
      exact ⟨rfl, HW.out⟩
theorem sameBk_yes (va vb : Value) (la lb : List Msg) (w : World) (ha : Ms w va la) (hb : Ms w vb lb) (hl : la.length = lb.length) (he : ∀ (i : Nat) (a b : Msg), la[i]? = some a → lb[i]? = some b → a.1 = b.1 ∧ a.2.2 = b.2.2) (hn : la.length ≤ 281474976710656) :
    Calls Tryd.prog 18 #[va, vb] w fun e w' => e = .returned (.bool true) ∧ Below w.heap.size w w' := by
  obtain ⟨aoa, ca, rfl, hca, hA⟩ := ha
  obtain ⟨aob, cb, rfl, hcb, hB⟩ := hb
  have HA : Hid _ := hA
  have HB : Hid _ := hB
  have HE : Hid _ := he
  obtain ⟨n, HN⟩ : ∃ n, Hid (la.length = n) := ⟨_, rfl⟩
  have HM : Hid (lb.length = n) := by unfold Hid; rw [← hl]; exact HN.out
  rw [HN.out] at hca hn ⊢
  rw [HM.out] at hcb ⊢
  clear hA hB he hl
  go_enter Tryd.func18, Tryd.ntmps18
  go_wp2
  go_loopw [5] (fun x wr => ∃ i : Nat, i ≤ n ∧ x = .int .i64 (i : Int) ∧ Hid (Below w.heap.size w wr)) (fun x _ => n - (intOf x).toNat)
  case atStart => exact ⟨0, Nat.zero_le _, rfl, Below.refl _ _⟩
  case round =>
    obtain ⟨i, hi, rfl, HW⟩ := hrel
    by_cases hlt : i < n
    · have hia : i < la.length := by rw [HN.out]; exact hlt
      have hib : i < lb.length := by rw [HM.out]; exact hlt
      obtain ⟨⟨ka, xa, ya⟩, ea⟩ : ∃ a, la[i]? = some a := ⟨la[i], List.getElem?_eq_getElem hia⟩
      obtain ⟨⟨kb, xb, yb⟩, eb⟩ : ∃ b, lb[i]? = some b := ⟨lb[i], List.getElem?_eq_getElem hib⟩
      obtain ⟨e1, e2⟩ := HE.out i _ _ ea eb
      dsimp only at e1 e2
      subst e1; subst e2
      obtain ⟨sa, ga, oa, rfl, c1, c2⟩ := HA.out i _ ea
      obtain ⟨sb, gb, ob, rfl, c3, c4⟩ := HB.out i _ eb
      dsimp only at sa sb c1 c2 c3 c4
      have d1 := (HW.out.cell (World.block_lt_of_cell? w _ c1)).trans c1
      have d2 := (HW.out.cell (World.block_lt_of_cell? w _ c2)).trans c2
      have d3 := (HW.out.cell (World.block_lt_of_cell? w _ c3)).trans c3
      have d4 := (HW.out.cell (World.block_lt_of_cell? w _ c4)).trans c4
      have t1 : ∀ k, Sem.run Tryd.prog (convert 31 9 xa) (wr.drewN k) = .ok (.string (strOfNums ya)) (wr.drewN k) := fun k => ((sa.below (HW.out)).below (drewN_belowE wr k)).str Tryd.underlying31 Tryd.underlying5 Tryd.underlying9
      have t2 : ∀ k, Sem.run Tryd.prog (convert 31 9 xb) (wr.drewN k) = .ok (.string (strOfNums ya)) (wr.drewN k) := fun k => ((sb.below (HW.out)).below (drewN_belowE wr k)).str Tryd.underlying31 Tryd.underlying5 Tryd.underlying9
      have hk : (ka != ka) = false := by simp
      have hili : (i : Int) < (n : Int) := by omega
      have HX : Hid (∀ k, Below w.heap.size w (wr.drewN k)) := fun k => HW.out.trans ((drewN_belowE wr k).mono HW.out.size)
      clear ea eb c1 c2 c3 c4 sa sb hia hib
      go_wp2
      go_quiet (fail)
      go_wp2
      go_roundw
      case rel => exact ⟨i + 1, by omega, by go_num, HX.out _⟩
      case measure => simp [intOf]; omega
    · have hili : ¬ (i : Int) < (n : Int) := by omega
      go_wp2
      go_ret
      exact ⟨rfl, HW.out⟩
theorem bks_ms {w : World} {B : Nat} {v : Value} {L : List Blk} (h : BkS w B v L) : Ms w v L :=
  ms_of_row rfl (h.at_ (rowBk v L) (List.Mem.head _)) (fun i m hm => Own.bs (B := B) (h.at_ (byR m) (List.mem_cons_of_mem _ (List.mem_map.2 ⟨m, List.mem_of_getElem? hm, rfl⟩))))
end Go.Proofs.YtdalkjenjnalbaaDoor
