/-
  A number laid behind bytes; whether an extent is wide enough. Conditions: lengths are such as memory bears.
-/
import Derived.Test.YtjcippiilaknfaaDoorESize
import Derived.Test.YtjcippiilaknfaaDoorXBytes
import Derived.Test.YtjcippiilaknfaaDoorGApp
namespace Go.Proofs.YtjcippiilaknfaaDoor
open Go.RowKit
set_option linter.unusedVariables false
set_option maxRecDepth 100000

theorem put4 {u : Int} (h0 : 0 ≤ u) (h : u < 4294967296) : putList [] u 4 true = d4 u := by
  unfold putList
  rw [if_pos (numErr_of (n := 4) h0 (by omega) (by omega) (by show u < (4294967296 : Int); exact h))]
  rfl
theorem own_lt {w : World} {B : Nat} {v : Value} {l : List Int} (h : Own w B v l) : ∀ k, v.ownBlock = some k → B ≤ k ∧ k < w.heap.size := by
  intro k hk
  rcases ownsRow_shape h with ⟨rfl, _⟩ | ⟨g, cap, rfl, h1, h2, _⟩
  · simp [Value.ownBlock] at hk
  · simp [Value.ownBlock] at hk
    subst hk
    exact ⟨h1, h2⟩
set_option maxHeartbeats 2000000 in
theorem withN_any (n : Int) (B : Nat) (v : Value) (l : List Int) (w : World) (h : Own w B v l) (hB : B ≤ w.heap.size) (h0 : 0 ≤ n) (h1 : n < 4294967296) (hl : l.length ≤ 70368744177664) :
    Calls Tryd.prog 53 #[v, .int .i64 n] w fun e w' => ∃ v', e = .returned v' ∧ Own w' B v' (l ++ d4 n) ∧ Kp (fun x => v.ownBlock = some x) w w' ∧ (∀ k, v'.ownBlock = some k → v.ownBlock = some k ∨ w.heap.size ≤ k) := by
  obtain ⟨i0, hi, hz0, hz1, hz2⟩ := info_parts Tryd.info5
  have HO : Hid (Own w B v l) := h
  have HPD : Hid (putList [] n 4 true = d4 n) := put4 h0 h1
  have hw : IntKind.u64.wrap n = n := by simp [IntKind.wrap, IntKind.bits, IntKind.signed]; omega
  have HL4 : Hid ((d4 n).length = 4) := d4_length n
  obtain ⟨m, HM⟩ : ∃ m, Hid (l.length = m) := ⟨_, rfl⟩
  rw [HM.out] at hl
  clear h
  go_enter Tryd.func53, Tryd.ntmps53
  go_wp2_with (first | (go_at_call 72; refine (put_any (.slice none 0 0) [] n 4 true _ (Bs.nil _) (by simp) h0 (by omega)).mono ?_; rintro e w1 ⟨x1, rfl, hf1, hb1⟩; rw [HPD.out] at hf1; have HF1 : Hid (Bs w1 x1 (d4 n)) := hf1.bs; have HB1 : Hid (Below w.heap.size w w1) := hb1; have HO1 : Hid (Own w1 B v l) := HO.out.below hb1; clear hf1 hb1) | (at_builtin; refine wpList_append_bg w1 rfl (.tmp 13) (.tmp 14) 31 rfl i0 Tryd.underlying31 hi hz0 hz1 hz2 B v x1 l (d4 n) m 4 HM.out HL4.out rfl rfl HO1.out HF1.out (by omega) (Nat.le_trans hB HB1.out.size) ?_; intro ao cap w2 ho2 hg2 ha2; have HO2 : Hid (Own w2 B (.slice ao (m + 4) cap) (l ++ d4 n)) := ho2; have HK2 : Hid (Kp (fun x => v.ownBlock = some x) w w2) := (Kp.of HB1.out).grown hg2 (fun x _ hx => hx); have HA2 : Hid (∀ k, (Value.slice ao (m + 4) cap).ownBlock = some k → v.ownBlock = some k ∨ w.heap.size ≤ k) := (fun k hk => (ha2 k hk).imp id (fun h => Nat.le_trans HB1.out.size h)); clear ho2 hg2 ha2))
  go_ret
  exact ⟨_, rfl, HO2.out, HK2.out, HA2.out⟩
/-- Is an extent wide enough for a block? -/
def narrowB (x : Ext) : Bool := decide (x.2 ≤ 16) || !goodB [x] 4194304
theorem xs_one {w : World} {g : Nat} {x : Ext} (h : w.heap[g]? = some (.cells #[.int .i64 x.1, .int .i64 x.2] 49 (0, 0))) : Xs w (.slice (some ⟨g, 0, none⟩) 1 1) [x] := by
  refine ⟨_, 1, rfl, by simp, (fun h => by cases h), ?_⟩
  intro ad ha j u hj
  obtain rfl := Option.some.inj ha
  exact news_one (xs := [.int .i64 x.1, .int .i64 x.2]) h j u hj
theorem narrow_any (x : Ext) (hE : EW x) (w : World) : Calls Tryd.prog 30 #[.agg #[.int .i64 x.1, .int .i64 x.2]] w fun e w' => e = .returned (.bool (narrowB x)) ∧ Below w.heap.size w w' := by
  have HX : Hid (Below w.heap.size w (w.alloc (.cells #[.int .i64 x.1, .int .i64 x.2] 49))) := (Below.refl _ _).alloc (Nat.le_refl _) _
  by_cases h : x.2 ≤ 16
  · have HE : Hid (narrowB x = true) := by unfold Hid narrowB; simp [h]
    rw [HE.out]
    go_enter Tryd.func30, Tryd.ntmps30
    go_wp2_with fail
    go_ret
    exact ⟨rfl, HX.out⟩
  · have HE : Hid (narrowB x = !goodB [x] 4194304) := by unfold Hid narrowB; rw [show decide (x.2 ≤ 16) = false by simpa using h, Bool.false_or]
    rw [HE.out]
    have HX2 : Hid (Below w.heap.size w ((w.alloc (.cells #[.int .i64 x.1, .int .i64 x.2] 49)).alloc (.cells #[.int .i64 x.1, .int .i64 x.2] 49))) := HX.out.alloc HX.out.size _
    have hsz : (w.alloc (.cells #[.int .i64 x.1, .int .i64 x.2] 49)).heap.size = w.heap.size + 1 := by simp
    have HG : Hid _ := good_any (.slice (some ⟨(w.alloc (.cells #[.int .i64 x.1, .int .i64 x.2] 49)).heap.size, 0, none⟩) 1 1) [x] 4194304 _ (xs_one (heap_alloc_new (w.alloc (.cells #[.int .i64 x.1, .int .i64 x.2] 49)) _)) (fun y hy => by rw [List.mem_singleton.1 hy]; exact hE) (by simp)
    rw [hsz] at HG
    clear hsz
    go_enter Tryd.func30, Tryd.ntmps30
    go_wp2_with (go_at_call 47; refine Calls.mono HG.out ?_; rintro e w1 ⟨rfl, hb1⟩; have HB1 : Hid (Below w.heap.size w w1) := HX2.out.trans (hb1.mono HX2.out.size); clear hb1)
    go_ret
    exact ⟨rfl, HB1.out⟩
set_option maxHeartbeats 4000000 in
theorem idxN_any (w : World) (v : Value) (l : List Ext) (hX : Xs w v l) (hE : EWs l) (hn : l.length ≤ 281474976710656) :
    Calls Tryd.prog 46 #[v, .func (.func 30) #[] #[]] w fun e w' => ∃ b : Int, e = .returned (.int .i64 b) ∧ decide (0 ≤ b) = l.any narrowB ∧ Below w.heap.size w w' := by
  obtain ⟨ao, cap, rfl, hcap, hc⟩ := hX.opened
  have HC : Hid (∀ i, i < l.length → ∃ b off, ao = some ⟨b, off, none⟩ ∧ w.cell? ⟨b, off + i * 2, none⟩ = some (.int .i64 (l.getD i (0, 0)).1) ∧ w.cell? ⟨b, off + i * 2 + 1, none⟩ = some (.int .i64 (l.getD i (0, 0)).2) ∧ b < w.heap.size) := hc
  have HE : Hid (EWs l) := hE
  obtain ⟨n, HN⟩ : ∃ n, Hid (l.length = n) := ⟨_, rfl⟩
  rw [HN.out] at hcap hn ⊢
  have eg : ∀ args w, (callFunc 30 args).run Tryd.prog w = .ok (.enter 30 args) w := enters_of Tryd.func30 (by kernel_rfl) rfl
  clear hc hX hE
  go_enter Tryd.func46, Tryd.ntmps46
  go_wp2_with fail
  go_loopw [8] (fun x wr => ∃ i : Nat, i ≤ n ∧ x = .int .i64 (i : Int) ∧ Hid ((l.take i).any narrowB = false) ∧ Hid (Below w.heap.size w wr)) (fun x _ => n - (intOf x).toNat)
  case atStart => exact ⟨0, Nat.zero_le _, rfl, rfl, Below.refl _ _⟩
  case round =>
    obtain ⟨i, hin, rfl, HA, HB⟩ := hrel
    by_cases hlt : i < n
    · have hil : i < l.length := by rw [HN.out]; exact hlt
      obtain ⟨g, o, rfl, c1, c2, _⟩ := HC.out i hil
      have hex := HE.out.at i
      have hm : l[i]? = some (l.getD i (0, 0)) := by simp [List.getD, hil]
      generalize l.getD i (0, 0) = x at *
      have d1 : wr.cell? ⟨g, o + i * 2, none⟩ = some (.int .i64 x.1) := (HB.out.cell (World.block_lt_of_cell? w _ c1)).trans c1
      have d2 : wr.cell? ⟨g, o + i * 2 + 1, none⟩ = some (.int .i64 x.2) := (HB.out.cell (World.block_lt_of_cell? w _ c2)).trans c2
      have HT : Hid ((l.take (i + 1)).any narrowB = (narrowB x)) := by unfold Hid; rw [List.take_add_one, hm, List.any_append, HA.out]; simp
      have hili : (i : Int) < (n : Int) := by omega
      have HALL : Hid (narrowB x = true → l.any narrowB = true) := fun h => List.any_eq_true.2 ⟨x, List.mem_of_getElem? hm, h⟩
      have HF : Hid _ := narrow_any x hex wr
      obtain ⟨b, HBB⟩ : ∃ b, Hid (narrowB x = b) := ⟨_, rfl⟩
      rw [HBB.out] at HT HALL HF
      clear c1 c2 hm hex
      cases b with
      | true =>
        have HAL : Hid (l.any narrowB = true) := HALL.out rfl
        clear HALL
        go_wp2_with (go_at_call 30; refine Calls.mono HF.out ?_; rintro e w1 ⟨rfl, hb1⟩; have HB1 : Hid (Below w.heap.size w w1) := HB.out.trans (hb1.mono HB.out.size); clear hb1)
        go_ret
        exact ⟨_, rfl, by rw [HAL.out]; simp, HB1.out⟩
      | false =>
        clear HALL
        go_wp2_with (go_at_call 30; refine Calls.mono HF.out ?_; rintro e w1 ⟨rfl, hb1⟩; have HB1 : Hid (Below w.heap.size w w1) := HB.out.trans (hb1.mono HB.out.size); clear hb1)
        go_roundw
        case rel => exact ⟨i + 1, by omega, by simp, HT.out, HB1.out⟩
        case measure => simp [intOf]; omega
    · obtain rfl : i = n := by omega
      have HE : Hid (l.any narrowB = false) := by have h := HA.out; rwa [List.take_of_length_le (by rw [HN.out]; exact Nat.le_refl _)] at h
      go_wp2_with fail
      go_ret
      exact ⟨_, rfl, by rw [HE.out]; rfl, HB.out⟩
theorem hasN_any (w : World) (v : Value) (l : List Ext) (hX : Xs w v l) (hE : EWs l) (hn : l.length ≤ 281474976710656) :
    Calls Tryd.prog 29 #[v, .func (.func 30) #[] #[]] w fun e w' => e = .returned (.bool (l.any narrowB)) ∧ Below w.heap.size w w' := by
  have HI : Hid _ := idxN_any w v l hX hE hn
  obtain ⟨ao, cap, rfl, _, _⟩ := hX
  go_enter Tryd.func29, Tryd.ntmps29
  go_wp2_with (go_at_call 46; refine Calls.mono HI.out ?_; rintro e w1 ⟨b, rfl, hd, hb1⟩; have HD : Hid (decide (0 ≤ b) = l.any narrowB) := hd; have HB1 : Hid (Below w.heap.size w w1) := hb1; clear hd hb1)
  go_ret
  exact ⟨by rw [← HD.out]; rfl, HB1.out⟩
end Go.Proofs.YtjcippiilaknfaaDoor
