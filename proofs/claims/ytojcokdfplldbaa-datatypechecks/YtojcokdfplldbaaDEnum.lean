/-
  Is a value among those of members? Conditions: the members lie in memory.
-/
import Derived.Test.YtojcokdfplldbaaDArr
namespace Go.Proofs.Ytojcokdfplldbaa
open Go.RowKit Go.Shelf
set_option linter.unusedVariables false
set_option maxRecDepth 100000

theorem vTaken_any (ts : ByteArray) (ta v0 : Int) (p6 : Nat) (w : World) (h6 : w.cell? ⟨p6, 1, none⟩ = some (.int .i64 v0)) :
    Calls Try.prog 78 #[.agg #[.string ts, .int .i64 ta], .pointer (some ⟨p6, 0, none⟩)] w fun e w' => e = .returned (.bool (ta == v0)) ∧ Below w.heap.size w w' := by
  obtain ⟨w1, hw1, hb1, hs1, h1⟩ := mc_made w ts ta
  have HB1 : Hid (Below w.heap.size w w1) := hb1
  have g6 : w1.cell? ⟨p6, 1, none⟩ = some (.int .i64 v0) := (hb1.cell (World.block_lt_of_cell? w _ h6)).trans h6
  obtain ⟨c0, c1⟩ := h1
  clear hb1 hs1 h6
  go_enter Try.func78, Try.ntmps78
  go_wp2_with fail
  go_ret
  exact ⟨rfl, HB1.out⟩
set_option maxHeartbeats 8000000 in
theorem vIndex_any (v : Value) (l : List (ByteArray × Int)) (v0 : Int) (p6 : Nat) (w : World) (hl : Nms w v l) (h6 : w.cell? ⟨p6, 1, none⟩ = some (.int .i64 v0)) :
    Calls Try.prog 93 #[v, .func (.func 78) #[] #[.pointer (some ⟨p6, 0, none⟩)]] w fun e w' => (∃ z : Int, e = .returned (.int .i64 z) ∧ decide (0 ≤ z) = l.any (fun q => q.2 == v0)) ∧ Below w.heap.size w w' := by
  have eg : ∀ args w, (callFunc 78 args).run Try.prog w = .ok (.enter 78 args) w := enters_of Try.func78 (by kernel_rfl) rfl
  have HX : Hid _ := hl
  have H6 : Hid _ := h6
  obtain ⟨ao, cap, rfl, hcap, -⟩ := hl.is
  obtain ⟨N, hN⟩ : ∃ N, l.length = N := ⟨_, rfl⟩
  have HN : Hid (l.length = N) := hN
  have hlen := hl.len
  rw [hN] at HX hcap hlen ⊢
  clear hl h6 hN
  have HC : Hid (∀ (ts : ByteArray) (ta : Int) (w' : World), Below w.heap.size w w' → Calls Try.prog 78 #[.agg #[.string ts, .int .i64 ta], .pointer (some ⟨p6, 0, none⟩)] w' fun e w2 => e = .returned (.bool (ta == v0)) ∧ Below w'.heap.size w' w2) := fun ts ta w' hb => vTaken_any ts ta v0 p6 w' ((hb.cell (World.block_lt_of_cell? w _ H6.out)).trans H6.out)
  clear H6
  go_enter Try.func93, Try.ntmps93
  go_wp2_with fail
  go_loopw [8] (fun y wr => ∃ i : Nat, i ≤ N ∧ y = .int .i64 (i : Int) ∧ Hid ((l.take i).any (fun q => q.2 == v0) = false) ∧ Hid (Below w.heap.size w wr)) (fun y _ => N - (intOf y).toNat)
  case atStart => exact ⟨0, by omega, by simp, by simp [Hid], Below.refl _ _⟩
  case round =>
    obtain ⟨i, hin, rfl, HP, HB⟩ := hrel
    by_cases hlt : i < N
    · obtain ⟨g, o, q, rfl, hq, hqr, k0, k1⟩ := HX.out.at hlt
      have HQ : Hid (∀ b, (q.2 == v0) = b → (l.take (i + 1)).any (fun q => q.2 == v0) = b) := fun b hb => by rw [List.take_add_one, hq, List.any_append, HP.out]; simp [hb]
      have HQ2 : Hid ((q.2 == v0) = true → l.any (fun q => q.2 == v0) = true) := fun hb => List.any_eq_true.2 ⟨q, List.mem_of_getElem? hq, hb⟩
      have K : ∀ {p : Addr} {x : Value}, w.cell? p = some x → wr.cell? p = some x := fun h => (HB.out.cell (World.block_lt_of_cell? w _ h)).trans h
      replace k0 := K k0
      replace k1 := K k1
      clear K hq hqr
      obtain ⟨b, hb⟩ : ∃ b, (q.2 == v0) = b := ⟨_, rfl⟩
      have HCC : Hid _ := HC.out q.1 q.2 wr HB.out
      rw [hb] at HCC HQ2
      have HQ3 : Hid _ := HQ.out b hb
      clear HQ HC hb
      generalize q.1 = z0 at *
      generalize q.2 = z1 at *
      cases b with
      | true =>
        have HT : Hid (decide (0 ≤ (i : Int)) = l.any (fun q => q.2 == v0)) := by rw [Hid, HQ2.out rfl]; simp
        clear HQ2 HQ3
        go_wp2_with (go_at_call 78; refine Calls.mono HCC.out ?_; rintro e w5 ⟨rfl, hb5⟩; have HB5 : Hid (Below w.heap.size w w5) := bel_next HB.out hb5; clear hb5)
        go_ret
        exact ⟨⟨_, rfl, HT.out⟩, HB5.out⟩
      | false =>
        go_wp2_with (go_at_call 78; refine Calls.mono HCC.out ?_; rintro e w5 ⟨rfl, hb5⟩; have HB5 : Hid (Below w.heap.size w w5) := bel_next HB.out hb5; clear hb5)
        go_roundw
        case rel => exact ⟨i + 1, by omega, by go_num, HQ3.out, HB5.out⟩
        case measure => simp [intOf]; omega
    · have HE : Hid (l.any (fun q => q.2 == v0) = false) := by rw [Hid, ← HP.out, List.take_of_length_le (by rw [HN.out]; omega)]
      go_wp2_with fail
      go_ret
      exact ⟨⟨-1, rfl, by rw [HE.out]; rfl⟩, HB.out⟩
theorem vContains_any (v : Value) (l : List (ByteArray × Int)) (v0 : Int) (p6 : Nat) (w : World) (hl : Nms w v l) (h6 : w.cell? ⟨p6, 1, none⟩ = some (.int .i64 v0)) :
    Calls Try.prog 77 #[v, .func (.func 78) #[] #[.pointer (some ⟨p6, 0, none⟩)]] w fun e w' => e = .returned (.bool (l.any (fun q => q.2 == v0))) ∧ Below w.heap.size w w' := by
  have HI : Hid _ := vIndex_any v l v0 p6 w hl h6
  generalize l.any (fun q => q.2 == v0) = b at *
  obtain ⟨ao, cap, rfl, hcap, -⟩ := hl.is
  clear hl h6
  go_enter Try.func77, Try.ntmps77
  go_wp2_with (go_at_call 93; refine Calls.mono HI.out ?_; rintro e w5 ⟨⟨z, rfl, hz⟩, hb5⟩; have HB5 : Hid (Below w.heap.size w w5) := hb5; have HZ : Hid _ := hz; clear hb5 hz)
  go_ret
  exact ⟨by rw [← HZ.out]; rfl, HB5.out⟩
end Go.Proofs.Ytojcokdfplldbaa
