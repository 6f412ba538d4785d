/-
  The law's own next, counts and wide. Conditions: lengths are such as memory bears.
-/
import Derived.Test.YtneegijbbbebkaaGCovM
namespace Go.Proofs.Ytneegijbbbebkaa
open Go.RowKit Go.Shelf
set_option linter.unusedVariables false
set_option maxRecDepth 100000

/-- The digits when the last ones have come round. -/
def Tj (S : List Nat) (m j : Nat) : List Nat := S.take j ++ List.replicate (m - j) 0
theorem Tj_length {S : List Nat} {m j : Nat} (hS : S.length = m) (hj : j ≤ m) : (Tj S m j).length = m := by
  rw [Tj, List.length_append, List.length_take, List.length_replicate]; omega
theorem Tj_all {S : List Nat} {m : Nat} (hS : S.length = m) : Tj S m m = S := by
  rw [Tj, List.take_of_length_le (by omega), Nat.sub_self]; simp
theorem Tj_at {S : List Nat} {m j t : Nat} (hS : S.length = m) (hj : j < m) (ht : S[j]? = some t) : (Tj S m (j + 1))[j]? = some t := by
  rw [Tj, List.getElem?_append_left (by rw [List.length_take]; omega), List.getElem?_take_of_lt (by omega), ht]
theorem Tj_set {S : List Nat} {m j : Nat} (v : Nat) (hS : S.length = m) (hj : j < m) : (Tj S m (j + 1)).set j v = S.take j ++ v :: List.replicate (m - (j + 1)) 0 := by
  have h1 : S.take (j + 1) = S.take j ++ [S[j]'(by omega)] := by rw [List.take_add_one, List.getElem?_eq_getElem (by omega)]; rfl
  have h2 : (S.take j).length = j := by rw [List.length_take]; omega
  rw [Tj, h1, List.append_assoc, List.set_append_right _ _ (by omega), h2, Nat.sub_self]
  rfl
theorem Tj_set0 {S : List Nat} {m j : Nat} (hS : S.length = m) (hj : j < m) : (Tj S m (j + 1)).set j 0 = Tj S m j := by
  rw [Tj_set 0 hS hj, Tj, show m - j = (m - (j + 1)) + 1 by omega, List.replicate_succ]
theorem inc_at {L S : List Nat} {j n t : Nat} (hL : L[j]? = some n) (hS : S[j]? = some t) (hn : inc (L.drop (j + 1)) (S.drop (j + 1)) = none) : inc (L.drop j) (S.drop j) = if t + 1 < n then some ((t + 1) :: List.replicate (L.length - (j + 1)) 0) else none := by
  obtain ⟨h1, rfl⟩ := List.getElem?_eq_some_iff.1 hL
  obtain ⟨h2, rfl⟩ := List.getElem?_eq_some_iff.1 hS
  rw [List.drop_eq_getElem_cons h1, List.drop_eq_getElem_cons h2, inc, hn, List.length_drop]
def NxP (w : World) (g : Nat) (L S : List Nat) (e : Ending) (w' : World) : Prop := ∃ b T, e = .returned (.bool b) ∧ inc L S = (if b = true then some T else none) ∧ RI w' g (toI T) ∧ Kp (· = g) w w'
theorem nx_no {w w' : World} {g : Nat} {L S T : List Nat} (h : inc L S = none) (hr : RI w' g (toI T)) (hk : Kp (· = g) w w') : NxP w g L S (.returned (.bool false)) w' := ⟨false, T, rfl, by rw [h]; rfl, hr, hk⟩
set_option maxHeartbeats 8000000 in
theorem next_any (L S : List Nat) (g n : Nat) (vn : Value) (w : World) (hL : L.length = n) (hS : S.length = n) (hn : n ≤ 4) (hLb : ∀ x ∈ L, x ≤ 1048576) (hSb : ∀ x ∈ S, x ≤ 1048576) (hN : OwnI w (g + 1) vn (toI L)) (hg : RI w g (toI S)) : Calls Try.prog 28 #[.slice (some ⟨g, 0, none⟩) n n, vn] w (NxP w g L S) := by
  have HI : Hid (∀ w', Kp (· = g) w w' → Is w' vn (toI L)) := fun w' h => by
    refine OwnI.is (B := g + 1) (hN.kp h (fun y hy e => ?_)) (by rw [toI_length]; omega) (fun x hx => ?_)
    · have := (hN.lt y hy).1
      omega
    · rw [toI, List.mem_map] at hx
      obtain ⟨y, hy, rfl⟩ := hx
      have := hLb y hy
      have e : (Int.ofNat y) = (y : Int) := rfl
      exact ⟨by omega, by omega⟩
  obtain ⟨a1, m1, c1, rfl, e1, k1, l1⟩ := (HI.out w (Kp.refl _ _)).open
  have hm1 : n = m1 := by rw [toI_length] at e1; omega
  subst hm1
  have HR0 : Hid (RI w g (toI S)) := hg
  have HLL : Hid (L.length = n) := hL
  have HSL : Hid (S.length = n) := hS
  have HLB : Hid (∀ x ∈ L, x ≤ 1048576) := hLb
  have HSB : Hid (∀ x ∈ S, x ≤ 1048576) := hSb
  have hn0 : (n : Int) ≤ 4 := by omega
  obtain ⟨y0, hy0⟩ : ∃ y0, (n : Int) - 1 = y0 := ⟨_, rfl⟩
  have hw0 : IntKind.i64.wrap ((n : Int) - 1) = y0 := by rw [← hy0]; exact wrap_i64_in _ (by omega) (by omega)
  clear hL hS hLb hSb hN hg e1
  go_enter Try.func28, Try.ntmps28
  go_wp2_with fail
  go_loopw [5] (fun x wr => ∃ (j : Nat) (y : Int), j ≤ n ∧ (j : Int) - 1 = y ∧ x = .int .i64 y ∧ Hid (RI wr g (toI (Tj S n j))) ∧ Hid (inc (L.drop j) (S.drop j) = none) ∧ Hid (Kp (· = g) w wr)) (fun x _ => (intOf x + 1).toNat)
  case atStart => exact ⟨n, y0, Nat.le_refl _, hy0, rfl, by rw [Hid, Tj_all HSL.out]; exact HR0.out, by rw [Hid, List.drop_eq_nil_of_le (by rw [HLL.out]; exact Nat.le_refl _)]; rfl, Kp.refl _ _⟩
  case round =>
    obtain ⟨j, y, hjn, hy, rfl, HR, HIN, HK⟩ := hrel
    rename World => w6
    clear hy0 hw0
    cases j with
    | zero =>
      obtain rfl : y = -1 := by omega
      have HV : Hid (NxP w g L S (.returned (.bool false)) w6) := nx_no (by have h9 := HIN.out; rwa [List.drop_zero, List.drop_zero] at h9) HR.out HK.out
      go_wp2_with fail
      go_ret
      exact HV.out
    | succ j =>
      obtain rfl : y = (j : Int) := by omega
      have hlt : j < n := by omega
      have hili : (j : Int) < (n : Int) := by omega
      have hi0 : (0 : Int) ≤ (j : Int) := by omega
      have d0 : decide ((0 : Int) ≤ (j : Int)) = true := by simp
      have hSj := List.getElem?_eq_getElem (show j < S.length by rw [HSL.out]; exact hlt)
      obtain ⟨t, ht⟩ : ∃ t, S[j]? = some t := ⟨_, hSj⟩
      clear hSj
      obtain ⟨m, hm⟩ : ∃ m, L[j]? = some m := ⟨_, List.getElem?_eq_getElem (show j < L.length by rw [HLL.out]; exact hlt)⟩
      have HT : Hid (S[j]? = some t ∧ L[j]? = some m) := ⟨ht, hm⟩
      have htb := HSB.out t (List.mem_of_getElem? ht)
      have hmb := HLB.out m (List.mem_of_getElem? hm)
      obtain ⟨z, hz⟩ : ∃ z : Int, (t : Int) + 1 = z := ⟨_, rfl⟩
      obtain ⟨mz, hmz⟩ : ∃ mz : Int, (m : Int) = mz := ⟨_, rfl⟩
      have hwz : IntKind.i64.wrap ((t : Int) + 1) = z := by rw [← hz]; exact wrap_i64_in _ (by omega) (by omega)
      have q0 := HR.out.cell (toI_at (Tj_at HSL.out hlt ht))
      have f0 := HR.out.free j
      obtain ⟨w7, hw7⟩ : ∃ w7, w6.setCell ⟨g, j, none⟩ (.int .i64 z) = w7 := ⟨_, rfl⟩
      have hR7 : RI w7 g (toI ((Tj S n (j + 1)).set j (t + 1))) := by
        rw [← hw7, ← toI_set, show ((t + 1 : Nat) : Int) = z by omega]
        exact HR.out.set j z
      have HR7 : Hid (RI w7 g (toI ((Tj S n (j + 1)).set j (t + 1)))) := hR7
      have q7 : w7.cell? ⟨g, j, none⟩ = some (.int .i64 z) := by
        have := hR7.cell (i := j) (x := z) (by rw [← hz]; exact toI_at (x := t + 1) (by rw [List.getElem?_set_self (by rw [Tj_length HSL.out (by omega)]; exact hlt)]))
        exact this
      have f7 := hR7.free j
      have HK7 : Hid (Kp (· = g) w w7) := by rw [← hw7]; exact HK.out.setCell _ (fun _ => rfl)
      obtain ⟨b1, o1, mz', rfl, hmm, _, cm⟩ := (HI.out w7 HK7.out).at hlt
      rw [toI_at hm] at hmm
      obtain rfl := Option.some.inj hmm
      rw [hmz] at cm
      clear ht hm hmm hR7
      by_cases hc : z < mz
      · have d1 : decide (z < mz) = true := by simpa using hc
        have HV : Hid (∀ wz : World, Kp (· = g) w wz → wz.heap[g]? = w7.heap[g]? → NxP w g L S (.returned (.bool true)) wz) := fun wz hk hb => by
          have h1 := inc_at HT.out.2 HT.out.1 HIN.out
          rw [if_pos (by omega)] at h1
          have h2 := inc_app (L.take j) (S.take j) _ _ _ (by rw [List.length_take, List.length_take, HLL.out, HSL.out]) h1
          rw [List.take_append_drop, List.take_append_drop, HLL.out, ← Tj_set (t + 1) HSL.out hlt] at h2
          exact ⟨true, _, rfl, h2, HR7.out.of_block hb, hk⟩
        go_wp2_with fail
        go_quiet (fail)
        go_wp2_with fail
        go_ret
        exact HV.out _ (HK7.out.trans (G := fun _ => False) ⟨rfl, rfl, rfl, Nat.le_refl _, fun _ _ _ => rfl⟩ (fun _ _ h => h.elim)) rfl
      · have d1 : decide (z < mz) = false := by simpa using hc
        have HIN2 : Hid (inc (L.drop j) (S.drop j) = none) := by
          have h1 := inc_at HT.out.2 HT.out.1 HIN.out
          rwa [if_neg (by omega)] at h1
        obtain ⟨y', hy'⟩ : ∃ y', (j : Int) - 1 = y' := ⟨_, rfl⟩
        have hwy : IntKind.i64.wrap ((j : Int) - 1) = y' := by rw [← hy']; exact wrap_i64_in _ (by omega) (by omega)
        have HR8 : Hid (∀ wz : World, wz.heap[g]? = w7.heap[g]? → RI (wz.setCell ⟨g, j, none⟩ (.int .i64 0)) g (toI (Tj S n j))) := fun wz hb => by
          have := (HR7.out.of_block hb).set j ((0 : Nat) : Int)
          rwa [toI_set, List.set_set, Tj_set0 HSL.out hlt] at this
        have HK8 : Hid (∀ wz : World, Kp (· = g) w wz → Kp (· = g) w (wz.setCell ⟨g, j, none⟩ (.int .i64 0))) := fun wz h => h.setCell _ (fun _ => rfl)
        go_wp2_with fail
        go_quiet (fail)
        go_wp2_with fail
        go_roundw
        case rel => exact ⟨j, y', by omega, hy', rfl, HR8.out _ rfl, HIN2.out, HK8.out (w7.drewN _) (HK7.out.trans (G := fun _ => False) ⟨rfl, rfl, rfl, Nat.le_refl _, fun _ _ _ => rfl⟩ (fun _ _ h => h.elim))⟩
        case measure => simp [intOf]; omega
end Go.Proofs.Ytneegijbbbebkaa
