/-
  Chunks of the program. Conditions: lengths are such as memory bears.
-/
import Derived.Test.YtneegijbbbebkaaGRes
namespace Go.Proofs.Ytneegijbbbebkaa
open Go.RowKit Go.Shelf
set_option linter.unusedVariables false
set_option maxRecDepth 100000

/-- How many chunks along each dimension. -/
def cntL (D S : List Int) : List Int := List.zipWith (fun n s => (n + s - 1) / s) D S
def chN (D S : List Int) : Int := if fitE D S = 0 then prd (cntL D S) else 0
theorem cntL_at {D S : List Int} {i : Nat} {n s : Int} (h1 : D[i]? = some n) (h2 : S[i]? = some s) : (cntL D S)[i]? = some ((n + s - 1) / s) := by
  rw [cntL, List.getElem?_zipWith, h1, h2]
theorem cnt_one {n s : Int} (hs : 1 ≤ s) : (n + s - 1) / s = (n - 1) / s + 1 := by
  rw [show n + s - 1 = (n - 1) + s * 1 by omega, Int.add_mul_ediv_left _ _ (by omega)]
theorem cnt_le {n s : Int} (hn : 0 ≤ n) (hs : 1 ≤ s) : 0 ≤ (n + s - 1) / s ∧ (n + s - 1) / s ≤ n := by
  refine ⟨Int.ediv_nonneg (by omega) (by omega), ?_⟩
  rw [← Int.lt_add_one_iff]
  refine (Int.ediv_lt_iff_lt_mul (by omega)).2 ?_
  have := Int.mul_le_mul_of_nonneg_left hs (show 0 ≤ n + 1 by omega)
  have h2 : (n + 1) * s = n * s + s := by rw [Int.add_mul, Int.one_mul]
  have h3 := Int.mul_le_mul_of_nonneg_left hs hn
  omega
theorem cntL_take_le {D S : List Int} (hd : ∀ x ∈ D, 1 ≤ x) (hs : ∀ x ∈ S, 1 ≤ x) : ∀ i, 1 ≤ prd ((cntL D S).take i) ∧ prd ((cntL D S).take i) ≤ prd (D.take i) := by
  induction D generalizing S with
  | nil => intro i; simp [cntL, prd]
  | cons n D ih =>
    cases S with
    | nil =>
      intro i
      have h1 : 1 ≤ prd ((n :: D).take i) := prd_pos (fun x hx => by have := hd x (List.mem_of_mem_take hx); omega) (fun hx => by have := hd 0 (List.mem_of_mem_take hx); omega)
      simpa [cntL, prd] using h1
    | cons s S =>
      intro i
      cases i with
      | zero => simp [prd]
      | succ i =>
        have hn := hd n (by simp)
        have hs' := hs s (by simp)
        have h1 := cnt_le (n := n) (s := s) (by omega) hs'
        have h2 : 1 ≤ (n + s - 1) / s := by rw [cnt_one hs']; have := Int.ediv_nonneg (show 0 ≤ n - 1 by omega) (show 0 ≤ s by omega); omega
        obtain ⟨h3, h4⟩ := ih (S := S) (fun x hx => hd x (by simp [hx])) (fun x hx => hs x (by simp [hx])) i
        have e1 : (cntL (n :: D) (s :: S)).take (i + 1) = (n + s - 1) / s :: (cntL D S).take i := rfl
        rw [e1, List.take_succ_cons, prd, prd]
        have h5 : 1 * 1 ≤ (n + s - 1) / s * prd ((cntL D S).take i) := Int.mul_le_mul h2 h3 (by omega) (by omega)
        exact ⟨by omega, Int.mul_le_mul h1.2 h4 (by omega) (by omega)⟩
theorem cntL_zero : ∀ {D S : List Int}, S.length = D.length → (∀ x ∈ S, 1 ≤ x) → (0 : Int) ∈ D → prd (cntL D S) = 0
  | n :: D, s :: S, hl, hs, h0 => by
    have e1 : cntL (n :: D) (s :: S) = (n + s - 1) / s :: cntL D S := rfl
    rw [e1, prd]
    rcases List.mem_cons.1 h0 with h | h
    · have hs' := hs s (by simp)
      rw [← h, Int.zero_add, Int.ediv_eq_zero_of_lt (by omega) (by omega), Int.zero_mul]
    · rw [cntL_zero (by simpa using hl) (fun x hx => hs x (by simp [hx])) h, Int.mul_zero]
  | [], _, _, _, h0 => by simp at h0
  | _ :: _, [], hl, _, _ => by simp at hl
set_option maxHeartbeats 8000000 in
theorem chunks_any (D S : List Int) (vd vs : Value) (w : World) (hD : Is w vd D) (hS : Is w vs S) : Calls Try.prog 9 #[vd, vs] w fun e w' => e = .returned (.tuple #[.int .i64 (chN D S), .int .i64 (fitE D S)]) ∧ Below w.heap.size w w' := by
  have HFI : Hid _ := fit_any D S vd vs w hD hS
  have HD : Hid (Is w vd D) := hD
  have HS : Hid (Is w vs S) := hS
  obtain ⟨a1, n, c1, rfl, e1, k1, l1⟩ := hD.open
  obtain ⟨a2, m2, c2, rfl, e2, k2, l2⟩ := hS.open
  have HN : Hid (D.length = n) := e1
  obtain ⟨fe, HFE⟩ : ∃ fe, Hid (fitE D S = fe) := ⟨_, rfl⟩
  rw [HFE.out] at HFI ⊢
  by_cases h1 : fe = 0
  · subst h1
    obtain ⟨f1, f2, f3⟩ := fitE_zero HFE.out
    obtain ⟨s1, s2⟩ := shB_iff.1 f2
    have hel : elN D = prd D := by rw [elN, if_pos (elE_ok f1)]
    have hm2 : n = m2 := by omega
    rw [fitN, fitN, HFE.out, if_pos rfl, if_pos rfl, hel] at HFI
    have hpb := (elE_ok f1).2
    by_cases h0 : (0 : Int) ∈ D
    · have hz : prd D = 0 := prd_zero h0
      have HV : Hid (chN D S = 0) := by rw [Hid, chN, HFE.out, if_pos rfl]; exact cntL_zero s1 (fun x hx => (s2 x hx).1) h0
      rw [hz] at HFI
      rw [HV.out]
      clear hD hS e1 e2 h0 hz hel hpb hm2 f1 f2 f3 s1 s2
      go_enter Try.func9, Try.ntmps9
      go_wp2_with (go_at_call 31; refine Calls.mono HFI.out ?_; rintro e w1 ⟨rfl, hb1⟩; have HB1 : Hid (Below w.heap.size w w1) := hb1; clear hb1)
      go_ret2
      exact ⟨rfl, HB1.out⟩
    · have HPOS : Hid (∀ x ∈ D, 1 ≤ x ∧ x ≤ 1048576) := fun x hx => by
        have h9 := (dims_of (elE_ok f1).1).2 x hx
        have : x ≠ 0 := fun e => h0 (e ▸ hx)
        omega
      have HSP : Hid (∀ x ∈ S, 1 ≤ x ∧ x ≤ 1048576) := s2
      have hp1 : 1 ≤ prd D := prd_pos (fun x hx => by have := HPOS.out x hx; omega) h0
      have HTK : Hid (∀ i, 1 ≤ prd ((cntL D S).take i) ∧ prd ((cntL D S).take i) ≤ 1048576) := fun i => by
        have h9 := cntL_take_le (fun x hx => (HPOS.out x hx).1) (fun x hx => (HSP.out x hx).1) i
        have h8 := prd_take_le (fun x hx => (HPOS.out x hx).1) i
        omega
      have HV : Hid (chN D S = prd (cntL D S)) := by rw [Hid, chN, HFE.out, if_pos rfl]
      have HCL : Hid ((cntL D S).length = n) := by rw [Hid, cntL, List.length_zipWith]; omega
      obtain ⟨pd, hpd⟩ : ∃ pd, prd D = pd := ⟨_, rfl⟩
      rw [hpd] at HFI hp1
      have hpn : (pd == 0) = false := by simpa using (by omega : pd ≠ 0)
      rw [HV.out]
      subst hm2
      clear hD hS e1 e2 h0 hel hpb hpd f1 f2 f3 s1 s2
      go_enter Try.func9, Try.ntmps9
      go_wp2_with (go_at_call 31; refine Calls.mono HFI.out ?_; rintro e w1 ⟨rfl, hb1⟩; have HB1 : Hid (Below w.heap.size w w1) := hb1; clear hb1)
      go_loopw [25, 9] (fun x y wr => ∃ (i : Nat) (p : Int), i ≤ n ∧ x = .int .i64 (i : Int) ∧ y = .int .i64 p ∧ Hid (p = prd ((cntL D S).take i)) ∧ 1 ≤ p ∧ p ≤ 1048576 ∧ Hid (Below w.heap.size w wr)) (fun x _ _ => n - (intOf x).toNat)
      case atStart => exact ⟨0, 1, Nat.zero_le _, rfl, rfl, by simp [Hid, prd], by omega, by omega, HB1.out⟩
      case round =>
        obtain ⟨i, p, hin, rfl, rfl, HP, hpp1, hpp2, HB⟩ := hrel
        by_cases hlt : i < n
        · obtain ⟨g1, o1, a, rfl, ha, _, ca⟩ := (HD.out.below HB.out).at hlt
          obtain ⟨g2, o2, s, rfl, hs, _, cs⟩ := (HS.out.below HB.out).at hlt
          have hili : (i : Int) < (n : Int) := by omega
          have ha1 := HPOS.out a (List.mem_of_getElem? ha)
          have hs1 := HSP.out s (List.mem_of_getElem? hs)
          have hst : prd ((cntL D S).take (i + 1)) = p * ((a - 1) / s + 1) := by
            rw [List.take_add_one, cntL_at ha hs, prd_append, ← HP.out, cnt_one hs1.1]; simp [prd]
          have hbd := HTK.out (i + 1)
          obtain ⟨q, hq⟩ : ∃ q, (a - 1) / s = q := ⟨_, rfl⟩
          rw [hq] at hst
          have hq0 : 0 ≤ q := by rw [← hq]; exact Int.ediv_nonneg (by omega) (by omega)
          have hq1 : q ≤ 1048576 := by rw [← hq]; have := Int.ediv_le_self s (show 0 ≤ a - 1 by omega); omega
          have hw0 : IntKind.i64.wrap (a - 1) = a - 1 := wrap_i64_in _ (by omega) (by omega)
          have htd : (a - 1).tdiv s = q := by rw [Int.tdiv_eq_ediv_of_nonneg (by omega), hq]
          have hw1 : IntKind.i64.wrap q = q := wrap_i64_in _ (by omega) (by omega)
          have hw2 : IntKind.i64.wrap (q + 1) = q + 1 := wrap_i64_in _ (by omega) (by omega)
          have hsz : (s == 0) = false := by simpa using (by omega : s ≠ 0)
          have hsn : s ≠ 0 := by omega
          have hsm : s ≠ -1 := by omega
          obtain ⟨pq, hpq⟩ : ∃ pq, p * (q + 1) = pq := ⟨_, rfl⟩
          rw [hpq] at hst
          have HST : Hid (pq = prd ((cntL D S).take (i + 1))) := hst.symm
          rw [← HST.out] at hbd
          have hw3 : IntKind.i64.wrap (p * (q + 1)) = pq := by rw [hpq]; exact wrap_i64_in _ (by omega) (by omega)
          clear ha hs hst hpq
          go_wp2_with fail
          go_quiet (fail)
          go_wp2_with fail
          go_roundw
          case rel => exact ⟨i + 1, pq, by omega, by simp, rfl, HST.out, hbd.1, hbd.2, below_dN HB.out (Nat.le_trans (Nat.le_refl _) HB.out.size) _⟩
          case measure => simp [intOf]; omega
        · have HE : Hid (prd (cntL D S) = p) := by have h9 := HP.out; rw [List.take_of_length_le (by rw [HCL.out]; omega)] at h9; exact h9.symm
          go_wp2_with fail
          go_ret2
          exact ⟨by rw [HE.out]; rfl, HB.out⟩
  · have HV : Hid (chN D S = 0) := by rw [Hid, chN, HFE.out, if_neg h1]
    have HF0 : Hid (∀ x, fitN D S x = 0) := fun x => by rw [fitN, HFE.out, if_neg h1]
    rw [HF0.out, HF0.out] at HFI
    have b2 : (fe != 0) = true := by simpa using h1
    rw [HV.out]
    clear hD hS e1 e2
    go_enter Try.func9, Try.ntmps9
    go_wp2_with (go_at_call 31; refine Calls.mono HFI.out ?_; rintro e w1 ⟨rfl, hb1⟩; have HB1 : Hid (Below w.heap.size w w1) := hb1; clear hb1)
    go_ret2
    exact ⟨rfl, HB1.out⟩
end Go.Proofs.Ytneegijbbbebkaa
