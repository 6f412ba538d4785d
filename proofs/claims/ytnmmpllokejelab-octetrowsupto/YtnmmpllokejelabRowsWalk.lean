/-
  The walk of the law OctetRows: it returns true, and writes nothing that was there. Condition: the argument reads as lists of bytes, all runs of it together at most 4194304 bytes.
-/
import Derived.Test.YtnmmpllokejelabRowNums
namespace Go.Proofs.Ytnmmpllokejelab
open Go.RowKit
set_option linter.unusedVariables false

set_option maxHeartbeats 4000000 in
theorem octetRows_walk (v0 : Value) (ls : List (List Int)) (w : World) (hR : Rs w v0 ls) (hY : ∀ k, Byt (ls.getD k [])) (hT : ls.length ≤ 1048576 ∧ ∀ k, k ≤ ls.length → (runsTo ls k).length ≤ 4194304 ∧ (ls.getD k []).length ≤ 1048576) :
    Calls Try.prog 3 #[v0] w fun e w' => e = .returned (.bool true) ∧ Below w.heap.size w w' := by
  obtain ⟨ao, cap, A, C, rfl, hc, hn, hcell⟩ := hR
  obtain ⟨hn1, hT⟩ := hT
  have HT : Hid (∀ k, k ≤ ls.length → (runsTo ls k).length ≤ 4194304 ∧ (ls.getD k []).length ≤ 1048576) := hT
  have HC : Hid (∀ r, r < ls.length → ∃ b off, ao = some ⟨b, off, none⟩ ∧ w.cell? ⟨b, off + r, none⟩ = some (.slice (A r) (ls.getD r []).length (C r)) ∧ Bs w (.slice (A r) (ls.getD r []).length (C r)) (ls.getD r [])) := by
    intro r hr
    cases ao with
    | none => have := hn rfl; omega
    | some ad =>
      obtain ⟨b, off, spot⟩ := ad
      have h00 := (hcell _ rfl 0 (by omega)).1
      have hspot : spot = none := by simpa [Addr.add] using World.cell?_spot h00
      subst hspot
      obtain ⟨h1, h2⟩ := hcell _ rfl r hr
      rw [addr_add] at h1
      exact ⟨b, off, rfl, h1, h2⟩
  clear hcell hn hT
  go_enter Try.func3, Try.ntmps3
  go_wp2
  go_loopw [3, 4] (fun v i wr => ∃ k : Nat, k ≤ ls.length ∧ i = .int .i64 k ∧ Fr wr w.heap.size v (runsTo ls k) ∧ Below w.heap.size w wr ∧ ∀ j, j < k → (ls.getD j []).length ≤ 65536) (fun _ i _ => ls.length - (intOf i).toNat)
  case atStart => exact ⟨0, Nat.zero_le _, rfl, .inl ⟨rfl, rfl⟩, Below.refl _ _, fun j hj => absurd hj (by omega)⟩
  case round =>
    obtain ⟨k, hk, rfl, hfr, hbr, hsm⟩ := hrel
    have hzr := hbr.size
    have HS : Hid (∀ j, j < k → (ls.getD j []).length ≤ 65536) := hsm
    clear hsm
    by_cases hlt : k < ls.length
    · obtain ⟨b, off, rfl, hc0, hbs0⟩ := HC.out k hlt
      have hc1 := cell_later hbr hc0
      obtain ⟨x, hx⟩ : ∃ x, x = ls.getD k [] := ⟨_, rfl⟩
      rw [← hx] at hc1 hbs0
      have HX : Hid (x = ls.getD k []) := hx
      have HB : Hid (Bs wr (.slice (A k) x.length (C k)) x) := hbs0.below hbr
      have hT1 := (HT.out k hk).1
      have hT2 := (HT.out k hk).2
      rw [← hx] at hT2
      clear hx hc0 hbs0
      by_cases hbig : 65536 < x.length
      · have HPE : Hid (pbErr x = 3) := by show _ = _; simp [pbErr, hbig]
        go_wp2_with fail
        refine (putBytes_any _ _ (runsTo ls k) x wr hfr.bs HB.out (by omega) (by omega)).mono ?_
        rintro e w1 ⟨y, rfl, hy1, hb1⟩
        have hc2 := cell_later (hb1) hc1
        rw [HPE.out]
        go_wp2
        go_ret
        exact ⟨ret_bool (decide_eq_true (by omega)), hbr.trans (hb1.mono hzr)⟩
      · have HPE : Hid (pbErr x = 0) := by show _ = _; simp [pbErr]; omega
        have HPL : Hid (pbList (runsTo ls k) x = runsTo ls (k + 1)) := by
          show _ = _
          rw [pbList, if_neg hbig, runsTo, encR, HX.out]
        go_wp2_with fail
        refine (putBytes_any _ _ (runsTo ls k) x wr hfr.bs HB.out (by omega) (by omega)).mono ?_
        rintro e w1 ⟨y, rfl, hy1, hb1⟩
        rw [HPE.out]
        rw [HPL.out] at hy1
        go_wp2
        go_roundw
        case rel => exact ⟨k + 1, by omega, by go_num, fr_mono hy1 hzr, hbr.trans (hb1.mono hzr), fun j hj => by
          by_cases e : j = k
          · rw [e, ← HX.out]; omega
          · exact HS.out j (by omega)⟩
        case measure => simp [intOf]; omega
    · obtain rfl : k = ls.length := by omega
      have HYB : Hid (Byt (runsTo ls ls.length)) := byt_runs hY _
      have hT1 := (HT.out ls.length hk).1
      have HBv := hfr.bs
      obtain ⟨B, hBe⟩ : ∃ B, B = runsTo ls ls.length := ⟨_, rfl⟩
      rw [← hBe] at hfr hT1 HBv
      have HBE : Hid (B = runsTo ls ls.length) := hBe
      clear hBe
      obtain ⟨aov, capv, rfl, hcv, _, _⟩ := HBv
      have HF : Hid (Fr wr w.heap.size (.slice aov B.length capv) B) := hfr
      have HBR : Hid (Below w.heap.size w wr) := hbr
      clear hfr hbr
      generalize wr = wa at *
      go_wp2
      go_loopw [7, 8] (fun t i wr => ∃ k : Nat, k ≤ ls.length ∧ i = .int .i64 k ∧ t = .int .i64 (runsTo ls k).length ∧ Below wa.heap.size wa wr) (fun _ i _ => ls.length - (intOf i).toNat)
      case atStart => exact ⟨0, Nat.zero_le _, rfl, rfl, Below.refl _ _⟩
      case round =>
        obtain ⟨k, hk, rfl, rfl, hbq⟩ := hrel
        have hzq := hbq.size
        have hT2 := (HT.out k hk).1
        have hFq := HF.out.below hbq
        by_cases hlt : k < ls.length
        · obtain ⟨b, off, rfl, hc0, hbs0⟩ := HC.out k hlt
          obtain ⟨post, hpost⟩ := runsTo_split ls k ls.length hlt
          obtain ⟨x, hx⟩ : ∃ x, x = ls.getD k [] := ⟨_, rfl⟩
          have HX : Hid (x = ls.getD k []) := hx
          obtain ⟨R, hRe⟩ : ∃ R, R = runsTo ls k := ⟨_, rfl⟩
          have HRE : Hid (R = runsTo ls k) := hRe
          have hx6 := HS.out k hlt
          have HN : Hid ((runsTo ls (k + 1)).length = (runsTo ls k).length + 4 + (ls.getD k []).length) := by
            show _ = _
            rw [runsTo, List.length_append, encR_length]; omega
          rw [← hx, ← hRe] at HN hpost
          rw [← hx] at hx6 hc0 hbs0
          rw [← hRe] at hT2
          rw [← HBE.out] at hpost
          have HPost : Hid (B = R ++ (encR x ++ post)) := hpost
          have hbel := HBR.out.trans (hbq.mono HBR.out.size)
          have hc1 := cell_later hbel hc0
          have HB : Hid (Bs wr (.slice (A k) x.length (C k)) x) := hbs0.below hbel
          rw [← hRe]
          clear hx hRe hpost hc0 hbs0 hbel
          go_wp2_with fail
          refine (getBytes_run _ B R x post wr HPost.out hFq.bs (by omega) (by rw [HBE.out]; exact HYB.out) hx6).mono ?_
          rintro e w1 ⟨y, rfl, hy1, hb1⟩
          have hs1 := fun q => str_run (w := w1.drewN q) (hy1.bs.drewN q)
          have hs2 := fun q => str_run (w := w1.drewN q) ((HB.out.below hb1).drewN q)
          have hc2 := cell_later hb1 hc1
          have hw1 : IntKind.i64.wrap ((R.length : Int) + 4) = (R.length : Int) + 4 := wrap_i64_in _ (by omega) (by omega)
          have hw2 : IntKind.i64.wrap ((R.length : Int) + 4 + (x.length : Int)) = (R.length : Int) + 4 + (x.length : Int) := wrap_i64_in _ (by omega) (by omega)
          have hk1 : (k : Int) < (ls.length : Int) := by omega
          have hk0 : (0 : Int) ≤ (k : Int) := by omega
          have HB1 : Hid (Below wa.heap.size wa w1) := hbq.trans (hb1.mono hzq)
          clear hy1 hb1 hc1 hbq hFq
          go_wp2_with fail
          go_quiet (fail)
          go_wp2
          go_roundw
          case rel => exact ⟨k + 1, by omega, by go_num, by rw [HN.out]; go_num, below_drewN HB1.out _⟩
          case measure => simp [intOf]; omega
        · obtain rfl : k = ls.length := by omega
          rw [← HBE.out]
          have hb' := HBR.out.trans (hbq.mono HBR.out.size)
          go_wp2_with fail
          refine (getBytes_end _ B wr hFq.bs (by omega) (by rw [HBE.out]; exact HYB.out)).mono ?_
          rintro e w1 ⟨y, n, rfl, hb1⟩
          go_wp2_with (go_at_call 6; refine (lives_any _).mono ?_; rintro e w8 ⟨rfl, hb8⟩)
          go_ret
          exact ⟨rfl, (hb'.trans (hb1.mono hb'.size)).trans (hb8.mono (Nat.le_trans hb'.size hb1.size))⟩
end Go.Proofs.Ytnmmpllokejelab
