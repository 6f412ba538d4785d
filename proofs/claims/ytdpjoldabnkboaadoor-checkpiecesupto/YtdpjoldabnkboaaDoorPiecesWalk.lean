/-
  The walk of the law CheckPieces: true for all pieces. Conditions: the pieces are together of at most so many bytes; the table stands as the program's text lays it.
-/
import Derived.Test.YtdpjoldabnkboaaDoorSealWalk
import Derived.Test.YtdpjoldabnkboaaDoorRowNums
namespace Go.Proofs.YtdpjoldabnkboaaDoor
open Go.RowKit
set_option linter.unusedVariables false

/-- The first k pieces, one behind the other. -/
def catTo (ls : List (List Int)) : Nat → List Int
  | 0 => []
  | k + 1 => catTo ls k ++ ls.getD k []
theorem catTo_le (ls : List (List Int)) : ∀ k, (catTo ls k).length ≤ (runsTo ls k).length
  | 0 => Nat.le_refl _
  | k + 1 => by
    have := catTo_le ls k
    rw [catTo, runsTo, List.length_append, List.length_append, encR_length]; omega
theorem byt_cat {ls : List (List Int)} (h : ∀ k, Byt (ls.getD k [])) : ∀ n, Byt (catTo ls n)
  | 0 => fun i => by simp [catTo]
  | n + 1 => byt_append (byt_cat h n) (h n)
theorem crc_cat (ls : List (List Int)) (k : Nat) : moreN (crcN (catTo ls k)) (ls.getD k []) = crcN (catTo ls (k + 1)) := by
  unfold crcN; rw [moreN_append]; rfl

set_option maxHeartbeats 4000000 in
theorem checkPieces_walk (v0 : Value) (ls : List (List Int)) (w : World) (hT : Tab w) (hR : Rs w v0 ls) (hY : ∀ k, Byt (ls.getD k [])) (hS : ls.length ≤ 1048576 ∧ ∀ k, k ≤ ls.length → (runsTo ls k).length ≤ 4194304 ∧ (ls.getD k []).length ≤ 1048576) :
    Calls Tryd.prog 6 #[v0] w fun e w' => e = .returned (.bool true) ∧ Below w.heap.size w w' := by
  obtain ⟨i0, hi, hz0, hz1, hz2⟩ := info_parts Tryd.info5
  obtain ⟨ao, cap, A, C, rfl, hc, hn, hcell⟩ := hR
  obtain ⟨hn1, hS⟩ := hS
  have HS : Hid (∀ k, k ≤ ls.length → (catTo ls k).length ≤ 4194304 ∧ (ls.getD k []).length ≤ 1048576) := fun k hk => ⟨Nat.le_trans (catTo_le ls k) (hS k hk).1, (hS k hk).2⟩
  have HT : Hid (Tab w) := hT
  have HC : Hid (∀ r, r < ls.length → ∃ b off, ao = some ⟨b, off, none⟩ ∧ w.cell? ⟨b, off + r, none⟩ = some (.slice (A r) (ls.getD r []).length (C r)) ∧ Bs w (.slice (A r) (ls.getD r []).length (C r)) (ls.getD r [])) := by
    intro r hr
    cases ao with
    | none => have := hn rfl; omega
    | some ad =>
      obtain ⟨b, off, spot⟩ := ad
      have h00 := (hcell _ rfl 0 (by omega)).1
      have hspot : spot = none := by simpa [Addr.add] using World.cell?_spot h00
      subst hspot
      obtain ⟨h1, h2⟩ := hcell _ rfl r hr
      rw [addr_add] at h1
      exact ⟨b, off, rfl, h1, h2⟩
  clear hcell hn hS hT
  go_enter Tryd.func6, Tryd.ntmps6
  go_wp2
  go_loopw [3, 4, 5] (fun v s i wr => ∃ k : Nat, k ≤ ls.length ∧ i = .int .i64 k ∧ s = .int .u32 (crcN (catTo ls k) : Nat) ∧ Own wr w.heap.size v (catTo ls k) ∧ Below w.heap.size w wr) (fun _ _ i _ => ls.length - (intOf i).toNat)
  case atStart => exact ⟨0, Nat.zero_le _, rfl, by rw [show crcN (catTo ls 0) = 0 from moreN_nil]; rfl, Own.nil _ _, Below.refl _ _⟩
  case round =>
    obtain ⟨k, hk, rfl, rfl, hor, hbr⟩ := hrel
    have hzr := hbr.size
    have HOR : Hid (Own wr w.heap.size _ (catTo ls k)) := hor
    have HBR : Hid (Below w.heap.size w wr) := hbr
    clear hor
    by_cases hlt : k < ls.length
    · obtain ⟨b, off, rfl, hc0, hbs0⟩ := HC.out k hlt
      have hc1 := cell_later hbr hc0
      have hS1 := (HS.out k hk).1
      have hS2 := (HS.out k hk).2
      have HCC : Hid (moreN (crcN (catTo ls k)) (ls.getD k []) = crcN (catTo ls (k + 1))) := crc_cat ls k
      have HCT : Hid (catTo ls (k + 1) = catTo ls k ++ ls.getD k []) := rfl
      have HYX : Hid (Byt (ls.getD k [])) := hY k
      have hcr := crcN_lt (catTo ls k)
      obtain ⟨x, hx⟩ : ∃ x, x = ls.getD k [] := ⟨_, rfl⟩
      obtain ⟨c, hce⟩ : ∃ c, c = crcN (catTo ls k) := ⟨_, rfl⟩
      rw [← hx] at hc0 hc1 hbs0 hS2 HCC HCT HYX
      rw [← hce] at HCC hcr ⊢
      have HB0 : Hid (Bs w (.slice (A k) x.length (C k)) x) := hbs0
      have HC0 : Hid (w.cell? ⟨b, off + k, none⟩ = some (.slice (A k) x.length (C k))) := hc0
      clear hx hce hc0 hbs0 hbr
      go_wp2_with (at_builtin; refine wpList_append_bytes _ rfl (.tmp 12) (.tmp 16) 22 rfl i0 Tryd.underlying22 hi hz0 hz1 hz2 w.heap.size _ _ (catTo ls k) x rfl rfl HOR.out (HB0.out.below HBR.out) (by omega) w HBR.out hzr ?_; intro ao2 cap2 w2 ho2 hb2 hs2 hcp2; have hc2 := cell_later hb2 HC0.out; have HO2 : Hid (Own w2 w.heap.size (.slice ao2 ((catTo ls k).length + x.length) cap2) (catTo ls k ++ x)) := ho2; have HB2 : Hid (Below w.heap.size w w2) := hb2; clear hs2 ho2 hb2)
      refine (more_any _ x c w2 (HB0.out.below HB2.out) (by omega) HYX.out (HT.out.below HB2.out) hcr).mono ?_
      rintro e w3 ⟨rfl, rfl⟩
      go_wp2
      go_roundw
      case rel => exact ⟨k + 1, by omega, by go_num, by rw [HCC.out], by rw [HCT.out]; exact HO2.out, HB2.out⟩
      case measure => simp [intOf]; omega
    · obtain rfl : k = ls.length := by omega
      have HYB : Hid (Byt (catTo ls ls.length)) := byt_cat hY _
      have hS1 := (HS.out ls.length hk).1
      obtain ⟨B, hBe⟩ : ∃ B, B = catTo ls ls.length := ⟨_, rfl⟩
      rw [← hBe] at HOR HYB hS1 ⊢
      clear hBe hbr
      go_wp2_with fail
      refine (crc_any _ B wr HOR.out.bs (by omega) HYB.out (HT.out.below HBR.out)).mono ?_
      rintro e w4 ⟨rfl, rfl⟩
      go_wp2_with fail
      refine (lives2_any _ (HT.out.below HBR.out)).mono ?_
      rintro e w5 ⟨rfl, hb5⟩
      go_wp2
      go_ret
      exact ⟨rfl, HBR.out.trans (hb5.mono hzr)⟩

end Go.Proofs.YtdpjoldabnkboaaDoor
