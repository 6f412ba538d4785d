/-
  Walks of the cyclic sum, the program's (by its table of constants) and the document's: both tell moreN of the bytes. Conditions: lengths within the machine's bounds; the table stands as the program's text lays it.
-/
import Derived.Test.YtdalkjenjnalbaaDoorFletchWalk
namespace Go.Proofs.YtdalkjenjnalbaaDoor
open Go.RowKit
set_option linter.unusedVariables false
set_option maxRecDepth 100000

/-- The program's table of constants, as its text lays it. -/
def tab16 : List Nat := [0, 498536548, 997073096, 651767980, 1994146192, 1802195444, 1303535960, 1342533948, 3988292384, 4027552580, 3604390888, 3412177804, 2607071920, 2262029012, 2685067896, 3183342108]
/-- The table stands in the world. -/
def Tab (w : World) : Prop := ∀ j, j < 16 → w.cell? ⟨1, j, none⟩ = some (.int .u32 (tab16.getD j 0 : Nat))
theorem Tab.below {w w' : World} (h : Tab w) (hb : Below w.heap.size w w') : Tab w' := fun j hj => (hb.cell (World.block_lt_of_cell? w _ (h j hj))).trans (h j hj)

/-- The register behind the first k bytes. -/
def regN (c : Nat) (l : List Int) (k : Nat) : Nat := feed (c ^^^ ones32) (allBits (l.take k))
theorem regN_lt {c : Nat} (h : c < 4294967296) (l : List Int) (k : Nat) : regN c l k < 4294967296 := feed_lt _ (Nat.xor_lt_two_pow (n := 32) h ones_lt)
theorem regN_start (c : Nat) (l : List Int) (h : c < 4294967296) : bits .xor .u32 IntKind.u32.max (c : Int) = ((regN c l 0 : Nat) : Int) := by
  have e : (IntKind.u32.max : Int) = ((ones32 : Nat) : Int) := rfl
  rw [e, u32_xor_nat _ _ (by decide) h, Nat.xor_comm]; rfl
theorem and15 (r : Nat) (h : r < 4294967296) : bits .and .u32 (r : Int) 15 = ((r % 16 : Nat) : Int) := by
  have e := u32_and_nat r 15 h (by decide)
  rw [show ((15 : Nat) : Int) = 15 from rfl] at e
  rw [e, Nat.and_two_pow_sub_one_eq_mod r 4]

theorem step_xor (r x : Nat) (hr : r < 4294967296) (hx : x < 256) : ∃ r1, Hid (r1 = r ^^^ x) ∧ bits .xor .u32 (r : Int) (x : Int) = (r1 : Int) ∧ r1 < 4294967296 :=
  ⟨_, (show r ^^^ x = r ^^^ x from rfl), u32_xor_nat _ _ hr (by omega), Nat.xor_lt_two_pow (n := 32) hr (by omega)⟩
theorem tab_lt : ∀ j, j < 16 → tab16.getD j 0 < 4294967296 := by decide
theorem tab_feed : ∀ j, j < 16 → tab16.getD j 0 = feed j (List.replicate 4 false) := by decide
theorem step_tab {w : World} (ht : Tab w) (r : Nat) (hr : r < 4294967296) : ∃ j t r2 : Nat, Hid (r2 = feed r (List.replicate 4 false)) ∧ bits .and .u32 (r : Int) 15 = (j : Int) ∧ j < 16 ∧ w.cell? ⟨1, j, none⟩ = some (.int .u32 t) ∧
    bits .xor .u32 ((r : Int) / 16) (t : Int) = (r2 : Int) ∧ r2 < 4294967296 ∧ t < 4294967296 := by
  have hj : r % 16 < 16 := Nat.mod_lt _ (by decide)
  refine ⟨r % 16, tab16.getD (r % 16) 0, r / 16 ^^^ tab16.getD (r % 16) 0, ?_, and15 r hr, hj, ht _ hj, ?_, Nat.xor_lt_two_pow (n := 32) (by omega) (tab_lt _ hj), tab_lt _ hj⟩
  · show _ = _
    rw [tab_feed _ hj, feed_table r 4]
  · rw [show (r : Int) / 16 = ((r / 16 : Nat) : Int) by simp]
    exact u32_xor_nat _ _ (by omega) (tab_lt _ hj)
theorem regN_step {c : Nat} {l : List Int} {k : Nat} (hlt : k < l.length) : regN c l (k + 1) = feed (regN c l k) (bitsN 8 (l.getD k 0).toNat) := by
  unfold regN
  have : l.getD k 0 = l[k] := by simp [List.getD, hlt]
  rw [List.take_succ_eq_append_getElem hlt, allBits_append, feed_append, this]
  simp [allBits]
theorem regN_next {c : Nat} {l : List Int} {k x r r1 r2 r3 : Nat} (hc : c < 4294967296) (hby : Byt l) (hlt : k < l.length) (hx : (x : Int) = l.getD k 0) (hr : r = regN c l k) (h1 : r1 = r ^^^ x) (h2 : r2 = feed r1 (List.replicate 4 false)) (h3 : r3 = feed r2 (List.replicate 4 false)) : regN c l (k + 1) = r3 := by
  have hb := hby k
  rw [regN_step hlt, ← hx, Int.toNat_natCast, ← hr, feed_in r x 8 (by omega), ← h1, h3, h2, ← feed_append]
  rfl
theorem regN_end {c : Nat} (h : c < 4294967296) (l : List Int) : bits .xor .u32 IntKind.u32.max ((regN c l l.length : Nat) : Int) = ((moreN c l : Nat) : Int) := by
  have e : (IntKind.u32.max : Int) = ((ones32 : Nat) : Int) := rfl
  rw [e, u32_xor_nat _ _ (by decide) (regN_lt h l _), Nat.xor_comm]
  unfold regN moreN
  rw [List.take_length]

theorem more_any (v : Value) (l : List Int) (c : Nat) (w : World) (hl : Bs w v l) (hb : l.length ≤ 140737488351240) (hby : Byt l) (ht : Tab w) (hc32 : c < 4294967296) :
    Calls Tryd.prog 98 #[.int .u32 c, v] w fun e w' => e = .returned (.int .u32 (moreN c l : Nat)) ∧ w' = w := by
  obtain ⟨ao, cap, rfl, hc, hcell⟩ := hl.cells
  have HC : Hid (∀ i, i < l.length → ∃ b off, ao = some ⟨b, off, none⟩ ∧ w.cell? ⟨b, off + i, none⟩ = some (.int .u8 (l.getD i 0))) := hcell
  clear hcell hl
  go_enter Tryd.func98, Tryd.ntmps98
  go_wp2
  go_loop [5, 12] (fun x i => ∃ k : Nat, k ≤ l.length ∧ i = .int .i64 k ∧ x = .int .u32 (regN c l k : Nat)) (fun _ i => l.length - (intOf i).toNat)
  case atStart => exact ⟨0, Nat.zero_le _, rfl, by rw [regN_start c l hc32]⟩
  case round =>
    obtain ⟨k, hk, rfl, rfl⟩ := hrel
    by_cases hlt : k < l.length
    · obtain ⟨b, off, rfl, hc1⟩ := HC.out k hlt
      have hx := hby k
      obtain ⟨x, hxe⟩ : ∃ x : Nat, (x : Int) = l.getD k 0 := ⟨(l.getD k 0).toNat, by omega⟩
      rw [← hxe] at hc1 hx
      have HX : Hid ((x : Int) = l.getD k 0) := hxe
      clear hxe
      have hr := regN_lt hc32 l k
      obtain ⟨r, hre⟩ : ∃ r, r = regN c l k := ⟨_, rfl⟩
      rw [← hre] at hr ⊢
      have HR : Hid (r = regN c l k) := hre
      clear hre
      obtain ⟨r1, HR1, h1, hr1⟩ := step_xor r x hr (by omega)
      obtain ⟨j1, t1, r2, HR2, h2, hj1, h3, h4, hr2, ht1⟩ := step_tab ht r1 hr1
      obtain ⟨j2, t2, r3, HR3, h5, hj2, h6, h7, hr3, ht2⟩ := step_tab ht r2 hr2
      go_wp2
      go_round
      case rel => exact ⟨k + 1, by omega, by go_num, by rw [regN_next hc32 hby hlt HX.out HR.out HR1.out HR2.out HR3.out]⟩
      case measure => simp [intOf]; omega
    · obtain rfl : k = l.length := by omega
      have HM : Hid (bits .xor .u32 IntKind.u32.max ((regN c l l.length : Nat) : Int) = ((moreN c l : Nat) : Int)) := regN_end hc32 l
      go_wp2
      go_ret
      exact ⟨ret_int HM.out, rfl⟩
theorem feed_bit (r x j : Nat) : feed r (bitsN (j + 1) x) = stp (feed r (bitsN j x)) (x.testBit j) := by
  rw [bitsN_add j 1 x, feed_append, bitsN, bitsN, Nat.testBit_div_two_pow, Nat.zero_add, feed_cons, feed_nil]
theorem and1 (r : Nat) (h : r < 4294967296) : bits .and .u32 (r : Int) 1 = ((r.testBit 0).toNat : Int) := by
  have e := u32_and_nat r 1 h (by decide)
  rw [show ((1 : Nat) : Int) = 1 from rfl] at e
  rw [e, Nat.and_one_is_mod, Nat.testBit_zero]
  rcases Nat.mod_two_eq_zero_or_one r with h | h <;> simp [h]
theorem bit_turn (q x j : Nat) (hq : q < 4294967296) (hx : x < 256) : (bits .xor .u32 (bits .and .u32 (q : Int) 1) (bits .and .u32 ((x : Int) / 2 ^ j) 1) == 1) = (q.testBit 0 != x.testBit j) := by
  have e : (x : Int) / 2 ^ j = ((x / 2 ^ j : Nat) : Int) := by simp
  have hd : x / 2 ^ j ≤ x := Nat.div_le_self _ _
  rw [and1 q hq, e, and1 _ (by omega), Nat.testBit_div_two_pow, Nat.zero_add]
  cases q.testBit 0 <;> cases x.testBit j <;> rfl

theorem refMore_any (v : Value) (l : List Int) (c : Nat) (w : World) (hl : Bs w v l) (hb : l.length ≤ 140737488351240) (hby : Byt l) (hc32 : c < 4294967296) :
    Calls Tryd.prog 75 #[.int .u32 c, v] w fun e w' => e = .returned (.int .u32 (moreN c l : Nat)) ∧ w' = w := by
  obtain ⟨ao, cap, rfl, hc, hcell⟩ := hl.cells
  have HC : Hid (∀ i, i < l.length → ∃ b off, ao = some ⟨b, off, none⟩ ∧ w.cell? ⟨b, off + i, none⟩ = some (.int .u8 (l.getD i 0))) := hcell
  clear hcell hl
  go_enter Tryd.func75, Tryd.ntmps75
  go_wp2
  go_loop [5, 6] (fun x i => ∃ k : Nat, k ≤ l.length ∧ i = .int .i64 k ∧ x = .int .u32 (regN c l k : Nat)) (fun _ i => l.length - (intOf i).toNat)
  case atStart => exact ⟨0, Nat.zero_le _, rfl, by rw [regN_start c l hc32]⟩
  case round =>
    obtain ⟨k, hk, rfl, rfl⟩ := hrel
    by_cases hlt : k < l.length
    · obtain ⟨b, off, rfl, hc1⟩ := HC.out k hlt
      have hx := hby k
      obtain ⟨x, hxe⟩ : ∃ x : Nat, (x : Int) = l.getD k 0 := ⟨(l.getD k 0).toNat, by omega⟩
      rw [← hxe] at hc1 hx
      have HX : Hid ((x : Int) = l.getD k 0) := hxe
      clear hxe
      have hr := regN_lt hc32 l k
      obtain ⟨r, hre⟩ : ∃ r, r = regN c l k := ⟨_, rfl⟩
      rw [← hre] at hr ⊢
      have HR : Hid (r = regN c l k) := hre
      clear hre
      go_wp2
      go_loop [5, 7] (fun y i => ∃ j : Nat, j ≤ 8 ∧ i = .int .i64 j ∧ y = .int .u32 (feed r (bitsN j x) : Nat)) (fun _ i => 8 - (intOf i).toNat)
      case atStart => exact ⟨0, Nat.zero_le _, rfl, rfl⟩
      case round =>
        obtain ⟨j, hj, rfl, rfl⟩ := hrel
        by_cases hlt2 : j < 8
        · obtain ⟨q, HQ, hq⟩ : ∃ q, Hid (q = feed r (bitsN j x)) ∧ q < 4294967296 := ⟨_, (show feed r (bitsN j x) = feed r (bitsN j x) from rfl), feed_lt _ (r := r) hr⟩
          rw [← HQ.out]
          have HN : Hid (feed r (bitsN (j + 1) x) = stp q (x.testBit j)) := by show _ = _; rw [HQ.out, feed_bit]
          have hbt := bit_turn q x j hq (by omega)
          cases hbb : (q.testBit 0 != x.testBit j)
          · rw [hbb] at hbt
            have HS : Hid (stp q (x.testBit j) = q / 2) := by show _ = _; unfold stp; rw [if_neg (by rw [hbb]; simp)]
            clear hbb
            go_wp2
            go_round
            case rel => exact ⟨j + 1, by omega, by go_num, by rw [HN.out, HS.out]; simp⟩
            case measure => simp [intOf]; omega
          · rw [hbb] at hbt
            have HS : Hid (bits .xor .u32 ((q : Int) / 2) 3988292384 = (stp q (x.testBit j) : Nat)) := by
              show _ = _
              unfold stp
              rw [if_pos hbb, show (q : Int) / 2 = ((q / 2 : Nat) : Int) by simp, show (3988292384 : Int) = ((crcP : Nat) : Int) from rfl]
              exact u32_xor_nat _ _ (by omega) (by decide)
            clear hbb
            go_wp2
            go_round
            case rel => exact ⟨j + 1, by omega, by go_num, by rw [HN.out, HS.out]⟩
            case measure => simp [intOf]; omega
        · obtain rfl : j = 8 := by omega
          have HN : Hid (regN c l (k + 1) = feed r (bitsN 8 x)) := by
            show _ = _
            rw [regN_step hlt, ← HX.out, Int.toNat_natCast, ← HR.out]
          go_wp2
          go_round
          case rel => exact ⟨k + 1, by omega, by go_num, by rw [HN.out]⟩
          case measure => simp [intOf]; omega
    · obtain rfl : k = l.length := by omega
      have HM : Hid (bits .xor .u32 IntKind.u32.max ((regN c l l.length : Nat) : Int) = ((moreN c l : Nat) : Int)) := regN_end hc32 l
      go_wp2
      go_ret
      exact ⟨ret_int HM.out, rfl⟩
end Go.Proofs.YtdalkjenjnalbaaDoor
