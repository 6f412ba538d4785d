/-
  eachNumber, over each of the four functions that it is handed. Conditions: what is done to each number has a contract.
-/
import Derived.Test.YtgodoogmbdgeoabFShW
import Derived.Deep.RegionLaw
import Derived.Deep.RegionWith
import Derived.Laws.EntriesVeiled
import Derived.Shelf.Abstract
namespace Go.Proofs.Ytgodoogmbdgeoab
open Go.RowKit Go.Shelf
set_option linter.unusedVariables false
set_option maxRecDepth 100000

/-- A slice cut at a place. -/
theorem bs_cut {w : World} {b off n cap : Nat} {l : List Int} (h : Bs w (.slice (some ⟨b, off, none⟩) n cap) l) (p : Nat) (hp : p < n) : Bs w (.slice (some ⟨b, off + p, none⟩) (n - p) (cap - p)) (l.drop p) := by
  obtain ⟨ao', cap', e, hc, hn, hcell⟩ := h
  injection e with e1 e2 e3
  subst e1 e2 e3
  refine ⟨_, _, by rw [List.length_drop], by rw [List.length_drop]; omega, (fun h => by cases h), ?_⟩
  intro ad' h' i hi
  obtain rfl := Option.some.inj h'
  rw [List.length_drop] at hi
  have := hcell _ rfl (p + i) (by omega)
  rw [addr_add] at this
  rw [addr_add, show (l.drop p).getD i 0 = l.getD (p + i) 0 by simp [List.getD], ← this, Nat.add_assoc]
theorem bs_noneF (w : World) (ao : Option Addr) (cap : Nat) (h : ao = none → cap = 0) : Bs w (.slice ao 0 cap) [] := ⟨ao, cap, rfl, Nat.zero_le _, h, fun _ _ i hi => by simp at hi⟩
theorem each_no (z : Int) (v f : Value) (w : World) (hz : z < 1 ∨ 8 < z) : Calls Try.prog 20 #[.int .i64 z, v, f] w fun e w' => e = .returned (.tuple #[.slice none 0 0, .int .i64 2]) ∧ w' = w := by
  rcases hz with h | h
  · go_enter Try.func20, Try.ntmps20
    go_wp2_with fail
    go_ret2
    exact ⟨rfl, rfl⟩
  · have h1 : ¬ z < 1 := by omega
    go_enter Try.func20, Try.ntmps20
    go_wp2_with fail
    go_ret2
    exact ⟨rfl, rfl⟩
set_option maxHeartbeats 8000000 in
theorem each_sh (z n p len : Nat) (l F R : List Int) (ao : Option Addr) (cap p1 p2 B : Nat) (w0 w : World) (K : Nat → World → Prop) (hll : l.length = len) (hcl : len ≤ cap) (hlb : len ≤ 140737488351232) (hnl : len / z = n) (hz1 : 1 ≤ z) (hz8 : z ≤ 8) (hp : n * z = p) (hR : F.take p ++ l.drop p = R) (hao : ao = none → cap = 0)
    (h0 : ∀ w1, Row w1 w.heap.size (List.replicate len 0) → Below w.heap.size w w1 → K 0 w1)
    (hs : ∀ k w1, k < n → K k w1 → Calls Try.prog 21 #[.slice (some ⟨w.heap.size, 0, none⟩) len len, .int .i64 (n : Int), .int .i64 (k : Int), .pointer (some ⟨p1, 0, none⟩), .pointer (some ⟨p2, 0, none⟩)] w1 fun e w2 => e = .returned (.tuple #[]) ∧ K (k + 1) w2)
    (hK : ∀ w1, K n w1 → Row w1 w.heap.size F ∧ F.length = len ∧ Bs w1 (.slice ao len cap) l ∧ Below B w0 w1) (hB : B ≤ w.heap.size) :
    Calls Try.prog 20 #[.int .i64 (z : Int), .slice ao len cap, .func (.func 21) #[] #[.pointer (some ⟨p1, 0, none⟩), .pointer (some ⟨p2, 0, none⟩)]] w fun e w' => e = .returned (.tuple #[.slice (some ⟨w.heap.size, 0, none⟩) len len, .int .i64 0]) ∧ Row w' w.heap.size R ∧ Below B w0 w' := by
  obtain ⟨i0, hi, hi0, hi1, hi2⟩ := info_parts Try.info5
  have H0 : Hid _ := h0
  have HS : Hid _ := hs
  have HK : Hid _ := hK
  have HLL : Hid (l.length = len) := hll
  have HRR : Hid (F.take p ++ l.drop p = R) := hR
  have hnz : p ≤ len := by rw [← hp, ← hnl]; exact Nat.div_mul_le_self _ _
  have e1 : IntKind.i64.wrap ((n : Int) * (z : Int)) = (p : Int) := wrap_nat (by rw [← Int.natCast_mul, hp]) (by omega)
  have hlb' : len ≤ 281474976710656 := by omega
  have hq : (len : Int) / (z : Int) = (n : Int) := by rw [← Int.natCast_ediv, hnl]
  have hn8 : n ≤ len := by rw [← hnl]; exact Nat.div_le_self _ _
  have eh : ∀ args w, (callFunc 21 args).run Try.prog w = .ok (.enter 21 args) w := enters_of Try.func21 (by kernel_rfl) rfl
  have z1 : ¬ (z : Int) < 1 := by omega
  have z2 : ¬ 8 < (z : Int) := by omega
  have z3 : (z : Int) ≠ 0 := by omega
  have z4 : IntKind.i64.wrap ((len : Int) / (z : Int)) = (n : Int) := by rw [hq]; exact wrap_i64_in _ (by omega) (by omega)
  have hql : IntKind.i64.wrap (Int.tdiv (len : Int) (z : Int)) = (n : Int) := by rw [Int.tdiv_eq_ediv_of_nonneg (by omega)]; exact z4
  clear h0 hs hK hll hnl hp hR
  go_enter Try.func20, Try.ntmps20
  go_wp2_with (first | (at_make; refine wpList_make_bytes _ rfl _ _ 23 rfl i0 Try.underlying23 hi hi0 hi1 hi2 _ _ _ _ len rfl rfl rfl rfl (by omega) ?_; intro w1 hr1 hg1; have HW1 : Hid (K 0 w1) := H0.out w1 hr1 (below_of_grown hg1); clear hr1 hg1))
  go_loopw [25] (fun i wr => ∃ k : Nat, k ≤ n ∧ i = .int .i64 k ∧ K k wr) (fun i _ => n - (intOf i).toNat)
  case atStart => exact ⟨0, Nat.zero_le _, rfl, HW1.out⟩
  case round =>
    obtain ⟨k, hk, rfl, hkr⟩ := hrel
    by_cases hlt : k < n
    · have HKR : Hid (K k wr) := hkr
      have HCALL : Hid _ := HS.out k wr hlt hkr
      clear hkr
      go_wp2_with fail
      refine Calls.mono HCALL.out ?_
      rintro e w2 ⟨rfl, hk2⟩
      have HK2 : Hid (K (k + 1) w2) := hk2
      clear hk2
      go_wp2_with fail
      go_roundw
      case rel => exact ⟨k + 1, by omega, by go_num, HK2.out⟩
      case measure => simp [intOf]; omega
    · obtain rfl : k = n := by omega
      obtain ⟨hrF, hFl, hbs, hbw⟩ := HK.out wr hkr
      have HR : Hid (Row wr w.heap.size F) := hrF
      have HFL : Hid (F.length = len) := hFl
      have HBW : Hid (Below B w0 wr) := hbw
      by_cases hlp : p < len
      · obtain ⟨b, off, rfl, _⟩ := bs_someF hbs (by omega)
        have HCU : Hid (Bs wr (.slice (some ⟨b, off + p, none⟩) (len - p) (cap - p)) (l.drop p)) := bs_cut hbs p hlp
        have HTK : Hid ((l.drop p).take (len - p) = l.drop p) := by rw [Hid, List.take_of_length_le (by rw [List.length_drop, HLL.out]; omega)]
        have HLE : Hid (p + (l.drop p).length ≤ F.length) := by rw [Hid, List.length_drop, HLL.out, HFL.out]; omega
        have HJ : Hid (F.take p ++ (l.drop p ++ F.drop (p + (l.drop p).length)) = R) := by rw [Hid, ← HRR.out, List.length_drop, HLL.out, show F.drop (p + (len - p)) = [] from List.drop_of_length_le (by rw [HFL.out]; omega), List.append_nil]
        clear hrF hFl hbs hbw hkr hao hq z4 hql
        go_wp2_with fail
        go_region_law (refine step_copy_min rfl (.tmp 38) (.tmp 43) 23 rfl Try.underlying23 Try.size5 w.heap.size p (len - p) (len - p) (some ⟨w.heap.size, p, none⟩) (by simp [Act.eval, Act.put] <;> omega) (.slice (some ⟨b, off + p, none⟩) (len - p) (cap - p)) (by simp [Act.eval, Act.put] <;> omega) F (l.drop p) (l.drop p) HTK.out (fun _ => rfl) HR.out.drew HCU.out.drew HLE.out R HJ.out B w0 (bel_drew HBW.out) hB ?_; intro w2 hr2 hb2)
        go_wp2_with fail
        go_ret2
        exact ⟨rfl, hr2, hb2⟩
      · obtain rfl : p = len := by omega
        have HFF : Hid (F = R) := by rw [Hid, ← HRR.out, List.drop_of_length_le (by rw [HLL.out]; omega), List.append_nil, List.take_of_length_le (by rw [HFL.out]; omega)]
        rcases Nat.eq_zero_or_pos p with h9 | h9
        · subst h9
          have HAO : Hid (ao = none → cap = 0) := hao
          clear hrF hFl hbs hbw hkr hao hq z4 hql
          go_wp2_with fail
          go_region_law (refine step_copy_min rfl (.tmp 38) (.tmp 43) 23 rfl Try.underlying23 Try.size5 w.heap.size 0 0 0 (some ⟨w.heap.size, 0, none⟩) (by simp [Act.eval, Act.put]) (.slice ao 0 cap) (by simp [Act.eval, Act.put]) F [] [] rfl (fun _ => rfl) HR.out.drew (bs_noneF _ _ _ HAO.out) (Nat.zero_le _) F (by simp) B w0 (bel_drew HBW.out) hB ?_; intro w2 hr2 hb2)
          go_wp2_with fail
          go_ret2
          exact ⟨rfl, by rw [← HFF.out]; exact hr2, hb2⟩
        · obtain ⟨b, off, rfl, _⟩ := bs_someF hbs h9
          have HAO : Hid (some (⟨b, off, none⟩ : Addr) = none → cap = 0) := hao
          have HAO' : Hid (some (⟨b, off + p, none⟩ : Addr) = none → cap - p = 0) := fun h => by cases h
          have h8 : (p = 0) = False := by simp; omega
          by_cases h7 : cap = p
          · subst h7
            clear hrF hFl hbs hbw hkr hao hq z4 hql
            go_wp2_with fail
            go_region_law (refine step_copy_min rfl (.tmp 38) (.tmp 43) 23 rfl Try.underlying23 Try.size5 w.heap.size 0 0 0 (some ⟨w.heap.size, 0, none⟩) (by simp [Act.eval, Act.put]) (.slice (some ⟨b, off, none⟩) 0 0) (by simp [Act.eval, Act.put]) F [] [] rfl (fun _ => rfl) HR.out.drew (bs_noneF _ _ _ (fun _ => rfl)) (Nat.zero_le _) F (by simp) B w0 (bel_drew HBW.out) hB ?_; intro w2 hr2 hb2)
            go_wp2_with fail
            go_ret2
            exact ⟨rfl, by rw [← HFF.out]; exact hr2, hb2⟩
          · have h6 : (cap = p) = False := by simp; omega
            clear hrF hFl hbs hbw hkr hao hq z4 hql
            go_wp2_with fail
            go_region_law (refine step_copy_min rfl (.tmp 38) (.tmp 43) 23 rfl Try.underlying23 Try.size5 w.heap.size 0 0 0 (some ⟨w.heap.size, 0, none⟩) (by simp [Act.eval, Act.put] <;> omega) (.slice (some ⟨b, off + p, none⟩) 0 (cap - p)) (by simp [Act.eval, Act.put]) F [] [] rfl (fun _ => rfl) HR.out.drew (bs_noneF _ _ _ HAO'.out) (Nat.zero_le _) F (by simp) B w0 (bel_drew HBW.out) hB ?_; intro w2 hr2 hb2)
            go_wp2_with fail
            go_ret2
            exact ⟨rfl, by rw [← HFF.out]; exact hr2, hb2⟩
set_option maxHeartbeats 8000000 in
theorem each_un (z n p len : Nat) (l F R : List Int) (ao : Option Addr) (cap p1 p2 B : Nat) (w0 w : World) (K : Nat → World → Prop) (hll : l.length = len) (hcl : len ≤ cap) (hlb : len ≤ 140737488351232) (hnl : len / z = n) (hz1 : 1 ≤ z) (hz8 : z ≤ 8) (hp : n * z = p) (hR : F.take p ++ l.drop p = R) (hao : ao = none → cap = 0)
    (h0 : ∀ w1, Row w1 w.heap.size (List.replicate len 0) → Below w.heap.size w w1 → K 0 w1)
    (hs : ∀ k w1, k < n → K k w1 → Calls Try.prog 22 #[.slice (some ⟨w.heap.size, 0, none⟩) len len, .int .i64 (n : Int), .int .i64 (k : Int), .pointer (some ⟨p1, 0, none⟩), .pointer (some ⟨p2, 0, none⟩)] w1 fun e w2 => e = .returned (.tuple #[]) ∧ K (k + 1) w2)
    (hK : ∀ w1, K n w1 → Row w1 w.heap.size F ∧ F.length = len ∧ Bs w1 (.slice ao len cap) l ∧ Below B w0 w1) (hB : B ≤ w.heap.size) :
    Calls Try.prog 20 #[.int .i64 (z : Int), .slice ao len cap, .func (.func 22) #[] #[.pointer (some ⟨p1, 0, none⟩), .pointer (some ⟨p2, 0, none⟩)]] w fun e w' => e = .returned (.tuple #[.slice (some ⟨w.heap.size, 0, none⟩) len len, .int .i64 0]) ∧ Row w' w.heap.size R ∧ Below B w0 w' := by
  obtain ⟨i0, hi, hi0, hi1, hi2⟩ := info_parts Try.info5
  have H0 : Hid _ := h0
  have HS : Hid _ := hs
  have HK : Hid _ := hK
  have HLL : Hid (l.length = len) := hll
  have HRR : Hid (F.take p ++ l.drop p = R) := hR
  have hnz : p ≤ len := by rw [← hp, ← hnl]; exact Nat.div_mul_le_self _ _
  have e1 : IntKind.i64.wrap ((n : Int) * (z : Int)) = (p : Int) := wrap_nat (by rw [← Int.natCast_mul, hp]) (by omega)
  have hlb' : len ≤ 281474976710656 := by omega
  have hq : (len : Int) / (z : Int) = (n : Int) := by rw [← Int.natCast_ediv, hnl]
  have hn8 : n ≤ len := by rw [← hnl]; exact Nat.div_le_self _ _
  have eh : ∀ args w, (callFunc 22 args).run Try.prog w = .ok (.enter 22 args) w := enters_of Try.func22 (by kernel_rfl) rfl
  have z1 : ¬ (z : Int) < 1 := by omega
  have z2 : ¬ 8 < (z : Int) := by omega
  have z3 : (z : Int) ≠ 0 := by omega
  have z4 : IntKind.i64.wrap ((len : Int) / (z : Int)) = (n : Int) := by rw [hq]; exact wrap_i64_in _ (by omega) (by omega)
  have hql : IntKind.i64.wrap (Int.tdiv (len : Int) (z : Int)) = (n : Int) := by rw [Int.tdiv_eq_ediv_of_nonneg (by omega)]; exact z4
  clear h0 hs hK hll hnl hp hR
  go_enter Try.func20, Try.ntmps20
  go_wp2_with (first | (at_make; refine wpList_make_bytes _ rfl _ _ 23 rfl i0 Try.underlying23 hi hi0 hi1 hi2 _ _ _ _ len rfl rfl rfl rfl (by omega) ?_; intro w1 hr1 hg1; have HW1 : Hid (K 0 w1) := H0.out w1 hr1 (below_of_grown hg1); clear hr1 hg1))
  go_loopw [25] (fun i wr => ∃ k : Nat, k ≤ n ∧ i = .int .i64 k ∧ K k wr) (fun i _ => n - (intOf i).toNat)
  case atStart => exact ⟨0, Nat.zero_le _, rfl, HW1.out⟩
  case round =>
    obtain ⟨k, hk, rfl, hkr⟩ := hrel
    by_cases hlt : k < n
    · have HKR : Hid (K k wr) := hkr
      have HCALL : Hid _ := HS.out k wr hlt hkr
      clear hkr
      go_wp2_with fail
      refine Calls.mono HCALL.out ?_
      rintro e w2 ⟨rfl, hk2⟩
      have HK2 : Hid (K (k + 1) w2) := hk2
      clear hk2
      go_wp2_with fail
      go_roundw
      case rel => exact ⟨k + 1, by omega, by go_num, HK2.out⟩
      case measure => simp [intOf]; omega
    · obtain rfl : k = n := by omega
      obtain ⟨hrF, hFl, hbs, hbw⟩ := HK.out wr hkr
      have HR : Hid (Row wr w.heap.size F) := hrF
      have HFL : Hid (F.length = len) := hFl
      have HBW : Hid (Below B w0 wr) := hbw
      by_cases hlp : p < len
      · obtain ⟨b, off, rfl, _⟩ := bs_someF hbs (by omega)
        have HCU : Hid (Bs wr (.slice (some ⟨b, off + p, none⟩) (len - p) (cap - p)) (l.drop p)) := bs_cut hbs p hlp
        have HTK : Hid ((l.drop p).take (len - p) = l.drop p) := by rw [Hid, List.take_of_length_le (by rw [List.length_drop, HLL.out]; omega)]
        have HLE : Hid (p + (l.drop p).length ≤ F.length) := by rw [Hid, List.length_drop, HLL.out, HFL.out]; omega
        have HJ : Hid (F.take p ++ (l.drop p ++ F.drop (p + (l.drop p).length)) = R) := by rw [Hid, ← HRR.out, List.length_drop, HLL.out, show F.drop (p + (len - p)) = [] from List.drop_of_length_le (by rw [HFL.out]; omega), List.append_nil]
        clear hrF hFl hbs hbw hkr hao hq z4 hql
        go_wp2_with fail
        go_region_law (refine step_copy_min rfl (.tmp 38) (.tmp 43) 23 rfl Try.underlying23 Try.size5 w.heap.size p (len - p) (len - p) (some ⟨w.heap.size, p, none⟩) (by simp [Act.eval, Act.put] <;> omega) (.slice (some ⟨b, off + p, none⟩) (len - p) (cap - p)) (by simp [Act.eval, Act.put] <;> omega) F (l.drop p) (l.drop p) HTK.out (fun _ => rfl) HR.out.drew HCU.out.drew HLE.out R HJ.out B w0 (bel_drew HBW.out) hB ?_; intro w2 hr2 hb2)
        go_wp2_with fail
        go_ret2
        exact ⟨rfl, hr2, hb2⟩
      · obtain rfl : p = len := by omega
        have HFF : Hid (F = R) := by rw [Hid, ← HRR.out, List.drop_of_length_le (by rw [HLL.out]; omega), List.append_nil, List.take_of_length_le (by rw [HFL.out]; omega)]
        rcases Nat.eq_zero_or_pos p with h9 | h9
        · subst h9
          have HAO : Hid (ao = none → cap = 0) := hao
          clear hrF hFl hbs hbw hkr hao hq z4 hql
          go_wp2_with fail
          go_region_law (refine step_copy_min rfl (.tmp 38) (.tmp 43) 23 rfl Try.underlying23 Try.size5 w.heap.size 0 0 0 (some ⟨w.heap.size, 0, none⟩) (by simp [Act.eval, Act.put]) (.slice ao 0 cap) (by simp [Act.eval, Act.put]) F [] [] rfl (fun _ => rfl) HR.out.drew (bs_noneF _ _ _ HAO.out) (Nat.zero_le _) F (by simp) B w0 (bel_drew HBW.out) hB ?_; intro w2 hr2 hb2)
          go_wp2_with fail
          go_ret2
          exact ⟨rfl, by rw [← HFF.out]; exact hr2, hb2⟩
        · obtain ⟨b, off, rfl, _⟩ := bs_someF hbs h9
          have HAO : Hid (some (⟨b, off, none⟩ : Addr) = none → cap = 0) := hao
          have HAO' : Hid (some (⟨b, off + p, none⟩ : Addr) = none → cap - p = 0) := fun h => by cases h
          have h8 : (p = 0) = False := by simp; omega
          by_cases h7 : cap = p
          · subst h7
            clear hrF hFl hbs hbw hkr hao hq z4 hql
            go_wp2_with fail
            go_region_law (refine step_copy_min rfl (.tmp 38) (.tmp 43) 23 rfl Try.underlying23 Try.size5 w.heap.size 0 0 0 (some ⟨w.heap.size, 0, none⟩) (by simp [Act.eval, Act.put]) (.slice (some ⟨b, off, none⟩) 0 0) (by simp [Act.eval, Act.put]) F [] [] rfl (fun _ => rfl) HR.out.drew (bs_noneF _ _ _ (fun _ => rfl)) (Nat.zero_le _) F (by simp) B w0 (bel_drew HBW.out) hB ?_; intro w2 hr2 hb2)
            go_wp2_with fail
            go_ret2
            exact ⟨rfl, by rw [← HFF.out]; exact hr2, hb2⟩
          · have h6 : (cap = p) = False := by simp; omega
            clear hrF hFl hbs hbw hkr hao hq z4 hql
            go_wp2_with fail
            go_region_law (refine step_copy_min rfl (.tmp 38) (.tmp 43) 23 rfl Try.underlying23 Try.size5 w.heap.size 0 0 0 (some ⟨w.heap.size, 0, none⟩) (by simp [Act.eval, Act.put] <;> omega) (.slice (some ⟨b, off + p, none⟩) 0 (cap - p)) (by simp [Act.eval, Act.put]) F [] [] rfl (fun _ => rfl) HR.out.drew (bs_noneF _ _ _ HAO'.out) (Nat.zero_le _) F (by simp) B w0 (bel_drew HBW.out) hB ?_; intro w2 hr2 hb2)
            go_wp2_with fail
            go_ret2
            exact ⟨rfl, by rw [← HFF.out]; exact hr2, hb2⟩
set_option maxHeartbeats 8000000 in
theorem each_de (z n p len : Nat) (l F R : List Int) (ao : Option Addr) (cap p1 p2 p3 B : Nat) (w0 w : World) (K : Nat → World → Prop) (hll : l.length = len) (hcl : len ≤ cap) (hlb : len ≤ 140737488351232) (hnl : len / z = n) (hz1 : 1 ≤ z) (hz8 : z ≤ 8) (hp : n * z = p) (hR : F.take p ++ l.drop p = R) (hao : ao = none → cap = 0)
    (h0 : ∀ w1, Row w1 w.heap.size (List.replicate len 0) → Below w.heap.size w w1 → K 0 w1)
    (hs : ∀ k w1, k < n → K k w1 → Calls Try.prog 23 #[.slice (some ⟨w.heap.size, 0, none⟩) len len, .int .i64 (n : Int), .int .i64 (k : Int), .pointer (some ⟨p1, 0, none⟩), .pointer (some ⟨p2, 0, none⟩), .pointer (some ⟨p3, 0, none⟩)] w1 fun e w2 => e = .returned (.tuple #[]) ∧ K (k + 1) w2)
    (hK : ∀ w1, K n w1 → Row w1 w.heap.size F ∧ F.length = len ∧ Bs w1 (.slice ao len cap) l ∧ Below B w0 w1) (hB : B ≤ w.heap.size) :
    Calls Try.prog 20 #[.int .i64 (z : Int), .slice ao len cap, .func (.func 23) #[] #[.pointer (some ⟨p1, 0, none⟩), .pointer (some ⟨p2, 0, none⟩), .pointer (some ⟨p3, 0, none⟩)]] w fun e w' => e = .returned (.tuple #[.slice (some ⟨w.heap.size, 0, none⟩) len len, .int .i64 0]) ∧ Row w' w.heap.size R ∧ Below B w0 w' := by
  obtain ⟨i0, hi, hi0, hi1, hi2⟩ := info_parts Try.info5
  have H0 : Hid _ := h0
  have HS : Hid _ := hs
  have HK : Hid _ := hK
  have HLL : Hid (l.length = len) := hll
  have HRR : Hid (F.take p ++ l.drop p = R) := hR
  have hnz : p ≤ len := by rw [← hp, ← hnl]; exact Nat.div_mul_le_self _ _
  have e1 : IntKind.i64.wrap ((n : Int) * (z : Int)) = (p : Int) := wrap_nat (by rw [← Int.natCast_mul, hp]) (by omega)
  have hlb' : len ≤ 281474976710656 := by omega
  have hq : (len : Int) / (z : Int) = (n : Int) := by rw [← Int.natCast_ediv, hnl]
  have hn8 : n ≤ len := by rw [← hnl]; exact Nat.div_le_self _ _
  have eh : ∀ args w, (callFunc 23 args).run Try.prog w = .ok (.enter 23 args) w := enters_of Try.func23 (by kernel_rfl) rfl
  have z1 : ¬ (z : Int) < 1 := by omega
  have z2 : ¬ 8 < (z : Int) := by omega
  have z3 : (z : Int) ≠ 0 := by omega
  have z4 : IntKind.i64.wrap ((len : Int) / (z : Int)) = (n : Int) := by rw [hq]; exact wrap_i64_in _ (by omega) (by omega)
  have hql : IntKind.i64.wrap (Int.tdiv (len : Int) (z : Int)) = (n : Int) := by rw [Int.tdiv_eq_ediv_of_nonneg (by omega)]; exact z4
  clear h0 hs hK hll hnl hp hR
  go_enter Try.func20, Try.ntmps20
  go_wp2_with (first | (at_make; refine wpList_make_bytes _ rfl _ _ 23 rfl i0 Try.underlying23 hi hi0 hi1 hi2 _ _ _ _ len rfl rfl rfl rfl (by omega) ?_; intro w1 hr1 hg1; have HW1 : Hid (K 0 w1) := H0.out w1 hr1 (below_of_grown hg1); clear hr1 hg1))
  go_loopw [25] (fun i wr => ∃ k : Nat, k ≤ n ∧ i = .int .i64 k ∧ K k wr) (fun i _ => n - (intOf i).toNat)
  case atStart => exact ⟨0, Nat.zero_le _, rfl, HW1.out⟩
  case round =>
    obtain ⟨k, hk, rfl, hkr⟩ := hrel
    by_cases hlt : k < n
    · have HKR : Hid (K k wr) := hkr
      have HCALL : Hid _ := HS.out k wr hlt hkr
      clear hkr
      go_wp2_with fail
      refine Calls.mono HCALL.out ?_
      rintro e w2 ⟨rfl, hk2⟩
      have HK2 : Hid (K (k + 1) w2) := hk2
      clear hk2
      go_wp2_with fail
      go_roundw
      case rel => exact ⟨k + 1, by omega, by go_num, HK2.out⟩
      case measure => simp [intOf]; omega
    · obtain rfl : k = n := by omega
      obtain ⟨hrF, hFl, hbs, hbw⟩ := HK.out wr hkr
      have HR : Hid (Row wr w.heap.size F) := hrF
      have HFL : Hid (F.length = len) := hFl
      have HBW : Hid (Below B w0 wr) := hbw
      by_cases hlp : p < len
      · obtain ⟨b, off, rfl, _⟩ := bs_someF hbs (by omega)
        have HCU : Hid (Bs wr (.slice (some ⟨b, off + p, none⟩) (len - p) (cap - p)) (l.drop p)) := bs_cut hbs p hlp
        have HTK : Hid ((l.drop p).take (len - p) = l.drop p) := by rw [Hid, List.take_of_length_le (by rw [List.length_drop, HLL.out]; omega)]
        have HLE : Hid (p + (l.drop p).length ≤ F.length) := by rw [Hid, List.length_drop, HLL.out, HFL.out]; omega
        have HJ : Hid (F.take p ++ (l.drop p ++ F.drop (p + (l.drop p).length)) = R) := by rw [Hid, ← HRR.out, List.length_drop, HLL.out, show F.drop (p + (len - p)) = [] from List.drop_of_length_le (by rw [HFL.out]; omega), List.append_nil]
        clear hrF hFl hbs hbw hkr hao hq z4 hql
        go_wp2_with fail
        go_region_law (refine step_copy_min rfl (.tmp 38) (.tmp 43) 23 rfl Try.underlying23 Try.size5 w.heap.size p (len - p) (len - p) (some ⟨w.heap.size, p, none⟩) (by simp [Act.eval, Act.put] <;> omega) (.slice (some ⟨b, off + p, none⟩) (len - p) (cap - p)) (by simp [Act.eval, Act.put] <;> omega) F (l.drop p) (l.drop p) HTK.out (fun _ => rfl) HR.out.drew HCU.out.drew HLE.out R HJ.out B w0 (bel_drew HBW.out) hB ?_; intro w2 hr2 hb2)
        go_wp2_with fail
        go_ret2
        exact ⟨rfl, hr2, hb2⟩
      · obtain rfl : p = len := by omega
        have HFF : Hid (F = R) := by rw [Hid, ← HRR.out, List.drop_of_length_le (by rw [HLL.out]; omega), List.append_nil, List.take_of_length_le (by rw [HFL.out]; omega)]
        rcases Nat.eq_zero_or_pos p with h9 | h9
        · subst h9
          have HAO : Hid (ao = none → cap = 0) := hao
          clear hrF hFl hbs hbw hkr hao hq z4 hql
          go_wp2_with fail
          go_region_law (refine step_copy_min rfl (.tmp 38) (.tmp 43) 23 rfl Try.underlying23 Try.size5 w.heap.size 0 0 0 (some ⟨w.heap.size, 0, none⟩) (by simp [Act.eval, Act.put]) (.slice ao 0 cap) (by simp [Act.eval, Act.put]) F [] [] rfl (fun _ => rfl) HR.out.drew (bs_noneF _ _ _ HAO.out) (Nat.zero_le _) F (by simp) B w0 (bel_drew HBW.out) hB ?_; intro w2 hr2 hb2)
          go_wp2_with fail
          go_ret2
          exact ⟨rfl, by rw [← HFF.out]; exact hr2, hb2⟩
        · obtain ⟨b, off, rfl, _⟩ := bs_someF hbs h9
          have HAO : Hid (some (⟨b, off, none⟩ : Addr) = none → cap = 0) := hao
          have HAO' : Hid (some (⟨b, off + p, none⟩ : Addr) = none → cap - p = 0) := fun h => by cases h
          have h8 : (p = 0) = False := by simp; omega
          by_cases h7 : cap = p
          · subst h7
            clear hrF hFl hbs hbw hkr hao hq z4 hql
            go_wp2_with fail
            go_region_law (refine step_copy_min rfl (.tmp 38) (.tmp 43) 23 rfl Try.underlying23 Try.size5 w.heap.size 0 0 0 (some ⟨w.heap.size, 0, none⟩) (by simp [Act.eval, Act.put]) (.slice (some ⟨b, off, none⟩) 0 0) (by simp [Act.eval, Act.put]) F [] [] rfl (fun _ => rfl) HR.out.drew (bs_noneF _ _ _ (fun _ => rfl)) (Nat.zero_le _) F (by simp) B w0 (bel_drew HBW.out) hB ?_; intro w2 hr2 hb2)
            go_wp2_with fail
            go_ret2
            exact ⟨rfl, by rw [← HFF.out]; exact hr2, hb2⟩
          · have h6 : (cap = p) = False := by simp; omega
            clear hrF hFl hbs hbw hkr hao hq z4 hql
            go_wp2_with fail
            go_region_law (refine step_copy_min rfl (.tmp 38) (.tmp 43) 23 rfl Try.underlying23 Try.size5 w.heap.size 0 0 0 (some ⟨w.heap.size, 0, none⟩) (by simp [Act.eval, Act.put] <;> omega) (.slice (some ⟨b, off + p, none⟩) 0 (cap - p)) (by simp [Act.eval, Act.put]) F [] [] rfl (fun _ => rfl) HR.out.drew (bs_noneF _ _ _ HAO'.out) (Nat.zero_le _) F (by simp) B w0 (bel_drew HBW.out) hB ?_; intro w2 hr2 hb2)
            go_wp2_with fail
            go_ret2
            exact ⟨rfl, by rw [← HFF.out]; exact hr2, hb2⟩
set_option maxHeartbeats 8000000 in
theorem each_ud (z n p len : Nat) (l F R : List Int) (ao : Option Addr) (cap p1 p2 p3 B : Nat) (w0 w : World) (K : Nat → World → Prop) (hll : l.length = len) (hcl : len ≤ cap) (hlb : len ≤ 140737488351232) (hnl : len / z = n) (hz1 : 1 ≤ z) (hz8 : z ≤ 8) (hp : n * z = p) (hR : F.take p ++ l.drop p = R) (hao : ao = none → cap = 0)
    (h0 : ∀ w1, Row w1 w.heap.size (List.replicate len 0) → Below w.heap.size w w1 → K 0 w1)
    (hs : ∀ k w1, k < n → K k w1 → Calls Try.prog 26 #[.slice (some ⟨w.heap.size, 0, none⟩) len len, .int .i64 (n : Int), .int .i64 (k : Int), .pointer (some ⟨p1, 0, none⟩), .pointer (some ⟨p2, 0, none⟩), .pointer (some ⟨p3, 0, none⟩)] w1 fun e w2 => e = .returned (.tuple #[]) ∧ K (k + 1) w2)
    (hK : ∀ w1, K n w1 → Row w1 w.heap.size F ∧ F.length = len ∧ Bs w1 (.slice ao len cap) l ∧ Below B w0 w1) (hB : B ≤ w.heap.size) :
    Calls Try.prog 20 #[.int .i64 (z : Int), .slice ao len cap, .func (.func 26) #[] #[.pointer (some ⟨p1, 0, none⟩), .pointer (some ⟨p2, 0, none⟩), .pointer (some ⟨p3, 0, none⟩)]] w fun e w' => e = .returned (.tuple #[.slice (some ⟨w.heap.size, 0, none⟩) len len, .int .i64 0]) ∧ Row w' w.heap.size R ∧ Below B w0 w' := by
  obtain ⟨i0, hi, hi0, hi1, hi2⟩ := info_parts Try.info5
  have H0 : Hid _ := h0
  have HS : Hid _ := hs
  have HK : Hid _ := hK
  have HLL : Hid (l.length = len) := hll
  have HRR : Hid (F.take p ++ l.drop p = R) := hR
  have hnz : p ≤ len := by rw [← hp, ← hnl]; exact Nat.div_mul_le_self _ _
  have e1 : IntKind.i64.wrap ((n : Int) * (z : Int)) = (p : Int) := wrap_nat (by rw [← Int.natCast_mul, hp]) (by omega)
  have hlb' : len ≤ 281474976710656 := by omega
  have hq : (len : Int) / (z : Int) = (n : Int) := by rw [← Int.natCast_ediv, hnl]
  have hn8 : n ≤ len := by rw [← hnl]; exact Nat.div_le_self _ _
  have eh : ∀ args w, (callFunc 26 args).run Try.prog w = .ok (.enter 26 args) w := enters_of Try.func26 (by kernel_rfl) rfl
  have z1 : ¬ (z : Int) < 1 := by omega
  have z2 : ¬ 8 < (z : Int) := by omega
  have z3 : (z : Int) ≠ 0 := by omega
  have z4 : IntKind.i64.wrap ((len : Int) / (z : Int)) = (n : Int) := by rw [hq]; exact wrap_i64_in _ (by omega) (by omega)
  have hql : IntKind.i64.wrap (Int.tdiv (len : Int) (z : Int)) = (n : Int) := by rw [Int.tdiv_eq_ediv_of_nonneg (by omega)]; exact z4
  clear h0 hs hK hll hnl hp hR
  go_enter Try.func20, Try.ntmps20
  go_wp2_with (first | (at_make; refine wpList_make_bytes _ rfl _ _ 23 rfl i0 Try.underlying23 hi hi0 hi1 hi2 _ _ _ _ len rfl rfl rfl rfl (by omega) ?_; intro w1 hr1 hg1; have HW1 : Hid (K 0 w1) := H0.out w1 hr1 (below_of_grown hg1); clear hr1 hg1))
  go_loopw [25] (fun i wr => ∃ k : Nat, k ≤ n ∧ i = .int .i64 k ∧ K k wr) (fun i _ => n - (intOf i).toNat)
  case atStart => exact ⟨0, Nat.zero_le _, rfl, HW1.out⟩
  case round =>
    obtain ⟨k, hk, rfl, hkr⟩ := hrel
    by_cases hlt : k < n
    · have HKR : Hid (K k wr) := hkr
      have HCALL : Hid _ := HS.out k wr hlt hkr
      clear hkr
      go_wp2_with fail
      refine Calls.mono HCALL.out ?_
      rintro e w2 ⟨rfl, hk2⟩
      have HK2 : Hid (K (k + 1) w2) := hk2
      clear hk2
      go_wp2_with fail
      go_roundw
      case rel => exact ⟨k + 1, by omega, by go_num, HK2.out⟩
      case measure => simp [intOf]; omega
    · obtain rfl : k = n := by omega
      obtain ⟨hrF, hFl, hbs, hbw⟩ := HK.out wr hkr
      have HR : Hid (Row wr w.heap.size F) := hrF
      have HFL : Hid (F.length = len) := hFl
      have HBW : Hid (Below B w0 wr) := hbw
      by_cases hlp : p < len
      · obtain ⟨b, off, rfl, _⟩ := bs_someF hbs (by omega)
        have HCU : Hid (Bs wr (.slice (some ⟨b, off + p, none⟩) (len - p) (cap - p)) (l.drop p)) := bs_cut hbs p hlp
        have HTK : Hid ((l.drop p).take (len - p) = l.drop p) := by rw [Hid, List.take_of_length_le (by rw [List.length_drop, HLL.out]; omega)]
        have HLE : Hid (p + (l.drop p).length ≤ F.length) := by rw [Hid, List.length_drop, HLL.out, HFL.out]; omega
        have HJ : Hid (F.take p ++ (l.drop p ++ F.drop (p + (l.drop p).length)) = R) := by rw [Hid, ← HRR.out, List.length_drop, HLL.out, show F.drop (p + (len - p)) = [] from List.drop_of_length_le (by rw [HFL.out]; omega), List.append_nil]
        clear hrF hFl hbs hbw hkr hao hq z4 hql
        go_wp2_with fail
        go_region_law (refine step_copy_min rfl (.tmp 38) (.tmp 43) 23 rfl Try.underlying23 Try.size5 w.heap.size p (len - p) (len - p) (some ⟨w.heap.size, p, none⟩) (by simp [Act.eval, Act.put] <;> omega) (.slice (some ⟨b, off + p, none⟩) (len - p) (cap - p)) (by simp [Act.eval, Act.put] <;> omega) F (l.drop p) (l.drop p) HTK.out (fun _ => rfl) HR.out.drew HCU.out.drew HLE.out R HJ.out B w0 (bel_drew HBW.out) hB ?_; intro w2 hr2 hb2)
        go_wp2_with fail
        go_ret2
        exact ⟨rfl, hr2, hb2⟩
      · obtain rfl : p = len := by omega
        have HFF : Hid (F = R) := by rw [Hid, ← HRR.out, List.drop_of_length_le (by rw [HLL.out]; omega), List.append_nil, List.take_of_length_le (by rw [HFL.out]; omega)]
        rcases Nat.eq_zero_or_pos p with h9 | h9
        · subst h9
          have HAO : Hid (ao = none → cap = 0) := hao
          clear hrF hFl hbs hbw hkr hao hq z4 hql
          go_wp2_with fail
          go_region_law (refine step_copy_min rfl (.tmp 38) (.tmp 43) 23 rfl Try.underlying23 Try.size5 w.heap.size 0 0 0 (some ⟨w.heap.size, 0, none⟩) (by simp [Act.eval, Act.put]) (.slice ao 0 cap) (by simp [Act.eval, Act.put]) F [] [] rfl (fun _ => rfl) HR.out.drew (bs_noneF _ _ _ HAO.out) (Nat.zero_le _) F (by simp) B w0 (bel_drew HBW.out) hB ?_; intro w2 hr2 hb2)
          go_wp2_with fail
          go_ret2
          exact ⟨rfl, by rw [← HFF.out]; exact hr2, hb2⟩
        · obtain ⟨b, off, rfl, _⟩ := bs_someF hbs h9
          have HAO : Hid (some (⟨b, off, none⟩ : Addr) = none → cap = 0) := hao
          have HAO' : Hid (some (⟨b, off + p, none⟩ : Addr) = none → cap - p = 0) := fun h => by cases h
          have h8 : (p = 0) = False := by simp; omega
          by_cases h7 : cap = p
          · subst h7
            clear hrF hFl hbs hbw hkr hao hq z4 hql
            go_wp2_with fail
            go_region_law (refine step_copy_min rfl (.tmp 38) (.tmp 43) 23 rfl Try.underlying23 Try.size5 w.heap.size 0 0 0 (some ⟨w.heap.size, 0, none⟩) (by simp [Act.eval, Act.put]) (.slice (some ⟨b, off, none⟩) 0 0) (by simp [Act.eval, Act.put]) F [] [] rfl (fun _ => rfl) HR.out.drew (bs_noneF _ _ _ (fun _ => rfl)) (Nat.zero_le _) F (by simp) B w0 (bel_drew HBW.out) hB ?_; intro w2 hr2 hb2)
            go_wp2_with fail
            go_ret2
            exact ⟨rfl, by rw [← HFF.out]; exact hr2, hb2⟩
          · have h6 : (cap = p) = False := by simp; omega
            clear hrF hFl hbs hbw hkr hao hq z4 hql
            go_wp2_with fail
            go_region_law (refine step_copy_min rfl (.tmp 38) (.tmp 43) 23 rfl Try.underlying23 Try.size5 w.heap.size 0 0 0 (some ⟨w.heap.size, 0, none⟩) (by simp [Act.eval, Act.put] <;> omega) (.slice (some ⟨b, off + p, none⟩) 0 (cap - p)) (by simp [Act.eval, Act.put]) F [] [] rfl (fun _ => rfl) HR.out.drew (bs_noneF _ _ _ HAO'.out) (Nat.zero_le _) F (by simp) B w0 (bel_drew HBW.out) hB ?_; intro w2 hr2 hb2)
            go_wp2_with fail
            go_ret2
            exact ⟨rfl, by rw [← HFF.out]; exact hr2, hb2⟩
end Go.Proofs.Ytgodoogmbdgeoab
