/-
  The walk of the document's Take. Conditions: the numbers are ints, the list's length is one that memory bears.
-/
import Derived.Test.YtbpaiioonljlpabXTake
import Derived.Test.YtbpaiioonljlpabXLaw
import Derived.Test.YtbpaiioonljlpabXRefGood
namespace Go.Proofs.Ytbpaiioonljlpab
open Go.RowKit Go.Sort Go.Shelf Go.Lib
set_option linter.unusedVariables false
set_option maxRecDepth 100000

/-- append as a step of a region that draws, lengths by their names. -/
theorem step_append_y {P : Program} {ops : Array Oper} {o : Oper} {a : Act} {w : World} {K : Act → World → Prop} {Q : Exit → Act → World → Prop} {E : Prop}
    (d : Nat) (hd : o.dst = some d) (hg : o.guard = none) (s x : Operand) (t T : TypeId) (hop : o.op = Op.call { callee := Callee.builtin Builtin.append, args := #[s, x], argTypes := #[t, t] })
    (i : TypeInfo) (h1 : P.underlying t = some (.slice T)) (h2 : P.info? T = some i) (h3 : i.zero = some (.agg #[.int .i64 0, .int .i64 0])) (h4 : i.size = 2) (h5 : i.bytes = 16)
    (B : Nat) (v : Value) (l m : List Ext) (p q : Nat) (hp : l.length = p) (hq : m.length = q) (ad : Addr) (c : Nat) (hs : a.eval s = v) (hx : a.eval x = .slice (some ad) q c) (hown : OwnX w B T v l) (hm : Xs w (.slice (some ad) q c) m)
    (hbytes : p + q ≤ 8796093022208) (hB : B ≤ w.heap.size)
    (hK : ∀ ao cap w', OwnX w' B T (.slice ao (p + q) cap) (l ++ m) → w.grownBy w' v.ownBlock → K (a.put (some d) (.slice ao (p + q) cap)) w') :
    if Region.wanted o (yielded ops a.tmps) = true then Oper.wp P o a w K Q else E := by
  subst hp; subst hq
  exact step_append_x d hd hg s x t T hop i h1 h2 h3 h4 h5 B v l m ad c hs hx hown hm hbytes hB hK

set_option maxHeartbeats 8000000 in
theorem refTake_any (v : Value) (l : List Ext) (n : Int) (w : World) (hl : Xs w v l) (hE : EWs l) (hnl : l.length ≤ 8796093022208) :
    Calls Try.prog 26 #[v, .int .i64 n] w fun e w' => ∃ x, e = .returned (.tuple #[.int .i64 (takeAt l n), x, .int .i64 (takeErr l n)]) ∧ OwnX w' w.heap.size 51 x (takeList l n) ∧ Below w.heap.size w w' := by
  obtain ⟨i1, hi, hz0, hz1, hz2⟩ := info_parts Try.infoR
  have HX : Hid (Xs w v l) := hl
  obtain ⟨ao, cap, rfl, hcap, hcell⟩ := hl.opened
  have HC : Hid (∀ i, i < l.length → ∃ b off, ao = some ⟨b, off, none⟩ ∧ w.cell? ⟨b, off + i * 2, none⟩ = some (.int .i64 (l.getD i (0, 0)).1) ∧ w.cell? ⟨b, off + i * 2 + 1, none⟩ = some (.int .i64 (l.getD i (0, 0)).2) ∧ b < w.heap.size) := hcell
  have HE : Hid (EWs l) := hE
  clear hl hcell hE
  obtain ⟨N, HN⟩ : ∃ N, Hid (l.length = N) := ⟨_, rfl⟩
  rw [HN.out] at hcap hnl HX ⊢
  by_cases h1 : n < 1
  · obtain ⟨r1, r2, r3⟩ := take_arg (l := l) (n := n) (by unfold tOk; rw [show decide (1 ≤ n) = false by simp; omega]; rfl)
    have HR : Hid (takeErr l n = 2 ∧ takeAt l n = 0 ∧ takeList l n = []) := ⟨r1, r2, r3⟩
    clear r1 r2 r3
    go_enter Try.func26, Try.ntmps26
    go_wp2
    go_ret3
    rw [HR.out.1, HR.out.2.1, HR.out.2.2]
    exact ⟨_, rfl, OwnX.nil _ _ _, Below.refl _ _⟩
  · cases hg : goodB l 4194304 with
    | false =>
      obtain ⟨r1, r2, r3⟩ := take_arg (l := l) (n := n) (by unfold tOk; rw [hg, Bool.and_false])
      have HR : Hid (takeErr l n = 2 ∧ takeAt l n = 0 ∧ takeList l n = []) := ⟨r1, r2, r3⟩
      clear r1 r2 r3
      go_enter Try.func26, Try.ntmps26
      go_wp2_with (go_at_call 12; refine (refGood_any _ l _ _ HX.out HE.out (by rw [HN.out]; omega)).mono ?_; rintro e w1 ⟨rfl, hb1⟩; rw [hg])
      go_ret3
      rw [HR.out.1, HR.out.2.1, HR.out.2.2]
      exact ⟨_, rfl, OwnX.nil _ _ _, hb1⟩
    | true =>
      have HOK : Hid (tOk l n = true) := by unfold Hid tOk; rw [hg, show decide (1 ≤ n) = true by simp; omega]; rfl
      have HG : Hid (goodB l 4194304 = true) := hg
      have HFI : Hid (∀ x ∈ l, 0 ≤ x.1 ∧ 0 ≤ x.1 ∧ 1 ≤ x.2 ∧ x.1 + x.2 ≤ 4194304) := (goodFrom_sep (goodB_iff.1 hg).2.2).2
      clear hg
      go_enter Try.func26, Try.ntmps26
      go_wp2_with (go_at_call 12; refine (refGood_any _ l _ _ HX.out HE.out (by rw [HN.out]; omega)).mono ?_; rintro e w1 ⟨rfl, hb1⟩; rw [HG.out]; have HB1 : Hid (Below w.heap.size w w1) := hb1; clear hb1)
      go_loopw [7] (fun i wr => ∃ k : Nat, k ≤ N ∧ i = .int .i64 (k : Int) ∧ Hid (∀ j, j < k → (l.getD j (0, 0)).2 < n) ∧ Hid (Below w.heap.size w wr)) (fun i _ => N - (intOf i).toNat)
      case atStart => exact ⟨0, Nat.zero_le _, rfl, fun j hj => by omega, HB1.out⟩
      case round =>
        obtain ⟨k, hk, rfl, HS, HB⟩ := hrel
        by_cases hlt : k < N
        · have hkl : k < l.length := by rw [HN.out]; exact hlt
          obtain ⟨b, off, rfl, c1, c2, hb⟩ := HC.out k hkl
          have d1 := (HB.out.cell (p := ⟨b, off + k * 2, none⟩) hb).trans c1
          have d2 := (HB.out.cell (p := ⟨b, off + k * 2 + 1, none⟩) hb).trans c2
          have hx := HFI.out _ (getD_mem hkl)
          have HT : Hid ((l.getD k (0, 0)).2 < n → ∀ j, j < k + 1 → (l.getD j (0, 0)).2 < n) := lt_snoc HS.out
          have HF : Hid (n ≤ (l.getD k (0, 0)).2 → takeErr l n = 0 ∧ takeAt l n = (l.getD k (0, 0)).1 ∧ takeList l n = cutL l k n) := take_found HOK.out hkl HS.out
          have HCU : Hid (cutL l k n = l.take k ++ ((if n < (l.getD k (0, 0)).2 then [((l.getD k (0, 0)).1 + n, (l.getD k (0, 0)).2 - n)] else []) ++ l.drop (k + 1))) := rfl
          have HCW : Hid (∀ w', Below w.heap.size w w' → w'.cell? ⟨b, off + k * 2, none⟩ = some (.int .i64 (l.getD k (0, 0)).1) ∧ w'.cell? ⟨b, off + k * 2 + 1, none⟩ = some (.int .i64 (l.getD k (0, 0)).2)) := fun w' h' => ⟨(h'.cell (p := ⟨b, off + k * 2, none⟩) hb).trans c1, (h'.cell (p := ⟨b, off + k * 2 + 1, none⟩) hb).trans c2⟩
          clear c1 c2
          generalize l.getD k (0, 0) = x at *
          obtain ⟨xa, xs⟩ := x
          dsimp only at d1 d2 hx
          obtain ⟨x1, _, x2, x3⟩ := hx
          by_cases hsm : xs < n
          · go_wp2
            go_roundw
            case rel => exact ⟨k + 1, by omega, by simp, HT.out (by omega), HB.out⟩
            case measure => simp [intOf]; omega
          · have hck : (k : Int) ≤ (cap : Int) := by omega
            have hkc : (k : Int) + 1 ≤ (N : Int) := by omega
            have hcc1 : (k : Int) + 1 ≤ (cap : Int) := by omega
            have hwk : IntKind.i64.wrap ((k : Int) + 1) = (k : Int) + 1 := by simp [IntKind.wrap, IntKind.bits, IntKind.signed]; omega
            have HL1 : Hid ((l.take k).length = k) := by unfold Hid; rw [List.length_take]; omega
            have HL2 : Hid ((l.drop (k + 1)).length = N - (k + 1)) := by unfold Hid; rw [List.length_drop, HN.out]
            have HX1 : Hid (Xs w (.slice (some ⟨b, off, none⟩) k cap) (l.take k)) := HX.out.first (by omega)
            have HBE : Hid (Below w.heap.size w (wr.alloc (.cells #[] 51))) := HB.out.alloc HB.out.size _
            have HEO : Hid (OwnX (wr.alloc (.cells #[] 51)) w.heap.size 51 (.slice (some ⟨wr.heap.size, 0, none⟩) 0 0) []) := OwnX.empty _ _ _ HB.out.size
            by_cases hco : cap = k + 1
            · have hco' : (cap = k + 1) = True := by simp [hco]
              have HX2 : Hid (Xs w (.slice (some ⟨b, off, none⟩) (N - (k + 1)) (cap - (k + 1))) (l.drop (k + 1))) := HX.out.rest (by omega) (fun h => by have := HN.out; omega) (by simp)
              clear hco
              by_cases hgt : n < xs
              · have hgt' : decide (n < xs) = true := by simpa using hgt
                go_wp2_with (at_builtin; refine wpList_append_x _ rfl (.tmp 29) (.tmp 32) 28 51 rfl i1 Try.underlying28 hi hz0 hz1 hz2 w.heap.size _ _ [] (l.take k) rfl rfl HEO.out (HX1.out.below HBE.out) (by rw [HL1.out]; simp; omega) HBE.out.size ?_; intro ao3 cap3 w3 ho3 hg3 hc3 hne3; rw [HL1.out] at ho3 hc3 ⊢; simp only [List.length_nil, Nat.zero_add, List.nil_append] at ho3 hc3 ⊢; have HO3 : Hid (OwnX w3 w.heap.size 51 (.slice ao3 k cap3) (l.take k)) := ho3; have HB3 : Hid (Below w.heap.size w w3) := HBE.out.grown hg3 HBE.out.size (fun j hj => (HEO.out.lt j hj).1); obtain ⟨f1, f2⟩ := HCW.out w3 HB3.out; clear ho3 hg3 hne3)
                have HKB : Hid (∀ w4, (w3.alloc (.cells #[.int .i64 (xa + n), .int .i64 (xs - n)] 51)).drew.grownBy w4 (Value.slice ao3 k cap3).ownBlock → Below w.heap.size w w4) := fun w4 hg => by
                  have hbw := (HB3.out.alloc HB3.out.size (.cells #[.int .i64 (xa + n), .int .i64 (xs - n)] 51)).drew
                  exact hbw.grown hg hbw.size (fun j hj => (HO3.out.lt j hj).1)
                have hw1 : IntKind.i64.wrap (xa + n) = xa + n := by simp [IntKind.wrap, IntKind.bits, IntKind.signed]; omega
                have hw2 : IntKind.i64.wrap (xs - n) = xs - n := by simp [IntKind.wrap, IntKind.bits, IntKind.signed]; omega
                go_region_held_law (fun w' => w'.cell? ⟨b, off + k * 2, none⟩ = some (.int .i64 xa) ∧ w'.cell? ⟨b, off + k * 2 + 1, none⟩ = some (.int .i64 xs)) (first | go_keep | exact HCW.out _ (HKB.out _ hg4)) ((refine step_append_y 58 rfl rfl (.tmp 41) (.tmp 57) 28 51 rfl i1 Try.underlying28 hi hz0 hz1 hz2 w.heap.size (.slice ao3 k cap3) (l.take k) [(xa + n, xs - n)] k 1 HL1.out rfl ⟨w3.heap.size, 0, none⟩ 1 rfl rfl ((HO3.out.below ((Below.refl _ _).alloc (Nat.le_refl _) _)).drew) (Xs.oneAt _ _ (xa + n, xs - n) _ rfl).drew (by omega) (by have h1 := HB3.out.size; simp; omega) ?_; intro ao4 cap4 w4 ho4 hg4))
                all_goals
                  have HO4 : Hid (OwnX w4 w.heap.size 51 (.slice ao4 (k + 1) cap4) (l.take k ++ [(xa + n, xs - n)])) := ho4
                  have HO4L : Hid ((l.take k ++ [(xa + n, xs - n)]).length = k + 1) := by unfold Hid; rw [List.length_append, HL1.out]; rfl
                  have HB4 : Hid (Below w.heap.size w w4) := HKB.out _ hg4
                  obtain ⟨p1, p2⟩ := HCW.out w4 HB4.out
                  have HKC : Hid (∀ w6, w4.drew.grownBy w6 (Value.slice ao4 (k + 1) cap4).ownBlock → Below w.heap.size w w6) := fun w6 hg => HB4.out.drew.grown hg HB4.out.size (fun j hj => (HO4.out.lt j hj).1)
                  clear ho4 hg4
                  go_wp2
                  go_region_held_law (fun w' => w'.cell? ⟨b, off + k * 2, none⟩ = some (.int .i64 xa)) (first | go_keep | exact (HCW.out _ (HKC.out _ hg6)).1) ((refine step_append_y 69 rfl rfl (.tmp 64) (.tmp 68) 28 51 rfl i1 Try.underlying28 hi hz0 hz1 hz2 w.heap.size (.slice ao4 (k + 1) cap4) (l.take k ++ [(xa + n, xs - n)]) (l.drop (k + 1)) (k + 1) (N - (k + 1)) HO4L.out HL2.out ⟨b, off, none⟩ (cap - (k + 1)) rfl rfl (HO4.out.drew) (HX2.out.below HB4.out.drew) (by omega) HB4.out.size ?_; intro ao6 cap6 w6 ho6 hg6))
                  all_goals
                    go_wp2
                    go_ret3
                    obtain ⟨r1, r2, r3⟩ := HF.out (by omega)
                    rw [r1, r2, r3, HCU.out]
                    refine ⟨_, rfl, ?_, HKC.out _ hg6⟩
                    rw [if_pos (by omega)]
                    have := ho6
                    rw [List.append_assoc] at this
                    exact this
              · have hgt' : decide (n < xs) = false := by simpa using hgt
                go_wp2_with (at_builtin; refine wpList_append_x _ rfl (.tmp 29) (.tmp 32) 28 51 rfl i1 Try.underlying28 hi hz0 hz1 hz2 w.heap.size _ _ [] (l.take k) rfl rfl HEO.out (HX1.out.below HBE.out) (by rw [HL1.out]; simp; omega) HBE.out.size ?_; intro ao3 cap3 w3 ho3 hg3 hc3 hne3; rw [HL1.out] at ho3 hc3 ⊢; simp only [List.length_nil, Nat.zero_add, List.nil_append] at ho3 hc3 ⊢; have HO3 : Hid (OwnX w3 w.heap.size 51 (.slice ao3 k cap3) (l.take k)) := ho3; have HB3 : Hid (Below w.heap.size w w3) := HBE.out.grown hg3 HBE.out.size (fun j hj => (HEO.out.lt j hj).1); obtain ⟨f1, f2⟩ := HCW.out w3 HB3.out; clear ho3 hg3 hne3)
                have HO3L : Hid ((l.take k).length = k) := HL1
                have HKC : Hid (∀ w6, w3.drew.grownBy w6 (Value.slice ao3 k cap3).ownBlock → Below w.heap.size w w6) := fun w6 hg => HB3.out.drew.grown hg HB3.out.size (fun j hj => (HO3.out.lt j hj).1)
                go_region_held_law (fun w' => w'.cell? ⟨b, off + k * 2, none⟩ = some (.int .i64 xa)) (first | go_keep | exact (HCW.out _ (HKC.out _ hg6)).1) ((refine step_append_y 69 rfl rfl (.tmp 64) (.tmp 68) 28 51 rfl i1 Try.underlying28 hi hz0 hz1 hz2 w.heap.size (.slice ao3 k cap3) (l.take k) (l.drop (k + 1)) k (N - (k + 1)) HO3L.out HL2.out ⟨b, off, none⟩ (cap - (k + 1)) rfl rfl (HO3.out.drew) (HX2.out.below HB3.out.drew) (by omega) HB3.out.size ?_; intro ao6 cap6 w6 ho6 hg6))
                all_goals
                  go_wp2
                  go_ret3
                  obtain ⟨r1, r2, r3⟩ := HF.out (by omega)
                  rw [r1, r2, r3, HCU.out]
                  refine ⟨_, rfl, ?_, HKC.out _ hg6⟩
                  rw [if_neg (by simp; omega)]
                  exact ho6
            · have hco' : (cap = k + 1) = False := by simp [hco]
              have HX2 : Hid (Xs w (.slice (some ⟨b, off + (k + 1) * 2, none⟩) (N - (k + 1)) (cap - (k + 1))) (l.drop (k + 1))) := HX.out.rest (by omega) (fun _ => rfl) (by simp)
              clear hco
              by_cases hgt : n < xs
              · have hgt' : decide (n < xs) = true := by simpa using hgt
                go_wp2_with (at_builtin; refine wpList_append_x _ rfl (.tmp 29) (.tmp 32) 28 51 rfl i1 Try.underlying28 hi hz0 hz1 hz2 w.heap.size _ _ [] (l.take k) rfl rfl HEO.out (HX1.out.below HBE.out) (by rw [HL1.out]; simp; omega) HBE.out.size ?_; intro ao3 cap3 w3 ho3 hg3 hc3 hne3; rw [HL1.out] at ho3 hc3 ⊢; simp only [List.length_nil, Nat.zero_add, List.nil_append] at ho3 hc3 ⊢; have HO3 : Hid (OwnX w3 w.heap.size 51 (.slice ao3 k cap3) (l.take k)) := ho3; have HB3 : Hid (Below w.heap.size w w3) := HBE.out.grown hg3 HBE.out.size (fun j hj => (HEO.out.lt j hj).1); obtain ⟨f1, f2⟩ := HCW.out w3 HB3.out; clear ho3 hg3 hne3)
                have HKB : Hid (∀ w4, (w3.alloc (.cells #[.int .i64 (xa + n), .int .i64 (xs - n)] 51)).drew.grownBy w4 (Value.slice ao3 k cap3).ownBlock → Below w.heap.size w w4) := fun w4 hg => by
                  have hbw := (HB3.out.alloc HB3.out.size (.cells #[.int .i64 (xa + n), .int .i64 (xs - n)] 51)).drew
                  exact hbw.grown hg hbw.size (fun j hj => (HO3.out.lt j hj).1)
                have hw1 : IntKind.i64.wrap (xa + n) = xa + n := by simp [IntKind.wrap, IntKind.bits, IntKind.signed]; omega
                have hw2 : IntKind.i64.wrap (xs - n) = xs - n := by simp [IntKind.wrap, IntKind.bits, IntKind.signed]; omega
                go_region_held_law (fun w' => w'.cell? ⟨b, off + k * 2, none⟩ = some (.int .i64 xa) ∧ w'.cell? ⟨b, off + k * 2 + 1, none⟩ = some (.int .i64 xs)) (first | go_keep | exact HCW.out _ (HKB.out _ hg4)) ((refine step_append_y 58 rfl rfl (.tmp 41) (.tmp 57) 28 51 rfl i1 Try.underlying28 hi hz0 hz1 hz2 w.heap.size (.slice ao3 k cap3) (l.take k) [(xa + n, xs - n)] k 1 HL1.out rfl ⟨w3.heap.size, 0, none⟩ 1 rfl rfl ((HO3.out.below ((Below.refl _ _).alloc (Nat.le_refl _) _)).drew) (Xs.oneAt _ _ (xa + n, xs - n) _ rfl).drew (by omega) (by have h1 := HB3.out.size; simp; omega) ?_; intro ao4 cap4 w4 ho4 hg4))
                all_goals
                  have HO4 : Hid (OwnX w4 w.heap.size 51 (.slice ao4 (k + 1) cap4) (l.take k ++ [(xa + n, xs - n)])) := ho4
                  have HO4L : Hid ((l.take k ++ [(xa + n, xs - n)]).length = k + 1) := by unfold Hid; rw [List.length_append, HL1.out]; rfl
                  have HB4 : Hid (Below w.heap.size w w4) := HKB.out _ hg4
                  obtain ⟨p1, p2⟩ := HCW.out w4 HB4.out
                  have HKC : Hid (∀ w6, w4.drew.grownBy w6 (Value.slice ao4 (k + 1) cap4).ownBlock → Below w.heap.size w w6) := fun w6 hg => HB4.out.drew.grown hg HB4.out.size (fun j hj => (HO4.out.lt j hj).1)
                  clear ho4 hg4
                  go_wp2
                  go_region_held_law (fun w' => w'.cell? ⟨b, off + k * 2, none⟩ = some (.int .i64 xa)) (first | go_keep | exact (HCW.out _ (HKC.out _ hg6)).1) ((refine step_append_y 69 rfl rfl (.tmp 64) (.tmp 68) 28 51 rfl i1 Try.underlying28 hi hz0 hz1 hz2 w.heap.size (.slice ao4 (k + 1) cap4) (l.take k ++ [(xa + n, xs - n)]) (l.drop (k + 1)) (k + 1) (N - (k + 1)) HO4L.out HL2.out ⟨b, off + (k + 1) * 2, none⟩ (cap - (k + 1)) rfl rfl (HO4.out.drew) (HX2.out.below HB4.out.drew) (by omega) HB4.out.size ?_; intro ao6 cap6 w6 ho6 hg6))
                  all_goals
                    go_wp2
                    go_ret3
                    obtain ⟨r1, r2, r3⟩ := HF.out (by omega)
                    rw [r1, r2, r3, HCU.out]
                    refine ⟨_, rfl, ?_, HKC.out _ hg6⟩
                    rw [if_pos (by omega)]
                    have := ho6
                    rw [List.append_assoc] at this
                    exact this
              · have hgt' : decide (n < xs) = false := by simpa using hgt
                go_wp2_with (at_builtin; refine wpList_append_x _ rfl (.tmp 29) (.tmp 32) 28 51 rfl i1 Try.underlying28 hi hz0 hz1 hz2 w.heap.size _ _ [] (l.take k) rfl rfl HEO.out (HX1.out.below HBE.out) (by rw [HL1.out]; simp; omega) HBE.out.size ?_; intro ao3 cap3 w3 ho3 hg3 hc3 hne3; rw [HL1.out] at ho3 hc3 ⊢; simp only [List.length_nil, Nat.zero_add, List.nil_append] at ho3 hc3 ⊢; have HO3 : Hid (OwnX w3 w.heap.size 51 (.slice ao3 k cap3) (l.take k)) := ho3; have HB3 : Hid (Below w.heap.size w w3) := HBE.out.grown hg3 HBE.out.size (fun j hj => (HEO.out.lt j hj).1); obtain ⟨f1, f2⟩ := HCW.out w3 HB3.out; clear ho3 hg3 hne3)
                have HO3L : Hid ((l.take k).length = k) := HL1
                have HKC : Hid (∀ w6, w3.drew.grownBy w6 (Value.slice ao3 k cap3).ownBlock → Below w.heap.size w w6) := fun w6 hg => HB3.out.drew.grown hg HB3.out.size (fun j hj => (HO3.out.lt j hj).1)
                go_region_held_law (fun w' => w'.cell? ⟨b, off + k * 2, none⟩ = some (.int .i64 xa)) (first | go_keep | exact (HCW.out _ (HKC.out _ hg6)).1) ((refine step_append_y 69 rfl rfl (.tmp 64) (.tmp 68) 28 51 rfl i1 Try.underlying28 hi hz0 hz1 hz2 w.heap.size (.slice ao3 k cap3) (l.take k) (l.drop (k + 1)) k (N - (k + 1)) HO3L.out HL2.out ⟨b, off + (k + 1) * 2, none⟩ (cap - (k + 1)) rfl rfl (HO3.out.drew) (HX2.out.below HB3.out.drew) (by omega) HB3.out.size ?_; intro ao6 cap6 w6 ho6 hg6))
                all_goals
                  go_wp2
                  go_ret3
                  obtain ⟨r1, r2, r3⟩ := HF.out (by omega)
                  rw [r1, r2, r3, HCU.out]
                  refine ⟨_, rfl, ?_, HKC.out _ hg6⟩
                  rw [if_neg (by simp; omega)]
                  exact ho6
        · obtain rfl : k = N := by omega
          obtain ⟨r1, r2, r3⟩ := take_full HOK.out (by rw [HN.out]; exact HS.out)
          have HR : Hid (takeErr l n = 7 ∧ takeAt l n = 0 ∧ takeList l n = []) := ⟨r1, r2, r3⟩
          clear r1 r2 r3
          go_wp2
          go_ret3
          rw [HR.out.1, HR.out.2.1, HR.out.2.2]
          exact ⟨_, rfl, OwnX.nil _ _ _, HB.out⟩
end Go.Proofs.Ytbpaiioonljlpab
