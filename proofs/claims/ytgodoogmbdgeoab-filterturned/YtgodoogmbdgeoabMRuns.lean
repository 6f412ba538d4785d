/-
  The program's appendRuns and appendTokens. Conditions: what is appended to is the call's own; lengths are such as memory bears.
-/
import Derived.Test.YtgodoogmbdgeoabMLong
import Derived.Deep.Cut
import Derived.Deep.DeepCutAuto
namespace Go.Proofs.Ytgodoogmbdgeoab
open Go.RowKit
set_option linter.unusedVariables false
set_option maxRecDepth 100000

def slN : Value → Nat
  | .slice _ n _ => n
  | _ => 0
theorem bs_mk {w : World} {b off n cap : Nat} {l : List Int} (hn : l.length = n) (hc : n ≤ cap) (h : ∀ i, i < n → w.cell? ⟨b, off + i, none⟩ = some (.int .u8 (l.getD i 0))) : Bs w (.slice (some ⟨b, off, none⟩) n cap) l := by
  subst hn
  refine ⟨_, _, rfl, hc, (fun h => by cases h), fun ad ha i hi => ?_⟩
  obtain rfl := Option.some.inj ha
  rw [addr_add]
  exact h i hi
/-- A part of a slice. -/
theorem bs_part {w : World} {b off n cap : Nat} {l : List Int} (h : Bs w (.slice (some ⟨b, off, none⟩) n cap) l) {lo hi : Nat} (h1 : lo ≤ hi) (h2 : hi ≤ n) : Bs w (.slice (some ⟨b, off + lo, none⟩) (hi - lo) (cap - lo)) ((l.take hi).drop lo) := by
  obtain ⟨hn, hc, _⟩ := bs_n h
  obtain ⟨ao', cap', e, _, _, hcell⟩ := h
  injection e with e1 e2 e3
  subst e1 e3
  refine bs_mk (by rw [List.length_drop, List.length_take]; omega) (by omega) fun i hi' => ?_
  have := hcell _ rfl (lo + i) (by omega)
  rw [addr_add] at this
  rw [Nat.add_assoc, this]
  congr 2
  rw [List.getD, List.getD, List.getElem?_drop, List.getElem?_take_of_lt (by omega)]
theorem bs_none (w : World) (ao : Option Addr) (cap : Nat) (h : ao = none → cap = 0) : Bs w (.slice ao 0 cap) [] := ⟨ao, cap, rfl, Nat.zero_le _, h, fun _ _ i hi => by simp at hi⟩
theorem Bs.litM (w : World) (l : List Int) (fr : Nat × Nat) (cs : Array Value) (n : Nat) (hcs : cs = (bcells l).toArray) (hn : n = l.length) : Bs (w.alloc (.cells cs 5 fr)) (.slice (some ⟨w.heap.size, 0, none⟩) n n) l := by
  subst hcs hn
  refine ⟨_, _, rfl, Nat.le_refl _, (fun h => by cases h), fun ad ha i hi => ?_⟩
  obtain rfl := Option.some.inj ha
  rw [addr_add, Nat.zero_add, World.cell?_alloc_mark]
  simp [bcells, hi]
/-- What is appended: the call's own still, with the bytes behind. -/
def ApP (w0 : World) (R : List Int) (e : Ending) (w' : World) : Prop := ∃ x, e = .returned x ∧ Own w' w0.heap.size x R ∧ Below w0.heap.size w0 w'
set_option maxHeartbeats 32000000 in
theorem runs_any (v x : Value) (m l : List Int) (w0 w : World) (hb : Below w0.heap.size w0 w) (hv : Own w w0.heap.size v m) (hx : Bs w0 x l) (hlb : m.length + 2 * l.length ≤ 140737488351232) :
    Calls Try.prog 42 #[v, x] w (ApP w0 (m ++ runsL l)) := by
  obtain ⟨i0, hi, hi0, hi1, hi2⟩ := info_parts Try.info5
  have HV : Hid (Own w w0.heap.size v m) := hv
  obtain ⟨ao, cap, rfl, _⟩ := id hx
  have HX0 : Hid (Bs w0 (.slice ao l.length cap) l) := hx
  have HB0 : Hid (Below w0.heap.size w0 w) := hb
  have HM : Hid (m.length + 2 * l.length ≤ 140737488351232) := hlb
  clear hv hx hb
  go_enter Try.func42, Try.ntmps42
  go_wp2_with fail
  go_loopw [0, 1] (fun o x wr => ∃ (D r : List Int) (ao : Option Addr) (n cap : Nat), x = .slice ao n cap ∧ Hid (Own wr w0.heap.size o (m ++ D)) ∧ Hid (Bs w0 (.slice ao n cap) r) ∧ Hid (runsL l = D ++ runsL r) ∧ D.length + 2 * n ≤ 2 * l.length ∧ Hid (Below w0.heap.size w0 wr)) (fun _ x _ => slN x)
  case atStart => exact ⟨[], l, ao, l.length, cap, rfl, by rw [List.append_nil]; exact HV.out, HX0.out, rfl, by simp, HB0.out⟩
  case round =>
    obtain ⟨D, r, ao, n, cap, rfl, HO, HX, HL, hmd, HB⟩ := hrel
    have HMD : Hid (D.length + 2 * n ≤ 2 * l.length) := hmd
    have hnM : n ≤ 140737488351232 := by omega
    obtain ⟨hrn, hnc, _⟩ := bs_n HX.out
    have HRN : Hid (r.length = n) := hrn
    clear hrn hmd
    by_cases hn0 : 0 < n
    · obtain ⟨b, off, rfl, _⟩ := bs_some HX.out hn0
      have hn0' : (0 : Int) < (n : Int) := by omega
      by_cases h128 : (n : Int) ≤ 128
      · by_cases hcn : cap = n
        · subst hcn
          have HAP : Hid (Bs w0 (.slice (some ⟨b, off, none⟩) cap cap) (r.take cap)) := by
            have := bs_part HX.out (lo := 0) (hi := cap) (Nat.zero_le _) (by omega)
            show Bs _ _ _
            simpa using this
          have HNX : Hid (Bs w0 (.slice (some ⟨b, off, none⟩) 0 0) (r.drop cap)) := by rw [List.drop_of_length_le (by rw [HRN.out]; exact Nat.le_refl _)]; exact bs_none _ _ _ (fun _ => rfl)
          have HRR : Hid (m ++ D ++ [((cap : Int) - 1)] ++ r.take cap = m ++ (D ++ ((cap : Int) - 1) :: r.take cap)) := by rw [Hid]; simp
          have HLR : Hid (runsL l = D ++ ((cap : Int) - 1) :: r.take cap ++ runsL (r.drop cap)) := by
            rw [Hid, HL.out, runsL_step (by rw [HRN.out]; exact hn0), HRN.out, show min cap 128 = cap by omega]
            have e : r.take 128 = r.take cap := by rw [List.take_of_length_le (by rw [HRN.out]; omega), List.take_of_length_le (by rw [HRN.out]; omega)]
            have e2 : r.drop 128 = r.drop cap := by rw [List.drop_of_length_le (by rw [HRN.out]; omega), List.drop_of_length_le (by rw [HRN.out]; omega)]
            rw [e, e2]; simp
          obtain ⟨L, hL⟩ : ∃ L, m ++ D = L := ⟨_, rfl⟩
          have HLL : Hid (L.length + 2 * cap ≤ 140737488351232) := by rw [Hid, ← hL, List.length_append]; have := HM.out; have := HMD.out; omega
          have HTL : Hid ((r.take cap).length = cap) := by rw [Hid, List.length_take, HRN.out]; omega
          rw [hL] at HO HRR
          have hc2 : IntKind.i64.wrap ((cap : Int) - 1) = ((cap : Int) - 1) := wrap_i64_in _ (by omega) (by omega)
          have hc3 : IntKind.u8.wrap ((cap : Int) - 1) = ((cap : Int) - 1) := by rw [IntKind.wrap_u8]; omega
          have hsz := HB.out.size
          clear hL HL HX
          go_wp2_with (first | (at_builtin; refine wpList_append_bytes _ rfl (.tmp 12) (.tmp 16) 23 rfl i0 Try.underlying23 hi hi0 hi1 hi2 w0.heap.size _ _ L [((cap : Int) - 1)] rfl rfl (HO.out.alloc _) (Bs.one _ _) (by have := HLL.out; simp only [List.length_cons, List.length_nil]; omega) w0 (HB.out.alloc hsz _) (by simp; omega) ?_; intro ao1 cap1 w1 ho1 hb1 _ _; generalize L.length + [((cap : Int) - 1)].length = N1 at ho1 ⊢; have HO1 : Hid (Own w1 w0.heap.size _ _) := ho1; have HB1 : Hid (Below w0.heap.size w0 w1) := hb1; have hsz1 := hb1.size; clear ho1 hb1) | (at_builtin; refine wpList_append_bytes _ rfl (.tmp 18) (.tmp 21) 23 rfl i0 Try.underlying23 hi hi0 hi1 hi2 w0.heap.size _ (.slice (some ⟨b, off, none⟩) cap cap) _ (r.take cap) rfl rfl HO1.out (HAP.out.below HB1.out) (by rw [HTL.out, List.length_append]; have := HLL.out; simp only [List.length_cons, List.length_nil]; omega) w0 HB1.out hsz1 ?_; intro ao2 cap2 w2 ho2 hb2 _ _; generalize (L ++ [((cap : Int) - 1)]).length + (r.take cap).length = N2 at ho2 ⊢; rw [HRR.out] at ho2; have HO2 : Hid (Own w2 w0.heap.size _ _) := ho2; have HB2 : Hid (Below w0.heap.size w0 w2) := hb2; clear ho2 hb2))
          go_roundw
          case rel => exact ⟨_, r.drop cap, _, _, _, rfl, HO2.out, HNX.out, HLR.out, by have := HMD.out; rw [List.length_append, List.length_cons, HTL.out]; omega, HB2.out⟩
          case measure => simp [slN]; omega
        · have hcn' : (cap = n) = False := by simp; omega
          have HAP : Hid (Bs w0 (.slice (some ⟨b, off, none⟩) n cap) (r.take n)) := by
            have := bs_part HX.out (lo := 0) (hi := n) (Nat.zero_le _) (by omega)
            show Bs _ _ _
            simpa using this
          have HNX : Hid (Bs w0 (.slice (some ⟨b, off + n, none⟩) 0 (cap - n)) (r.drop n)) := by rw [List.drop_of_length_le (by rw [HRN.out]; exact Nat.le_refl _)]; exact bs_none _ _ _ (fun h => by cases h)
          have HRR : Hid (m ++ D ++ [((n : Int) - 1)] ++ r.take n = m ++ (D ++ ((n : Int) - 1) :: r.take n)) := by rw [Hid]; simp
          have HLR : Hid (runsL l = D ++ ((n : Int) - 1) :: r.take n ++ runsL (r.drop n)) := by
            rw [Hid, HL.out, runsL_step (by rw [HRN.out]; exact hn0), HRN.out, show min n 128 = n by omega]
            have e : r.take 128 = r.take n := by rw [List.take_of_length_le (by rw [HRN.out]; omega), List.take_of_length_le (by rw [HRN.out]; omega)]
            have e2 : r.drop 128 = r.drop n := by rw [List.drop_of_length_le (by rw [HRN.out]; omega), List.drop_of_length_le (by rw [HRN.out]; omega)]
            rw [e, e2]; simp
          obtain ⟨L, hL⟩ : ∃ L, m ++ D = L := ⟨_, rfl⟩
          have HLL : Hid (L.length + 2 * n ≤ 140737488351232) := by rw [Hid, ← hL, List.length_append]; have := HM.out; have := HMD.out; omega
          have HTL : Hid ((r.take n).length = n) := by rw [Hid, List.length_take, HRN.out]; omega
          rw [hL] at HO HRR
          have hc2 : IntKind.i64.wrap ((n : Int) - 1) = ((n : Int) - 1) := wrap_i64_in _ (by omega) (by omega)
          have hc3 : IntKind.u8.wrap ((n : Int) - 1) = ((n : Int) - 1) := by rw [IntKind.wrap_u8]; omega
          have hsz := HB.out.size
          clear hL HL HX
          go_wp2_with (first | (at_builtin; refine wpList_append_bytes _ rfl (.tmp 12) (.tmp 16) 23 rfl i0 Try.underlying23 hi hi0 hi1 hi2 w0.heap.size _ _ L [((n : Int) - 1)] rfl rfl (HO.out.alloc _) (Bs.one _ _) (by have := HLL.out; simp only [List.length_cons, List.length_nil]; omega) w0 (HB.out.alloc hsz _) (by simp; omega) ?_; intro ao1 cap1 w1 ho1 hb1 _ _; generalize L.length + [((n : Int) - 1)].length = N1 at ho1 ⊢; have HO1 : Hid (Own w1 w0.heap.size _ _) := ho1; have HB1 : Hid (Below w0.heap.size w0 w1) := hb1; have hsz1 := hb1.size; clear ho1 hb1) | (at_builtin; refine wpList_append_bytes _ rfl (.tmp 18) (.tmp 21) 23 rfl i0 Try.underlying23 hi hi0 hi1 hi2 w0.heap.size _ (.slice (some ⟨b, off, none⟩) n cap) _ (r.take n) rfl rfl HO1.out (HAP.out.below HB1.out) (by rw [HTL.out, List.length_append]; have := HLL.out; simp only [List.length_cons, List.length_nil]; omega) w0 HB1.out hsz1 ?_; intro ao2 cap2 w2 ho2 hb2 _ _; generalize (L ++ [((n : Int) - 1)]).length + (r.take n).length = N2 at ho2 ⊢; rw [HRR.out] at ho2; have HO2 : Hid (Own w2 w0.heap.size _ _) := ho2; have HB2 : Hid (Below w0.heap.size w0 w2) := hb2; clear ho2 hb2))
          go_roundw
          case rel => exact ⟨_, r.drop n, _, _, _, rfl, HO2.out, HNX.out, HLR.out, by have := HMD.out; rw [List.length_append, List.length_cons, HTL.out]; omega, HB2.out⟩
          case measure => simp [slN]; omega
      · obtain ⟨c, hc⟩ : ∃ c : Nat, c = 128 := ⟨_, rfl⟩
        have hcn' : (cap = c) = False := by simp; omega
        have e128 : (128 : Int) = (c : Int) := by omega
        have hcle : c ≤ n := by omega
        have hcle2 : c ≤ cap := by omega
        have HAP : Hid (Bs w0 (.slice (some ⟨b, off, none⟩) c cap) (r.take c)) := by
          have := bs_part HX.out (lo := 0) (hi := c) (Nat.zero_le _) (by omega)
          show Bs _ _ _
          simpa using this
        have HNX : Hid (Bs w0 (.slice (some ⟨b, off + c, none⟩) (n - c) (cap - c)) (r.drop c)) := by have := bs_part HX.out (lo := c) (hi := n) (by omega) (Nat.le_refl _); rwa [List.take_of_length_le (by rw [HRN.out]; exact Nat.le_refl _)] at this
        have HRR : Hid (m ++ D ++ [((c : Int) - 1)] ++ r.take c = m ++ (D ++ ((c : Int) - 1) :: r.take c)) := by rw [Hid]; simp
        have HLR : Hid (runsL l = D ++ ((c : Int) - 1) :: r.take c ++ runsL (r.drop c)) := by
          rw [Hid, HL.out, runsL_step (by rw [HRN.out]; exact hn0), HRN.out, show min n 128 = c by omega]
          have e : r.take 128 = r.take c := by rw [hc]
          have e2 : r.drop 128 = r.drop c := by rw [hc]
          rw [e, e2]; simp
        obtain ⟨L, hL⟩ : ∃ L, m ++ D = L := ⟨_, rfl⟩
        have HLL : Hid (L.length + 2 * n ≤ 140737488351232) := by rw [Hid, ← hL, List.length_append]; have := HM.out; have := HMD.out; omega
        have HTL : Hid ((r.take c).length = c) := by rw [Hid, List.length_take, HRN.out]; omega
        rw [hL] at HO HRR
        have hc2 : IntKind.i64.wrap ((c : Int) - 1) = ((c : Int) - 1) := wrap_i64_in _ (by omega) (by omega)
        have hc3 : IntKind.u8.wrap ((c : Int) - 1) = ((c : Int) - 1) := by rw [IntKind.wrap_u8]; omega
        have hsz := HB.out.size
        clear hL HL HX
        have HCC : Hid (c = 128) := hc
        clear e128 hc
        go_upto_region 3 with fail
        rw [show (128 : Int) = (c : Int) by have := HCC.out; omega]
        go_wp2_with (first | (at_builtin; refine wpList_append_bytes _ rfl (.tmp 12) (.tmp 16) 23 rfl i0 Try.underlying23 hi hi0 hi1 hi2 w0.heap.size _ _ L [((c : Int) - 1)] rfl rfl (HO.out.alloc _) (Bs.one _ _) (by have := HLL.out; simp only [List.length_cons, List.length_nil]; omega) w0 (HB.out.alloc hsz _) (by simp; omega) ?_; intro ao1 cap1 w1 ho1 hb1 _ _; generalize L.length + [((c : Int) - 1)].length = N1 at ho1 ⊢; have HO1 : Hid (Own w1 w0.heap.size _ _) := ho1; have HB1 : Hid (Below w0.heap.size w0 w1) := hb1; have hsz1 := hb1.size; clear ho1 hb1) | (at_builtin; refine wpList_append_bytes _ rfl (.tmp 18) (.tmp 21) 23 rfl i0 Try.underlying23 hi hi0 hi1 hi2 w0.heap.size _ (.slice (some ⟨b, off, none⟩) c cap) _ (r.take c) rfl rfl HO1.out (HAP.out.below HB1.out) (by rw [HTL.out, List.length_append]; have := HLL.out; simp only [List.length_cons, List.length_nil]; omega) w0 HB1.out hsz1 ?_; intro ao2 cap2 w2 ho2 hb2 _ _; generalize (L ++ [((c : Int) - 1)]).length + (r.take c).length = N2 at ho2 ⊢; rw [HRR.out] at ho2; have HO2 : Hid (Own w2 w0.heap.size _ _) := ho2; have HB2 : Hid (Below w0.heap.size w0 w2) := hb2; clear ho2 hb2))
        go_roundw
        case rel => exact ⟨_, r.drop c, _, _, _, rfl, HO2.out, HNX.out, HLR.out, by have := HMD.out; rw [List.length_append, List.length_cons, HTL.out]; have hc := HCC.out; omega, HB2.out⟩
        case measure => have hc := HCC.out; simp [slN]; omega
    · obtain rfl : n = 0 := by omega
      have HR0 : Hid (runsL l = D) := by rw [Hid, HL.out, List.eq_nil_of_length_eq_zero HRN.out, runsL_nil, List.append_nil]
      go_wp2_with fail
      go_ret
      exact ⟨_, rfl, by rw [HR0.out]; exact HO.out, HB.out⟩
end Go.Proofs.Ytgodoogmbdgeoab
