/-
  What stands in two slots behind so many roots, and behind one that was cut.
  The walk of the law SlotsCrashes. Conditions: the two listed variables stand as the program's text lays them.
-/
import Derived.Test.YtkiccnedmejnaaaDoorBackWalk4
import Derived.Test.YtkiccnedmejnaaaDoorCopyWalk
import Derived.Test.YtkiccnedmejnaaaDoorPlace
import Derived.Test.YtkiccnedmejnaaaDoorRefBest
namespace Go.Proofs.YtkiccnedmejnaaaDoor
open Go.RowKit
set_option linter.unusedVariables false
set_option maxRecDepth 100000

theorem digs_small (g : Int) (h0 : 0 ≤ g) (h1 : g < 256) : digs g 8 = [g, 0, 0, 0, 0, 0, 0, 0] := by
  have hg : ∀ k, k < 8 → (digs g 8).getD k 0 = qd g k % 256 := fun k hk => digs_get _ 8 k hk
  have q0 := hg 0 (by omega)
  have q1 := hg 1 (by omega)
  have q2 := hg 2 (by omega)
  have q3 := hg 3 (by omega)
  have q4 := hg 4 (by omega)
  have q5 := hg 5 (by omega)
  have q6 := hg 6 (by omega)
  have q7 := hg 7 (by omega)
  simp only [qd_succ, qd_zero] at q0 q1 q2 q3 q4 q5 q6 q7
  have hdl : (digs g 8).length = 8 := digs_length _ 8
  generalize digs g 8 = T at *
  obtain ⟨t0, t1, t2, t3, t4, t5, t6, t7, rfl⟩ : ∃ t0 t1 t2 t3 t4 t5 t6 t7, T = [t0, t1, t2, t3, t4, t5, t6, t7] := by
    match T, hdl with
    | [t0, t1, t2, t3, t4, t5, t6, t7], _ => exact ⟨t0, t1, t2, t3, t4, t5, t6, t7, rfl⟩
  simp only [List.getD_cons_zero, List.getD_cons_succ] at q0 q1 q2 q3 q4 q5 q6 q7
  have e0 : t0 = g := by omega
  have e1 : t1 = 0 := by omega
  have e2 : t2 = 0 := by omega
  have e3 : t3 = 0 := by omega
  have e4 : t4 = 0 := by omega
  have e5 : t5 = 0 := by omega
  have e6 : t6 = 0 := by omega
  have e7 : t7 = 0 := by omega
  rw [e0, e1, e2, e3, e4, e5, e6, e7]
/-- A root's bytes with a small generation. -/
theorem root_small (g a z : Int) (h0 : 0 ≤ g) (h1 : g < 256) : rootB g a z = [83, 76, 65, 66, g, 0, 0, 0, 0, 0, 0, 0, 0, 0, 0, 0] ++ (digs a 4 ++ (digs z 4 ++ (digs 0 4 ++ digs (crcN (rootL g a z)) 4))) := by
  unfold rootB sealN
  conv => lhs; arg 1; unfold rootL
  rw [digs_small g h0 h1, digs_zero4]
  simp only [List.append_assoc, List.cons_append, List.nil_append]
theorem root_take16 (g a z : Int) (h0 : 0 ≤ g) (h1 : g < 256) : (rootB g a z).take 16 = [83, 76, 65, 66, g, 0, 0, 0, 0, 0, 0, 0, 0, 0, 0, 0] := by rw [root_small g a z h0 h1]; rfl
/-- Half of a root over another one. -/
theorem half_set (g g' a z a' z' : Int) (h0 : 0 ≤ g) (h1 : g < 256) (h0' : 0 ≤ g') (h1' : g' < 256) : (rootB g a z).take 16 ++ (rootB g' a' z').drop 16 = (rootB g' a' z').set 4 g := by
  rw [root_take16 g a z h0 h1, root_small g' a' z' h0' h1']
  rfl
theorem ownR_bad {x : List Int} (k : Int) (h : isRt (x.take 32) = false) : ownR k x = none := by
  unfold ownR; rw [if_neg (fun hc => by rw [h] at hc; cases hc.2.1)]
theorem half_none (g g' : Nat) (a z a' z' : Int) (k : Int) (h1 : g < 256) (h1' : g' < 256) (hne : g' ≠ g) : ownR k ((rootB g a z).take 16 ++ (rootB g' a' z').drop 16) = none := by
  rw [half_set g g' a z a' z' (by omega) (by omega) (by omega) (by omega)]
  refine ownR_bad k ?_
  have hl : ((rootB (g' : Int) a' z').set 4 (g : Int)).length = 32 := by rw [List.length_set, rootB_length]
  rw [List.take_of_length_le (by omega)]
  cases hc : isRt ((rootB (g' : Int) a' z').set 4 (g : Int)) with
  | false => rfl
  | true =>
    have h4 : (rootB (g' : Int) a' z').getD 4 0 = (g' : Int) := by rw [root_small _ _ _ (by omega) (by omega)]; rfl
    have := (lOk_turned (g' : Int) a' z' 4 g' g (by omega) h4.symm (by omega) (by omega) hne).2
    obtain ⟨_, e2⟩ := lR_long (l := (rootB (g' : Int) a' z').set 4 (g : Int)) (by omega)
    rw [List.take_of_length_le (by omega)] at e2
    rw [e2] at this
    unfold ldErr at this
    rw [if_pos hc] at this
    cases this
theorem half_zero (a z k : Int) : ownR k ((rootB 2 a z).take 16 ++ List.replicate 16 0) = none := by
  rw [root_take16 2 a z (by omega) (by omega)]
  refine ownR_bad k ?_
  decide +kernel
theorem zeros_none (k : Int) (n : Nat) : ownR k (List.replicate n 0) = none := ownR_other k (by rw [List.getD, List.getElem?_replicate]; split <;> simp)
/-- Two slots, side by side. -/
theorem slot2 (X Y : List Int) (hX : X.length = 32) (hY : Y.length = 32) : slotR (X ++ Y) 0 = ownR 0 X ∧ slotR (X ++ Y) 1 = ownR 1 Y := by
  have hl : (X ++ Y).length = 64 := by rw [List.length_append, hX, hY]
  unfold slotR slotX
  rw [if_pos (by rw [hl]; omega), if_pos (by rw [hl]; omega)]
  refine ⟨?_, ?_⟩
  · rw [show 32 * 0 = 0 from rfl, List.drop_zero, ← hX, List.take_left]; rfl
  · rw [show 32 * 1 = 32 from rfl, ← hX, List.drop_left, hX, List.take_of_length_le (by omega)]; rfl
def valid (a z : Int) : Prop := (0 ≤ a ∧ a ≤ 4194304) ∧ (0 ≤ z ∧ z ≤ 4194304)
/-- What stands in a file behind i roots, r the last one. -/
def Slots (i : Nat) (bs : List Int) (r : Rt) : Prop :=
  (i = 0 ∧ bs = [] ∧ r = (0, 0, 0)) ∨ (i = 1 ∧ ∃ a z, valid a z ∧ bs = List.replicate 32 0 ++ rootB 1 a z ∧ r = (1, a, z)) ∨
  (2 ≤ i ∧ i % 2 = 1 ∧ ∃ a z a' z', valid a z ∧ valid a' z' ∧ bs = rootB ((i - 1 : Nat) : Int) a' z' ++ rootB (i : Int) a z ∧ r = ((i : Int), a, z)) ∨
  (2 ≤ i ∧ i % 2 = 0 ∧ ∃ a z a' z', valid a z ∧ valid a' z' ∧ bs = rootB (i : Int) a z ++ rootB ((i - 1 : Nat) : Int) a' z' ∧ r = ((i : Int), a, z))
theorem ownR_rb {g : Nat} {a z : Int} {k : Int} (hg : g < 256) (h : valid a z) (hk : (g : Int) % 2 = k) : ownR k (rootB (g : Int) a z) = some ((g : Int), a, z) := ownR_root (by omega) (by omega) h.1.1 h.1.2 h.2.1 h.2.2 hk
theorem best2 (X Y : List Int) (hX : X.length = 32) (hY : Y.length = 32) : bestR (X ++ Y) = bestO (ownR 0 X) (ownR 1 Y) := by
  obtain ⟨h1, h2⟩ := slot2 X Y hX hY
  unfold bestR
  rw [h1, h2]
theorem bestO_none (x : Option Rt) : bestO x none = x := by cases x <;> rfl
theorem zl (n : Nat) : (List.replicate n (0 : Int)).length = n := List.length_replicate
def lastO (i : Nat) (r : Rt) : Option Rt := if i = 0 then none else some r
theorem Slots.best {i : Nat} {bs : List Int} {r : Rt} (h : Slots i bs r) (hi : i < 256) : bestR bs = lastO i r := by
  rcases h with ⟨rfl, rfl, rfl⟩ | ⟨rfl, a, z, hv, rfl, rfl⟩ | ⟨h2, ho, a, z, a', z', hv, hv', rfl, rfl⟩ | ⟨h2, ho, a, z, a', z', hv, hv', rfl, rfl⟩
  · unfold bestR slotR slotX; simp; unfold ownR; simp; rfl
  · rw [best2 _ _ (zl 32) (rootB_length _ _ _), zeros_none, show ownR 1 (rootB 1 a z) = some (1, a, z) from ownR_root (by omega) (by omega) hv.1.1 hv.1.2 hv.2.1 hv.2.2 rfl]; rfl
  · rw [best2 _ _ (rootB_length _ _ _) (rootB_length _ _ _), ownR_rb (g := i - 1) (by omega) hv' (by omega), ownR_rb (by omega) hv (by omega)]
    simp only [bestO]
    rw [if_pos (by show (((i - 1 : Nat) : Int)) < (i : Int); omega)]
    unfold lastO; rw [if_neg (by omega)]
  · rw [best2 _ _ (rootB_length _ _ _) (rootB_length _ _ _), ownR_rb (g := i) (by omega) hv (by omega), ownR_rb (g := i - 1) (by omega) hv' (by omega)]
    simp only [bestO]
    rw [if_neg (by show ¬ (i : Int) < (((i - 1 : Nat) : Int)); omega)]
    unfold lastO; rw [if_neg (by omega)]
theorem lay_left (X Y R : List Int) (hX : X.length = 32) (hR : R.length ≤ 32) : layN (X ++ Y) 0 R = (R ++ X.drop R.length) ++ Y := by
  unfold layN
  rw [List.take_zero, List.nil_append, Nat.zero_add, List.drop_append_of_le_length (by omega), List.append_assoc]
theorem lay_right (X Y R : List Int) (hX : X.length = 32) : layN (X ++ Y) 32 R = X ++ (R ++ Y.drop R.length) := by
  unfold layN
  rw [← hX, List.take_left, List.drop_append, List.drop_of_length_le (by omega), List.nil_append, show X.length + R.length - X.length = R.length by omega]
theorem put_first (F : Mdl) (a z : Int) (h : F.bs = []) : putAt F 1 = 0 ∧ putX F 1 a z = List.replicate 32 0 ++ rootB 1 a z := by
  have h1 : putAt F 1 = 0 := by unfold putAt; rw [h]; rfl
  refine ⟨h1, ?_⟩
  unfold putX; rw [h1]; rfl
theorem put_later (F : Mdl) (g a z : Int) (h0 : 0 ≤ g) (h : F.bs.length = 64) : putAt F g = putN g ∧ putX F g a z = rootB g a z := by
  have hn := putN_le g h0
  have h1 : putAt F g = putN g := by unfold putAt; rw [h]; omega
  refine ⟨h1, ?_⟩
  unfold putX; rw [h1, Nat.sub_self]; rfl
theorem Slots.len {i : Nat} {bs : List Int} {r : Rt} (h : Slots i bs r) : (i = 0 → bs = []) ∧ (i ≠ 0 → bs.length = 64) := by
  rcases h with ⟨rfl, rfl, rfl⟩ | ⟨rfl, a, z, hv, rfl, rfl⟩ | ⟨h2, ho, a, z, a', z', hv, hv', rfl, rfl⟩ | ⟨h2, ho, a, z, a', z', hv, hv', rfl, rfl⟩
  · exact ⟨fun _ => rfl, fun h => absurd rfl h⟩
  · exact ⟨fun h => by omega, fun _ => by rw [List.length_append, zl, rootB_length]⟩
  · exact ⟨fun h => by omega, fun _ => by rw [List.length_append, rootB_length, rootB_length]⟩
  · exact ⟨fun h => by omega, fun _ => by rw [List.length_append, rootB_length, rootB_length]⟩
theorem putN_odd {g : Nat} (h : g % 2 = 1) : putN (g : Int) = 32 := by unfold putN; omega
theorem putN_even {g : Nat} (h : g % 2 = 0) : putN (g : Int) = 0 := by unfold putN; omega
theorem drop32 (X : List Int) (h : X.length = 32) : X.drop 32 = [] := List.drop_of_length_le (by omega)
/-- The next root, put whole. -/
theorem Slots.put {i : Nat} {F : Mdl} {r : Rt} (h : Slots i F.bs r) (hi : i < 100) (a z : Int) (hv : valid a z) : Slots (i + 1) (layN F.bs (putAt F ((i + 1 : Nat) : Int)) (putX F ((i + 1 : Nat) : Int) a z)) (((i + 1 : Nat) : Int), a, z) ∧ putAt F ((i + 1 : Nat) : Int) + (putX F ((i + 1 : Nat) : Int) a z).length ≤ 64 ∧ putAt F ((i + 1 : Nat) : Int) ≤ F.bs.length := by
  have hR := rootB_length ((i + 1 : Nat) : Int) a z
  rcases h with ⟨rfl, hb, rfl⟩ | ⟨rfl, a1, z1, hv1, hb, rfl⟩ | ⟨h2, ho, a1, z1, a', z', hv1, hv', hb, rfl⟩ | ⟨h2, ho, a1, z1, a', z', hv1, hv', hb, rfl⟩
  · obtain ⟨e1, e2⟩ := put_first F a z hb
    rw [show (((0 + 1 : Nat) : Int)) = 1 from rfl, e1, e2, hb]
    refine ⟨.inr (.inl ⟨rfl, a, z, hv, ?_, rfl⟩), ?_, Nat.zero_le _⟩
    · unfold layN; simp
    · rw [List.length_append, zl, rootB_length]; omega
  · have hl : F.bs.length = 64 := by rw [hb, List.length_append, zl, rootB_length]
    obtain ⟨e1, e2⟩ := put_later F ((1 + 1 : Nat) : Int) a z (by omega) hl
    rw [e1, e2, putN_even (by omega), hb, lay_left _ _ _ (zl 32) (by rw [rootB_length]; omega), rootB_length, drop32 _ (zl 32), List.append_nil]
    exact ⟨.inr (.inr (.inr ⟨by omega, by omega, a, z, a1, z1, hv, hv1, rfl, rfl⟩)), by omega, by omega⟩
  · have hl : F.bs.length = 64 := by rw [hb, List.length_append, rootB_length, rootB_length]
    obtain ⟨e1, e2⟩ := put_later F ((i + 1 : Nat) : Int) a z (by omega) hl
    rw [e1, e2, putN_even (by omega), hb, lay_left _ _ _ (rootB_length _ _ _) (by rw [rootB_length]; omega), rootB_length, drop32 _ (rootB_length _ _ _), List.append_nil]
    exact ⟨.inr (.inr (.inr ⟨by omega, by omega, a, z, a1, z1, hv, hv1, rfl, rfl⟩)), by omega, by omega⟩
  · have hl : F.bs.length = 64 := by rw [hb, List.length_append, rootB_length, rootB_length]
    obtain ⟨e1, e2⟩ := put_later F ((i + 1 : Nat) : Int) a z (by omega) hl
    rw [e1, e2, putN_odd (by omega), hb, lay_right _ _ _ (rootB_length _ _ _), rootB_length, drop32 _ (rootB_length _ _ _), List.append_nil]
    exact ⟨.inr (.inr (.inl ⟨by omega, by omega, a, z, a1, z1, hv, hv1, rfl, rfl⟩)), by omega, by rw [List.length_append, rootB_length, rootB_length]; omega⟩
/-- The next root, cut: the last one stands. -/
theorem Slots.cut {i : Nat} {F : Mdl} {r : Rt} (h : Slots i F.bs r) (hi : i < 100) (a z : Int) (c : Nat) (hc : 16 * c < (putX F ((i + 1 : Nat) : Int) a z).length) : bestR (layN F.bs (putAt F ((i + 1 : Nat) : Int)) ((putX F ((i + 1 : Nat) : Int) a z).take (16 * c))) = lastO i r := by
  have hbest := h.best (by omega)
  rcases h with ⟨rfl, hb, rfl⟩ | ⟨rfl, a1, z1, hv1, hb, rfl⟩ | ⟨h2, ho, a1, z1, a', z', hv1, hv', hb, rfl⟩ | ⟨h2, ho, a1, z1, a', z', hv1, hv', hb, rfl⟩
  · obtain ⟨e1, e2⟩ := put_first F a z hb
    rw [show (((0 + 1 : Nat) : Int)) = 1 from rfl] at hc ⊢
    rw [e2, List.length_append, zl, rootB_length] at hc
    rw [e1, e2, hb]
    have hl : layN [] 0 ((List.replicate 32 0 ++ rootB 1 a z).take (16 * c)) = (List.replicate 32 0 ++ rootB 1 a z).take (16 * c) := by unfold layN; simp
    rw [hl]
    generalize hx : (List.replicate 32 (0 : Int) ++ rootB 1 a z).take (16 * c) = x
    have hxl : x.length ≤ 48 := by rw [← hx, List.length_take]; omega
    have hs1 : slotR x 1 = none := by
      unfold slotR slotX
      rw [if_neg (by omega)]
      unfold ownR; rw [if_neg (fun h => by simp at h)]
    have hs0 : slotR x 0 = none := by
      unfold slotR
      refine ownR_other _ ?_
      unfold slotX
      split
      · rename_i h32
        rw [← hx, List.drop_zero, List.take_take]
        rw [List.getD, List.getElem?_take_of_lt (by rw [← hx, List.length_take, List.length_append, zl, rootB_length] at h32; omega)]
        simp
      · simp
    unfold bestR
    rw [hs0, hs1]
    rfl
  · have hl : F.bs.length = 64 := by rw [hb, List.length_append, zl, rootB_length]
    obtain ⟨e1, e2⟩ := put_later F ((1 + 1 : Nat) : Int) a z (by omega) hl
    rw [e2, rootB_length] at hc
    rw [e1, e2, putN_even (by omega), hb]
    rcases (show c = 0 ∨ c = 1 by omega) with rfl | rfl
    · rw [Nat.mul_zero, List.take_zero, layN_nil, ← hb]; exact hbest
    · have ht : ((rootB ((1 + 1 : Nat) : Int) a z).take (16 * 1)).length = 16 := by rw [List.length_take, rootB_length]; rfl
      rw [lay_left _ _ _ (zl 32) (by omega), ht, show (List.replicate 32 (0 : Int)).drop 16 = List.replicate 16 0 from rfl]
      rw [best2 _ _ (by rw [List.length_append, ht, zl]) (rootB_length _ _ _), show ((1 + 1 : Nat) : Int) = 2 from rfl, show 16 * 1 = 16 from rfl, half_zero, show ownR 1 (rootB 1 a1 z1) = some (1, a1, z1) from ownR_root (by omega) (by omega) hv1.1.1 hv1.1.2 hv1.2.1 hv1.2.2 rfl]
      rfl
  · have hl : F.bs.length = 64 := by rw [hb, List.length_append, rootB_length, rootB_length]
    obtain ⟨e1, e2⟩ := put_later F ((i + 1 : Nat) : Int) a z (by omega) hl
    rw [e2, rootB_length] at hc
    rw [e1, e2, putN_even (by omega), hb]
    rcases (show c = 0 ∨ c = 1 by omega) with rfl | rfl
    · rw [Nat.mul_zero, List.take_zero, layN_nil, ← hb]; exact hbest
    · have ht : ((rootB ((i + 1 : Nat) : Int) a z).take (16 * 1)).length = 16 := by rw [List.length_take, rootB_length]; rfl
      rw [lay_left _ _ _ (rootB_length _ _ _) (by omega), ht]
      rw [best2 _ _ (by rw [List.length_append, ht, List.length_drop, rootB_length]) (rootB_length _ _ _), show 16 * 1 = 16 from rfl, half_none _ _ _ _ _ _ _ (by omega) (by omega) (by omega), ownR_rb (by omega) hv1 (by omega)]
      unfold lastO; rw [if_neg (by omega)]; rfl
  · have hl : F.bs.length = 64 := by rw [hb, List.length_append, rootB_length, rootB_length]
    obtain ⟨e1, e2⟩ := put_later F ((i + 1 : Nat) : Int) a z (by omega) hl
    rw [e2, rootB_length] at hc
    rw [e1, e2, putN_odd (by omega), hb]
    rcases (show c = 0 ∨ c = 1 by omega) with rfl | rfl
    · rw [Nat.mul_zero, List.take_zero, layN_nil, ← hb]; exact hbest
    · have ht : ((rootB ((i + 1 : Nat) : Int) a z).take (16 * 1)).length = 16 := by rw [List.length_take, rootB_length]; rfl
      rw [lay_right _ _ _ (rootB_length _ _ _), ht]
      rw [best2 _ _ (rootB_length _ _ _) (by rw [List.length_append, ht, List.length_drop, rootB_length]), show 16 * 1 = 16 from rfl, half_none _ _ _ _ _ _ _ (by omega) (by omega) (by omega), ownR_rb (by omega) hv1 (by omega), bestO_none]
      unfold lastO; rw [if_neg (by omega)]
/-- A number within 22 bits. -/
theorem and22 (x : Int) : 0 ≤ bits .and .i64 x 4194303 ∧ bits .and .i64 x 4194303 ≤ 4194304 := by
  have e : bits .and .i64 x 4194303 = IntKind.i64.wrap (((BitVec.ofInt 64 x &&& BitVec.ofInt 64 4194303).toNat : Nat) : Int) := rfl
  have hb : (BitVec.ofInt 64 x &&& BitVec.ofInt 64 4194303).toNat ≤ 4194303 := by
    rw [BitVec.toNat_and]
    exact Nat.le_trans Nat.and_le_right (by decide)
  rw [e]
  generalize (BitVec.ofInt 64 x &&& BitVec.ofInt 64 4194303).toNat = n at *
  rw [show IntKind.i64.wrap (n : Int) = n by simp [IntKind.wrap, IntKind.bits, IntKind.signed]; omega]
  omega
end Go.Proofs.YtkiccnedmejnaaaDoor

namespace Go.Proofs.YtkiccnedmejnaaaDoor
open Go.RowKit
set_option linter.unusedVariables false
set_option maxRecDepth 100000

theorem byt_drop {l : List Int} (h : Byt l) (k : Nat) : Byt (l.drop k) := fun i => by have := h (k + i); simpa [List.getD] using this
theorem byt_lay {b x : List Int} (hb : Byt b) (hx : Byt x) (q : Nat) : Byt (layN b q x) := byt_append (byt_left hb q) (byt_append hx (byt_drop hb _))
/-- A file behind i roots. -/
structure FI (i : Nat) (F : Mdl) (r : Rt) : Prop where
  sl : Slots i F.bs r
  byt : Byt F.bs
  off : F.off = false
  pl : F.pl = false
  most : F.most = 64
  rs : F.rs.length ≤ 64 * i
/-- A block that is none of a file's. -/
def Away (p : Nat) (vb vr : Value) (rv : List RawV) (q : Nat) : Prop := (∀ k, Foot p vb vr k → k ≠ q) ∧ ∀ k, Inn rv k → k ≠ q
theorem FI.next {i : Nat} {F : Mdl} {r : Rt} (h : FI i F r) (hi : i < 30) (a z : Int) (hv : valid a z) :
    ∃ F', wrM F ((putAt F ((i + 1 : Nat) : Int) : Nat) : Int) (putX F ((i + 1 : Nat) : Int) a z) = (0, F') ∧ FI (i + 1) F' (((i + 1 : Nat) : Int), a, z) := by
  obtain ⟨h1, h2, h3⟩ := h.sl.put (by omega) a z hv
  obtain ⟨F', e1, e2, e3, e4, e5⟩ := wrM_plain (F := F) (q := putAt F ((i + 1 : Nat) : Int)) (x := putX F ((i + 1 : Nat) : Int) a z) h.pl h.off h3 (by rw [h.most]; omega)
  refine ⟨F', e1, ?_, ?_, e4, e5, e3.trans h.most, ?_⟩
  · rw [e2]; exact h1
  · rw [e2]; exact byt_lay h.byt (putX_byt F _ a z) _
  · have := wrM_count F ((putAt F ((i + 1 : Nat) : Int) : Nat) : Int) (putX F ((i + 1 : Nat) : Int) a z)
    rw [e1] at this
    dsimp only at this
    have := h.rs
    omega
/-- What a cut leaves: the last root, or the next one. -/
theorem FI.cutN {i : Nat} {F : Mdl} {r : Rt} (h : FI i F r) (hi : i < 30) (a z : Int) (hv : valid a z) (c : Nat) :
    ∃ F' er O, wrM { F with pl := true, left := (c : Int) } ((putAt F ((i + 1 : Nat) : Int) : Nat) : Int) (putX F ((i + 1 : Nat) : Int) a z) = (er, F') ∧ Byt F'.bs ∧ bestR F'.bs = O ∧
      ((er = 0 ∧ O = some (((i + 1 : Nat) : Int), a, z)) ∨ (er = 6 ∧ O = lastO i r)) := by
  obtain ⟨h1, h2, h3⟩ := h.sl.put (by omega) a z hv
  by_cases hc : (putX F ((i + 1 : Nat) : Int) a z).length ≤ 16 * c
  · obtain ⟨F', e1, e2, e3, e4⟩ := wrM_whole (F := { F with pl := true, left := (c : Int) }) (q := putAt F ((i + 1 : Nat) : Int)) (c := c) (x := putX F ((i + 1 : Nat) : Int) a z) rfl rfl h.off h3 (by show _ ≤ F.most - _; rw [h.most]; omega) hc
    refine ⟨F', 0, _, e1, by rw [e2]; exact byt_lay h.byt (putX_byt F _ a z) _, rfl, .inl ⟨rfl, ?_⟩⟩
    rw [e2]
    have := h1.best (by omega)
    unfold lastO at this
    rw [if_neg (by omega)] at this
    exact this
  · obtain ⟨F', e1, e2, e3, e4, e5⟩ := wrM_cut (F := { F with pl := true, left := (c : Int) }) (q := putAt F ((i + 1 : Nat) : Int)) (c := c) (x := putX F ((i + 1 : Nat) : Int) a z) rfl rfl h.off h3 (by show _ ≤ F.most - _; rw [h.most]; omega) (by omega)
    refine ⟨F', 6, _, e1, by rw [e2]; exact byt_lay h.byt (byt_left (putX_byt F _ a z) _) _, rfl, .inr ⟨rfl, ?_⟩⟩
    rw [e2]
    exact h.sl.cut (by omega) a z c (by omega)

set_option maxHeartbeats 8000000 in
theorem slotsCrashes_walk (v : Value) (l : List Rt) (n : Int) (W : World) (hS : Sl W) (hl : Rts W v l) (hn : (Lit.int .i64 n).wf = true) :
    Calls Tryd.prog 8 #[v, .int .i64 n] W fun e W' => e = .returned (.bool true) ∧ Below W.heap.size W W' := by
  have hn64 : -9223372036854775808 ≤ n ∧ n ≤ 9223372036854775807 := by
    simp [Lit.wf, IntKind.min, IntKind.max, IntKind.bits, IntKind.signed] at hn
    omega
  have HS : Hid (Sl W) := hS
  obtain ⟨ao, cap, rfl, hcap, hcell⟩ := hl
  have HCL : Hid (∀ i r, l[i]? = some r → ∃ g o, ao = some ⟨g, o, none⟩ ∧ W.cell? ⟨g, o + i * 3, none⟩ = some (.int .u64 r.1) ∧ W.cell? ⟨g, o + i * 3 + 1, none⟩ = some (.int .i64 r.2.1) ∧ W.cell? ⟨g, o + i * 3 + 2, none⟩ = some (.int .i64 r.2.2)) := hcell
  obtain ⟨N, HN⟩ : ∃ N, Hid (l.length = N) := ⟨_, rfl⟩
  rw [HN.out] at hcap ⊢
  obtain ⟨c, hc6, hplace, hlo, hhi⟩ : ∃ c : Nat, c < 6 ∧ (n.tmod 6 + 6).tmod 6 = (c : Int) ∧ -6 ≤ n.tmod 6 ∧ n.tmod 6 < 6 := place_any n 6 (by omega)
  clear hS hcell hn
  go_enter Tryd.func8, Tryd.ntmps8
  go_wp2_with fail
  refine (new_some 64 W (by omega) (by omega)).mono ?_
  rintro e w1 ⟨p, vb, rfl, hp1, hb1⟩
  have HP1 : Hid (PF w1 W.heap.size p (newM [] 64) vb (.slice none 0 0) []) := hp1
  have HB1 : Hid (Below W.heap.size W w1) := hb1
  clear hp1 hb1
  obtain ⟨W2, HW2⟩ : ∃ W2, Hid (W2 = w1.alloc (.cells #[.int .u64 0, .int .i64 0, .int .i64 0] 24)) := ⟨_, rfl⟩
  have HC2 : Hid (W2.heap[w1.heap.size]? = some (.cells #[.int .u64 0, .int .i64 0, .int .i64 0] 24 (0, 0))) := by rw [Hid, HW2.out]; exact heap_alloc_new _ _
  have HB12 : Hid (Below w1.heap.size w1 W2) := by rw [Hid, HW2.out]; exact (Below.refl _ _).alloc (Nat.le_refl _) _
  have HBW2 : Hid (Below W.heap.size W W2) := HB1.out.trans (HB12.out.mono HB1.out.size)
  go_upto_region 3 with fail
  rw [← HW2.out]
  go_wp2_with fail
  obtain ⟨q, Hq⟩ : ∃ q, Hid (w1.heap.size = q) := ⟨_, rfl⟩
  have HWq : Hid (W.heap.size ≤ q) := by rw [Hid, ← Hq.out]; exact HB1.out.size
  have HAW : Hid (Away p vb (.slice none 0 0) [] q) := ⟨fun k hk => by have := (HP1.out.hold.foot k hk).2; have := Hq.out; omega, fun k hk => by obtain ⟨r, hr, _⟩ := hk; cases hr⟩
  rw [Hq.out] at HC2 ⊢
  go_loopw [7] (fun iv wr => ∃ i : Nat, i ≤ N ∧ i ≤ 30 ∧ iv = .int .i64 (i : Int) ∧ Hid (∃ (F : Mdl) (r : Rt) (vb vr : Value) (rv : List RawV), PF wr W.heap.size p F vb vr rv ∧ FI i F r ∧ Away p vb vr rv q ∧ wr.heap[q]? = some (.cells #[.int .u64 r.1, .int .i64 r.2.1, .int .i64 r.2.2] 24 (0, 0))) ∧ Hid (Below W.heap.size W wr)) (fun iv _ => 30 - (intOf iv).toNat)
  case atStart => exact ⟨0, Nat.zero_le _, by omega, rfl, ⟨newM [] 64, (0, 0, 0), vb, _, [], HP1.out.below HB12.out, ⟨.inl ⟨rfl, rfl, rfl⟩, (fun i => by simp [newM]), rfl, rfl, rfl, Nat.le_refl _⟩, HAW.out, HC2.out⟩, HBW2.out⟩
  case round =>
    obtain ⟨i, hiN, hi30, rfl, HST, HB⟩ := hrel
    obtain ⟨F, r, vb', vr', rv', hp, hfi, haw, hq⟩ := HST.out
    have HP : Hid (PF wr W.heap.size p F vb' vr' rv') := hp
    have HFI : Hid (FI i F r) := hfi
    have HAQ : Hid (Away p vb' vr' rv' q) := haw
    have HQ : Hid _ := hq
    clear hp hfi haw hq HST
    by_cases hlt : i < N ∧ i < 30
    · obtain ⟨hlN, hl30⟩ := hlt
      obtain ⟨⟨rg, ra, rz⟩, hr⟩ : ∃ r, l[i]? = some r := ⟨_, List.getElem?_eq_getElem (by rw [HN.out]; exact hlN)⟩
      obtain ⟨ga, oa, hao, a0, a1, a2⟩ := HCL.out i _ hr
      dsimp only at a0 a1 a2
      have hga : ga < W.heap.size := World.block_lt_of_cell? W _ a0
      have d1 := (HB.out.cell (p := ⟨ga, oa + i * 3 + 1, none⟩) hga).trans a1
      have d2 := (HB.out.cell (p := ⟨ga, oa + i * 3 + 2, none⟩) hga).trans a2
      obtain ⟨hA0, hA1⟩ := and22 ra
      obtain ⟨hZ0, hZ1⟩ := and22 rz
      obtain ⟨A, HA, hA⟩ : ∃ A, Hid (bits .and .i64 ra 4194303 = A) ∧ bits .and .i64 ra 4194303 = A := ⟨_, rfl, rfl⟩
      obtain ⟨Z, HZ, hZ⟩ : ∃ Z, Hid (bits .and .i64 rz 4194303 = Z) ∧ bits .and .i64 rz 4194303 = Z := ⟨_, rfl, rfl⟩
      rw [hA] at hA0 hA1
      rw [hZ] at hZ0 hZ1
      subst hao
      clear a0 a1 a2 hr
      have hw1 : IntKind.u64.wrap ((i : Int) + 1) = (i : Int) + 1 := by simp [IntKind.wrap, IntKind.bits, IntKind.signed]; omega
      have hba : Below W.heap.size W (wr.alloc (.cells #[.int .u64 0, .int .i64 0, .int .i64 0] 24)) := HB.out.alloc HB.out.size _
      have x1 := (hba.cell (p := ⟨ga, oa + i * 3 + 1, none⟩) hga).trans ((HB.out.cell (p := ⟨ga, oa + i * 3 + 1, none⟩) hga).symm.trans d1)
      have x2 := (hba.cell (p := ⟨ga, oa + i * 3 + 2, none⟩) hga).trans ((HB.out.cell (p := ⟨ga, oa + i * 3 + 2, none⟩) hga).symm.trans d2)
      clear hba
      go_wp2_with fail
      go_region
      obtain ⟨W3, HW3⟩ : ∃ W3, Hid (W3 = (wr.alloc (.cells #[.int .u64 ((i : Int) + 1), .int .i64 A, .int .i64 Z] 24)).drew) := ⟨_, rfl⟩
      rw [← HW3.out]
      have HC3 : Hid (W3.heap[wr.heap.size]? = some (.cells #[.int .u64 ((i : Int) + 1), .int .i64 A, .int .i64 Z] 24 (0, 0))) := by rw [Hid, HW3.out]; exact heap_alloc_new wr _
      have HBR3 : Hid (Below wr.heap.size wr W3) := by rw [Hid, HW3.out]; exact ((Below.refl _ wr).alloc (Nat.le_refl _) _).drew
      have HB3 : Hid (Below W.heap.size W W3) := HB.out.trans (HBR3.out.mono HB.out.size)
      have HNB : Hid (wr.heap.size < W3.heap.size) := (Array.getElem?_eq_some_iff.1 HC3.out).1
      have HQR : Hid (q < wr.heap.size) := (Array.getElem?_eq_some_iff.1 HQ.out).1
      have HRV : Hid (rv'.length ≤ 1000000) := by have h1 := congrArg List.length HP.out.rs; rw [plain_length] at h1; have h2 := HFI.out.rs; unfold Hid; omega
      have HVD : Hid (valid A Z) := ⟨⟨hA0, hA1⟩, hZ0, hZ1⟩
      have HFL : Hid (∀ k, Foot p vb' vr' k → k < wr.heap.size) := fun k hk => (HP.out.hold.foot k hk).2
      have HIL : Hid (∀ k, Inn rv' k → k < wr.heap.size) := fun k hk => HP.out.hold.ilt k hk
      clear d1 d2 x1 x2 hA hZ hw1
      have hwn : IntKind.i64.wrap (n.tmod 6 + 6) = n.tmod 6 + 6 := by generalize n.tmod 6 = t at *; simp [IntKind.wrap, IntKind.bits, IntKind.signed]; omega
      have HPW3 : Hid (PF W3 W.heap.size p F vb' vr' rv') := HP.out.below HBR3.out
      go_wp2_with fail
      refine (copy_any HPW3.out (by have := HRV.out; omega)).mono ?_
      rintro e w4 ⟨p2, vb2, vr2, rfl, hp4, hb4⟩
      have HG4 : Hid (PF w4 W3.heap.size p2 F vb2 vr2 rv') := hp4
      have HB34 : Hid (Below W3.heap.size W3 w4) := hb4
      have HP2L : Hid (W3.heap.size ≤ p2) := hp4.hold.bp
      clear hp4 hb4
      have HPW4 : Hid (PF w4 W.heap.size p F vb' vr' rv') := HPW3.out.below HB34.out
      go_wp2_with fail
      refine (cut_any HG4.out (c : Int) (by omega) (by omega)).mono ?_
      rintro e w5 ⟨rfl, hp5, hc5⟩
      have HG5 : Hid (PF w5 W3.heap.size p2 { F with pl := true, left := (c : Int) } vb2 vr2 rv') := hp5
      have HB35 : Hid (Below W3.heap.size W3 w5) := HB34.out.trans (hc5.below (fun k hk => by have hk' : k = p2 := hk; rw [hk']; exact HP2L.out) HB34.out.size)
      have HPW5 : Hid (PF w5 W.heap.size p F vb' vr' rv') := HPW4.out.chg hc5 (fun k hk hk2 => by have h1 := HFL.out k hk; have h2 : k = p2 := hk2; have h3 := HP2L.out; have h4 := HNB.out; omega) (fun k hk hk2 => by have h1 := HIL.out k hk; have h2 : k = p2 := hk2; have h3 := HP2L.out; have h4 := HNB.out; omega)
      clear hp5 hc5
      have HBW5 : Hid (Below W.heap.size W w5) := HB3.out.trans (HB35.out.mono HB3.out.size)
      obtain ⟨FC, er, O, hwr, hfcb, hbest, hans⟩ := HFI.out.cutN hl30 A Z HVD.out c
      have HFCB : Hid (Byt FC.bs) := hfcb
      have HBES : Hid (bestR FC.bs = O) := hbest
      have HPU : Hid _ := rput_any HG5.out HB35.out.size ((i : Int) + 1) A Z (HS.out.below HBW5.out).tab (by omega) (by omega) (inF_true hA0 hA1) (inF_true hZ0 hZ1) (by have := HRV.out; omega)
      rw [show wrM { F with pl := true, left := (c : Int) } ((putAt { F with pl := true, left := (c : Int) } ((i : Int) + 1) : Nat) : Int) (putX { F with pl := true, left := (c : Int) } ((i : Int) + 1) A Z) = (er, FC) from hwr] at HPU
      have HC5 : Hid _ := (HB35.out.block _ HNB.out).trans HC3.out
      obtain ⟨c0, c1, c2, _, _, _⟩ := three_cells HC5.out
      clear hwr hfcb hbest
      go_wp2_with fail
      refine Calls.mono HPU.out ?_
      rintro e w6 ⟨vb6, vr6, rv6, rfl, hp6, hm6⟩
      have HG6 : Hid (PF w6 W3.heap.size p2 FC vb6 vr6 rv6) := hp6
      have HB36 : Hid (Below W3.heap.size W3 w6) := HB35.out.trans (hm6.below HG5.out HB35.out.size)
      have HPW6 : Hid (PF w6 W.heap.size p F vb' vr' rv') := HPW5.out.chg hm6.chg (fun k hk hk2 => by have h1 := HFL.out k hk; have h2 := (HG5.out.hold.foot k hk2).1; have h4 := HNB.out; omega) (fun k hk hk2 => by have h1 := HIL.out k hk; have h2 := (HG5.out.hold.foot k hk2).1; have h4 := HNB.out; omega)
      clear hp6 hm6 HPU c0 c1 c2
      go_wp2_with fail
      refine (start_any HG6.out).mono ?_
      rintro e w7 ⟨⟨u7, rfl⟩, hp7, hc7⟩
      have HG7 : Hid (PF w7 W3.heap.size p2 { FC with off := false } vb6 vr6 rv6) := hp7
      have HB37 : Hid (Below W3.heap.size W3 w7) := HB36.out.trans (hc7.below (fun k hk => by have hk' : k = p2 := hk; rw [hk']; exact HP2L.out) HB36.out.size)
      have HPW7 : Hid (PF w7 W.heap.size p F vb' vr' rv') := HPW6.out.chg hc7 (fun k hk hk2 => by have h1 := HFL.out k hk; have h2 : k = p2 := hk2; have h3 := HP2L.out; have h4 := HNB.out; omega) (fun k hk hk2 => by have h1 := HIL.out k hk; have h2 : k = p2 := hk2; have h3 := HP2L.out; have h4 := HNB.out; omega)
      clear hp7 hc7
      have HBW7 : Hid (Below W.heap.size W w7) := HB3.out.trans (HB37.out.mono HB3.out.size)
      have HBE : Hid _ := best_on HG7.out rfl (HS.out.below HBW7.out) HFCB.out
      rw [show ({ FC with off := false } : Mdl).bs = FC.bs from rfl, HBES.out, rtZ_eq] at HBE
      obtain ⟨og, Hog⟩ : ∃ x, Hid (zg O = x) := ⟨_, rfl⟩
      obtain ⟨oa', Hoa⟩ : ∃ x, Hid (za O = x) := ⟨_, rfl⟩
      obtain ⟨oz, Hoz⟩ : ∃ x, Hid (zz O = x) := ⟨_, rfl⟩
      obtain ⟨oq, Hoq⟩ : ∃ x, Hid (O.isSome = x) := ⟨_, rfl⟩
      rw [Hog.out, Hoa.out, Hoz.out, Hoq.out] at HBE
      obtain ⟨lg, Hlg⟩ : ∃ x, Hid (r.1 = x) := ⟨_, rfl⟩
      obtain ⟨la, Hla⟩ : ∃ x, Hid (r.2.1 = x) := ⟨_, rfl⟩
      obtain ⟨lz, Hlz⟩ : ∃ x, Hid (r.2.2 = x) := ⟨_, rfl⟩
      rw [Hlg.out, Hla.out, Hlz.out] at HQ
      have HLR : Hid (lg = (i : Int) ∧ (i = 0 → la = 0 ∧ lz = 0)) := by
        have := HFI.out.sl
        rw [Hid, ← Hlg.out, ← Hla.out, ← Hlz.out]
        rcases this with ⟨h1, _, h2⟩ | ⟨h1, a, z, _, _, h2⟩ | ⟨h1, _, a, z, a', z', _, _, _, h2⟩ | ⟨h1, _, a, z, a', z', _, _, _, h2⟩
        · rw [h2]; exact ⟨by rw [h1]; rfl, fun _ => ⟨rfl, rfl⟩⟩
        · rw [h2]; exact ⟨by rw [h1]; rfl, fun h => by omega⟩
        · rw [h2]; exact ⟨rfl, fun h => by omega⟩
        · rw [h2]; exact ⟨rfl, fun h => by omega⟩
      have HANS : Hid ((er = 0 ∧ og = (i : Int) + 1 ∧ A = oa' ∧ Z = oz ∧ oq = true) ∨ (er = 6 ∧ i = 0 ∧ og = 0 ∧ oa' = 0 ∧ oz = 0 ∧ oq = false ∧ lg = 0 ∧ la = 0 ∧ lz = 0) ∨ (er = 6 ∧ i ≠ 0 ∧ lg = og ∧ la = oa' ∧ lz = oz ∧ oq = true)) := by
        rw [Hid, ← Hog.out, ← Hoa.out, ← Hoz.out, ← Hoq.out]
        rcases hans with ⟨h1, h2⟩ | ⟨h1, h2⟩
        · rw [h2]; exact .inl ⟨h1, rfl, rfl, rfl, rfl⟩
        · rw [h2]
          by_cases h0 : i = 0
          · refine .inr (.inl ⟨h1, h0, ?_⟩)
            unfold lastO; rw [if_pos h0]
            exact ⟨rfl, rfl, rfl, rfl, by rw [HLR.out.1, h0]; rfl, (HLR.out.2 h0).1, (HLR.out.2 h0).2⟩
          · refine .inr (.inr ⟨h1, h0, ?_⟩)
            unfold lastO; rw [if_neg h0, ← Hlg.out, ← Hla.out, ← Hlz.out]
            exact ⟨rfl, rfl, rfl, rfl⟩
      clear hans
      go_wp2_with fail
      refine Calls.mono HBE.out ?_
      rintro e w8 ⟨rfl, hb8⟩
      obtain ⟨W8, HW8⟩ : ∃ W8, Hid (W8 = w8.alloc (.cells #[.int .u64 og, .int .i64 oa', .int .i64 oz] 24)) := ⟨_, rfl⟩
      have HC8 : Hid (W8.heap[w8.heap.size]? = some (.cells #[.int .u64 og, .int .i64 oa', .int .i64 oz] 24 (0, 0))) := by rw [Hid, HW8.out]; exact heap_alloc_new _ _
      have HB78 : Hid (Below w7.heap.size w7 W8) := by rw [Hid, HW8.out]; exact hb8.alloc hb8.size _
      have HB38 : Hid (Below W3.heap.size W3 W8) := HB37.out.trans (HB78.out.mono HB37.out.size)
      have HBW8 : Hid (Below W.heap.size W W8) := HB3.out.trans (HB38.out.mono HB3.out.size)
      have HPW8 : Hid (PF W8 W.heap.size p F vb' vr' rv') := HPW7.out.below HB78.out
      have HN8 : Hid _ := (HB38.out.block _ HNB.out).trans HC3.out
      have HQ8 : Hid _ := (HB38.out.block _ (Nat.lt_trans HQR.out HNB.out)).trans ((HBR3.out.block _ HQR.out).trans HQ.out)
      have HRS : Hid (wr.heap.size < w8.heap.size) := by have h1 := HNB.out; have h2 := HB37.out.size; have h3 := hb8.size; unfold Hid; omega
      clear hb8 HBE
      go_upto_region 13 with fail
      rw [← HW8.out]
      obtain ⟨r0, r1, r2, _, _, _⟩ := three_cells HC8.out
      obtain ⟨n0, n1, n2, _, _, _⟩ := three_cells HN8.out
      obtain ⟨l0, l1, l2, _, _, _⟩ := three_cells HQ8.out
      obtain ⟨FN, hwf, hfn⟩ := HFI.out.next hl30 A Z HVD.out
      have HFN : Hid (FI (i + 1) FN (((i + 1 : Nat) : Int), A, Z)) := hfn
      have HPU : Hid _ := rput_any HPW8.out HBW8.out.size ((i : Int) + 1) A Z (HS.out.below HBW8.out).tab (by omega) (by omega) (inF_true hA0 hA1) (inF_true hZ0 hZ1) (by have := HRV.out; omega)
      rw [show wrM F ((putAt F ((i : Int) + 1) : Nat) : Int) (putX F ((i : Int) + 1) A Z) = (0, FN) from hwf] at HPU
      have hgl : ((i : Int) + 1 == lg) = false := by have := HLR.out.1; simp; omega
      have hg0 : ((i : Int) + 1 == 0) = false := by simp; omega
      have hg02 : ¬ (i : Int) + 1 = 0 := by omega
      have hgl2 : ¬ (i : Int) + 1 = lg := by have := HLR.out.1; omega
      clear hwf hfn
      rcases HANS.out with ⟨e1, e2, e3, e4, e5⟩ | ⟨e1, e0, e2, e3, e4, e5, e6, e7, e8⟩ | ⟨e1, e0, e2, e3, e4, e5⟩
      · subst e1 e2 e3 e4 e5
        go_wp2_with fail
        refine Calls.mono HPU.out ?_
        rintro e w9 ⟨vb9, vr9, rv9, rfl, hp9, hm9⟩
        have HP9 : Hid (PF w9 W.heap.size p FN vb9 vr9 rv9) := hp9
        have HN9 : Hid _ := (hm9.chg.block _ (Array.getElem?_eq_some_iff.1 HN8.out).1 (fun hk => by have := HFL.out _ hk; omega)).trans HN8.out
        have HQ9 : Hid _ := (hm9.chg.block _ (Array.getElem?_eq_some_iff.1 HQ8.out).1 (fun hk => HAQ.out.1 _ hk rfl)).trans HQ8.out
        have HR9 : Hid _ := (hm9.chg.block _ (Array.getElem?_eq_some_iff.1 HC8.out).1 (fun hk => by have h1 := HFL.out _ hk; have h2 := HRS.out; omega)).trans HC8.out
        have HB9 : Hid (Below W.heap.size W w9) := HBW8.out.trans (hm9.below HPW8.out HBW8.out.size)
        have HAN : Hid (∀ k, (Foot p vb9 vr9 k ∨ Inn rv9 k) → k ≠ q ∧ k ≠ w8.heap.size) := fun k hk => by
          have hq8 : q < W8.heap.size := (Array.getElem?_eq_some_iff.1 HQ8.out).1
          have hr8 : w8.heap.size < W8.heap.size := (Array.getElem?_eq_some_iff.1 HC8.out).1
          have h5 := HRS.out
          rcases hk with hk | hk
          · rcases hm9.foot k hk with h1 | h1
            · exact ⟨HAQ.out.1 k h1, by have := HFL.out k h1; omega⟩
            · exact ⟨by omega, by omega⟩
          · rcases hm9.inn k hk with h1 | h1
            · exact ⟨HAQ.out.2 k h1, by have := HIL.out k h1; omega⟩
            · exact ⟨by omega, by omega⟩
        have HBS : Hid (bestR FN.bs = some (((i + 1 : Nat) : Int), A, Z)) := by
          have := HFN.out.sl.best (by omega)
          unfold lastO at this
          rw [if_neg (by omega)] at this
          exact this
        have HBF : Hid _ := best_on HP9.out HFN.out.off (HS.out.below HB9.out) HFN.out.byt
        rw [HBS.out, show rtZ (some (((i + 1 : Nat) : Int), A, Z)) = .agg #[.int .u64 ((i : Int) + 1), .int .i64 A, .int .i64 Z] from rfl, show (some (((i + 1 : Nat) : Int), A, Z)).isSome = true from rfl] at HBF
        clear hp9 hm9 HPU r0 r1 r2 n0 n1 n2 l0 l1 l2
        go_wp2_with fail
        refine Calls.mono HBF.out ?_
        rintro e w10 ⟨rfl, hb10⟩
        have HB10 : Hid (Below w9.heap.size w9 w10) := hb10
        have HN10 : Hid _ := (hb10.block _ (Array.getElem?_eq_some_iff.1 HN9.out).1).trans HN9.out
        have HQ10 : Hid _ := (hb10.block _ (Array.getElem?_eq_some_iff.1 HQ9.out).1).trans HQ9.out
        have HR10 : Hid _ := (hb10.block _ (Array.getElem?_eq_some_iff.1 HR9.out).1).trans HR9.out
        have HBW10 : Hid (Below W.heap.size W w10) := HB9.out.trans (hb10.mono HB9.out.size)
        clear hb10 HBF
        obtain ⟨W11, HW11⟩ : ∃ W11, Hid (W11 = ((w10.setCell ⟨w8.heap.size, 0, none⟩ (.int .u64 ((i : Int) + 1))).setCell ⟨w8.heap.size, 1, none⟩ (.int .i64 A)).setCell ⟨w8.heap.size, 2, none⟩ (.int .i64 Z)) := ⟨_, rfl⟩
        have HWR : Hid (W.heap.size ≤ w8.heap.size) := by have h1 := HB.out.size; have h2 := HRS.out; unfold Hid; omega
        have HR11 : Hid (W11.heap[w8.heap.size]? = some (.cells #[.int .u64 ((i : Int) + 1), .int .i64 A, .int .i64 Z] 24 (0, 0))) := by rw [Hid, HW11.out]; exact heap_set3 w10 w8.heap.size 0 1 2 _ _ _ _ _ HR10.out
        have HN11 : Hid (W11.heap[wr.heap.size]? = some (.cells #[.int .u64 ((i : Int) + 1), .int .i64 A, .int .i64 Z] 24 (0, 0))) := by
          have hne := HRS.out
          rw [Hid, HW11.out, Below.heap_setCell _ _ _ _ (by simp; omega), Below.heap_setCell _ _ _ _ (by simp; omega), Below.heap_setCell _ _ _ _ (by simp; omega)]
          exact HN10.out
        have HQ11 : Hid (W11.heap[q]? = some (.cells #[.int .u64 lg, .int .i64 la, .int .i64 lz] 24 (0, 0))) := by
          have hne := HRS.out
          have hne2 := HQR.out
          rw [Hid, HW11.out, Below.heap_setCell _ _ _ _ (by simp; omega), Below.heap_setCell _ _ _ _ (by simp; omega), Below.heap_setCell _ _ _ _ (by simp; omega)]
          exact HQ10.out
        have HBW11 : Hid (Below W.heap.size W W11) := by rw [Hid, HW11.out]; exact ((HBW10.out.setCell HWR.out _).setCell HWR.out _).setCell HWR.out _
        have HCH11 : Hid (Chg (fun k => k = w8.heap.size) w10 W11) := by rw [Hid, HW11.out]; exact ((Chg.cell w10 _ 0 _).next (Chg.cell _ _ 1 _)).next (Chg.cell _ _ 2 _)
        have HP11 : Hid (PF W11 W.heap.size p FN vb9 vr9 rv9) := (HP9.out.below HB10.out).chg HCH11.out (fun k hk hk2 => (HAN.out k (.inl hk)).2 hk2) (fun k hk hk2 => (HAN.out k (.inr hk)).2 hk2)
        obtain ⟨s0, s1, s2, t0, t1, t2⟩ := three_cells HR10.out
        go_upto_region 18 with fail
        rw [← HW11.out]
        clear s0 s1 s2 t0 t1 t2
        obtain ⟨r0, r1, r2, _, _, _⟩ := three_cells HR11.out
        obtain ⟨n0, n1, n2, _, _, _⟩ := three_cells HN11.out
        obtain ⟨l0, l1, l2, m0, m1, m2⟩ := three_cells HQ11.out
        go_wp2_with fail
        go_roundw
        case rel =>
          refine ⟨i + 1, by omega, by omega, by simp, ⟨FN, _, vb9, vr9, rv9, ?_, HFN.out, ⟨fun k hk => (HAN.out k (.inl hk)).1, fun k hk => (HAN.out k (.inr hk)).1⟩, ?_⟩, ?_⟩
          · exact HP11.out.chg (((Chg.cell W11 q 0 _).next (Chg.cell _ q 1 _)).next (Chg.cell _ q 2 _)) (fun k hk hk2 => (HAN.out k (.inl hk)).1 hk2) (fun k hk hk2 => (HAN.out k (.inr hk)).1 hk2)
          · exact heap_set3 W11 q 0 1 2 _ _ _ _ _ HQ11.out
          · exact ((HBW11.out.setCell HWq.out _).setCell HWq.out _).setCell HWq.out _
        case measure => simp [intOf]; omega
      · subst e1 e2 e3 e4 e5 e6 e7 e8
        have HE0 : Hid (i = 0) := e0
        clear e0
        go_wp2_with fail
        refine Calls.mono HPU.out ?_
        rintro e w9 ⟨vb9, vr9, rv9, rfl, hp9, hm9⟩
        have HP9 : Hid (PF w9 W.heap.size p FN vb9 vr9 rv9) := hp9
        have HN9 : Hid _ := (hm9.chg.block _ (Array.getElem?_eq_some_iff.1 HN8.out).1 (fun hk => by have := HFL.out _ hk; omega)).trans HN8.out
        have HQ9 : Hid _ := (hm9.chg.block _ (Array.getElem?_eq_some_iff.1 HQ8.out).1 (fun hk => HAQ.out.1 _ hk rfl)).trans HQ8.out
        have HR9 : Hid _ := (hm9.chg.block _ (Array.getElem?_eq_some_iff.1 HC8.out).1 (fun hk => by have h1 := HFL.out _ hk; have h2 := HRS.out; omega)).trans HC8.out
        have HB9 : Hid (Below W.heap.size W w9) := HBW8.out.trans (hm9.below HPW8.out HBW8.out.size)
        have HAN : Hid (∀ k, (Foot p vb9 vr9 k ∨ Inn rv9 k) → k ≠ q ∧ k ≠ w8.heap.size) := fun k hk => by
          have hq8 : q < W8.heap.size := (Array.getElem?_eq_some_iff.1 HQ8.out).1
          have hr8 : w8.heap.size < W8.heap.size := (Array.getElem?_eq_some_iff.1 HC8.out).1
          have h5 := HRS.out
          rcases hk with hk | hk
          · rcases hm9.foot k hk with h1 | h1
            · exact ⟨HAQ.out.1 k h1, by have := HFL.out k h1; omega⟩
            · exact ⟨by omega, by omega⟩
          · rcases hm9.inn k hk with h1 | h1
            · exact ⟨HAQ.out.2 k h1, by have := HIL.out k h1; omega⟩
            · exact ⟨by omega, by omega⟩
        have HBS : Hid (bestR FN.bs = some (((i + 1 : Nat) : Int), A, Z)) := by
          have := HFN.out.sl.best (by omega)
          unfold lastO at this
          rw [if_neg (by omega)] at this
          exact this
        have HBF : Hid _ := best_on HP9.out HFN.out.off (HS.out.below HB9.out) HFN.out.byt
        rw [HBS.out, show rtZ (some (((i + 1 : Nat) : Int), A, Z)) = .agg #[.int .u64 ((i : Int) + 1), .int .i64 A, .int .i64 Z] from rfl, show (some (((i + 1 : Nat) : Int), A, Z)).isSome = true from rfl] at HBF
        clear hp9 hm9 HPU r0 r1 r2 n0 n1 n2 l0 l1 l2
        go_wp2_with fail
        refine Calls.mono HBF.out ?_
        rintro e w10 ⟨rfl, hb10⟩
        have HB10 : Hid (Below w9.heap.size w9 w10) := hb10
        have HN10 : Hid _ := (hb10.block _ (Array.getElem?_eq_some_iff.1 HN9.out).1).trans HN9.out
        have HQ10 : Hid _ := (hb10.block _ (Array.getElem?_eq_some_iff.1 HQ9.out).1).trans HQ9.out
        have HR10 : Hid _ := (hb10.block _ (Array.getElem?_eq_some_iff.1 HR9.out).1).trans HR9.out
        have HBW10 : Hid (Below W.heap.size W w10) := HB9.out.trans (hb10.mono HB9.out.size)
        clear hb10 HBF
        obtain ⟨W11, HW11⟩ : ∃ W11, Hid (W11 = ((w10.setCell ⟨w8.heap.size, 0, none⟩ (.int .u64 ((i : Int) + 1))).setCell ⟨w8.heap.size, 1, none⟩ (.int .i64 A)).setCell ⟨w8.heap.size, 2, none⟩ (.int .i64 Z)) := ⟨_, rfl⟩
        have HWR : Hid (W.heap.size ≤ w8.heap.size) := by have h1 := HB.out.size; have h2 := HRS.out; unfold Hid; omega
        have HR11 : Hid (W11.heap[w8.heap.size]? = some (.cells #[.int .u64 ((i : Int) + 1), .int .i64 A, .int .i64 Z] 24 (0, 0))) := by rw [Hid, HW11.out]; exact heap_set3 w10 w8.heap.size 0 1 2 _ _ _ _ _ HR10.out
        have HN11 : Hid (W11.heap[wr.heap.size]? = some (.cells #[.int .u64 ((i : Int) + 1), .int .i64 A, .int .i64 Z] 24 (0, 0))) := by
          have hne := HRS.out
          rw [Hid, HW11.out, Below.heap_setCell _ _ _ _ (by simp; omega), Below.heap_setCell _ _ _ _ (by simp; omega), Below.heap_setCell _ _ _ _ (by simp; omega)]
          exact HN10.out
        have HQ11 : Hid (W11.heap[q]? = some (.cells #[.int .u64 0, .int .i64 0, .int .i64 0] 24 (0, 0))) := by
          have hne := HRS.out
          have hne2 := HQR.out
          rw [Hid, HW11.out, Below.heap_setCell _ _ _ _ (by simp; omega), Below.heap_setCell _ _ _ _ (by simp; omega), Below.heap_setCell _ _ _ _ (by simp; omega)]
          exact HQ10.out
        have HBW11 : Hid (Below W.heap.size W W11) := by rw [Hid, HW11.out]; exact ((HBW10.out.setCell HWR.out _).setCell HWR.out _).setCell HWR.out _
        have HCH11 : Hid (Chg (fun k => k = w8.heap.size) w10 W11) := by rw [Hid, HW11.out]; exact ((Chg.cell w10 _ 0 _).next (Chg.cell _ _ 1 _)).next (Chg.cell _ _ 2 _)
        have HP11 : Hid (PF W11 W.heap.size p FN vb9 vr9 rv9) := (HP9.out.below HB10.out).chg HCH11.out (fun k hk hk2 => (HAN.out k (.inl hk)).2 hk2) (fun k hk hk2 => (HAN.out k (.inr hk)).2 hk2)
        obtain ⟨s0, s1, s2, t0, t1, t2⟩ := three_cells HR10.out
        go_upto_region 18 with fail
        rw [← HW11.out]
        clear s0 s1 s2 t0 t1 t2
        obtain ⟨r0, r1, r2, _, _, _⟩ := three_cells HR11.out
        obtain ⟨n0, n1, n2, _, _, _⟩ := three_cells HN11.out
        obtain ⟨l0, l1, l2, m0, m1, m2⟩ := three_cells HQ11.out
        go_wp2_with fail
        go_roundw
        case rel =>
          refine ⟨i + 1, by omega, by omega, by simp, ⟨FN, _, vb9, vr9, rv9, ?_, HFN.out, ⟨fun k hk => (HAN.out k (.inl hk)).1, fun k hk => (HAN.out k (.inr hk)).1⟩, ?_⟩, ?_⟩
          · exact HP11.out.chg (((Chg.cell W11 q 0 _).next (Chg.cell _ q 1 _)).next (Chg.cell _ q 2 _)) (fun k hk hk2 => (HAN.out k (.inl hk)).1 hk2) (fun k hk hk2 => (HAN.out k (.inr hk)).1 hk2)
          · exact heap_set3 W11 q 0 1 2 _ _ _ _ _ HQ11.out
          · exact ((HBW11.out.setCell HWq.out _).setCell HWq.out _).setCell HWq.out _
        case measure => simp [intOf]; omega
      · subst e1 e2 e3 e4 e5
        have HE0 : Hid (i ≠ 0) := e0
        clear e0
        have hlg0 : (lg == 0) = false := by have := HLR.out.1; have := HE0.out; simp; omega
        have hlg02 : ¬ lg = 0 := by have := HLR.out.1; have := HE0.out; omega
        go_wp2_with fail
        refine Calls.mono HPU.out ?_
        rintro e w9 ⟨vb9, vr9, rv9, rfl, hp9, hm9⟩
        have HP9 : Hid (PF w9 W.heap.size p FN vb9 vr9 rv9) := hp9
        have HN9 : Hid _ := (hm9.chg.block _ (Array.getElem?_eq_some_iff.1 HN8.out).1 (fun hk => by have := HFL.out _ hk; omega)).trans HN8.out
        have HQ9 : Hid _ := (hm9.chg.block _ (Array.getElem?_eq_some_iff.1 HQ8.out).1 (fun hk => HAQ.out.1 _ hk rfl)).trans HQ8.out
        have HR9 : Hid _ := (hm9.chg.block _ (Array.getElem?_eq_some_iff.1 HC8.out).1 (fun hk => by have h1 := HFL.out _ hk; have h2 := HRS.out; omega)).trans HC8.out
        have HB9 : Hid (Below W.heap.size W w9) := HBW8.out.trans (hm9.below HPW8.out HBW8.out.size)
        have HAN : Hid (∀ k, (Foot p vb9 vr9 k ∨ Inn rv9 k) → k ≠ q ∧ k ≠ w8.heap.size) := fun k hk => by
          have hq8 : q < W8.heap.size := (Array.getElem?_eq_some_iff.1 HQ8.out).1
          have hr8 : w8.heap.size < W8.heap.size := (Array.getElem?_eq_some_iff.1 HC8.out).1
          have h5 := HRS.out
          rcases hk with hk | hk
          · rcases hm9.foot k hk with h1 | h1
            · exact ⟨HAQ.out.1 k h1, by have := HFL.out k h1; omega⟩
            · exact ⟨by omega, by omega⟩
          · rcases hm9.inn k hk with h1 | h1
            · exact ⟨HAQ.out.2 k h1, by have := HIL.out k h1; omega⟩
            · exact ⟨by omega, by omega⟩
        have HBS : Hid (bestR FN.bs = some (((i + 1 : Nat) : Int), A, Z)) := by
          have := HFN.out.sl.best (by omega)
          unfold lastO at this
          rw [if_neg (by omega)] at this
          exact this
        have HBF : Hid _ := best_on HP9.out HFN.out.off (HS.out.below HB9.out) HFN.out.byt
        rw [HBS.out, show rtZ (some (((i + 1 : Nat) : Int), A, Z)) = .agg #[.int .u64 ((i : Int) + 1), .int .i64 A, .int .i64 Z] from rfl, show (some (((i + 1 : Nat) : Int), A, Z)).isSome = true from rfl] at HBF
        clear hp9 hm9 HPU r0 r1 r2 n0 n1 n2 l0 l1 l2
        go_wp2_with fail
        refine Calls.mono HBF.out ?_
        rintro e w10 ⟨rfl, hb10⟩
        have HB10 : Hid (Below w9.heap.size w9 w10) := hb10
        have HN10 : Hid _ := (hb10.block _ (Array.getElem?_eq_some_iff.1 HN9.out).1).trans HN9.out
        have HQ10 : Hid _ := (hb10.block _ (Array.getElem?_eq_some_iff.1 HQ9.out).1).trans HQ9.out
        have HR10 : Hid _ := (hb10.block _ (Array.getElem?_eq_some_iff.1 HR9.out).1).trans HR9.out
        have HBW10 : Hid (Below W.heap.size W w10) := HB9.out.trans (hb10.mono HB9.out.size)
        clear hb10 HBF
        obtain ⟨W11, HW11⟩ : ∃ W11, Hid (W11 = ((w10.setCell ⟨w8.heap.size, 0, none⟩ (.int .u64 ((i : Int) + 1))).setCell ⟨w8.heap.size, 1, none⟩ (.int .i64 A)).setCell ⟨w8.heap.size, 2, none⟩ (.int .i64 Z)) := ⟨_, rfl⟩
        have HWR : Hid (W.heap.size ≤ w8.heap.size) := by have h1 := HB.out.size; have h2 := HRS.out; unfold Hid; omega
        have HR11 : Hid (W11.heap[w8.heap.size]? = some (.cells #[.int .u64 ((i : Int) + 1), .int .i64 A, .int .i64 Z] 24 (0, 0))) := by rw [Hid, HW11.out]; exact heap_set3 w10 w8.heap.size 0 1 2 _ _ _ _ _ HR10.out
        have HN11 : Hid (W11.heap[wr.heap.size]? = some (.cells #[.int .u64 ((i : Int) + 1), .int .i64 A, .int .i64 Z] 24 (0, 0))) := by
          have hne := HRS.out
          rw [Hid, HW11.out, Below.heap_setCell _ _ _ _ (by simp; omega), Below.heap_setCell _ _ _ _ (by simp; omega), Below.heap_setCell _ _ _ _ (by simp; omega)]
          exact HN10.out
        have HQ11 : Hid (W11.heap[q]? = some (.cells #[.int .u64 lg, .int .i64 la, .int .i64 lz] 24 (0, 0))) := by
          have hne := HRS.out
          have hne2 := HQR.out
          rw [Hid, HW11.out, Below.heap_setCell _ _ _ _ (by simp; omega), Below.heap_setCell _ _ _ _ (by simp; omega), Below.heap_setCell _ _ _ _ (by simp; omega)]
          exact HQ10.out
        have HBW11 : Hid (Below W.heap.size W W11) := by rw [Hid, HW11.out]; exact ((HBW10.out.setCell HWR.out _).setCell HWR.out _).setCell HWR.out _
        have HCH11 : Hid (Chg (fun k => k = w8.heap.size) w10 W11) := by rw [Hid, HW11.out]; exact ((Chg.cell w10 _ 0 _).next (Chg.cell _ _ 1 _)).next (Chg.cell _ _ 2 _)
        have HP11 : Hid (PF W11 W.heap.size p FN vb9 vr9 rv9) := (HP9.out.below HB10.out).chg HCH11.out (fun k hk hk2 => (HAN.out k (.inl hk)).2 hk2) (fun k hk hk2 => (HAN.out k (.inr hk)).2 hk2)
        obtain ⟨s0, s1, s2, t0, t1, t2⟩ := three_cells HR10.out
        go_upto_region 18 with fail
        rw [← HW11.out]
        clear s0 s1 s2 t0 t1 t2
        obtain ⟨r0, r1, r2, _, _, _⟩ := three_cells HR11.out
        obtain ⟨n0, n1, n2, _, _, _⟩ := three_cells HN11.out
        obtain ⟨l0, l1, l2, m0, m1, m2⟩ := three_cells HQ11.out
        go_wp2_with fail
        go_roundw
        case rel =>
          refine ⟨i + 1, by omega, by omega, by simp, ⟨FN, _, vb9, vr9, rv9, ?_, HFN.out, ⟨fun k hk => (HAN.out k (.inl hk)).1, fun k hk => (HAN.out k (.inr hk)).1⟩, ?_⟩, ?_⟩
          · exact HP11.out.chg (((Chg.cell W11 q 0 _).next (Chg.cell _ q 1 _)).next (Chg.cell _ q 2 _)) (fun k hk hk2 => (HAN.out k (.inl hk)).1 hk2) (fun k hk hk2 => (HAN.out k (.inr hk)).1 hk2)
          · exact heap_set3 W11 q 0 1 2 _ _ _ _ _ HQ11.out
          · exact ((HBW11.out.setCell HWq.out _).setCell HWq.out _).setCell HWq.out _
        case measure => simp [intOf]; omega
    · have hge : ¬ (i < N) ∨ (i < N ∧ ¬ i < 30) := by omega
      rcases hge with hge | ⟨hge1, hge2⟩
      · go_wp2_with fail
        refine (lives4_any wr (HS.out.below HB.out)).mono ?_
        rintro e w2 ⟨rfl, hb2⟩
        go_wp2_with fail
        go_ret
        exact ⟨rfl, HB.out.trans (hb2.mono HB.out.size)⟩
      · have hge3 : ¬ (i : Int) < 30 := by omega
        go_wp2_with fail
        refine (lives4_any wr (HS.out.below HB.out)).mono ?_
        rintro e w2 ⟨rfl, hb2⟩
        go_wp2_with fail
        go_ret
        exact ⟨rfl, HB.out.trans (hb2.mono HB.out.size)⟩
end Go.Proofs.YtkiccnedmejnaaaDoor
