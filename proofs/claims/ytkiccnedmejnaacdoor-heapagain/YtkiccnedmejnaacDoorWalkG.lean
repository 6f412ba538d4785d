/-
  Walks of PutBytes and GetBytes, the program's and the document's. Conditions: lengths within the machine's bounds.
-/
import Derived.Test.YtkiccnedmejnaacDoorWalkF
namespace Go.Proofs.YtkiccnedmejnaacDoor
open Go.RowKit
set_option linter.unusedVariables false
set_option maxRecDepth 100000

theorem room_int (v : Value) (l : List Int) (k : Int) (n : Nat) (w : World) (hk : k = (n : Int)) (hl : Bs w v l) (hb : l.length + n ≤ 281474976710656) :
    Calls Tryd.prog 25 #[v, .int .i64 k] w fun e w' => e = .returned (.slice (some ⟨w.heap.size, 0, none⟩) (l.length + n) (l.length + n)) ∧ Row w' w.heap.size (l ++ List.replicate n 0) ∧ Below w.heap.size w w' := by
  subst hk; exact room_any v l n w hl hb

theorem putBytes_no (v y : Value) (l lx : List Int) (w : World) (hy : Bs w y lx) (hb : lx.length ≤ 140737488351232) (h : 65536 < lx.length) :
    Calls Tryd.prog 20 #[v, y] w fun e w' => e = .returned (.tuple #[.slice none 0 0, .int .i64 3]) ∧ w' = w := by
  obtain ⟨ao, cap, rfl, hc, hn, hcell⟩ := hy
  clear hcell hn
  go_enter Tryd.func20, Tryd.ntmps20
  go_wp2
  go_ret2
  exact ⟨rfl, rfl⟩

theorem putBytes_yes (v y : Value) (l lx : List Int) (w : World) (hl : Bs w v l) (hy : Bs w y lx) (hb : l.length ≤ 140737488351232) (h : lx.length ≤ 65536) :
    Calls Tryd.prog 20 #[v, y] w fun e w' => e = .returned (.tuple #[.slice (some ⟨w.heap.size, 0, none⟩) (l.length + (4 + lx.length)) (l.length + (4 + lx.length)), .int .i64 0]) ∧
      Row w' w.heap.size (l ++ (dig2 true lx.length 4 ++ lx)) ∧ Below w.heap.size w w' := by
  have HL : Hid (Bs w v l) := hl
  have HY : Hid (Bs w y lx) := hy
  obtain ⟨ao, cap, rfl, hc, hn, hcell⟩ := hl
  obtain ⟨ao', cap', rfl, hc', hn', hcell'⟩ := hy
  clear hcell hn hcell' hn'
  go_enter Tryd.func20, Tryd.ntmps20
  go_wp2_with fail
  refine (room_int _ l _ (4 + lx.length) w (by omega) HL.out (by omega)).mono ?_
  rintro e w1 ⟨rfl, hr1, hb1⟩
  have hz1 := hb1.size
  go_wp2_with fail
  refine (layDigits_any _ l.length 4 _ true _ lx.length w1 hr1 (by simp) (by omega) (by omega) (by omega)).mono ?_
  rintro e w2 ⟨rfl, hr2, hg2⟩
  have HR2 : Hid (Row w2 w.heap.size (l ++ (dig2 true lx.length 4 ++ List.replicate lx.length 0))) := by
    have e : (l ++ List.replicate (4 + lx.length) 0).take l.length ++ (dig2 true lx.length 4 ++ (l ++ List.replicate (4 + lx.length) 0).drop (l.length + 4)) = l ++ (dig2 true lx.length 4 ++ List.replicate lx.length 0) := by
      rw [List.take_left, ← List.drop_drop, List.drop_left, List.drop_replicate, show 4 + lx.length - 4 = lx.length by omega]
    rw [e] at hr2; exact hr2
  have HB2 : Hid (Below w.heap.size w w2) := hb1.grown hg2 hz1 (fun k hk => by simp at hk; omega)
  have HD : Hid ((dig2 true lx.length 4).length = 4) := dig2_length _ _ _
  have HE : Hid ((l ++ (dig2 true lx.length 4 ++ List.replicate lx.length 0)).take (l.length + 4) ++ (lx ++ (l ++ (dig2 true lx.length 4 ++ List.replicate lx.length 0)).drop (l.length + 4 + lx.length)) = l ++ (dig2 true lx.length 4 ++ lx)) := by
    show _ = _
    have e1 : (l ++ (dig2 true lx.length 4 ++ List.replicate lx.length 0)).take (l.length + 4) = l ++ dig2 true lx.length 4 := by
      rw [← List.append_assoc, List.take_left' (by rw [List.length_append, HD.out])]
    have e2 : (l ++ (dig2 true lx.length 4 ++ List.replicate lx.length 0)).drop (l.length + 4 + lx.length) = [] := by
      apply List.drop_of_length_le; simp [HD.out]; omega
    rw [e1, e2, List.append_nil, List.append_assoc]
  clear hr2 hg2 hr1 hb1
  go_wp2_with (refine wpList_copy_bytes rfl (.tmp 30) (.tmp 31) 23 rfl Tryd.underlying23 Tryd.size5 w.heap.size (l.length + 4) _ _ _ rfl _ rfl _ lx (by intro h0; split <;> first | rfl | omega) HR2.out (HY.out.below HB2.out) (by omega) (by simp [HD.out]; omega) _ HE.out w.heap.size w HB2.out (Nat.le_refl _) ?_; intro w3 hr3 hb3)
  all_goals go_ret2
  · have h0 : lx = [] := by assumption
    rw [h0] at hr3
    exact ⟨rfl, by simpa using hr3, hb3⟩
  · exact ⟨rfl, hr3, hb3⟩

/-- What PutBytes tells. -/
def pbErr (lx : List Int) : Int := if 65536 < lx.length then 3 else 0
def pbList (l lx : List Int) : List Int := if 65536 < lx.length then [] else l ++ (dig2 true lx.length 4 ++ lx)
theorem pbList_length (l lx : List Int) : (pbList l lx).length ≤ l.length + 65540 := by
  unfold pbList; split
  · simp
  · rw [List.length_append, List.length_append, dig2_length]; omega

theorem putBytes_any (v y : Value) (l lx : List Int) (w : World) (hl : Bs w v l) (hy : Bs w y lx) (hb : l.length ≤ 140737488351232) (hx : lx.length ≤ 140737488351232) :
    Calls Tryd.prog 20 #[v, y] w fun e w' => ∃ x, e = .returned (.tuple #[x, .int .i64 (pbErr lx)]) ∧ Fr w' w.heap.size x (pbList l lx) ∧ Below w.heap.size w w' := by
  by_cases h : 65536 < lx.length
  · refine (putBytes_no v y l lx w hy hx h).mono fun e w' ⟨h1, h2⟩ => ⟨.slice none 0 0, by rw [h1, pbErr, if_pos h], ?_, ?_⟩
    · unfold pbList; rw [if_pos h]; exact .inl ⟨rfl, rfl⟩
    · subst h2; exact Below.refl _ _
  · refine (putBytes_yes v y l lx w hl hy hb (by omega)).mono fun e w' ⟨h1, h2, h3⟩ => ⟨.slice (some ⟨w.heap.size, 0, none⟩) (l.length + (4 + lx.length)) (l.length + (4 + lx.length)), by rw [h1, pbErr, if_neg h], ?_, h3⟩
    unfold pbList; rw [if_neg h]
    refine .inr ⟨_, Nat.le_refl _, ?_, h2⟩
    rw [List.length_append, List.length_append, dig2_length]

/-- A part of a slice that reads as bytes. -/
theorem Bs.part {w : World} {b off : Nat} {l : List Int} (a m : Nat) (h : ∀ i, i < l.length → w.cell? ⟨b, off + i, none⟩ = some (.int .u8 (l.getD i 0))) (hm : a + m ≤ l.length) {ao : Option Addr} {c : Nat} (hc : m ≤ c) (hao : 0 < m → ao = some ⟨b, off + a, none⟩) (hne : ∃ ad, ao = some ad) :
    Bs w (.slice ao m c) ((l.drop a).take m) := by
  have hlen : ((l.drop a).take m).length = m := by simp; omega
  obtain ⟨ad, rfl⟩ := hne
  refine ⟨some ad, c, by rw [hlen], by omega, (fun h => by cases h), fun ad' ha i hi => ?_⟩
  obtain rfl := Option.some.inj ha
  have := Option.some.inj (hao (by omega))
  subst this
  rw [addr_add, Nat.add_assoc, h (a + i) (by omega)]
  simp [List.getD, show i < m by omega]

/-- What GetBytes tells: the error, the run, the place behind it. -/
def gbErr (l : List Int) (p : Int) : Int :=
  if getErr l.length p 4 = 0 then (if 65536 < getNum l p 4 true then 3 else if (l.length : Int) - p - 4 < getNum l p 4 true then 4 else 0) else getErr l.length p 4
def gbList (l : List Int) (p : Int) : List Int := if gbErr l p = 0 then (l.drop (p.toNat + 4)).take (getNum l p 4 true).toNat else []
def gbNext (l : List Int) (p : Int) : Int := if gbErr l p = 0 then p + 4 + getNum l p 4 true else 0

theorem getNum_bounds {l : List Int} (h : Byt l) (p n : Int) (big : Bool) : 0 ≤ getNum l p n big ∧ getNum l p n big < 18446744073709551616 := by
  unfold getNum
  split
  · rename_i hE
    rcases getErr_cases l.length p n with ⟨hE', _⟩ | ⟨_, _, _, _, _, hE'⟩ | ⟨h1, h2, h3, h4, _⟩
    · omega
    · omega
    · exact val_bounds (byt_take h _ _) big (by simp; omega)
  · omega


end Go.Proofs.YtkiccnedmejnaacDoor
