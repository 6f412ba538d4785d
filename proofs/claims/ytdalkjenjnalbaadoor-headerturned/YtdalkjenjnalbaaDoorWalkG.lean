/-
  Walks of PutBytes and GetBytes, the program's and the document's. Conditions: lengths within the machine's bounds.
-/
import Derived.Test.YtdalkjenjnalbaaDoorWalkF
namespace Go.Proofs.YtdalkjenjnalbaaDoor
open Go.RowKit
set_option linter.unusedVariables false
set_option maxRecDepth 100000

theorem room_int (v : Value) (l : List Int) (k : Int) (n : Nat) (w : World) (hk : k = (n : Int)) (hl : Bs w v l) (hb : l.length + n ≤ 281474976710656) :
    Calls Tryd.prog 73 #[v, .int .i64 k] w fun e w' => e = .returned (.slice (some ⟨w.heap.size, 0, none⟩) (l.length + n) (l.length + n)) ∧ Row w' w.heap.size (l ++ List.replicate n 0) ∧ Below w.heap.size w w' := by
  subst hk; exact room_any v l n w hl hb

theorem putBytes_no (v y : Value) (l lx : List Int) (w : World) (hy : Bs w y lx) (hb : lx.length ≤ 140737488351232) (h : 65536 < lx.length) :
    Calls Tryd.prog 54 #[v, y] w fun e w' => e = .returned (.tuple #[.slice none 0 0, .int .i64 3]) ∧ w' = w := by
  obtain ⟨ao, cap, rfl, hc, hn, hcell⟩ := hy
  clear hcell hn
  go_enter Tryd.func54, Tryd.ntmps54
  go_wp2
  go_ret2
  exact ⟨rfl, rfl⟩

theorem putBytes_yes (v y : Value) (l lx : List Int) (w : World) (hl : Bs w v l) (hy : Bs w y lx) (hb : l.length ≤ 140737488351232) (h : lx.length ≤ 65536) :
    Calls Tryd.prog 54 #[v, y] w fun e w' => e = .returned (.tuple #[.slice (some ⟨w.heap.size, 0, none⟩) (l.length + (4 + lx.length)) (l.length + (4 + lx.length)), .int .i64 0]) ∧
      Row w' w.heap.size (l ++ (dig2 true lx.length 4 ++ lx)) ∧ Below w.heap.size w w' := by
  have HL : Hid (Bs w v l) := hl
  have HY : Hid (Bs w y lx) := hy
  obtain ⟨ao, cap, rfl, hc, hn, hcell⟩ := hl
  obtain ⟨ao', cap', rfl, hc', hn', hcell'⟩ := hy
  clear hcell hn hcell' hn'
  go_enter Tryd.func54, Tryd.ntmps54
  go_wp2_with fail
  refine (room_int _ l _ (4 + lx.length) w (by omega) HL.out (by omega)).mono ?_
  rintro e w1 ⟨rfl, hr1, hb1⟩
  have hz1 := hb1.size
  go_wp2_with fail
  refine (layDigits_any _ l.length 4 _ true _ lx.length w1 hr1 (by simp) (by omega) (by omega) (by omega)).mono ?_
  rintro e w2 ⟨rfl, hr2, hg2⟩
  have HR2 : Hid (Row w2 w.heap.size (l ++ (dig2 true lx.length 4 ++ List.replicate lx.length 0))) := by
    have e : (l ++ List.replicate (4 + lx.length) 0).take l.length ++ (dig2 true lx.length 4 ++ (l ++ List.replicate (4 + lx.length) 0).drop (l.length + 4)) = l ++ (dig2 true lx.length 4 ++ List.replicate lx.length 0) := by
      rw [List.take_left, ← List.drop_drop, List.drop_left, List.drop_replicate, show 4 + lx.length - 4 = lx.length by omega]
    rw [e] at hr2; exact hr2
  have HB2 : Hid (Below w.heap.size w w2) := hb1.grown hg2 hz1 (fun k hk => by simp at hk; omega)
  have HD : Hid ((dig2 true lx.length 4).length = 4) := dig2_length _ _ _
  have HE : Hid ((l ++ (dig2 true lx.length 4 ++ List.replicate lx.length 0)).take (l.length + 4) ++ (lx ++ (l ++ (dig2 true lx.length 4 ++ List.replicate lx.length 0)).drop (l.length + 4 + lx.length)) = l ++ (dig2 true lx.length 4 ++ lx)) := by
    show _ = _
    have e1 : (l ++ (dig2 true lx.length 4 ++ List.replicate lx.length 0)).take (l.length + 4) = l ++ dig2 true lx.length 4 := by
      rw [← List.append_assoc, List.take_left' (by rw [List.length_append, HD.out])]
    have e2 : (l ++ (dig2 true lx.length 4 ++ List.replicate lx.length 0)).drop (l.length + 4 + lx.length) = [] := by
      apply List.drop_of_length_le; simp [HD.out]; omega
    rw [e1, e2, List.append_nil, List.append_assoc]
  clear hr2 hg2 hr1 hb1
  go_wp2_with (refine wpList_copy_bytes rfl (.tmp 30) (.tmp 31) 31 rfl Tryd.underlying31 Tryd.size5 w.heap.size (l.length + 4) _ _ _ rfl _ rfl _ lx (by intro h0; split <;> first | rfl | omega) HR2.out (HY.out.below HB2.out) (by omega) (by simp [HD.out]; omega) _ HE.out w.heap.size w HB2.out (Nat.le_refl _) ?_; intro w3 hr3 hb3)
  all_goals go_ret2
  · have h0 : lx = [] := by assumption
    rw [h0] at hr3
    exact ⟨rfl, by simpa using hr3, hb3⟩
  · exact ⟨rfl, hr3, hb3⟩

theorem refDigits_four (u : Int) (w : World) (hu0 : 0 ≤ u) (hu1 : u < 18446744073709551616) :
    Calls Tryd.prog 28 #[.int .i64 4, .bool true, .int .u64 u] w fun e w' => ∃ v', e = .returned v' ∧ Own w' w.heap.size v' (dig2 true u 4) ∧ Below w.heap.size w w' :=
  refDigits_any 4 true u w (by omega) hu0 hu1

/-- What PutBytes tells. -/
def pbErr (lx : List Int) : Int := if 65536 < lx.length then 3 else 0
def pbList (l lx : List Int) : List Int := if 65536 < lx.length then [] else l ++ (dig2 true lx.length 4 ++ lx)
theorem pbList_length (l lx : List Int) : (pbList l lx).length ≤ l.length + 65540 := by
  unfold pbList; split
  · simp
  · rw [List.length_append, List.length_append, dig2_length]; omega

theorem putBytes_any (v y : Value) (l lx : List Int) (w : World) (hl : Bs w v l) (hy : Bs w y lx) (hb : l.length ≤ 140737488351232) (hx : lx.length ≤ 140737488351232) :
    Calls Tryd.prog 54 #[v, y] w fun e w' => ∃ x, e = .returned (.tuple #[x, .int .i64 (pbErr lx)]) ∧ Fr w' w.heap.size x (pbList l lx) ∧ Below w.heap.size w w' := by
  by_cases h : 65536 < lx.length
  · refine (putBytes_no v y l lx w hy hx h).mono fun e w' ⟨h1, h2⟩ => ⟨.slice none 0 0, by rw [h1, pbErr, if_pos h], ?_, ?_⟩
    · unfold pbList; rw [if_pos h]; exact .inl ⟨rfl, rfl⟩
    · subst h2; exact Below.refl _ _
  · refine (putBytes_yes v y l lx w hl hy hb (by omega)).mono fun e w' ⟨h1, h2, h3⟩ => ⟨.slice (some ⟨w.heap.size, 0, none⟩) (l.length + (4 + lx.length)) (l.length + (4 + lx.length)), by rw [h1, pbErr, if_neg h], ?_, h3⟩
    unfold pbList; rw [if_neg h]
    refine .inr ⟨_, Nat.le_refl _, ?_, h2⟩
    rw [List.length_append, List.length_append, dig2_length]

/-- Get of four bytes, the highest first: what GetBytes asks. -/
theorem get_four (v : Value) (l : List Int) (p : Int) (w : World) (hl : Bs w v l) (hb : l.length ≤ 140737488351232) (hby : Byt l) :
    Calls Tryd.prog 78 #[v, .int .i64 p, .int .i64 4, .bool true] w fun e w' => e = .returned (.tuple #[.int .u64 (getNum l p 4 true), .int .i64 (getErr l.length p 4)]) ∧ Below w.heap.size w w' :=
  get_any v l p 4 true w hl hb hby
theorem refGet_four (v : Value) (l : List Int) (p : Int) (w : World) (hl : Bs w v l) (hb : l.length ≤ 140737488351232) (hby : Byt l) :
    Calls Tryd.prog 42 #[v, .int .i64 p, .int .i64 4, .bool true] w fun e w' => e = .returned (.tuple #[.int .u64 (getNum l p 4 true), .int .i64 (getErr l.length p 4)]) ∧ w' = w :=
  refGet_any v l p 4 true w hl hb hby

/-- A part of a slice that reads as bytes. -/
theorem Bs.part {w : World} {b off : Nat} {l : List Int} (a m : Nat) (h : ∀ i, i < l.length → w.cell? ⟨b, off + i, none⟩ = some (.int .u8 (l.getD i 0))) (hm : a + m ≤ l.length) {ao : Option Addr} {c : Nat} (hc : m ≤ c) (hao : 0 < m → ao = some ⟨b, off + a, none⟩) (hne : ∃ ad, ao = some ad) :
    Bs w (.slice ao m c) ((l.drop a).take m) := by
  have hlen : ((l.drop a).take m).length = m := by simp; omega
  obtain ⟨ad, rfl⟩ := hne
  refine ⟨some ad, c, by rw [hlen], by omega, (fun h => by cases h), fun ad' ha i hi => ?_⟩
  obtain rfl := Option.some.inj ha
  have := Option.some.inj (hao (by omega))
  subst this
  rw [addr_add, Nat.add_assoc, h (a + i) (by omega)]
  simp [List.getD, show i < m by omega]

/-- What GetBytes tells: the error, the run, the place behind it. -/
def gbErr (l : List Int) (p : Int) : Int :=
  if getErr l.length p 4 = 0 then (if 65536 < getNum l p 4 true then 3 else if (l.length : Int) - p - 4 < getNum l p 4 true then 4 else 0) else getErr l.length p 4
def gbList (l : List Int) (p : Int) : List Int := if gbErr l p = 0 then (l.drop (p.toNat + 4)).take (getNum l p 4 true).toNat else []
def gbNext (l : List Int) (p : Int) : Int := if gbErr l p = 0 then p + 4 + getNum l p 4 true else 0

theorem getNum_bounds {l : List Int} (h : Byt l) (p n : Int) (big : Bool) : 0 ≤ getNum l p n big ∧ getNum l p n big < 18446744073709551616 := by
  unfold getNum
  split
  · rename_i hE
    rcases getErr_cases l.length p n with ⟨hE', _⟩ | ⟨_, _, _, _, _, hE'⟩ | ⟨h1, h2, h3, h4, _⟩
    · omega
    · omega
    · exact val_bounds (byt_take h _ _) big (by simp; omega)
  · omega


theorem getBytes_err (v : Value) (l : List Int) (p : Int) (w : World) (hl : Bs w v l) (hb : l.length ≤ 140737488351232) (hby : Byt l) (hE : (getErr l.length p 4 != 0) = true) :
    Calls Tryd.prog 62 #[v, .int .i64 p] w fun e w' => e = .returned (.tuple #[.slice none 0 0, .int .i64 0, .int .i64 (getErr l.length p 4)]) ∧ Below w.heap.size w w' := by
  go_enter Tryd.func62, Tryd.ntmps62
  go_wp2_with (go_at_call 78; refine (get_four v l p _ hl hb hby).mono ?_; rintro e w1 ⟨rfl, hb1⟩)
  go_ret3
  exact ⟨rfl, by assumption⟩

theorem getBytes_big (v : Value) (l : List Int) (p c : Int) (w : World) (hl : Bs w v l) (hb : l.length ≤ 140737488351232) (hby : Byt l) (hE : getErr l.length p 4 = 0) (hc : getNum l p 4 true = c) (hbig : 65536 < c) :
    Calls Tryd.prog 62 #[v, .int .i64 p] w fun e w' => e = .returned (.tuple #[.slice none 0 0, .int .i64 0, .int .i64 3]) ∧ Below w.heap.size w w' := by
  have hG := get_four v l p w hl hb hby
  rw [hE, hc] at hG
  have HG : Hid _ := hG
  clear hG hE hc
  go_enter Tryd.func62, Tryd.ntmps62
  go_wp2_with (go_at_call 78; refine Calls.mono HG.out ?_; rintro e w1 ⟨rfl, hb1⟩)
  go_ret3
  exact ⟨rfl, by assumption⟩

theorem getBytes_short (v : Value) (l : List Int) (q c : Nat) (w : World) (hl : Bs w v l) (hb : l.length ≤ 140737488351232) (hby : Byt l) (hE : getErr l.length q 4 = 0) (hc : getNum l q 4 true = c) (hbig : c ≤ 65536) (hq : q + 4 ≤ l.length) (hs : l.length - q - 4 < c) :
    Calls Tryd.prog 62 #[v, .int .i64 q] w fun e w' => e = .returned (.tuple #[.slice none 0 0, .int .i64 0, .int .i64 4]) ∧ Below w.heap.size w w' := by
  have hG := get_four v l q w hl hb hby
  rw [hE, hc] at hG
  have HG : Hid _ := hG
  obtain ⟨b, off, cap, rfl, hcp, hcell⟩ := hl.opened (by omega)
  clear hG hE hc hcell hl
  go_enter Tryd.func62, Tryd.ntmps62
  go_wp2_with (go_at_call 78; refine Calls.mono HG.out ?_; rintro e w1 ⟨rfl, hb1⟩)
  go_ret3
  exact ⟨rfl, by assumption⟩

theorem getBytes_yes (v : Value) (l : List Int) (q c : Nat) (w : World) (hl : Bs w v l) (hb : l.length ≤ 140737488351232) (hby : Byt l) (hE : getErr l.length q 4 = 0) (hc : getNum l q 4 true = c) (hbig : c ≤ 65536) (hq : q + 4 + c ≤ l.length) :
    Calls Tryd.prog 62 #[v, .int .i64 q] w fun e w' => ∃ g, w.heap.size ≤ g ∧ e = .returned (.tuple #[.slice (some ⟨g, 0, none⟩) c c, .int .i64 ((q : Int) + 4 + c), .int .i64 0]) ∧ Row w' g ((l.drop (q + 4)).take c) ∧ Below w.heap.size w w' := by
  have hG := get_four v l q w hl hb hby
  rw [hE, hc] at hG
  have HG : Hid _ := hG
  obtain ⟨b, off, cap, rfl, hcp, hcell⟩ := hl.opened (by omega)
  have HC : Hid (∀ i, i < l.length → w.cell? ⟨b, off + i, none⟩ = some (.int .u8 (l.getD i 0))) := hcell
  have HL : Hid (((l.drop (q + 4)).take c).length = c) := by show _ = _; simp; omega
  clear hG hE hc hcell hl
  go_enter Tryd.func62, Tryd.ntmps62
  go_wp2_with fail
  refine Calls.mono HG.out ?_
  rintro e w1 ⟨rfl, hb1⟩
  have hz1 := hb1.size
  have HC1 : Hid (∀ i, i < l.length → w1.cell? ⟨b, off + i, none⟩ = some (.int .u8 (l.getD i 0))) := fun i hi => cell_later hb1 (HC.out i hi)
  have HB1 : Hid (Below w.heap.size w w1) := hb1
  clear hb1
  go_wp2_with fail
  all_goals
    have hR := fun v (hp : Bs w1 v ((l.drop (q + 4)).take c)) => room_int v ((l.drop (q + 4)).take c) 0 0 w1 rfl hp (by rw [HL.out]; omega)
    simp only [HL.out, Nat.add_zero, List.replicate_zero, List.append_nil] at hR
    refine (hR _ (Bs.part (q + 4) c HC1.out (by omega) (by omega) (by intro h0; first | rfl | (exfalso; omega)) ⟨_, rfl⟩)).mono ?_
    rintro e w2 ⟨rfl, hr2, hb2⟩
    clear hR
    go_wp2
    go_ret3
    exact ⟨_, hz1, rfl, hr2, HB1.out.trans (hb2.mono hz1)⟩

/-- GetBytes, all its ways. -/
theorem getBytes_any (v : Value) (l : List Int) (p : Int) (w : World) (hl : Bs w v l) (hb : l.length ≤ 140737488351232) (hby : Byt l) :
    Calls Tryd.prog 62 #[v, .int .i64 p] w fun e w' => ∃ x, e = .returned (.tuple #[x, .int .i64 (gbNext l p), .int .i64 (gbErr l p)]) ∧ Fr w' w.heap.size x (gbList l p) ∧ Below w.heap.size w w' := by
  have hnb := getNum_bounds hby p 4 true
  by_cases hE : getErr l.length p 4 = 0
  · by_cases h3 : 65536 < getNum l p 4 true
    · have hg : gbErr l p = 3 := by unfold gbErr; rw [if_pos hE, if_pos h3]
      refine (getBytes_big v l p _ w hl hb hby hE rfl h3).mono fun e w' ⟨h1, h2⟩ => ⟨.slice none 0 0, ?_, ?_, h2⟩
      · rw [h1, gbNext, if_neg (by omega), hg]
      · unfold gbList; rw [if_neg (by omega)]; exact .inl ⟨rfl, rfl⟩
    · rcases getErr_cases l.length p 4 with ⟨hE', _⟩ | ⟨_, _, _, _, _, hE'⟩ | ⟨_, _, h0, hq, _⟩
      · omega
      · omega
      · obtain ⟨c, hc⟩ := Int.eq_ofNat_of_zero_le hnb.1
        obtain ⟨q, rfl⟩ := Int.eq_ofNat_of_zero_le h0
        by_cases hs : (l.length : Int) - q - 4 < getNum l q 4 true
        · have hg : gbErr l q = 4 := by unfold gbErr; rw [if_pos hE, if_neg h3, if_pos hs]
          refine (getBytes_short v l q c w hl hb hby hE hc (by omega) (by omega) (by omega)).mono fun e w' ⟨h1, h2⟩ => ⟨.slice none 0 0, ?_, ?_, h2⟩
          · rw [h1, gbNext, if_neg (by omega), hg]
          · unfold gbList; rw [if_neg (by omega)]; exact .inl ⟨rfl, rfl⟩
        · have hg : gbErr l q = 0 := by unfold gbErr; rw [if_pos hE, if_neg h3, if_neg hs]
          refine (getBytes_yes v l q c w hl hb hby hE hc (by omega) (by omega)).mono fun e w' ⟨g, hgl, h1, h2, h4⟩ => ⟨.slice (some ⟨g, 0, none⟩) c c, ?_, ?_, h4⟩
          · rw [h1, gbNext, if_pos hg, hg, hc]
          · unfold gbList
            rw [if_pos hg, hc, Int.toNat_natCast, Int.toNat_natCast]
            refine .inr ⟨g, hgl, ?_, h2⟩
            rw [show ((l.drop (q + 4)).take c).length = c by simp; omega]
  · have hg : gbErr l p = getErr l.length p 4 := by unfold gbErr; rw [if_neg hE]
    refine (getBytes_err v l p w hl hb hby (by simp [hE])).mono fun e w' ⟨h1, h2⟩ => ⟨.slice none 0 0, ?_, ?_, h2⟩
    · rw [h1, gbNext, if_neg (by omega), hg]
    · unfold gbList; rw [if_neg (by omega)]; exact .inl ⟨rfl, rfl⟩

theorem refGetBytes_err (v : Value) (l : List Int) (p : Int) (w : World) (hl : Bs w v l) (hb : l.length ≤ 140737488351232) (hby : Byt l) (hE : (getErr l.length p 4 != 0) = true) :
    Calls Tryd.prog 63 #[v, .int .i64 p] w fun e w' => e = .returned (.tuple #[.slice none 0 0, .int .i64 0, .int .i64 (getErr l.length p 4)]) ∧ w' = w := by
  go_enter Tryd.func63, Tryd.ntmps63
  go_wp2_with (go_at_call 42; refine (refGet_four v l p _ hl hb hby).mono ?_; rintro e w1 ⟨rfl, rfl⟩)
  go_ret3
  exact ⟨rfl, rfl⟩

theorem refGetBytes_big (v : Value) (l : List Int) (p c : Int) (w : World) (hl : Bs w v l) (hb : l.length ≤ 140737488351232) (hby : Byt l) (hE : getErr l.length p 4 = 0) (hc : getNum l p 4 true = c) (hbig : 65536 < c) :
    Calls Tryd.prog 63 #[v, .int .i64 p] w fun e w' => e = .returned (.tuple #[.slice none 0 0, .int .i64 0, .int .i64 3]) ∧ w' = w := by
  have hG := refGet_four v l p w hl hb hby
  rw [hE, hc] at hG
  have HG : Hid _ := hG
  clear hG hE hc
  go_enter Tryd.func63, Tryd.ntmps63
  go_wp2_with (go_at_call 42; refine Calls.mono HG.out ?_; rintro e w1 ⟨rfl, rfl⟩)
  go_ret3
  exact ⟨rfl, rfl⟩

theorem refGetBytes_short (v : Value) (l : List Int) (q c : Nat) (w : World) (hl : Bs w v l) (hb : l.length ≤ 140737488351232) (hby : Byt l) (hE : getErr l.length q 4 = 0) (hc : getNum l q 4 true = c) (hbig : c ≤ 65536) (hq : q + 4 ≤ l.length) (hs : l.length - q - 4 < c) :
    Calls Tryd.prog 63 #[v, .int .i64 q] w fun e w' => e = .returned (.tuple #[.slice none 0 0, .int .i64 0, .int .i64 4]) ∧ w' = w := by
  have hG := refGet_four v l q w hl hb hby
  rw [hE, hc] at hG
  have HG : Hid _ := hG
  obtain ⟨b, off, cap, rfl, hcp, hcell⟩ := hl.opened (by omega)
  clear hG hE hc hcell hl
  go_enter Tryd.func63, Tryd.ntmps63
  go_wp2_with (go_at_call 42; refine Calls.mono HG.out ?_; rintro e w1 ⟨rfl, rfl⟩)
  go_ret3
  exact ⟨rfl, rfl⟩

theorem refGetBytes_yes (v : Value) (l : List Int) (q c : Nat) (w : World) (hl : Bs w v l) (hb : l.length ≤ 140737488351232) (hby : Byt l) (hE : getErr l.length q 4 = 0) (hc : getNum l q 4 true = c) (hbig : c ≤ 65536) (hq : q + 4 + c ≤ l.length) :
    Calls Tryd.prog 63 #[v, .int .i64 q] w fun e w' => ∃ x, e = .returned (.tuple #[x, .int .i64 ((q : Int) + 4 + c), .int .i64 0]) ∧ Own w' w.heap.size x ((l.drop (q + 4)).take c) ∧ Below w.heap.size w w' := by
  obtain ⟨i0, hi, hz0, hz1, hz2⟩ := info_parts Tryd.info5
  have hG := refGet_four v l q w hl hb hby
  rw [hE, hc] at hG
  have HG : Hid _ := hG
  obtain ⟨b, off, cap, rfl, hcp, hcell⟩ := hl.opened (by omega)
  have HC : Hid (∀ i, i < l.length → w.cell? ⟨b, off + i, none⟩ = some (.int .u8 (l.getD i 0))) := hcell
  have HL : Hid (((l.drop (q + 4)).take c).length = c) := by show _ = _; simp; omega
  clear hG hE hc hcell hl
  go_enter Tryd.func63, Tryd.ntmps63
  go_wp2_with fail
  refine Calls.mono HG.out ?_
  rintro e w1 ⟨rfl, rfl⟩
  have HP : Hid (∀ ao n k, n = c → c ≤ k → (0 < c → ao = some ⟨b, off + (q + 4), none⟩) → (∃ ad, ao = some ad) → Bs (w1.alloc (.cells #[] 5)) (.slice ao n k) ((l.drop (q + 4)).take c)) := fun ao n k h0 h1 h2 h3 => by
    subst h0
    exact (Bs.part (l := l) (q + 4) n HC.out (by omega) h1 h2 h3).below ((Below.refl _ _).alloc (Nat.le_refl _) _)
  have HZ : Hid (List.length ([] : List Int) + ((l.drop (q + 4)).take c).length ≤ 140737488355328) := by
    show _ ≤ _
    rw [HL.out, List.length_nil]; omega
  have hmin : min c (l.length - (q + 4)) = c := by omega
  by_cases hcap : cap = q + 4
  all_goals
    go_wp2_with (at_builtin; refine wpList_append_bytes _ rfl (.tmp 28) (.tmp 37) 31 rfl i0 Tryd.underlying31 hi hz0 hz1 hz2 w1.heap.size _ _ [] ((l.drop (q + 4)).take c) rfl rfl (Own.empty _ _ (Nat.le_refl _)) (HP.out _ _ _ (by omega) (by omega) (by intro h0; first | rfl | (exfalso; omega)) ⟨_, rfl⟩) HZ.out w1 ((Below.refl _ _).alloc (Nat.le_refl _) _) (by simp) ?_; intro ao1 cap1 w2 ho1 hb1 _ _; rw [HL.out] at ho1; simp only [List.length_nil, Nat.zero_add, List.nil_append] at ho1)
    go_ret3
    exact ⟨_, rfl, ho1, hb1⟩

/-- The document's GetBytes, all its ways. -/
theorem refGetBytes_any (v : Value) (l : List Int) (p : Int) (w : World) (hl : Bs w v l) (hb : l.length ≤ 140737488351232) (hby : Byt l) :
    Calls Tryd.prog 63 #[v, .int .i64 p] w fun e w' => ∃ x, e = .returned (.tuple #[x, .int .i64 (gbNext l p), .int .i64 (gbErr l p)]) ∧ Own w' w.heap.size x (gbList l p) ∧ Below w.heap.size w w' := by
  have hnb := getNum_bounds hby p 4 true
  by_cases hE : getErr l.length p 4 = 0
  · by_cases h3 : 65536 < getNum l p 4 true
    · have hg : gbErr l p = 3 := by unfold gbErr; rw [if_pos hE, if_pos h3]
      refine (refGetBytes_big v l p _ w hl hb hby hE rfl h3).mono fun e w' ⟨h1, h2⟩ => ⟨.slice none 0 0, ?_, ?_, ?_⟩
      · rw [h1, gbNext, if_neg (by omega), hg]
      · unfold gbList; rw [if_neg (by omega)]; exact Own.nil _ _
      · subst h2; exact Below.refl _ _
    · rcases getErr_cases l.length p 4 with ⟨hE', _⟩ | ⟨_, _, _, _, _, hE'⟩ | ⟨_, _, h0, hq, _⟩
      · omega
      · omega
      · obtain ⟨c, hc⟩ := Int.eq_ofNat_of_zero_le hnb.1
        obtain ⟨q, rfl⟩ := Int.eq_ofNat_of_zero_le h0
        by_cases hs : (l.length : Int) - q - 4 < getNum l q 4 true
        · have hg : gbErr l q = 4 := by unfold gbErr; rw [if_pos hE, if_neg h3, if_pos hs]
          refine (refGetBytes_short v l q c w hl hb hby hE hc (by omega) (by omega) (by omega)).mono fun e w' ⟨h1, h2⟩ => ⟨.slice none 0 0, ?_, ?_, ?_⟩
          · rw [h1, gbNext, if_neg (by omega), hg]
          · unfold gbList; rw [if_neg (by omega)]; exact Own.nil _ _
          · subst h2; exact Below.refl _ _
        · have hg : gbErr l q = 0 := by unfold gbErr; rw [if_pos hE, if_neg h3, if_neg hs]
          refine (refGetBytes_yes v l q c w hl hb hby hE hc (by omega) (by omega)).mono fun e w' ⟨x, h1, h2, h4⟩ => ⟨x, ?_, ?_, h4⟩
          · rw [h1, gbNext, if_pos hg, hg, hc]
          · unfold gbList
            rw [if_pos hg, hc, Int.toNat_natCast, Int.toNat_natCast]
            exact h2
  · have hg : gbErr l p = getErr l.length p 4 := by unfold gbErr; rw [if_neg hE]
    refine (refGetBytes_err v l p w hl hb hby (by simp [hE])).mono fun e w' ⟨h1, h2⟩ => ⟨.slice none 0 0, ?_, ?_, ?_⟩
    · rw [h1, gbNext, if_neg (by omega), hg]
    · unfold gbList; rw [if_neg (by omega)]; exact Own.nil _ _
    · subst h2; exact Below.refl _ _
end Go.Proofs.YtdalkjenjnalbaaDoor
