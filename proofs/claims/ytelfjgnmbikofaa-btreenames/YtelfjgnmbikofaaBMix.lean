/-
  Two trees of names beside each other; slices of names; law.texts. No conditions.
-/
import Derived.Test.YtelfjgnmbikofaaBKeys
namespace Go.Proofs.Ytelfjgnmbikofaa
open Go.RowKit
set_option linter.unusedVariables false
set_option maxRecDepth 100000

/-- A slice that reads as names. -/
def Ss (w : World) (v : Value) (L : List ByteArray) : Prop := ∃ ao cap, v = .slice ao L.length cap ∧ ∀ i s, L[i]? = some s → ∃ g o, ao = some ⟨g, o, none⟩ ∧ w.cell? ⟨g, o + i, none⟩ = some (.string s)
theorem Ss.below {w w' : World} {v : Value} {L : List ByteArray} (h : Ss w v L) (hb : Below w.heap.size w w') : Ss w' v L := by
  obtain ⟨ao, cap, e, hc⟩ := h
  refine ⟨ao, cap, e, fun i s hs => ?_⟩
  obtain ⟨g, o, h1, h2⟩ := hc i s hs
  exact ⟨g, o, h1, (hb.cell (World.block_lt_of_cell? w _ h2)).trans h2⟩
theorem Ss.belowB {w w' : World} {v : Value} {L : List ByteArray} {B : Nat} (h : Ss w v L) (hB : w.heap.size ≤ B) (hb : Below B w w') : Ss w' v L := h.below (hb.mono hB)
theorem Ss.of_row {w : World} {B : Nat} {v : Value} {L : List ByteArray} (h : w.ownsRow B 9 1 v L.length (gc encS L)) : Ss w v L := by
  rcases ownsRow_shape h with ⟨rfl, h0⟩ | ⟨g, cap, rfl, _, _, hle, _, _, hc⟩
  · exact ⟨none, 0, by rw [h0], fun i x hx => by have := (List.getElem?_eq_some_iff.1 hx).1; omega⟩
  · refine ⟨_, cap, rfl, fun i x hx => ⟨g, 0, rfl, ?_⟩⟩
    have := hc _ _ (gc_at encS_len L i x hx 0 _ rfl)
    simpa using this
theorem GrowP.perm {most B p q c : Nat} {F : List It} {R R' : List Pc} {w : World} (h : GrowP most B p q c F R w) (hp : List.Perm R R') : GrowP most B p q c F R' w := by
  obtain ⟨h, t, lo, h1, h2⟩ := h
  exact ⟨h, t, lo, h1.perm (List.Perm.append_left _ ((hp.cons _).cons _)), h2⟩
/-- Two trees. -/
def Two (w : World) (B most pa qa : Nat) (Fa : List It) (pb qb : Nat) (Fb : List It) (R : List Pc) : Prop :=
  ∃ (h : Nat) (t : Nd (Tr h)) (lo : Nat), BT w B pa qa most Fa (pcs (h + 1) (up1 t) ++ (treeO pb qb most :: keptO qb t.n Fb.length :: R)) ∧ Shp most (h + 1) lo most (up1 t) ∧ (0 < h → 1 ≤ lo) ∧ flat (h + 1) (up1 t) = Fb ∧ Rise Fb
theorem Two.swap {w : World} {B most pa qa pb qb : Nat} {Fa Fb : List It} {R : List Pc} (h : Two w B most pa qa Fa pb qb Fb R) : Two w B most pb qb Fb pa qa Fa R := by
  obtain ⟨hb, tb, lob, ⟨⟨ha, ta, loa, hS, hsa, hla, hfa⟩, hra⟩, hsb, hlb, hfb, hrb⟩ := h
  refine ⟨ha, ta, loa, ⟨⟨hb, tb, lob, hS.perm ?_, hsb, hlb, hfb⟩, hrb⟩, hsa, hla, hfa, hra⟩
  classical
  refine List.perm_iff_count.2 (fun a => ?_)
  simp only [List.count_append, List.count_cons]
  omega
theorem Two.below {w w' : World} {B most pa qa pb qb : Nat} {Fa Fb : List It} {R : List Pc} (h : Two w B most pa qa Fa pb qb Fb R) (hb : Below w.heap.size w w') : Two w' B most pa qa Fa pb qb Fb R := by
  obtain ⟨hb', tb, lob, h1, h2⟩ := h
  exact ⟨hb', tb, lob, h1.below hb, h2⟩
theorem two_put {w : World} {B most pa qa pb qb : Nat} {Fa Fb : List It} {R : List Pc} (h3 : 3 ≤ most) (h64 : most ≤ 64) (h : Two w B most pa qa Fa pb qb Fb R) (hB : B ≤ w.heap.size) (hn : Fa.length < 65536) (k : ByteArray) (hk : k.size ≤ 281474976710656) (x : Int) :
    Calls Try.prog 10 #[.pointer (some ⟨pa, 0, none⟩), .string k, .int .u64 x] w fun e w' => (∃ b F', PutF Fa k x b F' ∧ e = .returned (.tuple #[.bool b, .int .i64 0]) ∧ Two w' B most pa qa F' pb qb Fb R) ∧ Below B w w' := by
  obtain ⟨hb, tb, lob, h1, h2⟩ := h
  refine (put_any h3 h64 h1 hB hn k hk x).mono ?_
  rintro e w' ⟨⟨b, F', hp, rfl, hbt⟩, hbl⟩
  exact ⟨⟨b, F', hp, rfl, hb, tb, lob, hbt, h2⟩, hbl⟩
theorem two_drop {w : World} {B most pa qa pb qb : Nat} {Fa Fb : List It} {R : List Pc} (h3 : 3 ≤ most) (h64 : most ≤ 64) (h : Two w B most pa qa Fa pb qb Fb R) (hB : B ≤ w.heap.size) (hn : Fa.length ≤ 1000000) (k : ByteArray) :
    Calls Try.prog 14 #[.pointer (some ⟨pa, 0, none⟩), .string k] w fun e w' => (∃ b F', (Del Fa k F' ∨ ((∀ y ∈ Fa, cmpN y.1 k ≠ 0) ∧ F' = Fa)) ∧ e = .returned (.bool b) ∧ Two w' B most pa qa F' pb qb Fb R) ∧ Below B w w' := by
  obtain ⟨hb, tb, lob, h1, h2⟩ := h
  refine (drop_any h3 h64 h1 hB hn k).mono ?_
  rintro e w' ⟨⟨rfl, F', hd, hbt⟩ | ⟨hno, rfl, hbt⟩, hbl⟩
  · exact ⟨⟨true, F', .inl hd, rfl, hb, tb, lob, hbt, h2⟩, hbl⟩
  · exact ⟨⟨false, Fa, .inr ⟨hno, rfl⟩, rfl, hb, tb, lob, hbt, h2⟩, hbl⟩
theorem two_keys {w : World} {B most pa qa pb qb : Nat} {Fa Fb : List It} {R : List Pc} (h3 : 3 ≤ most) (h64 : most ≤ 64) (h : Two w B most pa qa Fa pb qb Fb R) (hB : B ≤ w.heap.size) (hn : Fa.length ≤ 100000) (hz : ∀ y ∈ Fa, y.1.size ≤ 281474976710656) :
    Calls Try.prog 17 #[.pointer (some ⟨pa, 0, none⟩)] w fun e w' => (∃ vO, e = .returned vO ∧ Two w' B most pa qa Fa pb qb Fb (rowS vO (Fa.map (·.1)) :: R)) ∧ Below B w w' := by
  obtain ⟨hb, tb, lob, h1, h2⟩ := h
  refine (keys_any h3 h64 h1 hB hn hz).mono ?_
  rintro e w' ⟨vO, rfl, hbt, hbl⟩
  refine ⟨⟨vO, rfl, hb, tb, lob, ⟨hbt.1.perm ?_, hbt.2⟩, h2⟩, hbl⟩
  have h8 := (List.perm_middle (a := rowS vO (Fa.map (·.1))) (l₁ := pcs (hb + 1) (up1 tb) ++ [treeO pb qb most, keptO qb tb.n Fb.length]) (l₂ := R)).symm
  simpa using h8
theorem two_len {w : World} {B most pa qa pb qb : Nat} {Fa Fb : List It} {R : List Pc} (h : Two w B most pa qa Fa pb qb Fb R) : Calls Try.prog 16 #[.pointer (some ⟨pa, 0, none⟩)] w fun e w' => e = .returned (.int .i64 (Fa.length : Int)) ∧ w' = w := by
  obtain ⟨hb, tb, lob, h1, h2⟩ := h
  exact len_any h1
theorem Two.row {w : World} {B most pa qa pb qb : Nat} {Fa Fb : List It} {R : List Pc} (h : Two w B most pa qa Fa pb qb Fb R) {v : Value} {L : List ByteArray} (hm : rowS v L ∈ R) : Ss w v L := by
  obtain ⟨hb, tb, lob, ⟨⟨ha, ta, loa, hS, _⟩, _⟩, _⟩ := h
  exact Ss.of_row (hS.at_ (rowS v L) (by simp [hm]))
/-- The keys of items. -/
def Has (F : List It) (k : ByteArray) : Prop := ∃ v, (k, v) ∈ F
theorem PutF.has {F F' : List It} {k : ByteArray} {x : Int} {b : Bool} (h : PutF F k x b F') (k' : ByteArray) : Has F' k' ↔ k' = k ∨ Has F k' := by
  have key : ∀ (A C : List It) (z : Int), Has (A ++ (k, z) :: C) k' ↔ k' = k ∨ Has (A ++ C) k' := by
    intro A C z
    constructor
    · rintro ⟨v, hv⟩
      simp only [List.mem_append, List.mem_cons, Prod.mk.injEq] at hv
      rcases hv with h1 | ⟨h1, _⟩ | h1
      · exact .inr ⟨v, List.mem_append_left _ h1⟩
      · exact .inl h1
      · exact .inr ⟨v, List.mem_append_right _ h1⟩
    · rintro (rfl | ⟨v, hv⟩)
      · exact ⟨z, by simp⟩
      · refine ⟨v, ?_⟩
        rcases List.mem_append.1 hv with h1 | h1
        · exact List.mem_append_left _ h1
        · exact List.mem_append_right _ (List.mem_cons_of_mem _ h1)
  rcases h with ⟨_, A, v, C, rfl, rfl⟩ | ⟨_, _, A, C, rfl, _, _, rfl⟩
  · rw [key, key]
    constructor
    · rintro (h | h)
      · exact .inl h
      · exact .inr (.inr h)
    · rintro (h | h | h)
      · exact .inl h
      · exact .inl h
      · exact .inr h
  · exact key A C x
theorem PutF.len {F F' : List It} {k : ByteArray} {x : Int} {b : Bool} (h : PutF F k x b F') : F'.length ≤ F.length + 1 := by
  rcases h with ⟨_, A, v, C, rfl, rfl⟩ | ⟨_, _, A, C, rfl, _, _, rfl⟩ <;> simp <;> omega
theorem Drop.has {F F' : List It} {k : ByteArray} (hr : Rise F) (h : Del F k F' ∨ ((∀ y ∈ F, cmpN y.1 k ≠ 0) ∧ F' = F)) (k' : ByteArray) : Has F' k' ↔ k' ≠ k ∧ Has F k' := by
  rcases h with ⟨A, v, C, rfl, rfl⟩ | ⟨hno, rfl⟩
  · have hm := hr.mid
    constructor
    · rintro ⟨z, hz⟩
      refine ⟨fun e => ?_, z, ?_⟩
      · subst e
        rcases List.mem_append.1 hz with h1 | h1
        · have := hm.1 _ h1; rw [cmpN_self] at this; omega
        · have := hm.2 _ h1; rw [cmpN_self] at this; omega
      · rcases List.mem_append.1 hz with h1 | h1
        · exact List.mem_append_left _ h1
        · exact List.mem_append_right _ (List.mem_cons_of_mem _ h1)
    · rintro ⟨hne, z, hz⟩
      refine ⟨z, ?_⟩
      simp only [List.mem_append, List.mem_cons, Prod.mk.injEq] at hz
      rcases hz with h1 | ⟨h1, _⟩ | h1
      · exact List.mem_append_left _ h1
      · exact absurd h1 hne
      · exact List.mem_append_right _ h1
  · constructor
    · rintro ⟨z, hz⟩
      exact ⟨fun e => by subst e; exact hno _ hz (cmpN_self _), z, hz⟩
    · rintro ⟨_, h⟩; exact h
theorem Drop.len {F F' : List It} {k : ByteArray} (h : Del F k F' ∨ ((∀ y ∈ F, cmpN y.1 k ≠ 0) ∧ F' = F)) : F'.length ≤ F.length := by
  rcases h with ⟨A, v, C, rfl, rfl⟩ | ⟨hno, rfl⟩ <;> simp
/-- Rising lists with the same keys have the same keys in order. -/
theorem keys_eq : ∀ {F G : List It}, Rise F → Rise G → (∀ k, Has F k ↔ Has G k) → F.map (·.1) = G.map (·.1)
  | [], [], _, _, _ => rfl
  | [], y :: G, _, _, h => by obtain ⟨v, hv⟩ := (h y.1).2 ⟨y.2, by simp⟩; cases hv
  | x :: F, [], _, _, h => by obtain ⟨v, hv⟩ := (h x.1).1 ⟨x.2, by simp⟩; cases hv
  | x :: F, y :: G, hF, hG, h => by
    have h1 := List.pairwise_cons.1 hF
    have h2 := List.pairwise_cons.1 hG
    have hxy : x.1 = y.1 := by
      obtain ⟨v, hv⟩ := (h x.1).1 ⟨x.2, by simp⟩
      obtain ⟨u, hu⟩ := (h y.1).2 ⟨y.2, by simp⟩
      rcases List.mem_cons.1 hv with e | hv'
      · have := congrArg Prod.fst e; exact this
      · rcases List.mem_cons.1 hu with e | hu'
        · have := congrArg Prod.fst e; exact this.symm
        · exfalso
          have a1 : cmpN y.1 x.1 < 0 := h2.1 (x.1, v) hv'
          have a2 : cmpN x.1 y.1 < 0 := h1.1 (y.1, u) hu'
          have := cmpN_trans a1 a2
          rw [cmpN_self] at this
          omega
    rw [List.map_cons, List.map_cons, hxy, keys_eq h1.2 h2.2 (fun k => ?_)]
    constructor
    · rintro ⟨v, hv⟩
      obtain ⟨u, hu⟩ := (h k).1 ⟨v, List.mem_cons_of_mem _ hv⟩
      rcases List.mem_cons.1 hu with e | hu
      · exfalso
        have : k = y.1 := congrArg Prod.fst e
        have a : cmpN x.1 k < 0 := h1.1 (k, v) hv
        rw [this, hxy, cmpN_self] at a; omega
      · exact ⟨u, hu⟩
    · rintro ⟨v, hv⟩
      obtain ⟨u, hu⟩ := (h k).2 ⟨v, List.mem_cons_of_mem _ hv⟩
      rcases List.mem_cons.1 hu with e | hu
      · exfalso
        have : k = x.1 := congrArg Prod.fst e
        have a : cmpN y.1 k < 0 := h2.1 (k, v) hv
        rw [this, hxy, cmpN_self] at a; omega
      · exact ⟨u, hu⟩
set_option maxHeartbeats 4000000 in
theorem texts_any {w : World} {va vb : Value} {L : List ByteArray} (ha : Ss w va L) (hb : Ss w vb L) (hn : L.length ≤ 1000000) : Calls Try.prog 18 #[va, vb] w fun e w' => e = .returned (.bool true) ∧ Below w.heap.size w w' := by
  obtain ⟨aoa, capa, rfl, hca⟩ := ha
  obtain ⟨aob, capb, rfl, hcb⟩ := hb
  have HA : Hid (∀ i s, L[i]? = some s → ∃ g o, aoa = some ⟨g, o, none⟩ ∧ w.cell? ⟨g, o + i, none⟩ = some (.string s)) := hca
  have HB : Hid (∀ i s, L[i]? = some s → ∃ g o, aob = some ⟨g, o, none⟩ ∧ w.cell? ⟨g, o + i, none⟩ = some (.string s)) := hcb
  obtain ⟨l, HL⟩ : ∃ l, Hid (L.length = l) := ⟨_, rfl⟩
  rw [HL.out] at hn ⊢
  clear hca hcb
  go_enter Try.func18, Try.ntmps18
  go_wp2_with fail
  go_loopw [5] (fun x wr => ∃ i : Nat, i ≤ l ∧ x = .int .i64 (i : Int) ∧ Hid (Below w.heap.size w wr)) (fun x _ => l - (intOf x).toNat)
  case atStart => exact ⟨0, Nat.zero_le _, rfl, Below.refl _ _⟩
  case round =>
    obtain ⟨i, hil, rfl, HBr⟩ := hrel
    by_cases hlt : i < l
    · obtain ⟨s, hs⟩ : ∃ s, L[i]? = some s := ⟨L[i]'(by rw [HL.out]; exact hlt), List.getElem?_eq_getElem _⟩
      obtain ⟨ga, oa, rfl, ca⟩ := HA.out i s hs
      obtain ⟨gb, ob, rfl, cb⟩ := HB.out i s hs
      have ca' := (HBr.out.cell (World.block_lt_of_cell? w _ ca)).trans ca
      have cb' := (HBr.out.cell (World.block_lt_of_cell? w _ cb)).trans cb
      have hili : (i : Int) < (l : Int) := by omega
      have HDR : Hid (∀ nq, Below w.heap.size w (wr.drewN nq)) := fun nq => HBr.out.trans ⟨rfl, rfl, rfl, Nat.le_refl _, fun _ _ => rfl⟩
      clear hs ca cb
      go_wp2_with fail
      go_quiet (fail)
      go_wp2_with fail
      go_roundw
      case rel => exact ⟨i + 1, by omega, by simp, HDR.out _⟩
      case measure => simp [intOf]; omega
    · obtain rfl : i = l := by omega
      go_wp2_with fail
      go_ret
      exact ⟨rfl, HBr.out⟩
end Go.Proofs.Ytelfjgnmbikofaa
