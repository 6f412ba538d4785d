/-
  A heap in memory: two cells behind a pointer, a map of slices of bytes; its small functions. Conditions: keys are ints.
-/
import Derived.Test.YtpkbdpbggmiolaaDoorWalkF
import Derived.Test.YtpkbdpbggmiolaaDoorSealWalk
import Derived.Maps.OwnSet
import Derived.Deep.CutBlock
import Derived.Deep.DeepCutAuto
import Derived.WalkSpells
namespace Go.Proofs.YtpkbdpbggmiolaaDoor
open Go.RowKit Go.Maps
set_option linter.unusedVariables false
set_option maxRecDepth 100000

theorem Tryd.keyed : Keyed Tryd.prog 3 := int_keyed Tryd.underlying3
theorem Tryd.zeroBs (w : World) : (zeroValue 29).run Tryd.prog w = .ok (.slice none 0 0) w := by kernel_rfl
/-- How an element reads: as itself. -/
def Rv (v : Value) : Option (DataW Value × List MemPlace) := some (.held v, [])
def ky (i : Int) : Lit := .int .i64 i
theorem key_mk {i : Int} (h0 : -9223372036854775808 ≤ i) (h1 : i ≤ 9223372036854775807) : keyOf Tryd.prog 3 (.int .i64 i) = some (ky i) :=
  keyOf_int_mk Tryd.underlying3 (by simp [Lit.wf, IntKind.min, IntKind.max, IntKind.bits, IntKind.signed]; omega)
theorem ky_key (i : Int) : WideAt.IsKeyLit (ky i) := trivial
theorem ky_ne {i j : Int} (h : i ≠ j) : ky i ≠ ky j := fun e => by unfold ky at e; injection e with _ e; exact h e
/-- A map of things by numbers. -/
structure MP (w : World) (m c : Nat) (T : Int → Option (List Int)) (D : DataW Value) : Prop where
  map : w.ownsMap Tryd.prog 3 Rv m c D
  sz : Maps.size D = c
  yes : ∀ i b, T i = some b → ∃ v, Maps.has D (ky i) = true ∧ (∀ z, D.atKey (ky i) z = .held v) ∧ Bs w v b ∧ Byt b ∧ b.length ≤ 65536 ∧ ∀ g, v.ownBlock = some g → g ≠ m
  no : ∀ i, T i = none → Maps.has D (ky i) = false
/-- A heap: its numbers are below N, all below low have a thing. -/
structure HP (w : World) (B p m c low N : Nat) (T : Int → Option (List Int)) (D : DataW Value) : Prop where
  cells : w.heap[p]? = some (.cells #[.map (some m), .int .i64 (low : Int)] 59 (0, 0))
  mp : MP w m c T D
  bp : B ≤ p
  bm : B ≤ m
  ne : m ≠ p
  apart : ∀ i b v, T i = some b → D.atKey (ky i) .nil = .held v → ∀ g, v.ownBlock = some g → g ≠ p
  lowf : ∀ i : Nat, i < low → ∃ b, T i = some b
  bd : ∀ i b, T i = some b → 0 ≤ i ∧ i < N
  hN : N ≤ 4294967296
  hlow : low ≤ N

theorem Bs.grownH {w w' : World} {r : Option Nat} {v : Value} {l : List Int} (h : Bs w v l) (hg : w.grownBy w' r) (hne : ∀ g, v.ownBlock = some g → r ≠ some g) : Bs w' v l := by
  obtain ⟨ao, cap, rfl, hcap, hnil, hcell⟩ := h
  refine ⟨ao, cap, rfl, hcap, hnil, fun ad ha i hi => ?_⟩
  have h1 := hcell ad ha i hi
  subst ha
  have hb : (ad.add i).block = ad.block := by unfold Addr.add; split <;> rfl
  refine (World.cell?_of_block (hg.block _ (World.block_lt_of_cell? w _ h1) ?_)).trans h1
  rw [hb]
  exact fun e => hne _ rfl e.symm
theorem MP.kept {w w' : World} {m c : Nat} {T : Int → Option (List Int)} {D : DataW Value} (h : MP w m c T D) {r : Option Nat} (hg : w.grownBy w' r) (hm : r ≠ some m) (hr : ∀ i b v, T i = some b → D.atKey (ky i) .nil = .held v → ∀ g, v.ownBlock = some g → r ≠ some g) : MP w' m c T D :=
  ⟨h.map.kept hg (fun e => hm e.symm), h.sz, fun i b hb => by
    obtain ⟨v, h1, h2, h3, h4, h5, h6⟩ := h.yes i b hb
    exact ⟨v, h1, h2, h3.grownH hg (fun g hg' => hr i b v hb (h2 _) g hg'), h4, h5, h6⟩, h.no⟩
theorem grown_of_below {w w' : World} (h : Below w.heap.size w w') : w.grownBy w' none := ⟨h.os, h.tape, h.output, h.size, fun k hk _ => h.block k hk⟩
theorem MP.below {w w' : World} {m c : Nat} {T : Int → Option (List Int)} {D : DataW Value} (h : MP w m c T D) (hb : Below w.heap.size w w') : MP w' m c T D :=
  h.kept (grown_of_below hb) (fun e => by cases e) (fun _ _ _ _ _ _ _ e => by cases e)
theorem HP.below {w w' : World} {B p m c low N : Nat} {T : Int → Option (List Int)} {D : DataW Value} (h : HP w B p m c low N T D) (hb : Below w.heap.size w w') : HP w' B p m c low N T D :=
  ⟨(hb.block p (Array.getElem?_eq_some_iff.1 h.cells).1).trans h.cells, h.mp.below hb, h.bp, h.bm, h.ne, h.apart, h.lowf, h.bd, h.hN, h.hlow⟩
theorem HP.c0 {w : World} {B p m c low N : Nat} {T : Int → Option (List Int)} {D : DataW Value} (h : HP w B p m c low N T D) : w.cell? ⟨p, 0, none⟩ = some (.map (some m)) ∧ w.cell? ⟨p, 1, none⟩ = some (.int .i64 (low : Int)) ∧ w.frozen? ⟨p, 1, none⟩ = false := by
  simp [World.cell?, World.frozen?, h.cells]

/-- No heap: nil, or one that nobody made. -/
def NoHeap (w : World) (v : Value) : Prop := v = .pointer none ∨ ∃ p, v = .pointer (some ⟨p, 0, none⟩) ∧ w.cell? ⟨p, 0, none⟩ = some (.map none)
theorem Tryd.eqlSomeM (bm : Nat) (w : World) : (binOp .eql 57 (.map (some bm)) (.map none)).run Tryd.prog w = .ok (.bool false) w := by kernel_rfl
theorem Tryd.eqlNilM (w : World) : (binOp .eql 57 (.map none) (.map none)).run Tryd.prog w = .ok (.bool true) w := by kernel_rfl
theorem hNone_no (v : Value) (w : World) (h : NoHeap w v) : Calls Tryd.prog 20 #[v] w fun e w' => e = .returned (.bool true) ∧ w' = w := by
  rcases h with rfl | ⟨p, rfl, hc⟩
  · go_enter Tryd.func20, Tryd.ntmps20
    go_wp2
    go_ret
    exact ⟨rfl, rfl⟩
  · have hq := Tryd.eqlNilM w
    go_enter Tryd.func20, Tryd.ntmps20
    go_wp2
    go_ret
    exact ⟨rfl, rfl⟩
theorem hNone_any (p m : Nat) (w : World) (hc : w.cell? ⟨p, 0, none⟩ = some (.map (some m))) : Calls Tryd.prog 20 #[.pointer (some ⟨p, 0, none⟩)] w fun e w' => e = .returned (.bool false) ∧ w' = w := by
  have hq := Tryd.eqlSomeM m w
  go_enter Tryd.func20, Tryd.ntmps20
  go_wp2
  go_ret
  exact ⟨rfl, rfl⟩
theorem hown_any (v : Value) (l : List Int) (w : World) (hl : Bs w v l) (hb : l.length ≤ 140737488355328) :
    Calls Tryd.prog 22 #[v] w fun e w' => ∃ ao cap, e = .returned (.slice ao l.length cap) ∧ Own w' w.heap.size (.slice ao l.length cap) l ∧ Below w.heap.size w w' := by
  obtain ⟨i0, hi, hz0, hz1, hz2⟩ := info_parts Tryd.info5
  have HL : Hid (Bs w v l) := hl
  obtain ⟨ao, cap, rfl, hc, hn, hcell⟩ := hl
  clear hcell hn
  go_enter Tryd.func22, Tryd.ntmps22
  go_wp2_with (first | (at_make; refine wpList_make_own _ rfl _ _ 29 rfl w.heap.size 5 i0 (.int .u8 0) 1 Tryd.underlying29 hi hz0 hz1 _ _ _ l.length rfl rfl rfl (by rw [hz2]; omega) (by unfold maxLen; omega) (Nat.le_refl _) ?_; intro w1 ho1 hg1; have HO1 : Hid (Own w1 w.heap.size (.slice (some ⟨w.heap.size, 0, none⟩) 0 l.length) []) := ho1; have HB1 : Hid (Below w.heap.size w w1) := below_of_grown hg1; clear ho1 hg1) | (at_builtin; refine wpList_append_bytes _ rfl (.tmp 5) (.tmp 6) 29 rfl i0 Tryd.underlying29 hi hz0 hz1 hz2 w.heap.size _ _ [] l rfl rfl HO1.out (HL.out.below HB1.out) (by simp; omega) w HB1.out HB1.out.size ?_; intro ao2 cap2 w2 ho2 hb2 _ hc2; simp only [List.length_nil, Nat.zero_add, List.nil_append] at ho2 hc2))
  go_ret
  exact ⟨ao2, cap2, by simp, ho2, hb2⟩
/-- Whether a thing has a number. -/
theorem has_any {w : World} {B p m c low N : Nat} {T : Int → Option (List Int)} {D : DataW Value} (h : HP w B p m c low N T D) (i : Int) (h0 : -9223372036854775808 ≤ i) (h1 : i ≤ 9223372036854775807) :
    Calls Tryd.prog 24 #[.pointer (some ⟨p, 0, none⟩), .int .i64 i] w fun e w' => e = .returned (.bool (T i).isSome) ∧ w' = w := by
  have hT : Maps.has D (ky i) = (T i).isSome := by
    cases hi : T i with
    | none => exact h.mp.no i hi
    | some b => obtain ⟨v, hv, _⟩ := h.mp.yes i b hi; exact hv
  have HT : Hid (Maps.has D (ky i) = (T i).isSome) := hT
  have HM : Hid (w.ownsMap Tryd.prog 3 Rv m c D) := h.mp.map
  obtain ⟨c0, _, _⟩ := h.c0
  clear h hT
  go_enter Tryd.func24, Tryd.ntmps24
  go_wp2_with (at_lookup; refine wpList_lookup_own_ok _ rfl _ _ 57 rfl 3 29 Tryd.keyed Tryd.underlying57 Rv (Tryd.zeroBs _) _ [] rfl m c D rfl HM.out _ _ rfl (key_mk h0 h1) ?_; intro v1 ps1 hv1; rw [HT.out])
  go_ret
  exact ⟨rfl, rfl⟩
theorem hlen_any {w : World} {B p m c low N : Nat} {T : Int → Option (List Int)} {D : DataW Value} (h : HP w B p m c low N T D) :
    Calls Tryd.prog 19 #[.pointer (some ⟨p, 0, none⟩)] w fun e w' => e = .returned (.int .i64 (c : Int)) ∧ w' = w := by
  obtain ⟨c0, _, _⟩ := h.c0
  have HM : Hid (w.ownsMap Tryd.prog 3 Rv m c D) := h.mp.map
  have HZ : Hid (Maps.size D = c) := h.mp.sz
  clear h
  go_enter Tryd.func19, Tryd.ntmps19
  go_wp2_with (first | (go_at_call 20; refine (hNone_any p m w c0).mono ?_; rintro e w1 ⟨rfl, hw1⟩; obtain rfl := hw1.symm) | (at_len; refine wpList_len_own _ rfl _ 57 rfl 3 29 Tryd.underlying57 Rv m c D rfl HM.out ?_; rw [HZ.out]))
  go_ret
  exact ⟨rfl, rfl⟩
end Go.Proofs.YtpkbdpbggmiolaaDoor
