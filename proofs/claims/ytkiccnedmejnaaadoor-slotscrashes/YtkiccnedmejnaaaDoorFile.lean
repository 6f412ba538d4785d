/-
  A file in memory: its cells behind a pointer, its bytes, its raw writes, and which blocks are its own; what stays through steps that leave these alone. No conditions.
-/
import Derived.Test.YtkiccnedmejnaaaDoorRows
import Derived.Test.YtkiccnedmejnaaaDoorWalkA
import Derived.Test.YtkiccnedmejnaaaDoorMem
import Derived.Test.YtkiccnedmejnaaaDoorLay
import Derived.WalkKit
import Derived.WalkSpells
namespace Go.Proofs.YtkiccnedmejnaaaDoor
open Go.RowKit
set_option linter.unusedVariables false
theorem Tryd.infoRaw : (Tryd.prog.info? 91).map (fun i => (i.zero, i.size, i.bytes)) = some (some (.agg #[.int .i64 0, .slice none 0 0]), 2, 32) := by kernel_rfl

/-- Blocks of S have turned, and new ones lie behind; nothing else. -/
structure Chg (S : Nat → Prop) (w w' : World) : Prop where
  os : w'.os = w.os
  tape : w'.tape = w.tape
  output : w'.output = w.output
  size : w.heap.size ≤ w'.heap.size
  block : ∀ k, k < w.heap.size → ¬ S k → w'.heap[k]? = w.heap[k]?

theorem Chg.refl (S : Nat → Prop) (w : World) : Chg S w w := ⟨rfl, rfl, rfl, Nat.le_refl _, fun _ _ _ => rfl⟩
theorem Chg.trans {S S' : Nat → Prop} {w w' w2 : World} (h : Chg S w w') (k : Chg S' w' w2) (hS : ∀ i, S' i → S i ∨ w.heap.size ≤ i) : Chg S w w2 :=
  ⟨k.os.trans h.os, k.tape.trans h.tape, k.output.trans h.output, Nat.le_trans h.size k.size, fun i hi hn =>
    (k.block i (Nat.lt_of_lt_of_le hi h.size) (fun hs => by rcases hS i hs with h1 | h1; exact hn h1; omega)).trans (h.block i hi hn)⟩
theorem Chg.of_below {S : Nat → Prop} {w w' : World} (h : Below w.heap.size w w') : Chg S w w' := ⟨h.os, h.tape, h.output, h.size, fun k hk _ => h.block k hk⟩
theorem Chg.of_grown {S : Nat → Prop} {w w' : World} {r : Option Nat} (h : w.grownBy w' r) (hr : ∀ k, r = some k → S k) : Chg S w w' :=
  ⟨h.os, h.tape, h.output, h.size, fun k hk hn => h.block k hk (fun e => hn (hr k e.symm))⟩
theorem Chg.below {S : Nat → Prop} {B : Nat} {w w' : World} (h : Chg S w w') (hS : ∀ k, S k → B ≤ k) (hB : B ≤ w.heap.size) : Below B w w' :=
  ⟨h.os, h.tape, h.output, h.size, fun k hk => h.block k (by omega) (fun hs => by have := hS k hs; omega)⟩
theorem Chg.drew {S : Nat → Prop} {w w' : World} (h : Chg S w w') : Chg S w w'.drew := ⟨h.os, h.tape, h.output, h.size, h.block⟩
theorem Chg.set {S : Nat → Prop} (w : World) {p i : Nat} (v : Value) (hp : S p) : Chg S w (w.setCell ⟨p, i, none⟩ v) :=
  ⟨rfl, rfl, rfl, by simp [World.setCell], fun k hk hn => Below.heap_setCell _ _ _ _ (fun e => hn (by rw [e]; exact hp))⟩
theorem Chg.mono {S S' : Nat → Prop} {w w' : World} (h : Chg S w w') (hS : ∀ k, S k → S' k) : Chg S' w w' := ⟨h.os, h.tape, h.output, h.size, fun k hk hn => h.block k hk (fun hs => hn (hS k hs))⟩

theorem Chg.cell (w : World) (p i : Nat) (v : Value) : Chg (fun k => k = p) w (w.setCell ⟨p, i, none⟩ v) := Chg.set (S := fun k => k = p) w v rfl
theorem Chg.next {S : Nat → Prop} {w w' w2 : World} (h : Chg S w w') (k : Chg S w' w2) : Chg S w w2 := h.trans k (fun _ => .inl)

theorem Bs.chg {S : Nat → Prop} {w w' : World} {v : Value} {l : List Int} (h : Bs w v l) (hc : Chg S w w') (hn : ∀ g, v.ownBlock = some g → ¬ S g) : Bs w' v l := by
  obtain ⟨ao, cap, rfl, hcap, hnil, hcell⟩ := h
  refine ⟨ao, cap, rfl, hcap, hnil, fun ad ha i hi => ?_⟩
  have h1 := hcell ad ha i hi
  subst ha
  have hb : (ad.add i).block = ad.block := by unfold Addr.add; split <;> rfl
  refine (World.cell?_of_block (hc.block _ (World.block_lt_of_cell? w _ h1) ?_)).trans h1
  rw [hb]
  exact hn _ rfl
theorem Bs.chg0 {S : Nat → Prop} {w w' : World} {v : Value} {l : List Int} (h : Bs w v l) (hc : Chg S w w') (hn : 0 < l.length → ∀ g, v.ownBlock = some g → ¬ S g) : Bs w' v l := by
  rcases Nat.eq_zero_or_pos l.length with h0 | h0
  · obtain ⟨ao, cap, rfl, hcap, hnil, hcell⟩ := h
    exact ⟨ao, cap, rfl, hcap, hnil, fun ad ha i hi => by omega⟩
  · exact h.chg hc (hn h0)
theorem owns_chg {S : Nat → Prop} {w w' : World} {B : Nat} {t : TypeId} {sz n : Nat} {v : Value} {cs : List Value} (h : w.ownsRow B t sz v n cs) (hc : Chg S w w') (hn : ∀ g, v.ownBlock = some g → ¬ S g) : w'.ownsRow B t sz v n cs := by
  obtain ⟨h1, h2 | ⟨g, cap, cur, rfl, hB, hg, r⟩⟩ := h
  · exact ⟨h1, .inl h2⟩
  · exact ⟨h1, .inr ⟨g, cap, cur, rfl, hB, (hc.block g (Array.getElem?_eq_some_iff.1 hg).1 (hn g rfl)).trans hg, r⟩⟩

/-- A raw write: its place, its bytes, the slice that has them. -/
abbrev RawV := Int × List Int × Value
def rcells (rv : List RawV) : List Value := rv.flatMap fun r => [.int .i64 r.1, r.2.2]
theorem rcells_length (rv : List RawV) : (rcells rv).length = rv.length * 2 := by
  induction rv with
  | nil => rfl
  | cons r rv ih => simp [rcells] at ih ⊢; omega
theorem rcells_append (a b : List RawV) : rcells (a ++ b) = rcells a ++ rcells b := by simp [rcells]
theorem rcells_at (rv : List RawV) : ∀ (i : Nat) (r : RawV), rv[i]? = some r → (rcells rv)[2 * i]? = some (.int .i64 r.1) ∧ (rcells rv)[2 * i + 1]? = some r.2.2 := by
  induction rv with
  | nil => intro i r h; simp at h
  | cons x rv ih =>
    intro i r h
    cases i with
    | zero => simp at h; subst h; simp [rcells]
    | succ i =>
      have := ih i r (by simpa using h)
      rw [show 2 * (i + 1) = 2 * i + 2 by omega, show 2 * i + 2 + 1 = 2 * i + 1 + 2 by omega]
      simpa [rcells] using this

/-- The blocks that a file may turn; those that it reads besides. -/
def Foot (p : Nat) (vb vr : Value) : Nat → Prop := fun k => k = p ∨ vb.ownBlock = some k ∨ vr.ownBlock = some k
def Inn (rv : List RawV) : Nat → Prop := fun k => ∃ r ∈ rv, r.2.2.ownBlock = some k

/-- The bytes and the raw writes of a file. -/
structure Hold (w : World) (B p : Nat) (te : TypeId) (vb vr : Value) (bs : List Int) (rv : List RawV) : Prop where
  bp : B ≤ p
  plt : p < w.heap.size
  own : Own w B vb bs
  raws : w.ownsRow B te 2 vr rv.length (rcells rv)
  d1 : vb.ownBlock ≠ some p
  d2 : vr.ownBlock ≠ some p
  d3 : ∀ g, vb.ownBlock = some g → vr.ownBlock ≠ some g
  inn : ∀ r ∈ rv, Bs w r.2.2 r.2.1
  dis : ∀ k, Inn rv k → ¬ Foot p vb vr k
  ilt : ∀ k, Inn rv k → k < w.heap.size

theorem Hold.foot {w : World} {B p : Nat} {te : TypeId} {vb vr : Value} {bs : List Int} {rv : List RawV} (h : Hold w B p te vb vr bs rv) : ∀ k, Foot p vb vr k → B ≤ k ∧ k < w.heap.size := by
  rintro k (rfl | h1 | h1)
  · exact ⟨h.bp, h.plt⟩
  · exact World.ownsRow.lt h.own k h1
  · exact World.ownsRow.lt h.raws k h1
theorem Hold.chg {S : Nat → Prop} {w w' : World} {B p : Nat} {te : TypeId} {vb vr : Value} {bs : List Int} {rv : List RawV} (h : Hold w B p te vb vr bs rv) (hc : Chg S w w')
    (h1 : ∀ k, Foot p vb vr k → ¬ S k) (h2 : ∀ k, Inn rv k → ¬ S k) : Hold w' B p te vb vr bs rv :=
  ⟨h.bp, Nat.lt_of_lt_of_le h.plt hc.size, owns_chg h.own hc (fun g hg => h1 g (.inr (.inl hg))), owns_chg h.raws hc (fun g hg => h1 g (.inr (.inr hg))), h.d1, h.d2, h.d3,
    fun r hr => (h.inn r hr).chg hc (fun g hg => h2 g ⟨r, hr, hg⟩), h.dis, fun k hk => Nat.lt_of_lt_of_le (h.ilt k hk) hc.size⟩
/-- The cells behind the pointer are written. -/
theorem Hold.self {w w' : World} {B p : Nat} {te : TypeId} {vb vr : Value} {bs : List Int} {rv : List RawV} (h : Hold w B p te vb vr bs rv) (hc : Chg (fun k => k = p) w w') : Hold w' B p te vb vr bs rv :=
  ⟨h.bp, Nat.lt_of_lt_of_le h.plt hc.size, owns_chg h.own hc (fun g hg e => h.d1 (by rw [hg, e])), owns_chg h.raws hc (fun g hg e => h.d2 (by rw [hg, e])), h.d1, h.d2, h.d3,
    fun r hr => (h.inn r hr).chg hc (fun g hg e => h.dis g ⟨r, hr, hg⟩ (.inl e)), h.dis, fun k hk => Nat.lt_of_lt_of_le (h.ilt k hk) hc.size⟩

/-- What a file is. -/
structure Mdl where
  bs : List Int
  most : Int
  off : Bool
  pl : Bool
  left : Int
  rs : List (Int × List Int)
def plain (rv : List RawV) : List (Int × List Int) := rv.map fun r => (r.1, r.2.1)
theorem plain_length (rv : List RawV) : (plain rv).length = rv.length := by simp [plain]
def Mdl.fit (F : Mdl) : Prop := 0 ≤ F.most ∧ F.most ≤ 4194304 ∧ (F.bs.length : Int) ≤ F.most ∧ 0 ≤ F.left ∧ F.left ≤ 9223372036854775807
/-- The program's file. -/
def pcs (F : Mdl) (vb vr : Value) : Array Value := #[.bool true, .bool F.off, .int .i64 F.most, vb, vr, .bool F.pl, .int .i64 F.left]
structure PF (w : World) (B p : Nat) (F : Mdl) (vb vr : Value) (rv : List RawV) : Prop where
  cells : w.heap[p]? = some (.cells (pcs F vb vr) 81 (0, 0))
  hold : Hold w B p 91 vb vr F.bs rv
  rs : F.rs = plain rv
  fit : F.fit

theorem PF.cell {w : World} {B p : Nat} {F : Mdl} {vb vr : Value} {rv : List RawV} (h : PF w B p F vb vr rv) (i : Nat) : w.cell? ⟨p, i, none⟩ = (pcs F vb vr)[i]? := by
  simp [World.cell?, h.cells]
theorem PF.free {w : World} {B p : Nat} {F : Mdl} {vb vr : Value} {rv : List RawV} (h : PF w B p F vb vr rv) (i : Nat) : w.frozen? ⟨p, i, none⟩ = false := by
  simp [World.frozen?, h.cells]
theorem PF.chg {S : Nat → Prop} {w w' : World} {B p : Nat} {F : Mdl} {vb vr : Value} {rv : List RawV} (h : PF w B p F vb vr rv) (hc : Chg S w w')
    (h1 : ∀ k, Foot p vb vr k → ¬ S k) (h2 : ∀ k, Inn rv k → ¬ S k) : PF w' B p F vb vr rv :=
  ⟨(hc.block p h.hold.plt (h1 p (.inl rfl))).trans h.cells, h.hold.chg hc h1 h2, h.rs, h.fit⟩
theorem PF.below {w w' : World} {B p : Nat} {F : Mdl} {vb vr : Value} {rv : List RawV} (h : PF w B p F vb vr rv) (hc : Below w.heap.size w w') : PF w' B p F vb vr rv :=
  h.chg (Chg.of_below (S := fun _ => False) hc) (fun _ _ => id) (fun _ _ => id)
theorem PF.shape {w : World} {B p : Nat} {F : Mdl} {vb vr : Value} {rv : List RawV} (h : PF w B p F vb vr rv) :
    ∃ ab cb ar cr, vb = .slice ab F.bs.length cb ∧ F.bs.length ≤ cb ∧ vr = .slice ar rv.length cr := by
  obtain ⟨ao, cap, e, hc, _⟩ := h.hold.own.opened
  obtain ⟨_, ⟨e2, h0⟩ | ⟨g, cap2, cur, e2, _⟩⟩ := h.hold.raws
  · exact ⟨ao, cap, none, 0, e, hc, by rw [e2, h0]⟩
  · exact ⟨ao, cap, some ⟨g, 0, none⟩, cap2, e, hc, e2⟩

/-- How a file has gone from one world to another. -/
structure Moved (w w' : World) (p : Nat) (vb vr : Value) (rv : List RawV) (vb' vr' : Value) (rv' : List RawV) : Prop where
  chg : Chg (Foot p vb vr) w w'
  foot : ∀ k, Foot p vb' vr' k → Foot p vb vr k ∨ w.heap.size ≤ k
  inn : ∀ k, Inn rv' k → Inn rv k ∨ w.heap.size ≤ k
theorem Moved.refl (w : World) (p : Nat) (vb vr : Value) (rv : List RawV) : Moved w w p vb vr rv vb vr rv := ⟨Chg.refl _ _, fun _ => .inl, fun _ => .inl⟩
theorem Moved.trans {w w' w2 : World} {p : Nat} {vb vr vb' vr' vb2 vr2 : Value} {rv rv' rv2 : List RawV} (h : Moved w w' p vb vr rv vb' vr' rv') (k : Moved w' w2 p vb' vr' rv' vb2 vr2 rv2) : Moved w w2 p vb vr rv vb2 vr2 rv2 :=
  ⟨h.chg.trans k.chg h.foot, fun i hi => by
      rcases k.foot i hi with h1 | h1
      · exact h.foot i h1
      · exact .inr (Nat.le_trans h.chg.size h1),
    fun i hi => by
      rcases k.inn i hi with h1 | h1
      · exact h.inn i h1
      · exact .inr (Nat.le_trans h.chg.size h1)⟩
theorem Moved.of_below {w w' : World} (p : Nat) (vb vr : Value) (rv : List RawV) (h : Below w.heap.size w w') : Moved w w' p vb vr rv vb vr rv := ⟨Chg.of_below h, fun _ => .inl, fun _ => .inl⟩
theorem Moved.of_self {w w' : World} (p : Nat) (vb vr : Value) (rv : List RawV) (h : Chg (fun k => k = p) w w') : Moved w w' p vb vr rv vb vr rv := ⟨h.mono (fun k e => .inl e), fun _ => .inl, fun _ => .inl⟩
theorem Moved.below {w w' : World} {B p : Nat} {F : Mdl} {vb vr vb' vr' : Value} {rv rv' : List RawV} (h : Moved w w' p vb vr rv vb' vr' rv') (hf : PF w B p F vb vr rv) (hB : B ≤ w.heap.size) : Below B w w' :=
  h.chg.below (fun k hk => (hf.hold.foot k hk).1) hB

/-! ### own -/
theorem own_any (v : Value) (l : List Int) (w : World) (hl : Bs w v l) (hb : l.length ≤ 140737488355328) :
    Calls Tryd.prog 38 #[v] w fun e w' => ∃ ao cap, e = .returned (.slice ao l.length cap) ∧ Own w' w.heap.size (.slice ao l.length cap) l ∧ Below w.heap.size w w' ∧ l.length ≤ cap := by
  obtain ⟨i0, hi, hz0, hz1, hz2⟩ := info_parts Tryd.info5
  have HL : Hid (Bs w v l) := hl
  obtain ⟨ao, cap, rfl, hc, hn, hcell⟩ := hl
  clear hcell hn
  go_enter Tryd.func38, Tryd.ntmps38
  go_wp2_with (first | (at_make; refine wpList_make_own _ rfl _ _ 25 rfl w.heap.size 5 i0 (.int .u8 0) 1 Tryd.underlying25 hi hz0 hz1 _ _ _ l.length rfl rfl rfl (by rw [hz2]; omega) (by unfold maxLen; omega) (Nat.le_refl _) ?_; intro w1 ho1 hg1; have HO1 : Hid (Own w1 w.heap.size (.slice (some ⟨w.heap.size, 0, none⟩) 0 l.length) []) := ho1; have HB1 : Hid (Below w.heap.size w w1) := below_of_grown hg1; clear ho1 hg1) | (at_builtin; refine wpList_append_bytes _ rfl (.tmp 5) (.tmp 6) 25 rfl i0 Tryd.underlying25 hi hz0 hz1 hz2 w.heap.size _ _ [] l rfl rfl HO1.out (HL.out.below HB1.out) (by simp; omega) w HB1.out HB1.out.size ?_; intro ao2 cap2 w2 ho2 hb2 _ hc2; simp only [List.length_nil, Nat.zero_add, List.nil_append] at ho2 hc2))
  go_ret
  exact ⟨ao2, cap2, by simp, ho2, hb2, hc2⟩

/-- A row of raw writes, read again. -/
def Rs (w : World) (v : Value) (rv : List RawV) : Prop := ∃ ao cap, v = .slice ao rv.length cap ∧ rv.length ≤ cap ∧ (ao = none → cap = 0) ∧ ∀ ad, ao = some ad → ∀ j u, (rcells rv)[j]? = some u → w.cell? (ad.add j) = some u
theorem rs_of_owns {w : World} {B : Nat} {te : TypeId} {v : Value} {rv : List RawV} (h : w.ownsRow B te 2 v rv.length (rcells rv)) : Rs w v rv := by
  have h' := h
  obtain ⟨_, ⟨rfl, h0⟩ | ⟨g, cap, cur, rfl, hB, hg, hle, hm, hs, ht⟩⟩ := h
  · exact ⟨none, 0, by rw [h0], by omega, (fun _ => rfl), (fun _ h => by cases h)⟩
  · exact ⟨some ⟨g, 0, none⟩, cap, rfl, hle, (fun h => by cases h), fun ad ha j u hj => by obtain rfl := Option.some.inj ha; exact World.ownsRow.cells h' rfl j u hj⟩
theorem rcells_one (rv : List RawV) (h : ∀ r ∈ rv, r.2.2.oneCell' = true) : ∀ u ∈ rcells rv, u.oneCell' = true := by
  intro u hu
  simp only [rcells, List.mem_flatMap] at hu
  obtain ⟨r, hr, hu⟩ := hu
  simp at hu
  rcases hu with rfl | rfl
  · rfl
  · exact h r hr
theorem bs_one {w : World} {v : Value} {l : List Int} (h : Bs w v l) : v.oneCell' = true := by
  obtain ⟨ao, cap, rfl, _⟩ := h
  rfl
end Go.Proofs.YtkiccnedmejnaaaDoor
