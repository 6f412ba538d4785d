/-
  Two files of the program and two of the document's beside each other, none of which reaches into another: what is done to one leaves the others. No conditions.
-/
import Derived.Test.YtkdmcdkjfkllkaaRefApi
import Derived.Test.YtkdmcdkjfkllkaaOwnMath
namespace Go.Proofs.Ytkdmcdkjfkllkaa
open Go.RowKit
set_option linter.unusedVariables false

/-- The one's own blocks are neither the other's own, nor read by it. -/
def Ap (f1 f2 i2 : Nat → Prop) : Prop := ∀ k, f1 k → ¬ f2 k ∧ ¬ i2 k

theorem Ap.step {W W' : World} {p : Nat} {vb vr vb' vr' : Value} {rv rv' : List RawV} (hm : Moved W W' p vb vr rv vb' vr' rv') {f2 i2 : Nat → Prop} (h1 : Ap (Foot p vb vr) f2 i2) (h2 : Ap f2 (Foot p vb vr) (Inn rv))
    (b : ∀ k, f2 k → k < W.heap.size) (c : ∀ k, i2 k → k < W.heap.size) : Ap (Foot p vb' vr') f2 i2 ∧ Ap f2 (Foot p vb' vr') (Inn rv') := by
  refine ⟨fun k hk => ?_, fun k hk => ?_⟩
  · rcases hm.foot k hk with h | h
    · exact h1 k h
    · exact ⟨fun e => by have := b k e; omega, fun e => by have := c k e; omega⟩
  · refine ⟨fun e => ?_, fun e => ?_⟩
    · rcases hm.foot k e with h | h
      · exact (h2 k hk).1 h
      · have := b k hk; omega
    · rcases hm.inn k e with h | h
      · exact (h2 k hk).2 h
      · have := b k hk; omega
theorem PF.apart {W W' : World} {S : Nat → Prop} {B p : Nat} {F : Mdl} {vb vr : Value} {rv : List RawV} (h : PF W B p F vb vr rv) (hc : Chg S W W') (ha : Ap S (Foot p vb vr) (Inn rv)) : PF W' B p F vb vr rv :=
  h.chg hc (fun k hk hs => (ha k hs).1 hk) (fun k hk hs => (ha k hs).2 hk)
theorem RF.apart {W W' : World} {S : Nat → Prop} {B p : Nat} {F : Mdl} {vb vr : Value} {rv : List RawV} (h : RF W B p F vb vr rv) (hc : Chg S W W') (ha : Ap S (Foot p vb vr) (Inn rv)) : RF W' B p F vb vr rv :=
  h.chg hc (fun k hk hs => (ha k hs).1 hk) (fun k hk hs => (ha k hs).2 hk)
theorem Hold.lower {w : World} {B B' p : Nat} {te : TypeId} {vb vr : Value} {bs : List Int} {rv : List RawV} (h : Hold w B p te vb vr bs rv) (hB : B' ≤ B) : Hold w B' p te vb vr bs rv := by
  refine ⟨Nat.le_trans hB h.bp, h.plt, h.own.mono hB, ?_, h.d1, h.d2, h.d3, h.inn, h.dis, h.ilt⟩
  obtain ⟨q1, q2 | ⟨g, cap, cur, q3, q4, q5⟩⟩ := h.raws
  · exact ⟨q1, .inl q2⟩
  · exact ⟨q1, .inr ⟨g, cap, cur, q3, Nat.le_trans hB q4, q5⟩⟩
theorem PF.lower {w : World} {B B' p : Nat} {F : Mdl} {vb vr : Value} {rv : List RawV} (h : PF w B p F vb vr rv) (hB : B' ≤ B) : PF w B' p F vb vr rv := ⟨h.cells, h.hold.lower hB, h.rs, h.fit⟩
theorem RF.lower {w : World} {B B' p : Nat} {F : Mdl} {vb vr : Value} {rv : List RawV} (h : RF w B p F vb vr rv) (hB : B' ≤ B) : RF w B' p F vb vr rv := ⟨h.cells, h.hold.lower hB, h.rs, h.fit⟩

/-- Where a file lies: its block, its two slices, its raw writes. -/
structure Loc where
  p : Nat
  vb : Value
  vr : Value
  rv : List RawV
def Loc.foot (l : Loc) : Nat → Prop := Foot l.p l.vb l.vr
def Loc.inn (l : Loc) : Nat → Prop := Inn l.rv
def Loc.ap (a b : Loc) : Prop := Ap a.foot b.foot b.inn
abbrev PL (W : World) (B : Nat) (F : Mdl) (l : Loc) : Prop := PF W B l.p F l.vb l.vr l.rv
abbrev RL (W : World) (B : Nat) (F : Mdl) (l : Loc) : Prop := RF W B l.p F l.vb l.vr l.rv

/-- Four files, apart from each other: f and its model r, g and its model s. -/
structure St (W : World) (B : Nat) (Ff Fg Fr Fs : Mdl) (f g r s : Loc) : Prop where
  hf : PL W B Ff f
  hg : PL W B Fg g
  hr : RL W B Fr r
  hs : RL W B Fs s
  fg : f.ap g
  gf : g.ap f
  fr : f.ap r
  rf : r.ap f
  fs : f.ap s
  sf : s.ap f
  gr : g.ap r
  rg : r.ap g
  gs : g.ap s
  sg : s.ap g
  rs : r.ap s
  sr : s.ap r
theorem St.stepF {W W' : World} {B : Nat} {Ff Fg Fr Fs F' : Mdl} {f g r s : Loc} (h : St W B Ff Fg Fr Fs f g r s) {vb' vr' : Value} {rv' : List RawV} (hp : PF W' B f.p F' vb' vr' rv') (hm : Moved W W' f.p f.vb f.vr f.rv vb' vr' rv') :
    St W' B F' Fg Fr Fs ⟨f.p, vb', vr', rv'⟩ g r s := by
  obtain ⟨a1, a2⟩ := Ap.step hm h.fg h.gf (fun k hk => (h.hg.hold.foot k hk).2) h.hg.hold.ilt
  obtain ⟨b1, b2⟩ := Ap.step hm h.fr h.rf (fun k hk => (h.hr.hold.foot k hk).2) h.hr.hold.ilt
  obtain ⟨c1, c2⟩ := Ap.step hm h.fs h.sf (fun k hk => (h.hs.hold.foot k hk).2) h.hs.hold.ilt
  exact ⟨hp, h.hg.apart hm.chg h.fg, h.hr.apart hm.chg h.fr, h.hs.apart hm.chg h.fs, a1, a2, b1, b2, c1, c2, h.gr, h.rg, h.gs, h.sg, h.rs, h.sr⟩
theorem St.stepR {W W' : World} {B : Nat} {Ff Fg Fr Fs F' : Mdl} {f g r s : Loc} (h : St W B Ff Fg Fr Fs f g r s) {vb' vr' : Value} {rv' : List RawV} (hp : RF W' B r.p F' vb' vr' rv') (hm : Moved W W' r.p r.vb r.vr r.rv vb' vr' rv') :
    St W' B Ff Fg F' Fs f g ⟨r.p, vb', vr', rv'⟩ s := by
  obtain ⟨a1, a2⟩ := Ap.step hm h.rf h.fr (fun k hk => (h.hf.hold.foot k hk).2) h.hf.hold.ilt
  obtain ⟨b1, b2⟩ := Ap.step hm h.rg h.gr (fun k hk => (h.hg.hold.foot k hk).2) h.hg.hold.ilt
  obtain ⟨c1, c2⟩ := Ap.step hm h.rs h.sr (fun k hk => (h.hs.hold.foot k hk).2) h.hs.hold.ilt
  exact ⟨h.hf.apart hm.chg h.rf, h.hg.apart hm.chg h.rg, hp, h.hs.apart hm.chg h.rs, h.fg, h.gf, a2, a1, h.fs, h.sf, b2, b1, h.gs, h.sg, c1, c2⟩
theorem St.swap {W : World} {B : Nat} {Ff Fg Fr Fs : Mdl} {f g r s : Loc} (h : St W B Ff Fg Fr Fs f g r s) : St W B Fg Ff Fs Fr g f s r :=
  ⟨h.hg, h.hf, h.hs, h.hr, h.gf, h.fg, h.gs, h.sg, h.gr, h.rg, h.fs, h.sf, h.fr, h.rf, h.sr, h.rs⟩
theorem St.chg {W W' : World} {S : Nat → Prop} {B : Nat} {Ff Fg Fr Fs : Mdl} {f g r s : Loc} (h : St W B Ff Fg Fr Fs f g r s) (hc : Chg S W W') (h1 : Ap S f.foot f.inn) (h2 : Ap S g.foot g.inn) (h3 : Ap S r.foot r.inn) (h4 : Ap S s.foot s.inn) : St W' B Ff Fg Fr Fs f g r s :=
  ⟨h.hf.apart hc h1, h.hg.apart hc h2, h.hr.apart hc h3, h.hs.apart hc h4, h.fg, h.gf, h.fr, h.rf, h.fs, h.sf, h.gr, h.rg, h.gs, h.sg, h.rs, h.sr⟩
theorem St.below {W W' : World} {B : Nat} {Ff Fg Fr Fs : Mdl} {f g r s : Loc} (h : St W B Ff Fg Fr Fs f g r s) (hb : Below W.heap.size W W') : St W' B Ff Fg Fr Fs f g r s :=
  h.chg (Chg.of_below (S := fun _ => False) hb) (fun _ e => e.elim) (fun _ e => e.elim) (fun _ e => e.elim) (fun _ e => e.elim)
/-- All that the four reach lies below n, or from m on. -/
structure St.Out (f g r s : Loc) (n m : Nat) : Prop where
  hf : ∀ k, f.foot k ∨ f.inn k → k < n ∨ m ≤ k
  hg : ∀ k, g.foot k ∨ g.inn k → k < n ∨ m ≤ k
  hr : ∀ k, r.foot k ∨ r.inn k → k < n ∨ m ≤ k
  hs : ∀ k, s.foot k ∨ s.inn k → k < n ∨ m ≤ k
theorem St.out {W : World} {B : Nat} {Ff Fg Fr Fs : Mdl} {f g r s : Loc} (h : St W B Ff Fg Fr Fs f g r s) (m : Nat) : St.Out f g r s W.heap.size m :=
  ⟨fun k hk => .inl (hk.elim (fun e => (h.hf.hold.foot k e).2) (h.hf.hold.ilt k)), fun k hk => .inl (hk.elim (fun e => (h.hg.hold.foot k e).2) (h.hg.hold.ilt k)), fun k hk => .inl (hk.elim (fun e => (h.hr.hold.foot k e).2) (h.hr.hold.ilt k)), fun k hk => .inl (hk.elim (fun e => (h.hs.hold.foot k e).2) (h.hs.hold.ilt k))⟩
theorem moved_out {W W' : World} {l : Loc} {vb' vr' : Value} {rv' : List RawV} {n m : Nat} (hm : Moved W W' l.p l.vb l.vr l.rv vb' vr' rv') (h : ∀ k, l.foot k ∨ l.inn k → k < n ∨ m ≤ k) (hW : m ≤ W.heap.size) : ∀ k, (Loc.mk l.p vb' vr' rv').foot k ∨ (Loc.mk l.p vb' vr' rv').inn k → k < n ∨ m ≤ k := by
  rintro k (hk | hk)
  · rcases hm.foot k hk with e | e
    · exact h k (.inl e)
    · exact .inr (by omega)
  · rcases hm.inn k hk with e | e
    · exact h k (.inr e)
    · exact .inr (by omega)
/-- Blocks from n to m are none of theirs. -/
theorem St.Out.ap {f g r s : Loc} {n m : Nat} (h : St.Out f g r s n m) {S : Nat → Prop} (hS : ∀ k, S k → n ≤ k ∧ k < m) : Ap S f.foot f.inn ∧ Ap S g.foot g.inn ∧ Ap S r.foot r.inn ∧ Ap S s.foot s.inn := by
  refine ⟨fun k hk => ⟨fun e => ?_, fun e => ?_⟩, fun k hk => ⟨fun e => ?_, fun e => ?_⟩, fun k hk => ⟨fun e => ?_, fun e => ?_⟩, fun k hk => ⟨fun e => ?_, fun e => ?_⟩⟩
  · have := hS k hk; have := h.hf k (.inl e); omega
  · have := hS k hk; have := h.hf k (.inr e); omega
  · have := hS k hk; have := h.hg k (.inl e); omega
  · have := hS k hk; have := h.hg k (.inr e); omega
  · have := hS k hk; have := h.hr k (.inl e); omega
  · have := hS k hk; have := h.hr k (.inr e); omega
  · have := hS k hk; have := h.hs k (.inl e); omega
  · have := hS k hk; have := h.hs k (.inr e); omega
/-- g becomes a copy of f. -/
theorem St.copyG {W W' : World} {B : Nat} {Ff Fg Fr Fs : Mdl} {f g r s : Loc} (h : St W B Ff Fg Fr Fs f g r s) (hb : Below W.heap.size W W') (hB : B ≤ W.heap.size) {p2 : Nat} {vb2 vr2 : Value} (hp : PF W' W.heap.size p2 Ff vb2 vr2 f.rv) :
    St W' B Ff Ff Fr Fs f ⟨p2, vb2, vr2, f.rv⟩ r s := by
  have hn := h.below hb
  have hge : ∀ k, (Loc.mk p2 vb2 vr2 f.rv).foot k → W.heap.size ≤ k := fun k hk => (hp.hold.foot k hk).1
  have hnew : ∀ l : Loc, (∀ k, l.foot k → k < W.heap.size) → (∀ k, l.inn k → k < W.heap.size) → (Loc.mk p2 vb2 vr2 f.rv).ap l := fun l h1 h2 k hk => ⟨fun e => by have := h1 k e; have := hge k hk; omega, fun e => by have := h2 k e; have := hge k hk; omega⟩
  have hold : ∀ l : Loc, (∀ k, l.foot k → k < W.heap.size) → (∀ k, l.foot k → ¬ f.inn k) → l.ap (Loc.mk p2 vb2 vr2 f.rv) := fun l h1 h2 k hk => ⟨fun e => by have := h1 k hk; have := hge k e; omega, h2 k hk⟩
  exact ⟨hn.hf, hp.lower hB, hn.hr, hn.hs, hold f (fun k hk => (h.hf.hold.foot k hk).2) (fun k hk e => h.hf.hold.dis k e hk), hnew f (fun k hk => (h.hf.hold.foot k hk).2) h.hf.hold.ilt, h.fr, h.rf, h.fs, h.sf,
    hnew r (fun k hk => (h.hr.hold.foot k hk).2) h.hr.hold.ilt, hold r (fun k hk => (h.hr.hold.foot k hk).2) (fun k hk => (h.rf k hk).2), hnew s (fun k hk => (h.hs.hold.foot k hk).2) h.hs.hold.ilt, hold s (fun k hk => (h.hs.hold.foot k hk).2) (fun k hk => (h.sf k hk).2), h.rs, h.sr⟩
/-- s becomes a copy of r. -/
theorem St.copyS {W W' : World} {B : Nat} {Ff Fg Fr Fs : Mdl} {f g r s : Loc} (h : St W B Ff Fg Fr Fs f g r s) (hb : Below W.heap.size W W') (hB : B ≤ W.heap.size) {p2 : Nat} {vb2 vr2 : Value} (hp : RF W' W.heap.size p2 Fr vb2 vr2 r.rv) :
    St W' B Ff Fg Fr Fr f g r ⟨p2, vb2, vr2, r.rv⟩ := by
  have hn := h.below hb
  have hge : ∀ k, (Loc.mk p2 vb2 vr2 r.rv).foot k → W.heap.size ≤ k := fun k hk => (hp.hold.foot k hk).1
  have hnew : ∀ l : Loc, (∀ k, l.foot k → k < W.heap.size) → (∀ k, l.inn k → k < W.heap.size) → (Loc.mk p2 vb2 vr2 r.rv).ap l := fun l h1 h2 k hk => ⟨fun e => by have := h1 k e; have := hge k hk; omega, fun e => by have := h2 k e; have := hge k hk; omega⟩
  have hold : ∀ l : Loc, (∀ k, l.foot k → k < W.heap.size) → (∀ k, l.foot k → ¬ r.inn k) → l.ap (Loc.mk p2 vb2 vr2 r.rv) := fun l h1 h2 k hk => ⟨fun e => by have := h1 k hk; have := hge k e; omega, h2 k hk⟩
  exact ⟨hn.hf, hn.hg, hn.hr, hp.lower hB, h.fg, h.gf, h.fr, h.rf, hold f (fun k hk => (h.hf.hold.foot k hk).2) (fun k hk => (h.fr k hk).2), hnew f (fun k hk => (h.hf.hold.foot k hk).2) h.hf.hold.ilt, h.gr, h.rg,
    hold g (fun k hk => (h.hg.hold.foot k hk).2) (fun k hk => (h.gr k hk).2), hnew g (fun k hk => (h.hg.hold.foot k hk).2) h.hg.hold.ilt, hold r (fun k hk => (h.hr.hold.foot k hk).2) (fun k hk e => h.hr.hold.dis k e hk), hnew r (fun k hk => (h.hr.hold.foot k hk).2) h.hr.hold.ilt⟩
end Go.Proofs.Ytkdmcdkjfkllkaa
