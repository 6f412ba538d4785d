/-
  The walk of File.Write: refused, or laid down by raw writes until a planned cut happens.
-/
import Derived.Test.YtkiccnedmejnaaaDoorRange
namespace Go.Proofs.YtkiccnedmejnaaaDoor
open Go.RowKit Go.Shelf
set_option linter.unusedVariables false
set_option maxRecDepth 100000
attribute [local go_sem] Oper.semAt_some

/-- What a Write does that is not refused. -/
def wrN : Nat → Mdl → Nat → List Int → Int × Mdl
  | 0, F, _, _ => (0, F)
  | n + 1, F, q, x => if x.length = 0 then (0, F) else if (F.pl && F.left == 0) = true then (6, { F with off := true, pl := false, left := 0 }) else wrN n (step1 F q (x.take 16)) (q + 16) (x.drop 16)
theorem wrN_done (m : Nat) (F : Mdl) (q : Nat) (x : List Int) (h : x.length = 0) : wrN m F q x = (0, F) := by
  cases m with
  | zero => rfl
  | succ m => simp [wrN, h]
theorem wrN_due (m : Nat) (F : Mdl) (q : Nat) (x : List Int) (h : 0 < x.length) (hm : x.length ≤ m) (hd : (F.pl && F.left == 0) = true) : wrN m F q x = (6, { F with off := true, pl := false, left := 0 }) := by
  obtain ⟨m, rfl⟩ : ∃ m', m = m' + 1 := ⟨m - 1, by omega⟩
  rw [wrN, if_neg (by omega), if_pos hd]
theorem wrN_step (m : Nat) (F : Mdl) (q : Nat) (x : List Int) (h : 0 < x.length) (hd : (F.pl && F.left == 0) = false) : wrN (m + 1) F q x = wrN m (step1 F q (x.take 16)) (q + 16) (x.drop 16) := by
  rw [wrN, if_neg (by omega), if_neg (by simp [hd])]
theorem wErr_zero {F : Mdl} {at' : Int} {n : Nat} (h : wErr F at' n = 0) : F.off = false ∧ 0 ≤ at' ∧ at' ≤ (F.bs.length : Int) ∧ (n : Int) ≤ F.most - at' := by
  unfold wErr at h
  split at h
  · omega
  · rename_i h1
    split at h
    · omega
    · split at h
      · omega
      · exact ⟨by simpa using h1, by omega, by omega, by omega⟩
/-- What a Write does: its answer, and the file behind it. -/
def wrM (F : Mdl) (at' : Int) (x : List Int) : Int × Mdl := if wErr F at' x.length = 0 then wrN x.length F at'.toNat x else (wErr F at' x.length, F)

theorem pieces_any (q : Int) (ao : Option Addr) (n cap : Nat) (w : World) :
    Calls Tryd.prog 43 #[.int .i64 q, .slice ao n cap] w fun e w' => e = .returned (.func (.func 59) #[] #[.pointer (some ⟨w.heap.size + 1, 0, none⟩), .pointer (some ⟨w.heap.size, 0, none⟩)]) ∧ w' = (w.alloc (.cells #[.int .i64 q] 3)).alloc (.cells #[.slice ao n cap] 25) := by
  go_enter Tryd.func43, Tryd.ntmps43
  go_wp2
  go_ret
  exact ⟨rfl, rfl⟩

/-- The file in the midst of a Write that began in w: its blocks are old, or lie behind the Write's own. -/
def Mid (w : World) (B p : Nat) (vb vr : Value) (rv : List RawV) (W : World) (F' : Mdl) (c : Nat) : Prop :=
  ∃ vb' vr' rv', PF W B p F' vb' vr' rv' ∧ Moved w W p vb vr rv vb' vr' rv' ∧ (∀ i, Foot p vb' vr' i → i < w.heap.size ∨ w.heap.size + 6 ≤ i) ∧ (∀ i, Inn rv' i → i < w.heap.size ∨ w.heap.size + 6 ≤ i) ∧ rv'.length = rv.length + c
theorem Mid.chg {w W W' : World} {B p : Nat} {vb vr : Value} {rv : List RawV} {F' : Mdl} {c : Nat} (h : Mid w B p vb vr rv W F' c) (hc : Chg (fun i => w.heap.size ≤ i ∧ i < w.heap.size + 6) W W') : Mid w B p vb vr rv W' F' c := by
  obtain ⟨vb', vr', rv', h1, h2, h3, h4, h5⟩ := h
  refine ⟨vb', vr', rv', h1.chg hc (fun k hk hs => by have := h3 k hk; omega) (fun k hk hs => by have := h4 k hk; omega), ⟨h2.chg.trans hc (fun i hi => .inr hi.1), h2.foot, h2.inn⟩, h3, h4, h5⟩
theorem Mid.start {w : World} {B p : Nat} {F : Mdl} {vb vr : Value} {rv : List RawV} (h : PF w B p F vb vr rv) : Mid w B p vb vr rv w F 0 :=
  ⟨vb, vr, rv, h, Moved.refl _ _ _ _ _, fun i hi => .inl (h.hold.foot i hi).2, fun i hi => .inl (h.hold.ilt i hi), rfl⟩
theorem Mid.self {w W W' : World} {B p : Nat} {vb vr : Value} {rv : List RawV} {F' F2 : Mdl} {c : Nat} (h : Mid w B p vb vr rv W F' c) (hc : Chg (fun i => i = p) W W') (hp : ∀ vb' vr' rv', PF W B p F' vb' vr' rv' → PF W' B p F2 vb' vr' rv') : Mid w B p vb vr rv W' F2 c := by
  obtain ⟨vb', vr', rv', h1, h2, h3, h4, h5⟩ := h
  exact ⟨vb', vr', rv', hp _ _ _ h1, h2.trans (Moved.of_self _ _ _ _ hc), h3, h4, h5⟩

/-- The boxes of a Write, from block s on. -/
structure Boxes (s p q : Nat) (bv : Value) (W : World) : Prop where
  f : W.cell? ⟨s, 0, none⟩ = some (.pointer (some ⟨p, 0, none⟩))
  r : W.heap[s + 1]? = some (.cells #[.int .i64 0] 26 (0, 0))
  a : W.cell? ⟨s + 2, 0, none⟩ = some (.int .i64 (q : Int))
  b : W.cell? ⟨s + 3, 0, none⟩ = some bv
theorem Boxes.chg {S : Nat → Prop} {s p q : Nat} {bv : Value} {W W' : World} (h : Boxes s p q bv W) (hc : Chg S W W') (hS : ∀ i, S i → i < s ∨ s + 4 ≤ i) : Boxes s p q bv W' := by
  have hk : ∀ (i : Nat) (v : Value), W.cell? ⟨s + i, 0, none⟩ = some v → i < 4 → W'.cell? ⟨s + i, 0, none⟩ = some v := fun i v h1 h2 =>
    (World.cell?_of_block (a := ⟨s + i, 0, none⟩) (hc.block _ (World.block_lt_of_cell? W _ h1) (fun e => by have := hS _ e; dsimp only at this; omega))).trans h1
  exact ⟨hk 0 _ h.f (by omega), (hc.block _ (Array.getElem?_eq_some_iff.1 h.r).1 (fun e => by have := hS _ e; omega)).trans h.r, hk 2 _ h.a (by omega), hk 3 _ h.b (by omega)⟩

theorem four_new (w : World) (a b c d : Obj) : ((((w.alloc a).alloc b).alloc c).alloc d).heap[w.heap.size]? = some a ∧ ((((w.alloc a).alloc b).alloc c).alloc d).heap[w.heap.size + 1]? = some b ∧
    ((((w.alloc a).alloc b).alloc c).alloc d).heap[w.heap.size + 2]? = some c ∧ ((((w.alloc a).alloc b).alloc c).alloc d).heap[w.heap.size + 3]? = some d := by
  refine ⟨?_, ?_, ?_, ?_⟩
  · exact (Below.heap_alloc _ _ _ (by simp <;> omega)).trans ((Below.heap_alloc _ _ _ (by simp <;> omega)).trans ((Below.heap_alloc _ _ _ (by simp)).trans (World.alloc_heap_new w a)))
  · refine (Below.heap_alloc _ _ _ (by simp <;> omega)).trans ((Below.heap_alloc _ _ _ (by simp)).trans ?_)
    have := World.alloc_heap_new (w.alloc a) b
    rwa [World.size_alloc] at this
  · refine (Below.heap_alloc _ _ _ (by simp)).trans ?_
    have := World.alloc_heap_new ((w.alloc a).alloc b) c
    rwa [World.size_alloc, World.size_alloc] at this
  · have := World.alloc_heap_new (((w.alloc a).alloc b).alloc c) d
    rwa [World.size_alloc, World.size_alloc, World.size_alloc] at this
theorem cell_of_one {w : World} {b : Nat} {v : Value} {t : TypeId} (h : w.heap[b]? = some (.cells #[v] t (0, 0))) : w.cell? ⟨b, 0, none⟩ = some v := by simp [World.cell?, h]
theorem Boxes.self {s p q p' : Nat} {bv : Value} {W W' : World} (h : Boxes s p q bv W) (hc : Chg (fun k => k = p') W W') (hp : p' < s ∨ s + 4 ≤ p') : Boxes s p q bv W' := h.chg hc (fun i hi => by have hi' : i = p' := hi; omega)
theorem cell_putObj {W : World} {l b : Nat} (o : Obj) {v : Value} (h : W.cell? ⟨b, 0, none⟩ = some v) (hne : b ≠ l) : (W.putObj l o).cell? ⟨b, 0, none⟩ = some v :=
  (World.cell?_of_block (a := ⟨b, 0, none⟩) ((chg_putObj W l o).block _ (World.block_lt_of_cell? W _ h) hne)).trans h
theorem Boxes.r0 {s p q : Nat} {bv : Value} {W : World} (h : Boxes s p q bv W) : W.cell? ⟨s + 1, 0, none⟩ = some (.int .i64 0) ∧ W.frozen? ⟨s + 1, 0, none⟩ = false := by
  constructor
  · simp [World.cell?, h.r]
  · simp [World.frozen?, h.r]

/-- Between two rounds. -/
def WI (w : World) (B p : Nat) (F : Mdl) (vb vr : Value) (rv : List RawV) (q : Nat) (x : List Int) (bv : Value) (k : Nat) (W : World) : Prop :=
  Boxes w.heap.size p q bv W ∧ ∃ F' m, Mid w B p vb vr rv W F' k ∧ wrN x.length F q x = wrN m F' (q + 16 * k) (x.drop (16 * k)) ∧ x.length - 16 * k ≤ m ∧ q + min (16 * k) x.length ≤ F'.bs.length ∧ F'.most = F.most
/-- Behind a cut. -/
def WX (w : World) (B p : Nat) (F : Mdl) (vb vr : Value) (rv : List RawV) (q : Nat) (x : List Int) (W : World) : Prop :=
  W.cell? ⟨w.heap.size + 1, 0, none⟩ = some (.int .i64 6) ∧ ∃ F' k, Mid w B p vb vr rv W F' k ∧ wrN x.length F q x = (6, F')

theorem round_on {w W2 W3 W4 : World} {B p : Nat} {F F' : Mdl} {vb vr vb2 vr2 vb4 vr4 bv v : Value} {rv rv2 : List RawV} {q k qk m : Nat} {x pc : List Int} (hb3 : Below W2.heap.size W2 W3) (hs : w.heap.size + 6 ≤ W2.heap.size)
    (hbx : Boxes w.heap.size p q bv W2) (hp4 : PF W4 B p (step1 F' qk pc) vb4 vr4 (rv2 ++ [((qk : Int), pc, v)])) (hc4 : Chg (Foot p vb2 vr2) W3 W4) (hf4 : ∀ k, Foot p vb4 vr4 k → Foot p vb2 vr2 k ∨ W3.heap.size ≤ k)
    (hi4 : ∀ k, Inn (rv2 ++ [((qk : Int), pc, v)]) k → Inn rv2 k ∨ v.ownBlock = some k) (hmv2 : Moved w W2 p vb vr rv vb2 vr2 rv2) (hft2 : ∀ i, Foot p vb2 vr2 i → i < w.heap.size ∨ w.heap.size + 6 ≤ i) (hin2 : ∀ i, Inn rv2 i → i < w.heap.size ∨ w.heap.size + 6 ≤ i)
    (hrl : rv2.length = rv.length + k) (hv : ∀ g, v.ownBlock = some g → w.heap.size + 6 ≤ g) (hqk : q + 16 * k = qk) (hpc : pc = (x.drop (16 * k)).take 16) (hk : 16 * k < x.length)
    (hwr : wrN x.length F q x = wrN m F' qk (x.drop (16 * k))) (hm : x.length - 16 * k ≤ m) (hlen : q + min (16 * k) x.length ≤ F'.bs.length) (hmost : F'.most = F.most) (hdue : (F'.pl && F'.left == 0) = false) :
    W4.heap[w.heap.size + 4]? = W2.heap[w.heap.size + 4]? ∧ W4.heap[w.heap.size + 4 + 1]? = W2.heap[w.heap.size + 4 + 1]? ∧ WI w B p F vb vr rv q x bv (k + 1) W4 := by
  have hsame : ∀ i, w.heap.size ≤ i → i < w.heap.size + 6 → W4.heap[i]? = W2.heap[i]? := fun i h1 h2 =>
    (hc4.block i (by have := hb3.size; omega) (fun hf => by have := hft2 i hf; omega)).trans (hb3.block i (by omega))
  have hc24 : Chg (Foot p vb2 vr2) W2 W4 := (Chg.of_below hb3).next hc4
  have hft4 : ∀ i, Foot p vb4 vr4 i → i < w.heap.size ∨ w.heap.size + 6 ≤ i := fun i hi => by
    rcases hf4 i hi with h | h
    · exact hft2 i h
    · have := hb3.size; omega
  have hin4 : ∀ i, Inn (rv2 ++ [((qk : Int), pc, v)]) i → i < w.heap.size ∨ w.heap.size + 6 ≤ i := fun i hi => by
    rcases hi4 i hi with h | h
    · exact hin2 i h
    · exact .inr (hv i h)
  refine ⟨hsame _ (by omega) (by omega), hsame _ (by omega) (by omega), hbx.chg hc24 (fun i hi => by have := hft2 i hi; omega), step1 F' qk pc, m - 1, ⟨vb4, vr4, _, hp4, ⟨hmv2.chg.trans hc24 hmv2.foot, ?_, ?_⟩, hft4, hin4, by simp [hrl]; omega⟩, ?_, by omega, ?_, hmost⟩
  · intro i hi
    rcases hf4 i hi with h | h
    · exact hmv2.foot i h
    · exact .inr (by have := hb3.size; omega)
  · intro i hi
    rcases hi4 i hi with h | h
    · exact hmv2.inn i h
    · exact .inr (by have := hv i h; omega)
  · obtain ⟨m', rfl⟩ : ∃ m', m = m' + 1 := ⟨m - 1, by omega⟩
    rw [hwr, wrN_step m' F' qk _ (by rw [List.length_drop]; omega) hdue, ← hpc, List.drop_drop]
    congr 1
    omega
  · show q + min (16 * (k + 1)) x.length ≤ (layN F'.bs qk pc).length
    have hpl : pc.length = min 16 (x.length - 16 * k) := by rw [hpc]; simp
    rw [layN_length _ _ _ (by omega), hpl]
    omega

set_option maxRecDepth 100000 in
set_option maxHeartbeats 4000000 in
theorem write_go {w : World} {B p : Nat} {F : Mdl} {vb vr : Value} {rv : List RawV} (h : PF w B p F vb vr rv) (hB : B ≤ w.heap.size) (q : Nat) (x : List Int) (bv : Value) (hx : Bs w bv x) (hal : 0 < x.length → Alien w p vb vr bv) (hrv : rv.length ≤ 1000000000)
    (hE : wErr F (q : Int) x.length = 0) :
    Calls Tryd.prog 19 #[.pointer (some ⟨p, 0, none⟩), .int .i64 (q : Int), bv] w fun e w' => ∃ vb' vr' rv', e = .returned (.int .i64 (wrN x.length F q x).1) ∧ PF w' B p (wrN x.length F q x).2 vb' vr' rv' ∧ Moved w w' p vb vr rv vb' vr' rv' := by
  obtain ⟨hoff, hq0, hq1, hq2⟩ := wErr_zero hE
  obtain ⟨f1, f2, f3, f4, f5⟩ := h.fit
  have H0 : Hid (PF w B p F vb vr rv) := h
  have HX : Hid (Bs w bv x) := hx
  have HA : Hid (0 < x.length → Alien w p vb vr bv) := hal
  have HWEH : Hid (∀ w2, Below w.heap.size w w2 → Calls Tryd.prog 42 #[.pointer (some ⟨p, 0, none⟩), .int .i64 (q : Int), .int .i64 (x.length : Int)] w2 fun e w' => e = .returned (.int .i64 0) ∧ w' = w2) := fun w2 hb => by
    have := writeError_any (h.below hb) (q : Int) x.length (by omega) (by omega)
    rwa [hE] at this
  obtain ⟨ao, cap, rfl, hcap, _⟩ := hx
  have HWB : Hid (Below w.heap.size w ((w.alloc (.cells #[.pointer (some ⟨p, 0, none⟩)] 40)).alloc (.cells #[.int .i64 0] 26))) := ((Below.refl _ w).alloc (Nat.le_refl _) _).alloc (by simp) _
  clear h hal hE
  refine (callsIn_wide (n := 5)).1 ?_
  refine callsIn_of_wp_marks Tryd.func19 rfl trivial ?_ rfl
  simp only [Tryd.ntmps19, List.size_toArray, List.length_cons, List.length_nil, Nat.reduceAdd, Nat.reduceSub, Array.replicate_succ, Array.replicate_zero, List.push_toArray, List.append_toArray, List.nil_append, List.cons_append]
  gi_wp2_with (first | (refine ⟨trivial, ?_⟩; gi_at_call 42; refine (callsIn_wide.2 (HWEH.out _ HWB.out)).mono ?_; rintro e w1 ⟨rfl, rfl⟩) | (refine ⟨trivial, ?_⟩; gi_at_call 43; refine (callsIn_wide.2 (pieces_any _ _ _ _ _)).mono ?_; rintro e w1 ⟨rfl, rfl⟩))
  obtain ⟨ws, hws⟩ : ∃ ws, ((((w.alloc (.cells #[.pointer (some ⟨p, 0, none⟩)] 40)).alloc (.cells #[.int .i64 0] 26)).alloc (.cells #[.int .i64 (q : Int)] 3)).alloc (.cells #[.slice ao x.length cap] 25)) = ws := ⟨_, rfl⟩
  have hbw : Below w.heap.size w ws := by rw [← hws]; exact ((HWB.out.alloc (by simp; omega) _).alloc (by simp; omega) _)
  have hsz : ws.heap.size = w.heap.size + 4 := by rw [← hws]; simp
  have hbx : Boxes w.heap.size p q (.slice ao x.length cap) ws := by
    rw [← hws]
    obtain ⟨g1, g2, g3, g4⟩ := four_new w (.cells #[.pointer (some ⟨p, 0, none⟩)] 40) (.cells #[.int .i64 0] 26) (.cells #[.int .i64 (q : Int)] 3) (.cells #[.slice ao x.length cap] 25)
    exact ⟨cell_of_one g1, g2, cell_of_one g3, cell_of_one g4⟩
  rw [hws]
  have HBW : Hid (Below w.heap.size w ws) := hbw
  have HBX : Hid (Boxes w.heap.size p q (.slice ao x.length cap) ws) := hbx
  clear hbw hbx hws
  refine wpIn_pieces 5 (w.heap.size + 3) (w.heap.size + 2) q x (.slice ao x.length cap) (by omega) rfl (by omega) (by omega) (WI w B p F vb vr rv q x (.slice ao x.length cap)) (WX w B p F vb vr rv q x) ?hI ?hIx ?hIr ?h0 ?round ?done ?stop
  case hI =>
    rintro k W W' ⟨hb, F', m, hm, r⟩ hc
    exact ⟨hb.chg hc (fun i hi => by omega), F', m, hm.chg (hc.mono (fun i hi => by omega)), r⟩
  case hIx =>
    rintro W W' ⟨hb, F', k, hm, r⟩ hc
    exact ⟨(World.cell?_of_block (a := ⟨w.heap.size + 1, 0, none⟩) (hc.block _ (World.block_lt_of_cell? W _ hb) (fun e => by dsimp only at e; omega))).trans hb, F', k, hm.chg (hc.mono (fun i hi => by omega)), r⟩
  case hIr =>
    rintro k W ⟨hb, F', m, ⟨vb', vr', rv', h1, h2, h3⟩, r⟩
    exact ⟨hb.b, hb.a, HX.out.chg0 h2.chg (fun h0 g hg => (HA.out h0 g hg).1)⟩
  case h0 =>
    refine ⟨HBX.out, F, x.length, (Mid.start H0.out).chg (Chg.of_below HBW.out), by simp, by omega, by simp; omega, rfl⟩
  case round =>
    rintro k W0 W v hk ⟨hb0, F', m, hmid, hwr, hm, hlen, hmost⟩ hs0 hbW hbs hv
    have hpl : ((x.drop (16 * k)).take 16).length = min 16 (x.length - 16 * k) := by simp
    obtain ⟨pc, Hpc⟩ : ∃ pc, Hid (pc = (x.drop (16 * k)).take 16) := ⟨_, rfl⟩
    rw [← Hpc.out] at hbs hpl
    have HBS : Hid (Bs W v pc) := hbs
    obtain ⟨vo, vc, rfl, hvc, _⟩ := hbs
    obtain ⟨pn, Hpn⟩ : ∃ pn, Hid (pc.length = pn) := ⟨_, rfl⟩
    rw [Hpn.out] at hpl HBS hv hvc ⊢
    obtain ⟨qk, Hqk⟩ : ∃ qk, Hid (q + 16 * k = qk) := ⟨_, rfl⟩
    rw [Hqk.out] at hwr ⊢
    have HV : Hid (∀ g, (Value.slice vo pn vc).ownBlock = some g → W0.heap.size ≤ g ∧ g < W.heap.size) := hv
    have HW : Hid (Below W0.heap.size W0 W) := hbW
    have HPL : Hid (pn = min 16 (x.length - 16 * k)) := hpl
    have HMID : Hid (Mid w B p vb vr rv W0 F' k) := hmid
    have HB0 : Hid (Boxes w.heap.size p q (.slice ao x.length cap) W0) := hb0
    have HWR : Hid (wrN x.length F q x = wrN m F' qk (x.drop (16 * k))) := hwr
    have HLN : Hid (q + min (16 * k) x.length ≤ F'.bs.length) := hlen
    have HMO : Hid (F'.most = F.most) := hmost
    have HM : Hid (x.length - 16 * k ≤ m) := hm
    clear hv hbW hpl hmid hb0 hwr hlen hmost hm
    gi_wp2
    refine ⟨(Below.refl _ W).alloc (Nat.le_refl _) _, ?_⟩
    intro W2 hc2
    have hWa : Below W0.heap.size W0 (W.alloc (.cells #[.int .i64 (qk : Int), .slice vo pn vc] 91)) := HW.out.alloc HW.out.size _
    have hszW := HW.out.size
    have hbx2 : Boxes w.heap.size p q (.slice ao x.length cap) W2 := (HB0.out.chg (Chg.of_below (S := fun _ => False) hWa) (fun _ h => h.elim)).chg hc2 (fun i hi => by omega)
    obtain ⟨vb2, vr2, rv2, hp0, hmv0, hft2, hin2, hrl2⟩ := HMID.out
    have HFL : Hid (∀ g, Foot p vb2 vr2 g → g < W0.heap.size) := fun g hg => (hp0.hold.foot g hg).2
    have hp2 : PF W2 B p F' vb2 vr2 rv2 := (hp0.below hWa).chg hc2 (fun i hi e => by have e' : i = ws.heap.size + 1 := e; have := hft2 i hi; omega) (fun i hi e => by have e' : i = ws.heap.size + 1 := e; have := hin2 i hi; omega)
    have hmv2 : Moved w W2 p vb vr rv vb2 vr2 rv2 := ⟨(hmv0.trans (Moved.of_below _ _ _ _ hWa)).chg.trans hc2 (fun i hi => .inr (by have e' : i = ws.heap.size + 1 := hi; omega)), hmv0.foot, hmv0.inn⟩
    have hbs2 : Bs W2 (.slice vo pn vc) pc := (HBS.out.below ((Below.refl _ W).alloc (Nat.le_refl _) _)).chg hc2 (fun g hg e => by have := (HV.out g hg).1; omega)
    have hraw : W2.heap[W.heap.size]? = some (.cells #[.int .i64 (qk : Int), .slice vo pn vc] 91 (0, 0)) := (hc2.block _ (by simp) (fun e => by omega)).trans (heap_alloc_new W _)
    have hsW2 : W.heap.size < W2.heap.size := (Array.getElem?_eq_some_iff.1 hraw).1
    have c0 := hbx2.f
    have c5 : W2.cell? ⟨p, 5, none⟩ = some (.bool F'.pl) := hp2.cell 5
    have c6 : W2.cell? ⟨p, 6, none⟩ = some (.int .i64 F'.left) := hp2.cell 6
    have HBX2 : Hid (Boxes w.heap.size p q (.slice ao x.length cap) W2) := hbx2
    have HP2 : Hid (PF W2 B p F' vb2 vr2 rv2) := hp2
    have HMV2 : Hid (Moved w W2 p vb vr rv vb2 vr2 rv2) := hmv2
    have HFT2 : Hid (∀ i, Foot p vb2 vr2 i → i < w.heap.size ∨ w.heap.size + 6 ≤ i) := hft2
    have HIN2 : Hid (∀ i, Inn rv2 i → i < w.heap.size ∨ w.heap.size + 6 ≤ i) := hin2
    have HBS2 : Hid (Bs W2 (.slice vo pn vc) pc) := hbs2
    have HRAW : Hid (W2.heap[W.heap.size]? = some (.cells #[.int .i64 (qk : Int), .slice vo pn vc] 91 (0, 0))) := hraw
    clear hbx2 hp2 hmv2 hft2 hin2 hbs2 hraw hc2 hWa hp0 hmv0
    cases hdue : (F'.pl && F'.left == 0) with
    | true =>
      gi_wp2_with (first | (refine ⟨trivial, ?_⟩; gi_at_call 44; refine (CallsIn.inRound _ (callsIn_wide.2 (isDue_any _ _ _))).mono ?_; rintro e W3 ⟨rfl, hb3⟩; have c03 := (hb3.cell (p := ⟨w.heap.size, 0, none⟩) (World.block_lt_of_cell? W2 _ c0)).trans c0; rw [hdue]) | (refine ⟨trivial, ?_⟩; gi_at_call 45; refine (CallsIn.inRound _ (callsIn_wide.2 (fail_any (HP2.out.below hb3)))).mono ?_; rintro e W4 ⟨⟨u4, rfl⟩, hp4, hc4⟩; have hbx4 := (HBX2.out.chg (Chg.of_below (S := fun _ => False) hb3) (fun _ h => h.elim)).self hc4 (by have := HFT2.out p (.inl rfl); omega); have r4 := hbx4.r0.1; have z4 := hbx4.r0.2))
      have hpp := HFT2.out p (.inl rfl)
      have hl3 : ∀ i, i < W2.heap.size → i ≠ p → i ≠ w.heap.size + 1 → (W4.setCell ⟨w.heap.size + 1, 0, none⟩ (.int .i64 6)).heap[i]? = W2.heap[i]? := fun i h1 h2 h3 =>
        (Below.heap_setCell _ _ _ _ h3).trans ((hc4.block i (Nat.lt_of_lt_of_le h1 hb3.size) h2).trans (hb3.block i h1))
      refine ⟨hl3 _ (by omega) (by omega) (by omega), hl3 _ (by omega) (by omega) (by omega), ?_, ?_⟩
      · exact World.cell?_setCell_same' _ _ _ (by rw [r4]; rfl)
      · have hmid4 : Mid w B p vb vr rv W4 { F' with off := true, pl := false, left := 0 } k := ⟨vb2, vr2, rv2, hp4, (HMV2.out.trans (Moved.of_below _ _ _ _ hb3)).trans (Moved.of_self _ _ _ _ hc4), HFT2.out, HIN2.out, hrl2⟩
        refine ⟨_, k, hmid4.chg ((Chg.cell _ _ _ _).mono (fun i hi => by have hi' : i = w.heap.size + 1 := hi; omega)), HWR.out.trans (wrN_due _ _ _ _ (by rw [List.length_drop]; omega) (by rw [List.length_drop]; exact HM.out) hdue)⟩
    | false =>
      have hmx : Tryd.prog.follows .mixedOrders = true := by kernel_rfl
      have hpp := HFT2.out p (.inl rfl)
      have hq9 : qk ≤ F'.bs.length := by have h1 := HLN.out; have h2 := Hqk.out; rw [Nat.min_eq_left (by omega)] at h1; omega
      have hfit2 := HP2.out.fit
      have hlf : F'.pl = true → 0 < F'.left := by
        intro h1
        have h2 : F'.left ≠ 0 := by
          intro h3
          rw [h1, h3] at hdue
          simp at hdue
        have := hfit2.2.2.2.1
        omega
      have hpn0 : 0 < pc.length := by rw [Hpn.out]; have := HPL.out; omega
      have hpm : ((qk + pc.length : Nat) : Int) ≤ F'.most := by rw [Hpn.out, HMO.out]; have h1 := HPL.out; have h2 := Hqk.out; omega
      have hrl : rv2.length ≤ 1000000000000 := by rw [hrl2]; omega
      have HLAY : Hid (∀ W3, Below W2.heap.size W2 W3 → CallsIn (Fence.wide.inRound (w.heap.size + 4 + 1)) 2 Tryd.prog 46 #[.pointer (some ⟨p, 0, none⟩), .agg #[.int .i64 (qk : Int), .slice vo pn vc], .func (.func 47) #[.pointer (some ⟨p, 4, none⟩)] #[]] W3 fun e w' => (∃ u, e = .returned u) ∧
        ∃ vb' vr', PF w' B p (step1 F' qk pc) vb' vr' (rv2 ++ [((qk : Int), pc, .slice vo pn vc)]) ∧ Chg (Foot p vb2 vr2) W3 w' ∧ (∀ k, Foot p vb' vr' k → Foot p vb2 vr2 k ∨ W3.heap.size ≤ k) ∧ (∀ k, Inn (rv2 ++ [((qk : Int), pc, .slice vo pn vc)]) k → Inn rv2 k ∨ (Value.slice vo pn vc).ownBlock = some k)) := by
        intro W3 hb3
        refine CallsIn.inRound _ (callsIn_wide.2 (lay_any (HP2.out.below hb3) (by have := HBW.out.size; have := HMV2.out.chg.size; have := hb3.size; omega) qk pc _ (HBS2.out.below hb3) hpn0 (fun g hg => ⟨fun hf => ?_, ?_⟩) hrl hq9 hpm hlf))
        · have h1 := HV.out g hg
          have h2 := HFL.out g hf
          omega
        · have := HV.out g hg; have := hb3.size; omega
      clear hq9 hfit2 hlf hpn0 hpm
      gi_wp2_with (first | (refine ⟨trivial, ?_⟩; gi_at_call 44; refine (CallsIn.inRound _ (callsIn_wide.2 (isDue_any _ _ _))).mono ?_; rintro e W3 ⟨rfl, hb3⟩; have c03 := (hb3.cell (p := ⟨w.heap.size, 0, none⟩) (World.block_lt_of_cell? W2 _ c0)).trans c0; have r03 : W3.cell? ⟨W.heap.size, 0, none⟩ = some (.int .i64 (qk : Int)) := (World.cell?_of_block (a := ⟨W.heap.size, 0, none⟩) (hb3.block _ hsW2)).trans (by simp [World.cell?, HRAW.out]); have r13 : W3.cell? ⟨W.heap.size, 1, none⟩ = some (.slice vo pn vc) := (World.cell?_of_block (a := ⟨W.heap.size, 1, none⟩) (hb3.block _ hsW2)).trans (by simp [World.cell?, HRAW.out]); have HB3 : Hid (Below W2.heap.size W2 W3.drew) := hb3.drew; rw [hdue]))
      rw [hsz]
      gi_region_with_o ((refine ⟨trivial, ?_⟩; gi_at_call 46; refine (HLAY.out _ HB3.out).mono ?_; rintro e W4 ⟨⟨u4, rfl⟩, vb4, vr4, hp4, hc4, hf4, hi4⟩))
      all_goals exact round_on HB3.out (by have := HBW.out.size; omega) HBX2.out hp4 hc4 hf4 hi4 HMV2.out HFT2.out HIN2.out hrl2 (fun g hg => by have := HV.out g hg; omega) Hqk.out Hpc.out hk HWR.out HM.out HLN.out HMO.out hdue
  case done =>
    rintro k W hk1 hk2 ⟨hb, F', m, hmid, hwr, r⟩ hK
    rw [wrN_done m F' (q + 16 * k) (x.drop (16 * k)) (by rw [List.length_drop]; omega)] at hwr
    have r1 := hb.r0.1
    have z1 := hb.r0.2
    have HWR : Hid (wrN x.length F q x = (0, F')) := hwr
    have HMD : Hid (Mid w B p vb vr rv W F' k) := hmid
    clear hwr hmid r
    gi_wp2
    have hK' : (W.setCell ⟨w.heap.size + 1, 0, none⟩ (.int .i64 0)).heap[ws.heap.size]? = some (.deferred (some [])) := (Below.heap_setCell _ _ _ _ (show ws.heap.size ≠ w.heap.size + 1 by omega)).trans hK
    refine ⟨by simp, .inl ⟨_, _, rfl, run_takeDeferred hK', ?_⟩⟩
    have hc4 : (W.setCell ⟨w.heap.size + 1, 0, none⟩ (.int .i64 0)).cell? ⟨w.heap.size + 1, 0, none⟩ = some (.int .i64 0) := World.cell?_setCell_same' _ _ _ (by rw [r1]; rfl)
    have hc5 : ((W.setCell ⟨w.heap.size + 1, 0, none⟩ (.int .i64 0)).putObj ws.heap.size (.deferred none)).cell? ⟨w.heap.size + 1, 0, none⟩ = some (.int .i64 0) := cell_putObj _ hc4 (by omega)
    refine ⟨.int .i64 0, ?_, ?_⟩
    · simp [results, Tryd.f19, go_sem, hc5]
    · have hcc : Chg (fun i => w.heap.size ≤ i ∧ i < w.heap.size + 6) W ((W.setCell ⟨w.heap.size + 1, 0, none⟩ (.int .i64 0)).putObj ws.heap.size (.deferred none)) :=
        ((Chg.cell _ _ _ _).mono (fun i hi => by have hi' : i = w.heap.size + 1 := hi; omega)).next ((chg_putObj _ _ _).mono (fun i hi => by have hi' : i = ws.heap.size := hi; omega))
      obtain ⟨vb3, vr3, rv3, g1, g2, _⟩ := HMD.out.chg hcc
      exact ⟨vb3, vr3, rv3, by rw [HWR.out], by rw [HWR.out]; exact g1, g2⟩
  case stop =>
    rintro W ⟨hc, F', k, hmid, hwr⟩ hK
    have HWR : Hid (wrN x.length F q x = (6, F')) := hwr
    have HMD : Hid (Mid w B p vb vr rv W F' k) := hmid
    clear hwr hmid
    gi_wp2
    refine ⟨by simp, .inl ⟨_, _, rfl, run_takeDeferred hK, ?_⟩⟩
    have hc5 : (W.putObj ws.heap.size (.deferred none)).cell? ⟨w.heap.size + 1, 0, none⟩ = some (.int .i64 6) := cell_putObj _ hc (by omega)
    refine ⟨.int .i64 6, ?_, ?_⟩
    · simp [results, Tryd.f19, go_sem, hc5]
    · obtain ⟨vb3, vr3, rv3, g1, g2, _⟩ := HMD.out.chg ((chg_putObj W ws.heap.size (.deferred none)).mono (fun i hi => by have hi' : i = ws.heap.size := hi; omega))
      exact ⟨vb3, vr3, rv3, by rw [HWR.out], by rw [HWR.out]; exact g1, g2⟩
end Go.Proofs.YtkiccnedmejnaaaDoor
