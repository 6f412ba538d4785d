/-
  A heap beside the document's: what each step of either leaves of the other. Conditions: as the steps'.
-/
import Derived.Test.YtpkbdpbggmiolaaDoorHAlike
namespace Go.Proofs.YtpkbdpbggmiolaaDoor
open Go.RowKit Go.Maps
set_option linter.unusedVariables false
set_option maxRecDepth 100000

/-- No byte that the heap has lies in the document's list. -/
def Jp (vL : Value) (T : Int → Option (List Int)) (D : DataW Value) : Prop := ∀ i b v, T i = some b → b ≠ [] → D.atKey (ky i) .nil = .held v → ∀ g, v.ownBlock = some g → vL.ownBlock ≠ some g
theorem HP.kp {w w' : World} {B p m c low N : Nat} {T : Int → Option (List Int)} {D : DataW Value} (h : HP w B p m c low N T D) {F : Nat → Prop} (hk : Kp F w w') (hp : ¬ F p) (hm : ¬ F m) (hv : ∀ i b v, T i = some b → b ≠ [] → D.atKey (ky i) .nil = .held v → Bs w v b → ∀ g, v.ownBlock = some g → ¬ F g) : HP w' B p m c low N T D := by
  refine ⟨(hk.block p (Array.getElem?_eq_some_iff.1 h.cells).1 hp).trans h.cells, ⟨?_, h.mp.sz, fun i b hi => ?_, h.mp.no⟩, h.bp, h.bm, h.ne, h.apart, h.lowf, h.bd, h.hN, h.hlow⟩
  · have hlt := h.mp.map.lt
    obtain ⟨es, clock, hb, r⟩ := h.mp.map
    exact ⟨es, clock, (hk.block m hlt hm).trans hb, r⟩
  · obtain ⟨v, h1, h2, h3, h4, h5, h6⟩ := h.mp.yes i b hi
    refine ⟨v, h1, h2, ?_, h4, h5, h6⟩
    by_cases hb : b = []
    · subst hb
      obtain ⟨ao, cap, e, hcap, hnil, hcell⟩ := h3
      exact ⟨ao, cap, e, hcap, hnil, fun ad hd j hj => absurd hj (by simp)⟩
    · exact h3.off hk (hv i b v hi hb (h2 _) h3)
theorem RH.off {w : World} {B p : Nat} {vL : Value} {S : List SV} (h : RH w B p vL S) {a : Addr} {x : Int} (hc : w.cell? a = some (.int .u8 x)) : a.block ≠ p := by
  intro e
  obtain ⟨g, o, sp⟩ := a
  simp only at e
  subst e
  have hsp : sp = none := World.cell?_spot hc
  subst hsp
  simp only [World.cell?, h.cells] at hc
  obtain ⟨ao, cap, hv, _⟩ := h.shape
  match o, hc with
  | 0, hc => simp [hv] at hc
  | o + 1, hc => simp at hc
/-- A heap beside the document's. -/
structure St (W w : World) (p m c low N : Nat) (T : Int → Option (List Int)) (D : DataW Value) (p' : Nat) (vL : Value) (S : List SV) : Prop where
  hp : ∃ B, HP w B p m c low N T D ∧ W.heap.size ≤ B ∧ B ≤ w.heap.size
  hr : ∃ B, RH w B p' vL S ∧ W.heap.size ≤ B ∧ B ≤ w.heap.size
  jp : Jp vL T D
  bw : Below W.heap.size W w
section
variable {W w : World} {p m c low N : Nat} {T : Int → Option (List Int)} {D : DataW Value} {p' : Nat} {vL : Value} {S : List SV}
theorem St.below {w' : World} (h : St W w p m c low N T D p' vL S) (hb : Below w.heap.size w w') : St W w' p m c low N T D p' vL S := by
  obtain ⟨B, h1, h2, h3⟩ := h.hp
  obtain ⟨B', h4, h5, h6⟩ := h.hr
  exact ⟨⟨B, h1.below hb, h2, Nat.le_trans h3 hb.size⟩, ⟨B', h4.below hb, h5, Nat.le_trans h6 hb.size⟩, h.jp, h.bw.trans (hb.mono h.bw.size)⟩
theorem St.ne (h : St W w p m c low N T D p' vL S) : p ≠ p' ∧ m ≠ p' ∧ vL.ownBlock ≠ some p ∧ vL.ownBlock ≠ some m := by
  obtain ⟨B, h1, h2, h3⟩ := h.hp
  obtain ⟨B', h4, h5, h6⟩ := h.hr
  have c1 := h1.cells
  have c2 := h4.cells
  obtain ⟨es, clock, hmb, _⟩ := h1.mp.map
  refine ⟨fun e => ?_, fun e => ?_, fun e => ?_, fun e => ?_⟩
  · rw [← e, c1] at c2; simp at c2
  · rw [← e, hmb] at c2; cases c2
  · rcases h4.row.2 with ⟨rfl, _⟩ | ⟨g, cap, cur, rfl, hB, hg, _⟩
    · cases e
    · obtain rfl : g = p := by simpa [Value.ownBlock] using e
      rw [c1] at hg; simp at hg
  · rcases h4.row.2 with ⟨rfl, _⟩ | ⟨g, cap, cur, rfl, hB, hg, _⟩
    · cases e
    · obtain rfl : g = m := by simpa [Value.ownBlock] using e
      rw [hmb] at hg; cases hg
/-- What a step of the heap's leaves of the document's. -/
theorem St.pstep {w' : World} {m2 c2 low2 N2 : Nat} {T2 : Int → Option (List Int)} {D2 : DataW Value} (h : St W w p m c low N T D p' vL S) {B : Nat} (hW : W.heap.size ≤ B) (hB : B ≤ w.heap.size) (h2 : HP w' B p m2 c2 low2 N2 T2 D2) (hb : Below B w w') (hblk : ∀ x, x < w.heap.size → x ≠ p → x ≠ m → w'.heap[x]? = w.heap[x]?) (hj : Jp vL T2 D2) : St W w' p m2 c2 low2 N2 T2 D2 p' vL S := by
  obtain ⟨B1, h1, _, _⟩ := h.hp
  obtain ⟨B', h4, h5, h6⟩ := h.hr
  obtain ⟨n1, n2, n3, n4⟩ := h.ne
  have hk : Kp (fun x => x = p ∨ x = m) w w' := ⟨hb.os, hb.tape, hb.output, hb.size, fun x hx hf => hblk x hx (fun e => hf (.inl e)) (fun e => hf (.inr e))⟩
  refine ⟨⟨B, h2, hW, Nat.le_trans hB hb.size⟩, ⟨B', h4.kp hk ?_ ?_ ?_, h5, Nat.le_trans h6 hb.size⟩, hj, h.bw.trans (hb.mono hW)⟩
  · rintro (e | e)
    · exact n1 e.symm
    · exact n2 e.symm
  · rintro g hg (e | e)
    · exact n3 (by rw [← e]; exact hg)
    · exact n4 (by rw [← e]; exact hg)
  · rintro a x hc (e | e)
    · exact (h1.off hc).1 e
    · exact (h1.off hc).2 e
/-- What a step of the document's leaves of the heap's. -/
theorem St.rstep {w' : World} {vL2 : Value} {S2 : List SV} (h : St W w p m c low N T D p' vL S) {B : Nat} (hW : W.heap.size ≤ B) (hB : B ≤ w.heap.size) (h2 : RH w' B p' vL2 S2) (hk : Kp (fun x => x = p' ∨ vL.ownBlock = some x) w w') (hg : ∀ g, vL2.ownBlock = some g → vL.ownBlock = some g ∨ w.heap.size ≤ g) : St W w' p m c low N T D p' vL2 S2 := by
  obtain ⟨B1, h1, e1, e2⟩ := h.hp
  obtain ⟨B', h4, h5, h6⟩ := h.hr
  obtain ⟨n1, n2, n3, n4⟩ := h.ne
  have hlt : ∀ i b v, T i = some b → b ≠ [] → Bs w v b → ∀ g, v.ownBlock = some g → g < w.heap.size ∧ g ≠ p' := fun i b v _ hb hv g hg => by
    obtain ⟨ao, cap, rfl, hcap, hnil, hcell⟩ := hv
    cases ao with
    | none => cases hg
    | some ad =>
      obtain rfl : ad.block = g := by simpa [Value.ownBlock] using hg
      have hc := hcell ad rfl 0 (by cases b with | nil => exact absurd rfl hb | cons _ _ => simp)
      have e : (ad.add 0).block = ad.block := by unfold Addr.add; split <;> rfl
      have h7 := World.block_lt_of_cell? w _ hc
      have h8 := h4.off hc
      rw [e] at h7 h8
      exact ⟨h7, h8⟩
  refine ⟨⟨B1, h1.kp hk ?_ ?_ ?_, e1, Nat.le_trans e2 hk.size⟩, ⟨B, h2, hW, Nat.le_trans hB hk.size⟩, ?_, h.bw.trans (hk.below h.bw.size ?_)⟩
  · rintro (e | e)
    · exact n1 e
    · exact n3 e
  · rintro (e | e)
    · exact n2 e
    · exact n4 e
  · rintro i b v hT hb hat hv g hg' (e | e)
    · exact (hlt i b v hT hb hv g hg').2 e
    · exact h.jp i b v hT hb hat g hg' e
  · intro i b v hT hb hat g hg' e
    obtain ⟨v2, _, h22, h23, _⟩ := h1.mp.yes i b hT
    have hv2 : v = v2 := by have := (h22 .nil).symm.trans hat; injection this with this; exact this.symm
    subst hv2
    rcases hg g e with h9 | h9
    · exact h.jp i b v hT hb hat g hg' h9
    · have := (hlt i b v hT hb h23 g hg').1; omega
  · rintro x (e | e)
    · rw [e]; exact Nat.le_trans h5 h4.bp
    · exact Nat.le_trans h5 (World.ownsRow.lt h4.row x e).1
/-- What turns nothing of either leaves both. -/
theorem St.keep {w' : World} (h : St W w p m c low N T D p' vL S) {F : Nat → Prop} (hk : Kp F w w') (hW : ∀ x, F x → W.heap.size ≤ x) (f1 : ¬ F p) (f2 : ¬ F m) (f3 : ¬ F p') (f4 : ∀ g, vL.ownBlock = some g → ¬ F g) (f5 : ∀ i b v, T i = some b → b ≠ [] → D.atKey (ky i) .nil = .held v → ∀ g, v.ownBlock = some g → ¬ F g) (f6 : ∀ s ∈ S, ∀ b, s.1 = some b → ∀ g, s.2.ownBlock = some g → ¬ F g) : St W w' p m c low N T D p' vL S := by
  obtain ⟨B, h1, h2, h3⟩ := h.hp
  obtain ⟨B', h4, h5, h6⟩ := h.hr
  refine ⟨⟨B, h1.kp hk f1 f2 (fun i b v a1 a2 a3 _ => f5 i b v a1 a2 a3), h2, Nat.le_trans h3 hk.size⟩, ⟨B', ⟨(hk.block p' h4.c0.2.2 f3).trans h4.cells, ownsRow_kp h4.row hk f4, fun s hs b hb => ?_, h4.one, h4.bp, h4.ne⟩, h5, Nat.le_trans h6 hk.size⟩, h.jp, h.bw.trans (hk.below h.bw.size hW)⟩
  obtain ⟨q1, q2, q3, q4⟩ := h4.good s hs b hb
  exact ⟨q1.off hk (f6 s hs b hb), q2, q3, fun g hg => ⟨Nat.lt_of_lt_of_le (q4 g hg).1 hk.size, (q4 g hg).2⟩⟩
theorem kp_two {w w' : World} {B p m : Nat} (hb : Below B w w') (hblk : ∀ x, x < w.heap.size → x ≠ p → x ≠ m → w'.heap[x]? = w.heap[x]?) : Kp (fun x => x = p ∨ x = m) w w' :=
  ⟨hb.os, hb.tape, hb.output, hb.size, fun x hx hf => hblk x hx (fun e => hf (.inl e)) (fun e => hf (.inr e))⟩
theorem St.lt (h : St W w p m c low N T D p' vL S) : p < w.heap.size ∧ m < w.heap.size ∧ p' < w.heap.size ∧ ∀ g, vL.ownBlock = some g → g < w.heap.size := by
  obtain ⟨B, h1, h2, h3⟩ := h.hp
  obtain ⟨B', h4, h5, h6⟩ := h.hr
  exact ⟨(Array.getElem?_eq_some_iff.1 h1.cells).1, h1.mp.map.lt, h4.c0.2.2, fun g hg => (World.ownsRow.lt h4.row g hg).2⟩
/-- What Add answers and leaves. -/
def AddX (T : Int → Option (List Int)) (b : List Int) (x er : Int) (T' : Int → Option (List Int)) : Prop :=
  (b.length ≤ 65536 ∧ ∃ k : Nat, Free T k ∧ x = (k : Int) ∧ er = 0 ∧ T' = putT T k (some b)) ∨ (65536 < b.length ∧ x = 0 ∧ er = 3 ∧ T' = T)
theorem AddX.same {T T1 T2 : Int → Option (List Int)} {b : List Int} {x1 x2 e1 e2 : Int} (h1 : AddX T b x1 e1 T1) (h2 : AddX T b x2 e2 T2) : x1 = x2 ∧ e1 = e2 ∧ T1 = T2 := by
  rcases h1 with ⟨hb, k, hf, rfl, rfl, rfl⟩ | ⟨hb, rfl, rfl, rfl⟩ <;> rcases h2 with ⟨hb2, k2, hf2, rfl, rfl, rfl⟩ | ⟨hb2, rfl, rfl, rfl⟩
  · obtain rfl := free_one hf hf2; exact ⟨rfl, rfl, rfl⟩
  · omega
  · omega
  · exact ⟨rfl, rfl, rfl⟩
theorem St.padd (h : St W w p m c low N T D p' vL S) (u : Value) (b : List Int) (hu : Bs w u b) (hy : Byt b) (hc : c < 65536) (hN : N < 4294967295) :
    Calls Tryd.prog 7 #[.pointer (some ⟨p, 0, none⟩), u] w fun e w' => ∃ x er c' low' N' T' D', e = .returned (.tuple #[.int .i64 x, .int .i64 er]) ∧ AddX T b x er T' ∧ c' ≤ c + 1 ∧ N' ≤ N + 1 ∧ St W w' p m c' low' N' T' D' p' vL S ∧ Kp (fun x => x = p ∨ x = m) w w' ∧ (∀ i b' v, T' i = some b' → D'.atKey (ky i) .nil = .held v → ∀ g, v.ownBlock = some g → (T i = some b' ∧ D.atKey (ky i) .nil = .held v) ∨ w.heap.size ≤ g) := by
  obtain ⟨B, h1, h2, h3⟩ := h.hp
  by_cases hb : b.length ≤ 65536
  · refine (hadd_at h1 h3 u b hu hy hb hc (by omega)).mono ?_
    rintro e w' ⟨k, D1, rfl, hF, hk, hp, hbl, hblk, hnew, hold⟩
    refine ⟨_, _, c + 1, _, N + 1, _, D1, rfl, .inl ⟨hb, k, hF, rfl, rfl, rfl⟩, Nat.le_refl _, Nat.le_refl _, h.pstep h2 h3 hp hbl hblk ?_, kp_two hbl hblk, fun i b' v hT hat g hg => by
      by_cases ei : i = (k : Int)
      · subst ei; exact .inr (hnew v hat g hg).1
      · rw [putT_other T _ ei] at hT
        rw [hold i _ ei] at hat
        exact .inl ⟨hT, hat⟩⟩
    intro i b' v hT hb' hat g hg e
    obtain ⟨B', h4, _, _⟩ := h.hr
    by_cases ei : i = (k : Int)
    · subst ei
      have h7 := (hnew v hat g hg).1
      have h8 := (World.ownsRow.lt h4.row g e).2
      omega
    · rw [putT_other T _ ei] at hT
      rw [hold i _ ei] at hat
      exact h.jp i b' v hT hb' hat g hg e
  · obtain ⟨ao, cap, rfl, hcap, hn, hcell⟩ := hu
    refine (hadd_big (.slice ao b.length cap) p m ao b.length cap w h1.c0.1 (by omega)).mono ?_
    rintro e w' ⟨rfl, rfl⟩
    exact ⟨0, 3, c, low, N, T, D, rfl, .inr ⟨by omega, rfl, rfl, rfl⟩, by omega, by omega, h, Kp.refl _ _, fun i b' v hT hat g hg => .inl ⟨hT, hat⟩⟩
theorem St.radd (h : St W w p m c low N T D p' vL S) (u : Value) (b : List Int) (hu : Bs w u b) (hy : Byt b) (hn : S.length < 65536) :
    Calls Tryd.prog 8 #[.pointer (some ⟨p', 0, none⟩), u] w fun e w' => ∃ x er vL' S', e = .returned (.tuple #[.int .i64 x, .int .i64 er]) ∧ AddX (tS S) b x er (tS S') ∧ S'.length ≤ S.length + 1 ∧ (LastOk S → LastOk S') ∧ St W w' p m c low N T D p' vL' S' ∧ Kp (fun x => x = p' ∨ vL.ownBlock = some x) w w' ∧ (∀ g, vL'.ownBlock = some g → vL.ownBlock = some g ∨ w.heap.size ≤ g) ∧ (∀ s ∈ S', s ∈ S ∨ ∀ g, s.2.ownBlock = some g → w.heap.size ≤ g) := by
  obtain ⟨B, h1, h2, h3⟩ := h.hr
  by_cases hb : b.length ≤ 65536
  · refine (refAdd6_any h1 h3 (by omega) u b hu hy hb (Nat.lt_of_le_of_lt (idsN_len _ _) hn)).mono ?_
    rintro e w' ⟨k, vL', S', rfl, hF, hr, hT, hl, hlo, hk, hg, hss⟩
    exact ⟨_, _, vL', S', rfl, .inl ⟨hb, k, hF, rfl, rfl, hT⟩, hl, hlo, h.rstep h2 h3 hr hk hg, hk, hg, hss⟩
  · refine (refAdd6_big h1 u b hu (by omega)).mono ?_
    rintro e w' ⟨rfl, rfl⟩
    exact ⟨0, 3, vL, S, rfl, .inr ⟨by omega, rfl, rfl, rfl⟩, by omega, fun h => h, h, Kp.refl _ _, fun g hg => .inl hg, fun s hs => .inl hs⟩
/-- What Drop answers and leaves. -/
def DropX (T : Int → Option (List Int)) (i er : Int) (T' : Int → Option (List Int)) : Prop := (T i = none ∧ er = 10 ∧ T' = T) ∨ ((∃ b, T i = some b) ∧ er = 0 ∧ T' = putT T i none)
theorem DropX.same {T T1 T2 : Int → Option (List Int)} {i e1 e2 : Int} (h1 : DropX T i e1 T1) (h2 : DropX T i e2 T2) : e1 = e2 ∧ T1 = T2 := by
  rcases h1 with ⟨hb, rfl, rfl⟩ | ⟨⟨b, hb⟩, rfl, rfl⟩ <;> rcases h2 with ⟨hb2, rfl, rfl⟩ | ⟨⟨b2, hb2⟩, rfl, rfl⟩
  · exact ⟨rfl, rfl⟩
  · rw [hb] at hb2; cases hb2
  · rw [hb] at hb2; cases hb2
  · exact ⟨rfl, rfl⟩
theorem St.pdrop (h : St W w p m c low N T D p' vL S) (i : Int) (h0 : -9223372036854775808 ≤ i) (h1 : i ≤ 9223372036854775807) :
    Calls Tryd.prog 11 #[.pointer (some ⟨p, 0, none⟩), .int .i64 i] w fun e w' => ∃ er c' low' T' D', e = .returned (.int .i64 er) ∧ DropX T i er T' ∧ c' ≤ c ∧ St W w' p m c' low' N T' D' p' vL S ∧ Kp (fun x => x = p ∨ x = m) w w' := by
  obtain ⟨B, h1', h2, h3⟩ := h.hp
  cases hT : T i with
  | none =>
    refine (hdrop_none h1' i h0 h1 hT).mono ?_
    rintro e w' ⟨rfl, rfl⟩
    exact ⟨10, c, low, T, D, rfl, .inl ⟨hT, rfl, rfl⟩, Nat.le_refl _, h, Kp.refl _ _⟩
  | some b =>
    obtain ⟨k, rfl⟩ := Int.eq_ofNat_of_zero_le (h1'.bd i b hT).1
    have hc1 := h1'.count hT
    obtain ⟨c', rfl⟩ : ∃ c', c = c' + 1 := ⟨c - 1, by omega⟩
    refine (hdrop_at h1' h3 k b hT).mono ?_
    rintro e w' ⟨rfl, hp, hbl, hblk⟩
    refine ⟨0, c', _, _, _, rfl, .inr ⟨⟨b, hT⟩, rfl, rfl⟩, by omega, h.pstep h2 h3 hp hbl hblk ?_, kp_two hbl hblk⟩
    intro i b' v hT' hb' hat g hg e
    by_cases ei : i = (k : Int)
    · subst ei; rw [putT_same] at hT'; cases hT'
    · rw [putT_other T _ ei] at hT'
      obtain ⟨v2, _, h22, h23, _⟩ := h1'.mp.yes i b' hT'
      obtain ⟨v3, _, h32, h33, _⟩ := hp.mp.yes i b' (by rw [putT_other T _ ei]; exact hT')
      have e1 : v = v3 := by have := (h32 .nil).symm.trans hat; injection this with this; exact this.symm
      have e2 : D.atKey (ky i) .nil = (D.del (ky k)).atKey (ky i) .nil := (atKey_del_other (ky_ne ei) _).symm
      exact h.jp i b' v hT' hb' (e2.trans hat) g hg e
theorem St.rdrop (h : St W w p m c low N T D p' vL S) (hn : S.length ≤ 1048576) (i : Int) (h0 : -9223372036854775808 ≤ i) (h1 : i ≤ 9223372036854775807) :
    Calls Tryd.prog 12 #[.pointer (some ⟨p', 0, none⟩), .int .i64 i] w fun e w' => ∃ er vL' S', e = .returned (.int .i64 er) ∧ DropX (tS S) i er (tS S') ∧ S'.length ≤ S.length ∧ (LastOk S → LastOk S') ∧ St W w' p m c low N T D p' vL' S' ∧ Kp (fun x => x = p' ∨ vL.ownBlock = some x) w w' := by
  obtain ⟨B, h1', h2, h3⟩ := h.hr
  cases hT : tS S i with
  | none =>
    refine (refDrop6_none h1' (by omega) i h0 h1 hT).mono ?_
    rintro e w' ⟨rfl, rfl⟩
    exact ⟨10, vL, S, rfl, .inl ⟨hT, rfl, rfl⟩, Nat.le_refl _, fun h => h, h, Kp.refl _ _⟩
  | some b =>
    refine (refDrop6_some h1' hn i b hT).mono ?_
    rintro e w' ⟨vL', S', rfl, hr, hTT, hl, hlo, hk, hg⟩
    exact ⟨0, vL', S', rfl, .inr ⟨⟨b, hT⟩, rfl, hTT⟩, hl, fun _ => hlo, h.rstep h2 h3 hr hk (fun g hg' => .inl (by rw [← hg]; exact hg')), hk⟩
/-- The heap is laid down and read again. -/
theorem St.pload (h : St W w p m c low N T D p' vL S) (ht : Tab w) (hc : c ≤ 100) (hN : N ≤ 100) (v : Value) (hv : Bs w v (heapB T (idsN T N))) :
    Calls Tryd.prog 13 #[v] w fun e w' => ∃ p2 m2 D2, e = .returned (.tuple #[.pointer (some ⟨p2, 0, none⟩), .int .i64 0]) ∧ St W w' p2 m2 c 0 N T D2 p' vL S := by
  obtain ⟨B, h1, hB1, hB2⟩ := h.hp
  have hI := idsN_ids h1.bd
  have hcnt := hI.count h1.mp
  have hby : ∀ i b, T i = some b → Byt b := fun i b hb => (h1.mp.yes i b hb).choose_spec.2.2.2.1
  have hln : ∀ i b, T i = some b → b.length ≤ 65536 := fun i b hb => (h1.mp.yes i b hb).choose_spec.2.2.2.2.1
  have hL0 : ∀ i ∈ idsN T N, 0 ≤ i ∧ i < N := fun i hi => by obtain ⟨b, hb'⟩ := Option.isSome_iff_exists.1 ((hI.mem i).1 hi); exact h1.bd i b hb'
  obtain ⟨la, hR⟩ := back_res hI hln (fun i b hb => by have := h1.bd i b hb; omega) (by rw [hcnt]; omega)
  have hBy : Byt (plainH T (idsN T N) (idsN T N).length) := byt_append (byt_dig2 true _ 4) (encK_byt hby _)
  have hlen : (heapB T (idsN T N)).length ≤ 140737488351232 := by
    have h1 := encK_len (T := T) hI.rise (fun i hi => (hL0 i hi).1) (idsN T N).length (Nat.le_refl _)
    have h2 : nxt (idsN T N) (idsN T N).length ≤ 100 := by
      cases hn : (idsN T N).length with
      | zero => show (0 : Int) ≤ 100; omega
      | succ k => have := hL0 _ (getD_mem (show k < (idsN T N).length by omega)); show (idsN T N).getD k 0 + 1 ≤ 100; omega
    have h3 : (heapB T (idsN T N)).length = (encK T (idsN T N) (idsN T N).length).length + 8 := by
      unfold heapB
      rw [sealN_length, plainH, List.length_append, dig2_length]; omega
    rw [h3]
    rw [hcnt] at *
    omega
  have hun : unList (heapB T (idsN T N)) = plainH T (idsN T N) (idsN T N).length := unList_seal _
  refine (hload_at v (heapB T (idsN T N)) w hv hlen (byt_seal hBy) (by rw [hun]; exact hBy) ht (unErr_seal _) _ (by rw [hun]; exact hR)).mono ?_
  rintro e w' ⟨p2, m2, N2, D2, rfl, hN2, hp, hb, hbl⟩
  simp only at hp hbl
  rw [hcnt] at hp
  obtain ⟨B', h4, h5, h6⟩ := h.hr
  refine ⟨p2, m2, D2, rfl, ⟨w.heap.size, hp.reN N h1.bd (Nat.zero_le _) (by omega), h.bw.size, hb.size⟩, ⟨B', h4.below hb, h5, Nat.le_trans h6 hb.size⟩, ?_, h.bw.trans (hb.mono h.bw.size)⟩
  intro i b' v' hT' hb' hat g hg e
  have h7 := hbl i b' v' hT' hat g hg
  have h8 := (World.ownsRow.lt h4.row g e).2
  omega
end
end Go.Proofs.YtpkbdpbggmiolaaDoor
