/-
  The walk of Add with a closer word on memory; a heap beside another one. Conditions: as Add's.
-/
import Derived.Test.YtpkbdpbggmiolaaDoorHAdd2
namespace Go.Proofs.YtpkbdpbggmiolaaDoor
open Go.RowKit Go.Maps
set_option linter.unusedVariables false
set_option maxRecDepth 100000

set_option maxHeartbeats 2000000 in
/-- Add, and what of memory it turns: its own two blocks. -/
theorem hadd_at {w : World} {B p m c low N : Nat} {T : Int → Option (List Int)} {D : DataW Value} (h : HP w B p m c low N T D) (hB : B ≤ w.heap.size) (v : Value) (b : List Int) (hv : Bs w v b) (hby : Byt b) (hb : b.length ≤ 65536) (hc : c < 65536) (hN : N < 4294967296) :
    Calls Tryd.prog 7 #[.pointer (some ⟨p, 0, none⟩), v] w fun e w' => ∃ (k : Nat) (D' : DataW Value), e = .returned (.tuple #[.int .i64 (k : Int), .int .i64 0]) ∧ Free T k ∧ k ≤ N ∧ HP w' B p m (c + 1) (k + 1) (N + 1) (putT T k (some b)) D' ∧ Below B w w' ∧ (∀ x, x < w.heap.size → x ≠ p → x ≠ m → w'.heap[x]? = w.heap[x]?) ∧ (∀ v', D'.atKey (ky k) .nil = .held v' → ∀ g, v'.ownBlock = some g → w.heap.size ≤ g ∧ g < w'.heap.size) ∧ (∀ (i : Int) z, i ≠ k → D'.atKey (ky i) z = D.atKey (ky i) z) := by
  obtain ⟨c0, c1, f1⟩ := h.c0
  have HH : Hid (HP w B p m c low N T D) := h
  have HM : Hid (w.ownsMap Tryd.prog 3 Rv m c D) := h.mp.map
  have HZ : Hid (Maps.size D = c) := h.mp.sz
  have HFR : Hid _ := hfree_any h
  have HOW : Hid _ := hown_any v b w.drew ⟨hv.choose, hv.choose_spec⟩ (by omega)
  have HBY : Hid (Byt b) := hby
  have HLN : Hid (b.length ≤ 65536) := hb
  obtain ⟨ao, cap, rfl, hcap, _⟩ := hv
  obtain ⟨n, HNN⟩ : ∃ n, Hid (b.length = n) := ⟨_, rfl⟩
  rw [HNN.out] at hcap hb HOW ⊢
  obtain ⟨cI, hcI, hcc⟩ : ∃ cI : Int, (c : Int) = cI ∧ decide ((65536 : Int) ≤ cI) = false := ⟨_, rfl, by simp; omega⟩
  have HCI : Hid ((c : Int) = cI) := hcI
  have hnn : ¬ (65536 : Int) < (n : Int) := by omega
  clear hcI
  have HCC : Hid (c < 65536) := hc
  have HNX : Hid (N < 4294967296) := hN
  clear h hby hc hN hb hcap
  go_enter Tryd.func7, Tryd.ntmps7
  go_upto_region 5 with (go_at_call 20; refine (hNone_any p m w c0).mono ?_; rintro e w1 ⟨rfl, hw1⟩; obtain rfl := hw1.symm)
  go_wp2_with (first | (at_len; refine wpList_len_own _ rfl _ 57 rfl 3 29 Tryd.underlying57 Rv m c D rfl HM.out ?_; rw [HZ.out, HCI.out]) | (go_at_call 21; refine Calls.mono HFR.out ?_; rintro e w1 ⟨k, rfl, hfk, hkN, hw1⟩; obtain rfl := hw1.symm; have HFK : Hid (Free T k) := hfk; clear hfk))
  have HST : Hid (∀ (w2 : World) (ao2 : Option Addr) (cap2 : Nat), Below w.heap.size w w2 → Own w2 w.heap.size (.slice ao2 n cap2) b → ∃ w3, (Instr.mapUpdate 57 (.map (some m)) (.int .i64 (k : Int)) (.slice ao2 n cap2)).run Tryd.prog w2 = .ok () w3 ∧ MP w3 m (c + 1) (putT T k (some b)) (D.put (ky k) (.held (.slice ao2 n cap2))) ∧ w2.grownBy w3 (some m)) := fun w2 ao2 cap2 hb2 ho2 => by
    have hp2 := HH.out.below hb2
    have hk := HH.out.hN
    obtain ⟨w3, hr, h1, h2⟩ := hp2.mp.map.store Tryd.keyed Tryd.underlying57 (by have := HCC.out; unfold maxLen; omega) (key_mk (i := (k : Int)) (by omega) (by omega)) (show Rv (.slice ao2 n cap2) = some (.held (.slice ao2 n cap2), []) from rfl)
    refine ⟨w3, hr, hp2.mp.put k _ b HFK.out.1 ho2.bs HBY.out HLN.out (fun g hg e => ?_) h1 h2, h2.grown⟩
    have h3 := (World.ownsRow.lt ho2 g hg).1
    have h4 := HH.out.mp.map.lt
    omega
  have HPM : Hid (p ≠ m ∧ p < w.heap.size) := ⟨fun e => HH.out.ne e.symm, (Array.getElem?_eq_some_iff.1 HH.out.cells).1⟩
  clear c1 f1 hcc hnn
  go_region_with (go_at_call 22; refine Calls.mono HOW.out ?_; rintro e w2 ⟨ao2, cap2, rfl, ho2, hb2'⟩; have hb2 : Below w.heap.size w w2 := below_undrew hb2'; obtain ⟨w3, hr3, hm3, hg3⟩ := HST.out w2 ao2 cap2 hb2 ho2; have c02 : w2.cell? ⟨p, 0, none⟩ = some (.map (some m)) := cell_later hb2 c0; have HM3 : Hid (MP w3 m (c + 1) (putT T k (some b)) (D.put (ky k) (.held (.slice ao2 n cap2)))) := hm3; have HG3 : Hid (w2.grownBy w3 (some m)) := hg3; have HB2 : Hid (Below w.heap.size w w2) := hb2; have HO2 : Hid (Own w2 w.heap.size (.slice ao2 n cap2) b) := ho2; have c03 : w3.cell? ⟨p, 0, none⟩ = some (.map (some m)) := (World.cell?_of_block (w := w2) (a := ⟨p, 0, none⟩) (HG3.out.block p (Nat.lt_of_lt_of_le HPM.out.2 HB2.out.size) (fun e => HPM.out.1 (Option.some.inj e)))).trans c02; clear hm3 hg3 hb2 hb2' ho2)
  all_goals
    have HC3 : Hid (w3.heap[p]? = some (.cells #[.map (some m), .int .i64 (low : Int)] 59 (0, 0))) := (HG3.out.block p (Nat.lt_of_lt_of_le HPM.out.2 HB2.out.size) (fun e => HPM.out.1 (Option.some.inj e))).trans ((HB2.out.block p HPM.out.2).trans HH.out.cells)
    have d1 : w3.cell? ⟨p, 1, none⟩ = some (.int .i64 (low : Int)) := by simp [World.cell?, HC3.out]
    have f1 : w3.frozen? ⟨p, 1, none⟩ = false := by simp [World.frozen?, HC3.out]
    clear hr3
    have hk1 : IntKind.i64.wrap ((k : Int) + 1) = (k : Int) + 1 := by have := HNX.out; simp [IntKind.wrap, IntKind.bits, IntKind.signed]; omega
    go_wp2
    go_ret2
    have HAP : Hid (∀ i b' v, putT T k (some b) i = some b' → (D.put (ky k) (.held (.slice ao2 n cap2))).atKey (ky i) .nil = .held v → ∀ g, v.ownBlock = some g → g ≠ p) := fun i b' v hi hat g hg => by
      by_cases e : i = k
      · subst e
        rw [atKey_put_same HH.out.mp.map.isMap (ky_key _)] at hat
        injection hat with hat
        subst hat
        have h3 := (World.ownsRow.lt HO2.out g hg).1
        have h4 := HPM.out.2
        omega
      · rw [putT_other T _ e] at hi
        rw [atKey_put_other (ky_ne e)] at hat
        exact HH.out.apart i b' v hi hat g hg
    have hgs : w3.grownBy (w3.setCell ⟨p, 1, none⟩ (.int .i64 ((k : Int) + 1))) (some p) := ⟨rfl, rfl, rfl, by simp [World.setCell], fun q hq hne => Below.heap_setCell _ _ _ _ (fun e => hne (by rw [e]))⟩
    refine ⟨k, _, rfl, HFK.out, hkN, ⟨?_, HM3.out.kept hgs (fun e => HPM.out.1 (Option.some.inj e)) (fun i b' v hi hat g hg e => HAP.out i b' v hi hat g hg (Option.some.inj e).symm), HH.out.bp, HH.out.bm, HH.out.ne, HAP.out, ?_, ?_, ?_, by omega⟩, ?_, ?_, ?_, ?_⟩
    · rw [heap_setCell_same w3 p 1 _ _ _ HC3.out]
      simp
    · intro i hi
      by_cases e : i = k
      · subst e; exact ⟨b, putT_same _ _ _⟩
      · obtain ⟨b', hb'⟩ := HFK.out.2 i (by omega)
        exact ⟨b', by rw [putT_other T _ (by omega)]; exact hb'⟩
    · intro i b' hi
      by_cases e : i = k
      · subst e; omega
      · rw [putT_other T _ e] at hi
        have := HH.out.bd i b' hi
        omega
    · have := HNX.out; omega
    · have h1 : Below B w w2 := HB2.out.mono hB
      have h2 : Below B w w3 := h1.grown HG3.out (Nat.le_trans hB HB2.out.size) (fun j hj => by cases hj; exact HH.out.bm)
      exact h2.setCell HH.out.bp _
    · intro x hx hxp hxm
      exact (Below.heap_setCell _ _ _ _ (fun e => hxp e)).trans ((HG3.out.block x (Nat.lt_of_lt_of_le hx HB2.out.size) (fun e => hxm (Option.some.inj e))).trans (HB2.out.block x hx))
    · intro v' hat g hg
      rw [atKey_put_same HH.out.mp.map.isMap (ky_key _)] at hat
      injection hat with hat
      subst hat
      have h3 := World.ownsRow.lt HO2.out g hg
      have h4 := HG3.out.size
      exact ⟨h3.1, by simp [World.setCell]; omega⟩
    · intro i z hi
      exact atKey_put_other (ky_ne hi) _ _

/-- A byte lies in no block of a heap's own. -/
theorem HP.off {w : World} {B p m c low N : Nat} {T : Int → Option (List Int)} {D : DataW Value} (h : HP w B p m c low N T D) {a : Addr} {x : Int} (hc : w.cell? a = some (.int .u8 x)) : a.block ≠ p ∧ a.block ≠ m := by
  refine ⟨fun e => ?_, fun e => ?_⟩
  · have h1 := h.cells
    obtain ⟨g, o, sp⟩ := a
    simp only at e
    subst e
    have hsp : sp = none := World.cell?_spot hc
    subst hsp
    simp only [World.cell?, h1] at hc
    match o, hc with
    | 0, hc => simp at hc
    | 1, hc => simp at hc
    | o + 2, hc => simp at hc
  · obtain ⟨es, clock, hb, _⟩ := h.mp.map
    obtain ⟨g, o, sp⟩ := a
    simp only at e
    subst e
    have hsp : sp = none := World.cell?_spot hc
    subst hsp
    simp [World.cell?, hb] at hc
/-- What turns the two blocks of a heap alone leaves another heap as it was. -/
theorem HP.beside {w w' : World} {B p m c low N B' p' m' c' low' N' : Nat} {T T' : Int → Option (List Int)} {D D' : DataW Value} (h : HP w B p m c low N T D) (h' : HP w B' p' m' c' low' N' T' D') (hpp : p ≠ p' ∧ m ≠ m') (hk : ∀ x, x < w.heap.size → x ≠ p' → x ≠ m' → w'.heap[x]? = w.heap[x]?) : HP w' B p m c low N T D := by
  have hpm : p ≠ m' := fun e => by
    obtain ⟨es, clock, hb, _⟩ := h'.mp.map
    rw [← e, h.cells] at hb; cases hb
  have hmp : m ≠ p' := fun e => by
    obtain ⟨es, clock, hb, _⟩ := h.mp.map
    rw [e, h'.cells] at hb; cases hb
  refine ⟨(hk p (Array.getElem?_eq_some_iff.1 h.cells).1 hpp.1 hpm).trans h.cells, ⟨?_, h.mp.sz, fun i b hi => ?_, h.mp.no⟩, h.bp, h.bm, h.ne, h.apart, h.lowf, h.bd, h.hN, h.hlow⟩
  · have hlt := h.mp.map.lt
    obtain ⟨es, clock, hb, r⟩ := h.mp.map
    exact ⟨es, clock, (hk m hlt hmp hpp.2).trans hb, r⟩
  · obtain ⟨v, h1, h2, h3, h4, h5, h6⟩ := h.mp.yes i b hi
    refine ⟨v, h1, h2, ?_, h4, h5, h6⟩
    obtain ⟨ao, cap, rfl, hcap, hnil, hcell⟩ := h3
    refine ⟨ao, cap, rfl, hcap, hnil, fun ad hd j hj => ?_⟩
    have h7 := hcell ad hd j hj
    have hof := h'.off h7
    exact (World.cell?_of_block (hk _ (World.block_lt_of_cell? w _ h7) hof.1 hof.2)).trans h7
end Go.Proofs.YtpkbdpbggmiolaaDoor
