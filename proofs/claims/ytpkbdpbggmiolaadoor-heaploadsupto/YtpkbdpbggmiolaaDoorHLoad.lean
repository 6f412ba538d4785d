/-
  The walk of Load, all ways. Conditions: bytes are bytes, lengths such as memory bears, the table of check stands.
-/
import Derived.Test.YtpkbdpbggmiolaaDoorHThings2
namespace Go.Proofs.YtpkbdpbggmiolaaDoor
open Go.RowKit Go.Maps
set_option linter.unusedVariables false
set_option maxRecDepth 100000

theorem thRes_facts {l : List Int} (hby : Byt l) {s : ThS} (h : thRes l = some s) : ∃ N : Nat, N < 4294967296 ∧ (getNum l 0 4 true = (N : Int)) ∧ (∀ i b, s.T i = some b → 0 ≤ i ∧ i < N) ∧ s.c ≤ 65536 ∧ s.la = (N : Int) - 1 ∧ s.p = l.length ∧ thK l N = some s ∧ getErr l.length 0 4 = 0 := by
  unfold thRes at h
  split at h
  · rename_i hE
    have hnb : 0 ≤ getNum l 0 4 true ∧ getNum l 0 4 true < 4294967296 := by
      have h1 := getNum_bounds hby 0 4 true
      refine ⟨h1.1, ?_⟩
      unfold getNum
      rw [if_pos hE]
      have hle : ((l.drop (0 : Int).toNat).take (4 : Int).toNat).length ≤ 4 := by simp; omega
      have h4 := num_bounds (byt_reverse (byt_take hby (0 : Int).toNat (4 : Int).toNat)) ((l.drop (0 : Int).toNat).take (4 : Int).toNat).length
      have h5 : (256 : Int) ^ ((l.drop (0 : Int).toNat).take (4 : Int).toNat).length ≤ 4294967296 := by
        generalize ((l.drop (0 : Int).toNat).take (4 : Int).toNat).length = j at hle
        rcases (by omega : j = 0 ∨ j = 1 ∨ j = 2 ∨ j = 3 ∨ j = 4) with rfl | rfl | rfl | rfl | rfl <;> decide
      show num _ _ < _
      exact Int.lt_of_lt_of_le h4.2 h5
    obtain ⟨u, hu⟩ := Int.eq_ofNat_of_zero_le hnb.1
    rw [hu, Int.toNat_natCast] at h
    cases hk : thK l u with
    | none => rw [hk] at h; cases h
    | some s0 =>
      rw [hk] at h
      simp only at h
      split at h
      · rename_i hc
        obtain rfl := Option.some.inj h
        obtain ⟨h1, h2, _, _, _⟩ := thK_facts hby u s0 hk
        exact ⟨u, by omega, hu, h1, h2, hc.2, hc.1, hk, hE⟩
      · cases h
  · cases h
theorem hload_seal (v : Value) (l : List Int) (w : World) (hl : Bs w v l) (hb : l.length ≤ 140737488351232) (hby : Byt l) (ht : Tab w) (hu : unErr l ≠ 0) :
    Calls Tryd.prog 13 #[v] w fun e w' => e = .returned (.tuple #[.pointer none, .int .i64 (unErr l)]) ∧ Below w.heap.size w w' := by
  have HU : Hid _ := unseal_any v l w hl (by omega) hby ht
  obtain ⟨er, HER⟩ : ∃ er, Hid (unErr l = er) := ⟨_, rfl⟩
  rw [HER.out] at HU hu ⊢
  have h3 : (er == 0) = false := by simpa using hu
  obtain ⟨ao, cap, rfl, hc, hn, hcell⟩ := hl
  clear hcell hn hby ht hu
  go_enter Tryd.func13, Tryd.ntmps13
  go_wp2_with (go_at_call 25; refine Calls.mono HU.out ?_; rintro e w1 ⟨x1, rfl, ho1, hb1⟩; have HB1 : Hid (Below w.heap.size w w1) := hb1; clear ho1 hb1)
  go_ret2
  exact ⟨rfl, HB1.out⟩
theorem unList_len (l : List Int) : (unList l).length ≤ l.length := by
  unfold unList
  split
  · simp
  · simp
theorem hload_none (v : Value) (l : List Int) (w : World) (hl : Bs w v l) (hb : l.length ≤ 140737488351232) (hby : Byt l) (hbu : Byt (unList l)) (ht : Tab w) (hu : unErr l = 0) (hR : thRes (unList l) = none) :
    Calls Tryd.prog 13 #[v] w fun e w' => e = .returned (.tuple #[.pointer none, .int .i64 5]) ∧ Below w.heap.size w w' := by
  have HU : Hid _ := unseal_any v l w hl (by omega) hby ht
  rw [hu] at HU
  have HLU : Hid ((unList l).length ≤ 140737488351232) := Nat.le_trans (unList_len l) hb
  have HBU : Hid (Byt (unList l)) := hbu
  have HR : Hid (thRes (unList l) = none) := hR
  obtain ⟨ao, cap, rfl, hc, hn, hcell⟩ := hl
  clear hcell hn hby ht hu hbu hR
  go_enter Tryd.func13, Tryd.ntmps13
  go_wp2_with (first
    | (go_at_call 25; refine Calls.mono HU.out ?_; rintro e w1 ⟨x1, rfl, ho1, hb1⟩; have HS1 : Hid (Bs w1 x1 (unList l)) := ho1.bs; have HB1 : Hid (Below w.heap.size w w1) := hb1; clear ho1 hb1)
    | (go_at_call 26; refine (things_any _ (unList l) _ HS1.out HLU.out HBU.out).mono ?_; rintro e w2 ⟨h2, _, hb2⟩; obtain rfl := h2 HR.out; have HB2 : Hid (Below w.heap.size w w2) := HB1.out.trans (hb2.mono HB1.out.size); clear h2 hb2))
  go_ret2
  exact ⟨rfl, HB2.out⟩
theorem hload_at (v : Value) (l : List Int) (w : World) (hl : Bs w v l) (hb : l.length ≤ 140737488351232) (hby : Byt l) (hbu : Byt (unList l)) (ht : Tab w) (hu : unErr l = 0) (s : ThS) (hR : thRes (unList l) = some s) :
    Calls Tryd.prog 13 #[v] w fun e w' => ∃ (p m N : Nat) (D : DataW Value), e = .returned (.tuple #[.pointer (some ⟨p, 0, none⟩), .int .i64 0]) ∧ getNum (unList l) 0 4 true = (N : Int) ∧ HP w' w.heap.size p m s.c 0 N s.T D ∧ Below w.heap.size w w' ∧ (∀ i b v, s.T i = some b → D.atKey (ky i) .nil = .held v → ∀ g, v.ownBlock = some g → w.heap.size ≤ g) := by
  have HU : Hid _ := unseal_any v l w hl (by omega) hby ht
  rw [hu] at HU
  have HLU : Hid ((unList l).length ≤ 140737488351232) := Nat.le_trans (unList_len l) hb
  have HBU : Hid (Byt (unList l)) := hbu
  have HR : Hid (thRes (unList l) = some s) := hR
  have HFA : Hid _ := thRes_facts hbu hR
  obtain ⟨ao, cap, rfl, hc, hn, hcell⟩ := hl
  clear hcell hn hby ht hu hbu hR
  go_enter Tryd.func13, Tryd.ntmps13
  go_wp2_with (first
    | (go_at_call 25; refine Calls.mono HU.out ?_; rintro e w1 ⟨x1, rfl, ho1, hb1⟩; have HS1 : Hid (Bs w1 x1 (unList l)) := ho1.bs; have HB1 : Hid (Below w.heap.size w w1) := hb1; clear ho1 hb1)
    | (go_at_call 26; refine (things_any _ (unList l) _ HS1.out HLU.out HBU.out).mono ?_; rintro e w2 ⟨_, h2, hb2⟩; obtain ⟨m, D, rfl, hm, hmp, hin⟩ := h2 s HR.out; have HM2 : Hid (MP w2 m s.c s.T D) := hmp; have HI2 : Hid (Inm w1.heap.size w2 s.T D) := hin; have Hm2 : Hid (w1.heap.size ≤ m) := hm; have HB2 : Hid (Below w.heap.size w w2) := HB1.out.trans (hb2.mono HB1.out.size); clear h2 hb2 hm hmp hin))
  go_ret2
  obtain ⟨N, hN, hu, hbd, hc65, _⟩ := HFA.out
  have hmw := HM2.out.map.lt
  refine ⟨_, m, N, D, rfl, hu, ?_, HB2.out.alloc HB2.out.size _, fun i b v h1 h2 g h3 => Nat.le_trans HB1.out.size (HI2.out i b v h1 h2 g h3).1⟩
  exact ⟨heap_alloc_new w2 _, HM2.out.below ((Below.refl _ _).alloc (Nat.le_refl _) _), HB2.out.size, Nat.le_trans HB1.out.size Hm2.out, by omega, (fun i b v h1 h2 g h3 e => by have := HI2.out i b v h1 h2 g h3; omega), (fun i hi => by omega), hbd, by omega, Nat.zero_le _⟩
theorem hload_yes (v : Value) (l : List Int) (w : World) (hl : Bs w v l) (hb : l.length ≤ 140737488351232) (hby : Byt l) (hbu : Byt (unList l)) (ht : Tab w) (hu : unErr l = 0) (s : ThS) (hR : thRes (unList l) = some s) :
    Calls Tryd.prog 13 #[v] w fun e w' => ∃ (p m N : Nat) (D : DataW Value), e = .returned (.tuple #[.pointer (some ⟨p, 0, none⟩), .int .i64 0]) ∧ getNum (unList l) 0 4 true = (N : Int) ∧ HP w' w.heap.size p m s.c 0 N s.T D ∧ Below w.heap.size w w' :=
  (hload_at v l w hl hb hby hbu ht hu s hR).mono fun e w' ⟨p, m, N, D, h1, h2, h3, h4, _⟩ => ⟨p, m, N, D, h1, h2, h3, h4⟩
end Go.Proofs.YtpkbdpbggmiolaaDoor
