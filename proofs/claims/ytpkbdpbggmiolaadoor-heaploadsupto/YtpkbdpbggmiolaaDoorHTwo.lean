/-
  Two heaps beside each other that have the same things: Add to both. Conditions: as Add's.
-/
import Derived.Test.YtpkbdpbggmiolaaDoorHAddAt
import Derived.Test.YtpkbdpbggmiolaaDoorHFill
import Derived.Test.YtpkbdpbggmiolaaDoorHBackMath
import Derived.Test.YtpkbdpbggmiolaaDoorTold
namespace Go.Proofs.YtpkbdpbggmiolaaDoor
open Go.RowKit Go.Maps
set_option linter.unusedVariables false
set_option maxRecDepth 100000

theorem HP.reN {w : World} {B p m c low N : Nat} {T : Int → Option (List Int)} {D : DataW Value} (h : HP w B p m c low N T D) (N' : Nat) (h1 : ∀ i b, T i = some b → 0 ≤ i ∧ i < N') (h2 : low ≤ N') (h3 : N' ≤ 4294967296) : HP w B p m c low N' T D :=
  ⟨h.cells, h.mp, h.bp, h.bm, h.ne, h.apart, h.lowf, h1, h3, h2⟩
theorem free_one {T : Int → Option (List Int)} {j k : Nat} (h1 : Free T j) (h2 : Free T k) : j = k := by
  rcases Nat.lt_trichotomy j k with h | h | h
  · obtain ⟨b, hb⟩ := h2.2 j h; rw [h1.1] at hb; cases hb
  · exact h
  · obtain ⟨b, hb⟩ := h1.2 k h; rw [h2.1] at hb; cases hb
/-- Two heaps, the first with the things T1, the second with T2. -/
structure Two (W w : World) (p m p' m' c1 c2 K1 K2 : Nat) (T1 T2 : Int → Option (List Int)) : Prop where
  ex : ∃ B B' low low' D D', HP w B p m c1 low K1 T1 D ∧ HP w B' p' m' c2 low' K2 T2 D' ∧ (p ≠ p' ∧ m ≠ m') ∧ W.heap.size ≤ B ∧ W.heap.size ≤ B' ∧ B ≤ w.heap.size ∧ B' ≤ w.heap.size
theorem Two.below {W w w' : World} {p m p' m' c1 c2 K1 K2 : Nat} {T1 T2 : Int → Option (List Int)} (h : Two W w p m p' m' c1 c2 K1 K2 T1 T2) (hb : Below w.heap.size w w') : Two W w' p m p' m' c1 c2 K1 K2 T1 T2 := by
  obtain ⟨B, B', low, low', D, D', h1, h2, h3, h5, h6, h7, h8⟩ := h.ex
  exact ⟨B, B', low, low', D, D', h1.below hb, h2.below hb, h3, h5, h6, Nat.le_trans h7 hb.size, Nat.le_trans h8 hb.size⟩
theorem Two.swap {W w : World} {p m p' m' c1 c2 K1 K2 : Nat} {T1 T2 : Int → Option (List Int)} (h : Two W w p m p' m' c1 c2 K1 K2 T1 T2) : Two W w p' m' p m c2 c1 K2 K1 T2 T1 := by
  obtain ⟨B, B', low, low', D, D', h1, h2, h3, h5, h6, h7, h8⟩ := h.ex
  exact ⟨B', B, low', low, D', D, h2, h1, ⟨h3.1.symm, h3.2.symm⟩, h6, h5, h8, h7⟩
/-- What Add answers and leaves. -/
def AddR (T : Int → Option (List Int)) (b : List Int) (x er : Int) (c : Nat) (T' : Int → Option (List Int)) (c' : Nat) : Prop :=
  (b.length ≤ 65536 ∧ ∃ k : Nat, Free T k ∧ x = (k : Int) ∧ er = 0 ∧ T' = putT T k (some b) ∧ c' = c + 1) ∨ (65536 < b.length ∧ x = 0 ∧ er = 3 ∧ T' = T ∧ c' = c)
theorem AddR.same {T T1 T2 : Int → Option (List Int)} {b : List Int} {x1 x2 e1 e2 : Int} {c c1 c2 : Nat} (h1 : AddR T b x1 e1 c T1 c1) (h2 : AddR T b x2 e2 c T2 c2) : x1 = x2 ∧ e1 = e2 ∧ T1 = T2 ∧ c1 = c2 := by
  rcases h1 with ⟨hb, k, hf, rfl, rfl, rfl, rfl⟩ | ⟨hb, rfl, rfl, rfl, rfl⟩ <;> rcases h2 with ⟨hb2, k2, hf2, rfl, rfl, rfl, rfl⟩ | ⟨hb2, rfl, rfl, rfl, rfl⟩
  · obtain rfl := free_one hf hf2; exact ⟨rfl, rfl, rfl, rfl⟩
  · omega
  · omega
  · exact ⟨rfl, rfl, rfl, rfl⟩
theorem two_add {W w : World} {p m p' m' c1 c2 K1 K2 : Nat} {T1 T2 : Int → Option (List Int)} (h : Two W w p m p' m' c1 c2 K1 K2 T1 T2) (hW : Below W.heap.size W w) (u : Value) (b : List Int) (hu : Bs w u b) (hy : Byt b) (hc : c1 < 65536) (hK : K1 < 4294967295) :
    Calls Tryd.prog 7 #[.pointer (some ⟨p, 0, none⟩), u] w fun e w' => ∃ x er T' c', e = .returned (.tuple #[.int .i64 x, .int .i64 er]) ∧ AddR T1 b x er c1 T' c' ∧ c' ≤ c1 + 1 ∧ Two W w' p m p' m' c' c2 (K1 + 1) K2 T' T2 ∧ Below W.heap.size W w' := by
  obtain ⟨B, B', low, low', D, D', h1, h2, h3, h5, h6, h7, h8⟩ := h.ex
  by_cases hb : b.length ≤ 65536
  · refine (hadd_at h1 h7 u b hu hy hb hc (by omega)).mono ?_
    rintro e w' ⟨k, D1, rfl, hF, hk, hp, hbl, hblk, hnew, hold⟩
    have hsz := hbl.size
    exact ⟨_, _, _, _, rfl, .inl ⟨hb, k, hF, rfl, rfl, rfl, rfl⟩, Nat.le_refl _, ⟨B, B', _, low', D1, D', hp, h2.beside h1 ⟨h3.1.symm, h3.2.symm⟩ hblk, h3, h5, h6, Nat.le_trans h7 hsz, Nat.le_trans h8 hsz⟩, hW.trans (hbl.mono h5)⟩
  · obtain ⟨ao, cap, rfl, hcap, hn, hcell⟩ := hu
    refine (hadd_big (.slice ao b.length cap) p m ao b.length cap w h1.c0.1 (by omega)).mono ?_
    rintro e w' ⟨rfl, rfl⟩
    refine ⟨0, 3, T1, c1, rfl, .inr ⟨by omega, rfl, rfl, rfl, rfl⟩, by omega, ⟨B, B', low, low', D, D', h1.reN (K1 + 1) (fun i b hi => by have := h1.bd i b hi; omega) (by have := h1.hlow; omega) (by omega), h2, h3, h5, h6, h7, h8⟩, hW⟩
/-- All numbers of a heap, rising. -/
def idsN (T : Int → Option (List Int)) (N : Nat) : List Int := ((List.range N).map (fun i : Nat => (i : Int))).filter (fun i => (T i).isSome)
theorem idsN_ids {T : Int → Option (List Int)} {N : Nat} (h : ∀ i b, T i = some b → 0 ≤ i ∧ i < N) : Ids T (idsN T N) := by
  refine ⟨?_, fun i => ?_⟩
  · unfold idsN
    refine List.Pairwise.filter _ ?_
    rw [List.pairwise_map]
    exact List.pairwise_lt_range.imp (fun h => by omega)
  · unfold idsN
    rw [List.mem_filter, List.mem_map]
    constructor
    · exact fun h => h.2
    · intro hs
      obtain ⟨b, hb⟩ := Option.isSome_iff_exists.1 hs
      have := h i b hb
      exact ⟨⟨i.toNat, by rw [List.mem_range]; omega, by omega⟩, hs⟩
/-- A heap, and the one that its bytes are read as. -/
theorem two_load {W w : World} {p m c low N : Nat} {T : Int → Option (List Int)} {D : DataW Value} (h : HP w W.heap.size p m c low N T D) (hW : Below W.heap.size W w) (ht : Tab w) (hc : c ≤ 100) (hN : N ≤ 100) (v : Value) (hv : Bs w v (heapB T (idsN T N))) :
    Calls Tryd.prog 13 #[v] w fun e w' => ∃ p' m', e = .returned (.tuple #[.pointer (some ⟨p', 0, none⟩), .int .i64 0]) ∧ Two W w' p m p' m' c c N N T T ∧ Below W.heap.size W w' := by
  have hI := idsN_ids h.bd
  have hcnt := hI.count h.mp
  have hby : ∀ i b, T i = some b → Byt b := fun i b hb => (h.mp.yes i b hb).choose_spec.2.2.2.1
  have hln : ∀ i b, T i = some b → b.length ≤ 65536 := fun i b hb => (h.mp.yes i b hb).choose_spec.2.2.2.2.1
  have hL0 : ∀ i ∈ idsN T N, 0 ≤ i ∧ i < N := fun i hi => by obtain ⟨b, hb'⟩ := Option.isSome_iff_exists.1 ((hI.mem i).1 hi); exact h.bd i b hb'
  obtain ⟨la, hR⟩ := back_res hI hln (fun i b hb => by have := h.bd i b hb; omega) (by rw [hcnt]; omega)
  have hB : Byt (plainH T (idsN T N) (idsN T N).length) := byt_append (byt_dig2 true _ 4) (encK_byt hby _)
  have hlen : (heapB T (idsN T N)).length ≤ 140737488351232 := by
    have h1 := encK_len (T := T) hI.rise (fun i hi => (hL0 i hi).1) (idsN T N).length (Nat.le_refl _)
    have h2 : nxt (idsN T N) (idsN T N).length ≤ 100 := by
      cases hn : (idsN T N).length with
      | zero => show (0 : Int) ≤ 100; omega
      | succ k => have := hL0 _ (getD_mem (show k < (idsN T N).length by omega)); show (idsN T N).getD k 0 + 1 ≤ 100; omega
    have h3 : (heapB T (idsN T N)).length = (encK T (idsN T N) (idsN T N).length).length + 8 := by
      unfold heapB
      rw [sealN_length, plainH, List.length_append, dig2_length]; omega
    rw [h3]
    rw [hcnt] at *
    omega
  have hun : unList (heapB T (idsN T N)) = plainH T (idsN T N) (idsN T N).length := unList_seal _
  refine (hload_yes v (heapB T (idsN T N)) w hv hlen (byt_seal hB) (by rw [hun]; exact hB) ht (unErr_seal _) _ (by rw [hun]; exact hR)).mono ?_
  rintro e w' ⟨p', m', N', D', rfl, hN', hp, hb⟩
  simp only at hp
  rw [hcnt] at hp
  have hpl := (Array.getElem?_eq_some_iff.1 h.cells).1
  have hml := h.mp.map.lt
  refine ⟨p', m', rfl, ⟨_, _, low, 0, D, D', h.below hb, hp.reN N h.bd (Nat.zero_le _) (by omega), ⟨by have := hp.bp; omega, by have := hp.bm; omega⟩, Nat.le_refl _, hW.size, Nat.le_trans hW.size hb.size, hb.size⟩, hW.trans (hb.mono hW.size)⟩
end Go.Proofs.YtpkbdpbggmiolaaDoor
