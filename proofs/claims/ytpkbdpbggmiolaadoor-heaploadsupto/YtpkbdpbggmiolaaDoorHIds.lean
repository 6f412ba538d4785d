/-
  The walk of Ids: the numbers, rising. Conditions: at most 65536 things.
-/
import Derived.Test.YtpkbdpbggmiolaaDoorHDrop
import Derived.Test.YtpkbdpbggmiolaaDoorKeys
namespace Go.Proofs.YtpkbdpbggmiolaaDoor
open Go.RowKit Go.Maps Go.Sort Go.Shelf
set_option linter.unusedVariables false
set_option maxRecDepth 100000

/-- slices.Sort's two contracts at this program, at the fence that asks nothing. -/
theorem Tryd.sortsA (m : Nat) : AnyZI.SortsIn Tryd.prog Tryd.sortedA_ren Fence.wide m :=
  ⟨fun blk off cap ss W hH hblk hsz => callsIn_wide.2 (AnyM.slices_Sort_int Tryd.sortA blk off cap ss W hH hblk hsz),
   fun p cap W => callsIn_wide.2 (AnyM.slices_Sort_int_none Tryd.sortA p cap W)⟩

/-- All numbers that have a thing, rising. -/
structure Ids (T : Int → Option (List Int)) (L : List Int) : Prop where
  rise : L.Pairwise (· < ·)
  mem : ∀ i, i ∈ L ↔ (T i).isSome = true
theorem Ids.nodup {T : Int → Option (List Int)} {L : List Int} (h : Ids T L) : L.Nodup := h.rise.imp (fun h => Int.ne_of_lt h)
theorem sorted_self {L : List Int} (h : L.Pairwise (· < ·)) : L.mergeSort leI = L := by
  have tr : ∀ a b c : Int, leI a b = true → leI b c = true → leI a c = true := fun a b c h1 h2 => by simp only [leI, decide_eq_true_eq] at *; exact Int.le_trans h1 h2
  have tot : ∀ a b : Int, (leI a b || leI b a) = true := fun a b => by simp only [leI, Bool.or_eq_true, decide_eq_true_eq]; exact Int.le_total a b
  refine List.Perm.eq_of_pairwise (le := fun a b => leI a b = true) (fun a b _ _ h1 h2 => ?_) (List.pairwise_mergeSort tr tot L) (h.imp (fun h => by simp only [leI, decide_eq_true_eq]; omega)) (List.mergeSort_perm L leI)
  simp only [leI, decide_eq_true_eq] at h1 h2
  exact Int.le_antisymm h1 h2
theorem Ids.perm {w : World} {m c : Nat} {T : Int → Option (List Int)} {D : DataW Value} {L : List Int} (hL : Ids T L) (h : MP w m c T D) : L.Perm (intKeys D) := by
  have hown := h.map
  obtain ⟨es, hD, hpw, _⟩ := hown.entries Tryd.keyed
  obtain ⟨es', hD', hko⟩ := hown.keysOf
  obtain rfl : es = es' := by rw [hD] at hD'; simpa using hD'
  subst hD
  refine perm_intKeys hpw (fun p hp => by obtain ⟨v, hv⟩ := hko p hp; obtain ⟨x, _, hx, _⟩ := Maps.keyOf_i64 Tryd.underlying3 hv; exact ⟨x, hx⟩) hL.nodup (fun x => ?_)
  rw [hL.mem x]
  cases hx : T x with
  | none => have := h.no x hx; unfold ky at this; rw [this]; simp
  | some b => obtain ⟨v, hv, _⟩ := h.yes x b hx; unfold ky at hv; rw [hv]; simp
theorem Ids.count {w : World} {m c : Nat} {T : Int → Option (List Int)} {D : DataW Value} {L : List Int} (hL : Ids T L) (h : MP w m c T D) : L.length = c := by
  rw [(hL.perm h).length_eq, ← h.sz]
  obtain ⟨es, rfl⟩ := h.map.isMap
  simp [intKeys, Maps.size]

set_option maxHeartbeats 1000000 in
theorem hids_any {w : World} {B p m c low N : Nat} {T : Int → Option (List Int)} {D : DataW Value} (h : HP w B p m c low N T D) (hc : c ≤ 65536) (L : List Int) (hL : Ids T L) :
    Calls Tryd.prog 27 #[.pointer (some ⟨p, 0, none⟩)] w fun e w' => ∃ v, e = .returned v ∧ w'.ownsRow w.heap.size 3 1 v L.length (L.map encZ) ∧ Below w.heap.size w w' := by
  refine (callsIn_wide (n := 6)).1 ?_
  obtain ⟨c0, _, _⟩ := h.c0
  have hown := h.mp.map
  have hbl := hown.lt
  have hsz := h.mp.sz
  have HPR : Hid (L.Perm (intKeys D)) := hL.perm h.mp
  have HSR : Hid (L.mergeSort leI = L) := sorted_self hL.rise
  have hseq : SeqGives Fence.wide 2 Tryd.prog 57 #[.pointer (some ⟨w.heap.size, 0, none⟩)] encZ (fun ss => ss.Perm (intKeys D)) (Maps.size D) (w.alloc (.cells #[.map (some m)] 57)) :=
    AnyZI.keys_gives (ρ := Tryd.keysA_ren) { Tryd.keysA with } Fence.wide _ trivial rfl (by omega) w.heap.size m c D _ (by simp) (by simp) (by
      obtain ⟨es, clock, hb, Ft, hs, hD⟩ := hown
      exact ⟨es, clock, (Below.heap_alloc _ _ m hbl).trans hb, Ft, hs, hD⟩)
  have cK : ∀ mb W, CallsIn Fence.wide 5 Tryd.prog 41 #[.map mb] W fun e w' => e = .returned (.func (.func 57) #[] #[.pointer (some ⟨W.heap.size, 0, none⟩)]) ∧ w' = W.alloc (.cells #[.map mb] 57) := fun mb W => AnyZI.keys_in Tryd.keysA Fence.wide 5 trivial rfl mb W
  have cS := AnyZI.sorted_in Tryd.sortedA Fence.wide 5 trivial trivial trivial trivial rfl (by omega) (Tryd.sortsA _) (enters_of Tryd.func56 (by kernel_rfl) rfl) 57 #[.pointer (some ⟨w.heap.size, 0, none⟩)] trivial (enters_of Tryd.func57 (by kernel_rfl) rfl) _ _ (by unfold maxLen; omega) (by omega) _ hseq
  change CallsIn _ _ Tryd.prog 40 _ _ _ at cS
  have cN : CallsIn Fence.wide 5 Tryd.prog 20 #[.pointer (some ⟨p, 0, none⟩)] w fun e w' => e = .returned (.bool false) ∧ w' = w := callsIn_wide.2 (hNone_any p m w c0)
  have hfK : Fence.wide.fn 41 := trivial
  have hfS : Fence.wide.fn 40 := trivial
  have hfN : Fence.wide.fn 20 := trivial
  clear h hown
  refine callsIn_of_wp Tryd.func27 rfl trivial ?_ rfl
  simp only [Tryd.ntmps27, List.size_toArray, List.length_cons, List.length_nil, Nat.reduceAdd, Nat.reduceSub, Array.replicate_succ, Array.replicate_zero, List.push_toArray, List.append_toArray, List.nil_append, List.cons_append]
  gi_wp2_with (first
    | (gi_at_call 20; refine cN.mono ?_; rintro e w' ⟨rfl, hw'⟩; obtain rfl := hw'.symm)
    | (gi_at_call 41; refine (cK _ _).mono ?_; rintro e w' ⟨rfl, rfl⟩)
    | (gi_at_call 40; refine cS.mono ?_; rintro e w' ⟨v, ss, rfl, hS, hrow, hnil, hb⟩))
  go_ret
  refine ⟨v, rfl, ?_, ((Below.refl _ w).alloc (Nat.le_refl _) _).trans (hb.mono (by simp))⟩
  have e1 : ss.mergeSort (fun x y => decide (x ≤ y)) = L := (mergeSort_of_perm_i (hS.trans HPR.out.symm)).trans HSR.out
  have e2 : ss.length = L.length := (hS.trans HPR.out.symm).length_eq
  have := ownsRow_base_a hrow (show w.heap.size ≤ (w.alloc (.cells #[.map (some m)] 57)).heap.size by simp)
  rw [e1, e2] at this
  exact this
end Go.Proofs.YtpkbdpbggmiolaaDoor
