/-
  The document's heap in memory: a list of numbers behind a pointer; its Ids and Len. Conditions: lengths are such as memory bears.
-/
import Derived.Test.YtpkbdpbggmiolaaDoorGApp
import Derived.Test.YtpkbdpbggmiolaaDoorHTwo
namespace Go.Proofs.YtpkbdpbggmiolaaDoor
open Go.RowKit Go.Maps
set_option linter.unusedVariables false
set_option maxRecDepth 100000

abbrev SV := Option (List Int) × Value
def encS (s : SV) : List Value := [.bool s.1.isSome, s.2]
theorem encS_len (s : SV) : (encS s).length = 2 := rfl
/-- The document's heap: its list lies in vL. -/
structure RH (w : World) (B p : Nat) (vL : Value) (S : List SV) : Prop where
  cells : w.heap[p]? = some (.cells #[vL] 28 (0, 0))
  row : w.ownsRow B 62 2 vL S.length (gc encS S)
  good : ∀ s ∈ S, ∀ b, s.1 = some b → Bs w s.2 b ∧ Byt b ∧ b.length ≤ 65536 ∧ ∀ g, s.2.ownBlock = some g → g < w.heap.size ∧ g ≠ p ∧ vL.ownBlock ≠ some g
  one : ∀ s ∈ S, s.2.oneCell' = true
  bp : B ≤ p
  ne : vL.ownBlock ≠ some p
/-- Its things. -/
def tS (S : List SV) : Int → Option (List Int) := fun i => if 0 ≤ i then (S[i.toNat]?).bind (·.1) else none
theorem tS_nat (S : List SV) (i : Nat) : tS S (i : Int) = (S[i]?).bind (·.1) := by simp [tS]
theorem tS_bd {S : List SV} {i : Int} {b : List Int} (h : tS S i = some b) : 0 ≤ i ∧ i < S.length := by
  unfold tS at h
  split at h
  · rename_i h0
    refine ⟨h0, ?_⟩
    rcases Nat.lt_or_ge i.toNat S.length with h1 | h1
    · omega
    · rw [List.getElem?_eq_none h1] at h; cases h
  · cases h
theorem idsN_zero (T : Int → Option (List Int)) : idsN T 0 = [] := rfl
theorem idsN_succ (T : Int → Option (List Int)) (k : Nat) : idsN T (k + 1) = idsN T k ++ if (T (k : Int)).isSome then [(k : Int)] else [] := by
  unfold idsN
  rw [List.range_succ, List.map_append, List.filter_append]
  simp only [List.map_cons, List.map_nil, List.filter_cons, List.filter_nil]
theorem idsN_len (T : Int → Option (List Int)) (k : Nat) : (idsN T k).length ≤ k := by
  unfold idsN
  exact Nat.le_trans (List.length_filter_le _ _) (by simp)
/-- The cells of a number. -/
theorem RH.at {w : World} {B p : Nat} {vL : Value} {S : List SV} (h : RH w B p vL S) {i : Nat} {s : SV} (hs : S[i]? = some s) : ∃ g cap, vL = .slice (some ⟨g, 0, none⟩) S.length cap ∧ S.length ≤ cap ∧ g < w.heap.size ∧ g ≠ p ∧ w.cell? ⟨g, i * 2, none⟩ = some (.bool s.1.isSome) ∧ w.cell? ⟨g, i * 2 + 1, none⟩ = some s.2 ∧ w.frozen? ⟨g, i * 2, none⟩ = false ∧ w.frozen? ⟨g, i * 2 + 1, none⟩ = false := by
  have hi := (List.getElem?_eq_some_iff.1 hs).1
  rcases ownsRow_shape h.row with ⟨_, h0⟩ | ⟨g, cap, rfl, hB, hg, hle, hm, hf, hc⟩
  · omega
  · refine ⟨g, cap, rfl, hle, hg, fun e => h.ne (by rw [e]; rfl), ?_, ?_, hf _, hf _⟩
    · have := hc _ _ (gc_at encS_len S i s hs 0 _ rfl)
      exact this
    · exact hc _ _ (gc_at encS_len S i s hs 1 _ rfl)
theorem RH.shape {w : World} {B p : Nat} {vL : Value} {S : List SV} (h : RH w B p vL S) : ∃ ao cap, vL = .slice ao S.length cap ∧ S.length ≤ cap := by
  rcases ownsRow_shape h.row with ⟨rfl, h0⟩ | ⟨g, cap, rfl, hB, hg, hle, hm, hf, hc⟩
  · exact ⟨none, 0, by rw [h0], by omega⟩
  · exact ⟨_, cap, rfl, hle⟩
theorem RH.c0 {w : World} {B p : Nat} {vL : Value} {S : List SV} (h : RH w B p vL S) : w.cell? ⟨p, 0, none⟩ = some vL ∧ w.frozen? ⟨p, 0, none⟩ = false ∧ p < w.heap.size := by
  refine ⟨?_, ?_, (Array.getElem?_eq_some_iff.1 h.cells).1⟩ <;> simp [World.cell?, World.frozen?, h.cells]
theorem RH.below {w w' : World} {B p : Nat} {vL : Value} {S : List SV} (h : RH w B p vL S) (hb : Below w.heap.size w w') : RH w' B p vL S :=
  ⟨(hb.block p h.c0.2.2).trans h.cells, ownsRow_below h.row hb, fun s hs b hb' => by
    obtain ⟨h1, h2, h3, h4⟩ := h.good s hs b hb'
    exact ⟨h1.below hb, h2, h3, fun g hg => ⟨Nat.lt_of_lt_of_le (h4 g hg).1 hb.size, (h4 g hg).2⟩⟩, h.one, h.bp, h.ne⟩
/-- What turns none of its blocks leaves it. -/
theorem RH.kp {w w' : World} {B p : Nat} {vL : Value} {S : List SV} (h : RH w B p vL S) {F : Nat → Prop} (hk : Kp F w w') (hp : ¬ F p) (hg : ∀ g, vL.ownBlock = some g → ¬ F g) (hu : ∀ (a : Addr) (x : Int), w.cell? a = some (.int .u8 x) → ¬ F a.block) : RH w' B p vL S :=
  ⟨(hk.block p h.c0.2.2 hp).trans h.cells, ownsRow_kp h.row hk hg, fun s hs b hb' => by
    obtain ⟨h1, h2, h3, h4⟩ := h.good s hs b hb'
    refine ⟨?_, h2, h3, fun g hg => ⟨Nat.lt_of_lt_of_le (h4 g hg).1 hk.size, (h4 g hg).2⟩⟩
    obtain ⟨ao, cap, e, hcap, hnil, hcell⟩ := h1
    exact ⟨ao, cap, e, hcap, hnil, fun ad hd j hj => hk.cell (hcell ad hd j hj) (hu _ _ (hcell ad hd j hj))⟩, h.one, h.bp, h.ne⟩

theorem Tryd.infoI : (Tryd.prog.info? 3).map (fun i => (i.zero, i.size, i.bytes)) = some (some (.int .i64 0), 1, 8) := by kernel_rfl
theorem info_partsG {P : Program} {t : TypeId} {z : Value} {s b : Nat} (h : (P.info? t).map (fun i => (i.zero, i.size, i.bytes)) = some (some z, s, b)) : ∃ i, P.info? t = some i ∧ i.zero = some z ∧ i.size = s ∧ i.bytes = b := by
  cases hi : P.info? t with
  | none => rw [hi] at h; cases h
  | some i => rw [hi] at h; simp at h; exact ⟨i, rfl, h.1, h.2.1, h.2.2⟩

set_option maxHeartbeats 2000000 in
theorem refIds_any {w : World} {B p : Nat} {vL : Value} {S : List SV} (h : RH w B p vL S) (hn : S.length ≤ 2097152) :
    Calls Tryd.prog 33 #[.pointer (some ⟨p, 0, none⟩)] w fun e w' => ∃ v, e = .returned v ∧ w'.ownsRow w.heap.size 3 1 v (idsN (tS S) S.length).length ((idsN (tS S) S.length).map encZ) ∧ Below w.heap.size w w' := by
  obtain ⟨i0, hi0, hz0, hz1, hz2⟩ := info_partsG Tryd.infoI
  have HH : Hid (RH w B p vL S) := h
  obtain ⟨ao, cap, hv, hcap⟩ := h.shape
  obtain ⟨n, HN⟩ : ∃ n, Hid (S.length = n) := ⟨_, rfl⟩
  rw [HN.out] at hv hcap hn ⊢
  obtain ⟨T, HT⟩ : ∃ T, Hid (tS S = T) := ⟨_, rfl⟩
  rw [HT.out]
  subst hv
  clear h
  go_enter Tryd.func33, Tryd.ntmps33
  go_wp2_with fail
  go_loopw [3, 4] (fun y x wr => ∃ (k : Nat), k ≤ n ∧ x = .int .i64 (k : Int) ∧ Hid (∃ ao' cap', y = .slice ao' (idsN T k).length cap') ∧ Hid (wr.ownsRow w.heap.size 3 1 y (idsN T k).length ((idsN T k).map encZ)) ∧ Hid (Below w.heap.size w wr)) (fun _ x _ => n - (intOf x).toNat)
  case atStart => exact ⟨0, Nat.zero_le _, by simp, ⟨none, 0, rfl⟩, World.ownsRow_nil _ _ _ _, Below.refl _ _⟩
  case round =>
    obtain ⟨k, hk, rfl, ⟨ao', cap', rfl⟩, HO, HB⟩ := hrel
    have c0 := (HH.out.below HB.out).c0.1
    by_cases hlt : k < n
    · obtain ⟨s, hs⟩ : ∃ s, S[k]? = some s := ⟨S[k]'(by rw [HN.out]; exact hlt), List.getElem?_eq_getElem _⟩
      obtain ⟨g, cp, e, _, _, _, ha, _, _, _⟩ := (HH.out.below HB.out).at hs
      rw [HN.out] at e
      injection e with e1 e2 e3
      subst e1; subst e3
      have hTk : T (k : Int) = s.1 := by rw [← HT.out, tS_nat, hs]; rfl
      clear hs
      cases hs1 : s.1 with
      | none =>
        rw [hs1] at ha hTk
        have HTK : Hid (T (k : Int) = none) := hTk
        simp only [Option.isSome_none] at ha
        clear hTk hs1
        go_wp2_with fail
        go_roundw
        case rel =>
          have e : idsN T (k + 1) = idsN T k := by rw [idsN_succ, HTK.out]; simp
          exact ⟨k + 1, hlt, by simp, by rw [e]; exact ⟨_, _, rfl⟩, by rw [e]; exact HO.out, HB.out⟩
        case measure => simp [intOf]; omega
      | some b =>
        rw [hs1] at ha hTk
        have HTK : Hid (T (k : Int) = some b) := hTk
        simp only [Option.isSome_some] at ha
        have hlen := idsN_len T k
        obtain ⟨q, HQ⟩ : ∃ q, Hid ((idsN T k).length = q) := ⟨_, rfl⟩
        rw [HQ.out] at HO hlen ⊢
        clear hTk hs1
        go_wp2_with (at_builtin; refine wpList_append_G _ rfl (.tmp 22) (.tmp 24) 53 rfl 3 i0 Tryd.underlying53 hi0 _ hz0 1 8 hz1 hz2 rfl (by omega) w.heap.size _ q _ _ 1 1 [.int .i64 (k : Int)] rfl rfl (HO.out.alloc _) rfl (news_one (heap_alloc_new _ _)) (by simp [Value.oneCell']) (by omega) (by omega) (by omega) (by have := HB.out.size; simp; omega) ?_; intro g2 cap2 w2 ho2 hg2 hat2; have HO2 : Hid (w2.ownsRow w.heap.size 3 1 (.slice (some ⟨g2, 0, none⟩) (q + 1) cap2) (q + 1) ((idsN T k).map encZ ++ [.int .i64 (k : Int)])) := ho2; have HG2 : Hid _ := hg2; clear ho2 hg2 hat2)
        go_roundw
        case rel =>
          have e : idsN T (k + 1) = idsN T k ++ [(k : Int)] := by rw [idsN_succ, HTK.out]; simp
          have e2 : (idsN T (k + 1)).length = q + 1 := by rw [e, List.length_append, HQ.out]; rfl
          refine ⟨k + 1, hlt, by simp, ⟨_, _, by rw [e2]⟩, ?_, ?_⟩
          · rw [e2, e, List.map_append]; exact HO2.out
          · have hb1 : Below w.heap.size w (wr.alloc (.cells #[.int .i64 (k : Int)] 3)) := HB.out.alloc HB.out.size _
            exact hb1.grown HG2.out hb1.size (fun j hj => (World.ownsRow.lt HO.out j hj).1)
        case measure => simp [intOf]; omega
    · obtain rfl : k = n := by omega
      go_wp2_with fail
      go_ret
      exact ⟨_, rfl, HO.out, HB.out⟩
theorem refLen_any {w : World} {B p : Nat} {vL : Value} {S : List SV} (h : RH w B p vL S) (hn : S.length ≤ 2097152) :
    Calls Tryd.prog 23 #[.pointer (some ⟨p, 0, none⟩)] w fun e w' => e = .returned (.int .i64 ((idsN (tS S) S.length).length : Int)) ∧ Below w.heap.size w w' := by
  have HI : Hid _ := refIds_any h hn
  obtain ⟨q, HQ⟩ : ∃ q, Hid ((idsN (tS S) S.length).length = q) := ⟨_, rfl⟩
  rw [HQ.out] at HI ⊢
  clear h
  go_enter Tryd.func23, Tryd.ntmps23
  go_wp2_with (go_at_call 33; refine Calls.mono HI.out ?_; rintro e w1 ⟨v, rfl, ho, hb⟩; obtain ⟨ao, cap, rfl⟩ : ∃ ao cap, v = .slice ao q cap := (by rcases ownsRow_shape ho with ⟨rfl, h0⟩ | ⟨g, cap, rfl, _⟩; exact ⟨none, 0, by rw [h0]⟩; exact ⟨_, _, rfl⟩); have HB : Hid (Below w.heap.size w w1) := hb; clear ho hb)
  go_ret
  exact ⟨rfl, HB.out⟩
end Go.Proofs.YtpkbdpbggmiolaaDoor
