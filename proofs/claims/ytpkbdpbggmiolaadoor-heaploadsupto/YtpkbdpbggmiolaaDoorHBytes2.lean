/-
  The walk of Bytes, its loop. Conditions: at most 65536 things, all numbers below 2^32 - 1, the table of check stands.
-/
import Derived.Test.YtpkbdpbggmiolaaDoorHBytes
namespace Go.Proofs.YtpkbdpbggmiolaaDoor
open Go.RowKit Go.Maps
set_option linter.unusedVariables false
set_option maxRecDepth 100000

/-- The bytes of a heap. -/
def heapB (T : Int → Option (List Int)) (L : List Int) : List Int := sealN (plainH T L L.length)

set_option maxHeartbeats 4000000 in
theorem hbytes_any {w : World} {B p m c low N : Nat} {T : Int → Option (List Int)} {D : DataW Value} (h : HP w B p m c low N T D) (hc : c ≤ 65536) (hN : N < 4294967296) (L : List Int) (hL : Ids T L) (ht : Tab w) :
    Calls Tryd.prog 14 #[.pointer (some ⟨p, 0, none⟩)] w fun e w' => ∃ g, e = .returned (.slice (some ⟨g, 0, none⟩) (heapB T L).length (heapB T L).length) ∧ w.heap.size ≤ g ∧ Row w' g (heapB T L) ∧ Below w.heap.size w w' := by
  obtain ⟨i0, hi, hz0, hz1, hz2⟩ := info_parts Tryd.info5
  obtain ⟨c0, _, _⟩ := h.c0
  have hlen : L.length = c := hL.count h.mp
  have HID : Hid _ := hids_any h hc L hL
  have HTB : Hid (Tab w) := ht
  have HH : Hid (HP w B p m c low N T D) := h
  have hmem : ∀ i ∈ L, ∃ b, T i = some b := fun i hi => Option.isSome_iff_exists.1 ((hL.mem i).1 hi)
  have hbd : ∀ i ∈ L, 0 ≤ i ∧ i < N := fun i hi => by obtain ⟨b, hb⟩ := hmem i hi; exact h.bd i b hb
  have hg : ∀ k, k < L.length → 0 ≤ L.getD k 0 ∧ L.getD k 0 < N := fun k hk => by rw [List.getD, List.getElem?_eq_getElem hk]; exact hbd _ (List.getElem_mem hk)
  have HTK : Hid (∀ k, k < L.length → ∃ b, T (L.getD k 0) = some b) := fun k hk => by rw [List.getD, List.getElem?_eq_getElem hk]; exact hmem _ (List.getElem_mem hk)
  have HNX : Hid (∀ k, k < L.length → 0 ≤ nxt L k ∧ nxt L k ≤ L.getD k 0 ∧ L.getD k 0 < N) := fun k hk => by
    have h1 := nxt_le hL.rise (fun i hi => (hbd i hi).1) hk
    exact ⟨h1.1, h1.2, (hg k hk).2⟩
  have hnx : ∀ k, k ≤ L.length → 0 ≤ nxt L k ∧ nxt L k ≤ N := fun k hk => by
    cases k with
    | zero => exact ⟨Int.le_refl _, by show (0 : Int) ≤ N; omega⟩
    | succ k => have := hg k (by omega); show 0 ≤ L.getD k 0 + 1 ∧ L.getD k 0 + 1 ≤ N; omega
  have HLE : Hid (∀ k, k ≤ L.length → (plainH T L k).length ≤ 4294967296 + 65536 * 65541 + 4) := fun k hk => by
    have h1 := encK_len (T := T) hL.rise (fun i hi => (hbd i hi).1) k hk
    have h2 := hnx k hk
    have h3 : (plainH T L k).length = 4 + (encK T L k).length := by rw [plainH, List.length_append, dig2_length]
    have h4 : (k : Int) * 65541 ≤ 65536 * 65541 := by omega
    omega
  have HST : Hid (∀ k, k < L.length → plainH T L (k + 1) = (plainH T L k ++ List.replicate (L.getD k 0 - nxt L k).toNat 0) ++ [1] ++ pbList [] ((T (L.getD k 0)).getD [])) := fun k hk => by simp [plainH, encK]
  have HBY : Hid (Byt (plainH T L L.length)) := byt_append (byt_dig2 true _ 4) (encK_byt (fun i b hb => (h.mp.yes i b hb).choose_spec.2.2.2.1) _)
  obtain ⟨u, hu⟩ : ∃ u, nxt L L.length = u := ⟨_, rfl⟩
  have hub := hnx L.length (Nat.le_refl _)
  rw [hu] at hub
  have HP0 : Hid (plainH T L 0 = dig2 true u 4) := by unfold Hid; simp [plainH, encK, hu]
  have HCO : Hid (∀ v w', Zs w' v L → Calls Tryd.prog 29 #[v] w' fun e w2 => e = .returned (.int .i64 u) ∧ w2 = w') := fun v w' hz => by
    have := countOf_any v L w' hz (by omega) (fun i hi => by have := hg i hi; omega)
    rw [hu] at this
    exact this
  have HPU : Hid (∀ w', Calls Tryd.prog 28 #[.slice none 0 0, .int .i64 4, .bool true, .int .u64 u] w' fun e w2 => e = .returned (.tuple #[.slice (some ⟨w'.heap.size, 0, none⟩) 4 4, .int .i64 0]) ∧ Row w2 w'.heap.size (dig2 true u 4) ∧ Below w'.heap.size w' w2) := fun w' => by
    have := put_yes (.slice none 0 0) [] u 4 true w' (Bs.nil _) (by simp) (by omega) (by omega) (numErr_of (by omega) (by omega) (by omega) (by show u < 4294967296; omega))
    simpa using this
  have huw : IntKind.u64.wrap u = u := by simp [IntKind.wrap, IntKind.bits, IntKind.signed]; omega
  obtain ⟨M, hM⟩ : ∃ M, L.length = M := ⟨_, rfl⟩
  have HEND : Hid (heapB T L = sealN (plainH T L M)) := by rw [← hM]; rfl
  rw [hM] at HTK HNX HLE HST HBY HID
  have hMc : M ≤ 65536 := by omega
  clear hmem hbd hg hnx h hlen ht
  go_enter Tryd.func14, Tryd.ntmps14
  go_wp2_with (first
    | (go_at_call 20; refine (hNone_any p m w c0).mono ?_; rintro e w1 ⟨rfl, hw1⟩; obtain rfl := hw1.symm)
    | (go_at_call 27; refine Calls.mono HID.out ?_; rintro e w1 ⟨v1, rfl, ho1, hb1⟩; have HZ1 : Hid (Zs w1 v1 L) := (by rw [← hM] at ho1; exact Zs.of_owns ho1); obtain ⟨ao1, cap1, hv1, hcap1, hcl1⟩ := HZ1.out; rw [hM] at hv1 hcap1 hcl1; subst hv1; have HCL : Hid (∀ i, i < M → ∃ g off, ao1 = some ⟨g, off, none⟩ ∧ w1.cell? ⟨g, off + i, none⟩ = some (.int .i64 (L.getD i 0))) := hcl1; have HB1 : Hid (Below w.heap.size w w1) := hb1; clear ho1 hb1 hcl1)
    | (go_at_call 29; refine (HCO.out _ _ HZ1.out).mono ?_; rintro e w2 ⟨rfl, hw2⟩; obtain rfl := hw2.symm)
    | (go_at_call 28; refine (HPU.out _).mono ?_; rintro e w3 ⟨rfl, hr3, hb3⟩; have HR3 : Hid (Row w3 w1.heap.size (dig2 true u 4)) := hr3; have HB3 : Hid (Below w1.heap.size w1 w3) := hb3; clear hr3 hb3))
  clear HID HCO HPU HZ1 c0
  have HBW3 : Hid (Below w.heap.size w w3) := HB1.out.trans (HB3.out.mono HB1.out.size)
  have HO3 : Hid (Own w3 w1.heap.size (.slice (some ⟨w1.heap.size, 0, none⟩) 4 4) (plainH T L 0)) := by
    rw [HP0.out]
    have e : (dig2 true u 4).length = 4 := dig2_length _ _ _
    have := HR3.out.own (B := w1.heap.size) (Nat.le_refl _) (by rw [e]; unfold maxLen; omega)
    rw [e] at this
    exact this
  have HL0 : Hid ((plainH T L 0).length = 4) := by rw [HP0.out]; exact dig2_length _ _ _
  go_loopw [4, 6, 24] (fun b q i wr => ∃ (k e cap : Nat) (ao : Option Addr), k ≤ M ∧ i = .int .i64 (k : Int) ∧ q = .int .i64 (nxt L k) ∧ b = .slice ao e cap ∧ Hid ((plainH T L k).length = e) ∧ Hid (Own wr w1.heap.size (.slice ao e cap) (plainH T L k)) ∧ Hid (Below w1.heap.size w1 wr)) (fun _ _ i _ => M - (intOf i).toNat)
  case atStart => exact ⟨0, 4, 4, _, Nat.zero_le _, by simp, rfl, rfl, HL0.out, HO3.out, HB3.out⟩
  case round =>
    obtain ⟨k, e, cap, ao, hk, rfl, rfl, rfl, HE, HO, HBB⟩ := hrel
    have HB : Hid (Below w.heap.size w wr) := HB1.out.trans (HBB.out.mono HB1.out.size)
    have heb : e ≤ 4294967296 + 65536 * 65541 + 4 := by have := HLE.out k hk; rw [HE.out] at this; exact this
    by_cases hlt : k < M
    · obtain ⟨g, off, rfl, hcg⟩ := HCL.out k hlt
      have hx := HNX.out k hlt
      obtain ⟨b, hb⟩ := HTK.out k hlt
      have hst := HST.out k hlt
      have hx2 : nxt L (k + 1) = L.getD k 0 + 1 := rfl
      rw [hb] at hst
      obtain ⟨x, HX⟩ : ∃ x, L.getD k 0 = x := ⟨_, rfl⟩
      obtain ⟨q, HQ⟩ : ∃ q, nxt L k = q := ⟨_, rfl⟩
      rw [HX] at hcg hx hb hst hx2
      rw [HQ] at hx hst ⊢
      obtain ⟨d, hd⟩ : ∃ d : Nat, x - q = (d : Int) := ⟨(x - q).toNat, by omega⟩
      have hst2 : plainH T L (k + 1) = (plainH T L k ++ List.replicate d 0) ++ [1] ++ pbList [] b := by rw [hst, hd]; simp
      have HS2 : Hid (plainH T L (k + 1) = (plainH T L k ++ List.replicate d 0) ++ [1] ++ pbList [] b) := hst2
      have HX2 : Hid (nxt L (k + 1) = x + 1) := hx2
      have HPB : Hid ((pbList [] b).length ≤ 65540) := by have := pbList_length [] b; unfold Hid; simpa using this
      have hcr : wr.cell? ⟨g, off + k, none⟩ = some (.int .i64 x) := (HBB.out.cell (World.block_lt_of_cell? w1 _ hcg)).trans hcg
      have HYS : Hid (∀ w', Below w1.heap.size w1 w' → w'.ownsMap Tryd.prog 3 Rv m c D ∧ w'.cell? ⟨p, 0, none⟩ = some (.map (some m)) ∧ ∃ vx, (∀ z, D.atKey (ky x) z = .held vx) ∧ Bs w' vx b) := fun w' hw' => by
        have hhp := HH.out.below (HB1.out.trans (hw'.mono HB1.out.size))
        obtain ⟨vx, _, hat, hbs, _, hlen, _⟩ := hhp.mp.yes x b hb
        exact ⟨hhp.mp.map, hhp.c0.1, vx, hat, hbs⟩
      have HLB : Hid (b.length ≤ 65536) := (HH.out.mp.yes x b hb).choose_spec.2.2.2.2.1
      have hd32 : d < 4294967296 := by omega
      have HD : Hid (x - q = (d : Int)) := hd
      have hx64 : -9223372036854775808 ≤ x ∧ x ≤ 9223372036854775807 := by omega
      clear hst hst2 hx2 hb HX HQ hcg hd
      go_wp2_with (first
        | (go_at_call 30; rw [HD.out]; refine (rep_any _ d _ (Bs.one _ _) hd32).mono ?_; rintro e5 w5 ⟨v5, rfl, hs5, hb5⟩; have HS5 : Hid (Bs w5 v5 (List.replicate d 0)) := hs5; have HB5 : Hid (Below wr.heap.size wr w5) := ((Below.refl _ wr).alloc (Nat.le_refl _) _).trans (hb5.mono (by simp)); clear hs5 hb5)
        | (at_builtin; refine wpList_append_bytes _ rfl (.tmp 28) (.tmp 33) 29 rfl i0 Tryd.underlying29 hi hz0 hz1 hz2 w1.heap.size _ _ (plainH T L k) (List.replicate d 0) rfl rfl (HO.out.below HB5.out) HS5.out (by rw [HE.out, List.length_replicate]; omega) w1 (HBB.out.trans (HB5.out.mono HBB.out.size)) (Nat.le_trans HBB.out.size HB5.out.size) ?_; intro ao6 cap6 w6 ho6 hb6 hn6 hc6; simp only [HE.out, List.length_replicate] at ho6 hc6 ⊢; have HO6 : Hid (Own w6 w1.heap.size (.slice ao6 (e + d) cap6) (plainH T L k ++ List.replicate d 0)) := ho6; have HB6 : Hid (Below w1.heap.size w1 w6) := hb6; clear ho6 hb6 hn6)
        | (at_builtin; refine wpList_append_bytes _ rfl (.tmp 35) (.tmp 36) 29 rfl i0 Tryd.underlying29 hi hz0 hz1 hz2 w1.heap.size _ _ (plainH T L k ++ List.replicate d 0) [1] rfl rfl (HO6.out.alloc _) (Bs.one _ _) (by simp [HE.out]; omega) w1 (HB6.out.alloc HB6.out.size _) (Nat.le_trans HB6.out.size (by simp)) ?_; intro ao7 cap7 w7 ho7 hb7 hn7 hc7; simp only [HE.out, List.length_replicate, List.length_append, List.length_cons, List.length_nil, Nat.zero_add] at ho7 hc7 ⊢; have HO7 : Hid (Own w7 w1.heap.size (.slice ao7 (e + d + 1) cap7) ((plainH T L k ++ List.replicate d 0) ++ [1])) := ho7; have HB7 : Hid (Below w1.heap.size w1 w7) := hb7; clear ho7 hb7 hn7; obtain ⟨hmp7, c07, vx, hat7, hbs7⟩ := HYS.out w7 HB7.out; have HM7 : Hid (w7.ownsMap Tryd.prog 3 Rv m c D) := hmp7; have HAT : Hid (∀ z, D.atKey (ky x) z = .held vx) := hat7; have HBX : Hid (Bs w7 vx b) := hbs7; clear hmp7 hat7 hbs7)
        | (at_lookup; refine wpList_lookup_v _ rfl _ _ 57 rfl 3 29 Tryd.keyed Tryd.underlying57 (Tryd.zeroBs _) m c D vx rfl HM7.out _ _ rfl (key_mk hx64.1 hx64.2) HAT.out ?_)
        | (go_at_call 31; refine (putBytes_any _ _ [] b _ (Bs.nil _) HBX.out (by simp) (by have := HLB.out; omega)).mono ?_; rintro e8 w8 ⟨x8, rfl, hf8, hb8⟩; have HF8 : Hid (Bs w8 x8 (pbList [] b)) := hf8.bs; have HB8 : Hid (Below w7.heap.size w7 w8) := hb8; clear hf8 hb8)
        | (at_builtin; refine wpList_append_bytes _ rfl (.tmp 48) (.tmp 49) 29 rfl i0 Tryd.underlying29 hi hz0 hz1 hz2 w1.heap.size _ _ ((plainH T L k ++ List.replicate d 0) ++ [1]) (pbList [] b) rfl rfl (HO7.out.below HB8.out) HF8.out (by have := HPB.out; simp [HE.out]; omega) w1 (HB7.out.trans (HB8.out.mono HB7.out.size)) (Nat.le_trans HB7.out.size HB8.out.size) ?_; intro ao9 cap9 w9 ho9 hb9 hn9 hc9; simp only [HE.out, List.length_replicate, List.length_append, List.length_cons, List.length_nil, Nat.zero_add] at ho9 hc9 ⊢; have HO9 : Hid (Own w9 w1.heap.size (.slice ao9 (e + d + 1 + (pbList [] b).length) cap9) ((plainH T L k ++ List.replicate d 0) ++ [1] ++ pbList [] b)) := ho9; have HB9 : Hid (Below w1.heap.size w1 w9) := hb9; clear ho9 hb9 hn9))
      go_roundw
      case rel =>
        refine ⟨k + 1, e + d + 1 + (pbList [] b).length, cap9, ao9, hlt, by simp, by rw [HX2.out], rfl, ?_, ?_, HB9.out⟩
        · rw [HS2.out]; unfold Hid; simp [HE.out]; omega
        · rw [HS2.out]; exact HO9.out
      case measure => simp [intOf]; omega
    · obtain rfl : k = M := by omega
      go_wp2_with (go_at_call 32; refine (seal_any _ (plainH T L k) _ (by have := HO.out.bs; exact this) (by rw [HE.out]; omega) HBY.out (HTB.out.below HB.out)).mono ?_; rintro e2 w9 ⟨rfl, hr9, hb9⟩; rw [HE.out])
      go_ret
      have hln : (heapB T L).length = e + 4 := by rw [HEND.out, sealN_length, HE.out]
      rw [hln]
      exact ⟨_, rfl, HB.out.size, by rw [HEND.out]; exact hr9, HB.out.trans (hb9.mono HB.out.size)⟩
end Go.Proofs.YtpkbdpbggmiolaaDoor
