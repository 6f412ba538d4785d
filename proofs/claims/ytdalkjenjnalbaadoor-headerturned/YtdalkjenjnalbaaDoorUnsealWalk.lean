/-
  Walks of Unseal, the program's and the document's. Conditions: lengths within the machine's bounds; the table stands as the program's text lays it.
-/
import Derived.Test.YtdalkjenjnalbaaDoorSealWalk
import Derived.Deep.RegionLaw
import Derived.Deep.RegionHeld
namespace Go.Proofs.YtdalkjenjnalbaaDoor
open Go.RowKit
set_option linter.unusedVariables false
set_option maxRecDepth 100000

/-- 'make([]byte, 0, n)' in a region that draws, as one step. -/
theorem step_make_bytes {P : Program} {ops : Array Oper} {o : Oper} {a : Act} {w : World} {K : Act → World → Prop} {Q : Exit → Act → World → Prop} {E : Prop}
    (hg : o.guard = none) (l c : Operand) (t : TypeId) (hop : o.op = Op.makeSlice t l c) (i : TypeInfo) (h1 : P.underlying t = some (.slice 5)) (h2 : P.info? 5 = some i) (h3 : i.zero = some (.int .u8 0)) (h4 : i.size = 1) (h5 : i.bytes = 1)
    (n : Nat) (hl : a.eval l = .int .i64 0) (hc : a.eval c = .int .i64 (n : Int)) (b2 : n ≤ 281474976710656) (B : Nat) (hB : B ≤ w.heap.size)
    (hK : ∀ w', Own w' B (.slice (some ⟨w.heap.size, 0, none⟩) 0 n) [] → w.grownBy w' none → K (a.put o.dst (.slice (some ⟨w.heap.size, 0, none⟩) 0 n)) w') :
    if Region.wanted o (yielded ops a.tmps) = true then Oper.wp P o a w K Q else E := by
  have hw : Region.wanted o (yielded ops a.tmps) = true := by simp [Region.wanted, hg]
  rw [if_pos hw]
  obtain ⟨w', hrun, r1, r2⟩ := run_make_own (P := P) w B t 5 i (.int .u8 0) 1 h1 h2 h3 h4 .i64 .i64 n (by rw [h5]; omega) (by unfold maxLen; omega) hB
  unfold Oper.wp
  simp [execOp, hop, hl, hc, hrun, Result.andThen]
  exact hK w' r1 r2
/-- 'append(s, x...)' in a region that draws, s the call's own, as one step. -/
theorem step_append_bytes {P : Program} {ops : Array Oper} {o : Oper} {a : Act} {w : World} {K : Act → World → Prop} {Q : Exit → Act → World → Prop} {E : Prop}
    (hg : o.guard = none) (s x : Operand) (t : TypeId) (hop : o.op = Op.call { callee := Callee.builtin Builtin.append, args := #[s, x], argTypes := #[t, t] })
    (i : TypeInfo) (h1 : P.underlying t = some (.slice 5)) (h2 : P.info? 5 = some i) (h3 : i.zero = some (.int .u8 0)) (h4 : i.size = 1) (h5 : i.bytes = 1)
    (B : Nat) (v : Value) (l m : List Int) (ad : Addr) (k c : Nat) (hs : a.eval s = v) (hx : a.eval x = .slice (some ad) k c) (hk : k = m.length) (hown : Own w B v l) (hm : ∀ i, i < m.length → w.cell? (ad.add i) = some (.int .u8 (m.getD i 0)))
    (hbytes : l.length + m.length ≤ 140737488355328) (hB : B ≤ w.heap.size)
    (hK : ∀ v' w', Own w' B v' (l ++ m) → w.grownBy w' v.ownBlock → K (a.put o.dst v') w') :
    if Region.wanted o (yielded ops a.tmps) = true then Oper.wp P o a w K Q else E := by
  have hw : Region.wanted o (yielded ops a.tmps) = true := by simp [Region.wanted, hg]
  rw [if_pos hw]
  subst hk
  obtain ⟨v', w', hrun, r1, r2, _⟩ := run_append_own (P := P) w B t o.type 5 i (.int .u8 0) 1 1 h1 h2 h3 h4 h5 rfl (by decide) v l.length (bcells l) hown ad m.length c (bcells m) (by rw [bcells_length]; omega)
    (fun j u hj => by obtain ⟨hj', rfl⟩ := bcells_get hj; exact hm j hj') (bcells_one m) (by unfold maxLen; omega) (by omega) hB
  unfold Oper.wp
  simp [execOp, hop, resolve, invoke, builtin, hs, hx, hrun, Result.andThen]
  refine hK v' w' ?_ r2
  unfold Own
  rw [List.length_append, bcells_append]
  exact r1

/-- What Unseal tells: its error and its bytes. -/
def unErr (l : List Int) : Int := if l.length < 4 then 4 else if ((crcN (l.take (l.length - 4)) : Nat) : Int) = num ((l.drop (l.length - 4)).take 4) 4 then 0 else 5
def unList (l : List Int) : List Int := if unErr l = 0 then l.take (l.length - 4) else []
theorem unErr_short {l : List Int} (h : l.length < 4) : unErr l = 4 := by unfold unErr; rw [if_pos h]
theorem byt_left {l : List Int} (h : Byt l) (n : Nat) : Byt (l.take n) := by have := byt_take h 0 n; simpa using this
theorem val_low (l : List Int) (h : l.length = 4) : val false l = num l 4 := by unfold val; rw [h]; rfl

theorem unseal_short (v : Value) (l : List Int) (w : World) (hl : Bs w v l) (h : l.length < 4) :
    Calls Tryd.prog 76 #[v] w fun e w' => e = .returned (.tuple #[.slice none 0 0, .int .i64 4]) ∧ w' = w := by
  obtain ⟨ao, cap, rfl, hc, hn, hcell⟩ := hl
  clear hcell hn
  go_enter Tryd.func76, Tryd.ntmps76
  go_wp2
  go_ret2
  exact ⟨rfl, rfl⟩
theorem unseal_long (v : Value) (l : List Int) (n : Nat) (w : World) (hl : Bs w v l) (hb : l.length ≤ 140737488351240) (hby : Byt l) (ht : Tab w) (hn : l.length = n + 4) :
    Calls Tryd.prog 76 #[v] w fun e w' => ∃ x, e = .returned (.tuple #[x, .int .i64 (if ((crcN (l.take n) : Nat) : Int) = num ((l.drop n).take 4) 4 then 0 else 5)]) ∧ Own w' w.heap.size x (if ((crcN (l.take n) : Nat) : Int) = num ((l.drop n).take 4) 4 then l.take n else []) ∧ Below w.heap.size w w' := by
  obtain ⟨i0, hi, hz0, hz1, hz2⟩ := info_parts Tryd.info5
  have hG := get_wide v l n 4 false w hl (by omega) hby (by omega) (by omega) (by omega)
  rw [val_low _ (by simp; omega)] at hG
  have hs := num_bounds (byt_take hby n 4) 4
  have hlt := crcN_lt (l.take n)
  have hlen : (l.take n).length = n := by simp; omega
  have HA : Hid ((l.take n).length = n) := hlen
  have HBY : Hid (Byt (l.take n)) := byt_left hby n
  obtain ⟨b, off, cap, rfl, hc, hcell⟩ := hl.opened (by omega)
  have HC : Hid (∀ i, i < n → w.cell? ⟨b, off + i, none⟩ = some (.int .u8 ((l.take n).getD i 0))) := fun i hi => by
    rw [hcell i (by omega)]; simp [List.getD, hi]
  obtain ⟨A, hAe⟩ : ∃ A, A = l.take n := ⟨_, rfl⟩
  obtain ⟨s, hse⟩ : ∃ s, s = num ((l.drop n).take 4) 4 := ⟨_, rfl⟩
  rw [← hAe] at HA HBY HC hlt
  rw [← hse] at hG hs
  rw [← hAe, ← hse]
  clear hAe hse hcell hlen hl hby
  have HG : Hid _ := hG
  have HT : Hid (Tab w) := ht
  clear hG ht
  obtain ⟨c, hce⟩ : ∃ c, c = crcN A := ⟨_, rfl⟩
  rw [← hce] at hlt
  have HCE : Hid (c = crcN A) := hce
  rw [← hce]
  clear hce
  rw [hn] at HG hc hb ⊢
  have e256 : (256 : Int) ^ 4 = 4294967296 := by decide
  rw [e256] at hs
  have HCR : Hid (∀ w', Below w.heap.size w w' → Calls Tryd.prog 82 #[.slice (some ⟨b, off, none⟩) n cap] w' fun e w'' => e = .returned (.int .u32 (c : Nat)) ∧ w'' = w') := fun w' hw' => by
    have hbs : Bs w' (.slice (some ⟨b, off, none⟩) n cap) A := by
      refine ⟨some ⟨b, off, none⟩, cap, by rw [HA.out], by rw [HA.out]; omega, (fun h => by cases h), fun ad ha i hi => ?_⟩
      obtain rfl := Option.some.inj ha
      rw [HA.out] at hi
      rw [addr_add]; exact cell_later hw' (HC.out i hi)
    have := crc_any _ A w' hbs (by rw [HA.out]; omega) HBY.out (HT.out.below hw')
    rw [← HCE.out] at this
    exact this
  clear e256
  by_cases hq : (c : Int) = s
  · rw [if_pos hq, if_pos hq]
    have hq' : (s != (c : Int)) = false := by simp [hq]
    clear hq
    go_enter Tryd.func76, Tryd.ntmps76
    go_wp2_with (first | (go_at_call 78; refine Calls.mono HG.out ?_; rintro e w1 ⟨rfl, hb1⟩) | (go_at_call 82; refine Calls.mono (HCR.out _ (by assumption)) ?_; rintro e w2 ⟨rfl, rfl⟩))
    have hz2' := hb1.size
    have hn0 : (0 : Int) ≤ (n : Int) := by omega
    have hn1 : (n : Int) ≤ (cap : Int) := by omega
    obtain ⟨w3, hrun, ho3, hg3⟩ := run_make_own (P := Tryd.prog) w2.drew w.heap.size 31 5 i0 (.int .u8 0) 1 Tryd.underlying31 hi hz0 hz1 .i64 .i64 n (by rw [hz2]; omega) (by unfold maxLen; omega) (by simpa using hz2')
    have HO3 : Hid (Own w3 w.heap.size (.slice (some ⟨w2.drew.heap.size, 0, none⟩) 0 n) []) := ho3
    have HG3 : Hid (w2.drew.grownBy w3 none) := hg3
    have HB3 : Hid (Below w.heap.size w w3) := (hb1.trans (Below.refl _ _).drew).trans ((below_of_grown hg3).mono (by simpa using hz2'))
    clear ho3 hg3
    go_region_law (refine step_append_bytes rfl (.tmp 30) (.tmp 33) 31 rfl i0 Tryd.underlying31 hi hz0 hz1 hz2 w.heap.size _ [] A ⟨b, off, none⟩ n cap (by simp [Act.eval]) (by simp [Act.eval]) HA.out.symm HO3.out (fun i hi => by rw [addr_add]; exact cell_later HB3.out (HC.out i (by rw [HA.out] at hi; exact hi))) (by rw [HA.out]; simp; omega) HB3.out.size ?_; intro v4 w4 ho4 hg4)
    go_wp2
    go_ret2
    refine ⟨v4, rfl, by simpa using ho4, HB3.out.grown hg4 HB3.out.size (fun k hk => ?_)⟩
    have hk' : w2.heap.size = k := by simpa [Value.ownBlock] using hk
    omega
  · rw [if_neg hq, if_neg hq]
    have hq' : (s != (c : Int)) = true := by simpa using (fun e => hq e.symm)
    clear hq
    go_enter Tryd.func76, Tryd.ntmps76
    go_wp2_with (first | (go_at_call 78; refine Calls.mono HG.out ?_; rintro e w1 ⟨rfl, hb1⟩) | (go_at_call 82; refine Calls.mono (HCR.out _ (by assumption)) ?_; rintro e w2 ⟨rfl, rfl⟩))
    go_ret2
    exact ⟨_, rfl, Own.nil _ _, by assumption⟩

theorem unseal_any (v : Value) (l : List Int) (w : World) (hl : Bs w v l) (hb : l.length ≤ 140737488351240) (hby : Byt l) (ht : Tab w) :
    Calls Tryd.prog 76 #[v] w fun e w' => ∃ x, e = .returned (.tuple #[x, .int .i64 (unErr l)]) ∧ Own w' w.heap.size x (unList l) ∧ Below w.heap.size w w' := by
  by_cases h : l.length < 4
  · refine (unseal_short v l w hl h).mono fun e w' ⟨h1, h2⟩ => ⟨.slice none 0 0, by rw [h1, unErr_short h], ?_, ?_⟩
    · unfold unList; rw [unErr_short h, if_neg (by decide)]; exact Own.nil _ _
    · subst h2; exact Below.refl _ _
  · refine (unseal_long v l (l.length - 4) w hl hb hby ht (by omega)).mono fun e w' ⟨x, h1, h2, h3⟩ => ⟨x, ?_, ?_, h3⟩
    · rw [h1]; unfold unErr; rw [if_neg h]
    · unfold unList unErr
      rw [if_neg h]
      split at h2
      · rename_i he; rw [if_pos he, if_pos rfl]; exact h2
      · rename_i he; rw [if_neg he, if_neg (by decide)]; exact h2

/-- Four bytes are the digits of their number. -/
theorem digs_four (l : List Int) (h : l.length = 4) (hb : Byt l) : digs (num l 4) 4 = l := by
  match l, h with
  | [a, b, c, d], _ =>
    have h0 := hb 0; have h1 := hb 1; have h2 := hb 2; have h3 := hb 3
    simp at h0 h1 h2 h3
    simp only [digs, num, qd, List.getD_cons_zero, List.getD_cons_succ, List.nil_append, List.cons_append, Int.reducePow]
    simp only [List.cons.injEq, and_true]
    refine ⟨?_, ?_, ?_, ?_⟩ <;> omega
theorem sealN_iff (l : List Int) (n : Nat) (h : l.length = n + 4) (hb : Byt l) : sealN (l.take n) = l ↔ ((crcN (l.take n) : Nat) : Int) = num ((l.drop n).take 4) 4 := by
  have h4 : (l.drop n).take 4 = l.drop n := List.take_of_length_le (by simp; omega)
  rw [h4]
  have hlt := crcN_lt (l.take n)
  have hl : (l.drop n).length = 4 := by simp; omega
  have e : l = l.take n ++ l.drop n := (List.take_append_drop n l).symm
  constructor
  · intro he
    have h1 : l.take n ++ digs (crcN (l.take n)) 4 = l.take n ++ l.drop n := by rw [← e]; exact he
    have h2 := List.append_cancel_left h1
    rw [← h2]
    exact (num_back (by omega) (by show _ < (4294967296 : Int); omega)).symm
  · intro he
    unfold sealN
    rw [he, digs_four _ hl (by have := byt_take hb n 4; rwa [h4] at this), ← e]
theorem str_inj {a b : List Int} (ha : Byt a) (hb : Byt b) (hl : a.length = b.length) (h : strOfNums a = strOfNums b) : a = b := by
  have h1 : a.map (fun n => UInt8.ofNat n.toNat) = b.map (fun n => UInt8.ofNat n.toNat) := by rw [← strOfNums_data, ← strOfNums_data, h]
  apply List.ext_getElem hl
  intro i h2 h3
  have h4 : (a.map (fun n => UInt8.ofNat n.toNat))[i]'(by simpa using h2) = (b.map (fun n => UInt8.ofNat n.toNat))[i]'(by simpa using h3) := by simp only [h1]
  simp only [List.getElem_map] at h4
  have ha' := ha i
  have hb' := hb i
  have e1 : a.getD i 0 = a[i] := by simp [List.getD, h2]
  have e2 : b.getD i 0 = b[i] := by simp [List.getD, h3]
  rw [e1] at ha'; rw [e2] at hb'
  have h5 := congrArg UInt8.toNat h4
  simp at h5
  omega
theorem str_ne {a b : List Int} (ha : Byt a) (hb : Byt b) (hl : a.length = b.length) (h : ¬ a = b) : ((strOfNums a).toList == (strOfNums b).toList) = false := by
  have : ¬ (strOfNums a).toList = (strOfNums b).toList := fun e => by
    rw [ByteArray.toList_eq, ByteArray.toList_eq] at e
    exact h (str_inj ha hb hl (by apply ByteArray.ext; apply Array.ext'; exact e))
  simpa using this
theorem byt_append {a b : List Int} (ha : Byt a) (hb : Byt b) : Byt (a ++ b) := fun i => by
  by_cases h : i < a.length
  · have e : (a ++ b).getD i 0 = a.getD i 0 := by simp [List.getD, List.getElem?_append_left h]
    rw [e]; exact ha i
  · have e : (a ++ b).getD i 0 = b.getD (i - a.length) 0 := by simp [List.getD, List.getElem?_append_right (Nat.le_of_not_lt h)]
    rw [e]; exact hb _
theorem byt_seal {l : List Int} (h : Byt l) : Byt (sealN l) := byt_append h (byt_dig2 false _ 4)

theorem refUnseal_short (v : Value) (l : List Int) (w : World) (hl : Bs w v l) (h : l.length < 4) :
    Calls Tryd.prog 41 #[v] w fun e w' => e = .returned (.tuple #[.slice none 0 0, .int .i64 4]) ∧ w' = w := by
  obtain ⟨ao, cap, rfl, hc, hn, hcell⟩ := hl
  clear hcell hn
  go_enter Tryd.func41, Tryd.ntmps41
  go_wp2
  go_ret2
  exact ⟨rfl, rfl⟩
theorem refUnseal_long (v : Value) (l : List Int) (n : Nat) (w : World) (hl : Bs w v l) (hb : l.length ≤ 140737488351232) (hby : Byt l) (hn : l.length = n + 4) :
    Calls Tryd.prog 41 #[v] w fun e w' => ∃ x, e = .returned (.tuple #[x, .int .i64 (if ((crcN (l.take n) : Nat) : Int) = num ((l.drop n).take 4) 4 then 0 else 5)]) ∧ Own w' w.heap.size x (if ((crcN (l.take n) : Nat) : Int) = num ((l.drop n).take 4) 4 then l.take n else []) ∧ Below w.heap.size w w' := by
  obtain ⟨i0, hi, hz0, hz1, hz2⟩ := info_parts Tryd.info5
  have hlen : (l.take n).length = n := by simp; omega
  have HA : Hid ((l.take n).length = n) := hlen
  have HBY : Hid (Byt (l.take n)) := byt_left hby n
  have hiff := sealN_iff l n hn hby
  have hne : ¬ sealN (l.take n) = l → ((strOfNums (sealN (l.take n))).toList == (strOfNums l).toList) = false := fun h =>
    str_ne (byt_seal HBY.out) hby (by rw [sealN_length, hlen, hn]) h
  have HL : Hid (Bs w v l) := hl
  obtain ⟨b, off, cap, rfl, hc, hcell⟩ := hl.opened (by omega)
  have HP : Hid (Bs w (.slice (some ⟨b, off, none⟩) n cap) (l.take n)) := by
    refine ⟨some ⟨b, off, none⟩, cap, by rw [hlen], by rw [hlen]; omega, (fun h => by cases h), fun ad ha i hi => ?_⟩
    obtain rfl := Option.some.inj ha
    rw [hlen] at hi
    rw [addr_add, hcell i (by omega)]; simp [List.getD, hi]
  obtain ⟨A, hAe⟩ : ∃ A, A = l.take n := ⟨_, rfl⟩
  rw [← hAe] at HA HBY HP hiff hne
  have HS : Hid (∀ w', Below w.heap.size w w' → Sem.run Tryd.prog (convert 31 9 (.slice (some ⟨b, off, none⟩) (n + 4) cap)) w' = .ok (.string (strOfNums l)) w') := fun w' hw => by
    have := str_run (HL.out.below hw); rwa [hn] at this
  rw [← hAe]
  clear hAe hcell hlen hl hby
  rw [hn] at hc hb ⊢
  by_cases hq : ((crcN A : Nat) : Int) = num ((l.drop n).take 4) 4
  · rw [if_pos hq, if_pos hq]
    have HE : Hid (sealN A = l) := hiff.2 hq
    clear hq hiff hne
    go_enter Tryd.func41, Tryd.ntmps41
    go_wp2_with fail
    have hd0 : Below w.heap.size w w.drew := (Below.refl _ _).drew
    go_region_held (fun w' => Sem.run Tryd.prog (convert 31 9 (.slice (some ⟨b, off, none⟩) (n + 4) cap)) w' = .ok (.string (strOfNums l)) w' ∧ Below w.heap.size w w') (exact ⟨HS.out _ (by assumption), by assumption⟩) ((go_at_call 37; refine (refSeal_any _ A _ (HP.out.below (by assumption)) (by rw [HA.out]; omega) HBY.out).mono ?_; rintro e w2 ⟨x2, rfl, ho2, hb2⟩; rw [HE.out] at ho2; have hs2 := str_run ho2.bs; have hb3 := below_undrew hb2))
    have HB3 : Hid (Below w.heap.size w w2) := hb3
    have hz3 := hb3.size
    clear ho2 hb2 hs2 hb3 hd0
    go_wp2_with (at_builtin; refine wpList_append_bytes _ rfl (.tmp 19) (.tmp 22) 31 rfl i0 Tryd.underlying31 hi hz0 hz1 hz2 w.heap.size _ _ [] A rfl rfl (Own.empty _ _ (by simpa using hz3)) (HP.out.below ((HB3.out).alloc hz3 _)) (by rw [HA.out]; simp; omega) w (HB3.out.alloc hz3 _) (by simp; omega) ?_; intro ao4 cap4 w4 ho4 hb4 _ _)
    go_ret2
    exact ⟨_, rfl, by simpa using ho4, hb4⟩
  · rw [if_neg hq, if_neg hq]
    have hne2 := hne (fun e => hq (hiff.1 e))
    clear hq hiff hne
    go_enter Tryd.func41, Tryd.ntmps41
    go_wp2_with fail
    have hd0 : Below w.heap.size w w.drew := (Below.refl _ _).drew
    go_region_held (fun w' => Sem.run Tryd.prog (convert 31 9 (.slice (some ⟨b, off, none⟩) (n + 4) cap)) w' = .ok (.string (strOfNums l)) w' ∧ Below w.heap.size w w') (exact ⟨HS.out _ (by assumption), by assumption⟩) ((go_at_call 37; refine (refSeal_any _ A _ (HP.out.below (by assumption)) (by rw [HA.out]; omega) HBY.out).mono ?_; rintro e w2 ⟨x2, rfl, ho2, hb2⟩; have hs2 := str_run ho2.bs; have hb3 := below_undrew hb2))
    go_wp2
    go_ret2
    exact ⟨_, rfl, Own.nil _ _, by assumption⟩

theorem refUnseal_any (v : Value) (l : List Int) (w : World) (hl : Bs w v l) (hb : l.length ≤ 140737488351232) (hby : Byt l) :
    Calls Tryd.prog 41 #[v] w fun e w' => ∃ x, e = .returned (.tuple #[x, .int .i64 (unErr l)]) ∧ Own w' w.heap.size x (unList l) ∧ Below w.heap.size w w' := by
  by_cases h : l.length < 4
  · refine (refUnseal_short v l w hl h).mono fun e w' ⟨h1, h2⟩ => ⟨.slice none 0 0, by rw [h1, unErr_short h], ?_, ?_⟩
    · unfold unList; rw [unErr_short h, if_neg (by decide)]; exact Own.nil _ _
    · subst h2; exact Below.refl _ _
  · refine (refUnseal_long v l (l.length - 4) w hl hb hby (by omega)).mono fun e w' ⟨x, h1, h2, h3⟩ => ⟨x, ?_, ?_, h3⟩
    · rw [h1]; unfold unErr; rw [if_neg h]
    · unfold unList unErr
      rw [if_neg h]
      split at h2
      · rename_i he; rw [if_pos he, if_pos rfl]; exact h2
      · rename_i he; rw [if_neg he, if_neg (by decide)]; exact h2
end Go.Proofs.YtdalkjenjnalbaaDoor
