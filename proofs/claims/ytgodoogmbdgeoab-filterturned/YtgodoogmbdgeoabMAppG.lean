/-
  append of bytes, what it has turned, and where the row lies then; the program's appendTo. Conditions: lengths are such as memory bears.
-/
import Derived.Test.YtgodoogmbdgeoabMFirst
namespace Go.Proofs.Ytgodoogmbdgeoab
open Go.RowKit
set_option linter.unusedVariables false
set_option maxRecDepth 100000

/-- append, and where the row lies then: where it lay, or in a new block. -/
theorem append_blockM {P : Program} (w : World) (base : Nat) (t ty e : TypeId) (i : TypeInfo) (z : Value) (size bytes : Nat) (ht : P.underlying t = some (.slice e)) (hi : P.info? e = some i) (hz : i.zero = some z)
    (hsize : i.size = size) (hby : i.bytes = bytes) (hzs : z.cells.size = size) (hsz : 0 < size)
    (v : Value) (n : Nat) (xs : List Value) (hown : w.ownsRow base e size v n xs)
    (a : Addr) (m c : Nat) (news : List Value) (hl : news.length = m * size) (hnews : ∀ j u, news[j]? = some u → w.cell? (a.add j) = some u) (h1 : ∀ u ∈ news, u.oneCell' = true)
    (h63 : n + m ≤ maxLen) (hbytes : (n + m) * bytes ≤ 140737488355328) (hbase : base ≤ w.heap.size) :
    ∃ v' w', (Builtin.append_ #[t, t] ty #[v, .slice (some a) m c]).run P w = .ok v' w' ∧ w'.ownsRow base e size v' (n + m) (xs ++ news) ∧ w.grownBy w' v.ownBlock ∧
      (∀ k, v'.ownBlock = some k → v.ownBlock = some k ∨ w.heap.size ≤ k) := by
  obtain ⟨v', w', hr, ho, hg, hn⟩ := run_append_own (P := P) w base t ty e i z size bytes ht hi hz hsize hby hzs hsz v n xs hown a m c news hl hnews h1 h63 hbytes hbase
  refine ⟨v', w', hr, ho, hg, fun k hk => ?_⟩
  have hown' := hown
  subst hsize
  subst hby
  have hsmall : n + m ≤ 9223372036854775807 := by simp only [maxLen] at h63; omega
  rcases hown.2 with ⟨rfl, rfl⟩ | ⟨g, cap, cur, rfl, hbg, hgg, hnc, hcm, hcs, htake⟩
  · by_cases hm : m = 0
    · rw [hn.2 ⟨rfl, hm⟩] at hk
      simp [Value.ownBlock] at hk
    · have hr' := run_append_nil (P := P) w t ty e i z ht hi hz a m c news hl hnews (by omega) (by omega) (by have hb := hbytes; simp only [Nat.zero_add] at hb; omega)
      rw [hr] at hr'
      injection hr' with e1 e2
      subst e1
      simp [Value.ownBlock] at hk
      exact .inr (by omega)
  · by_cases hroom : n + m ≤ cap
    · have hfit : n * i.size + news.length ≤ cur.size := by rw [hl, hcs, ← Nat.add_mul]; exact Nat.mul_le_mul_right _ hroom
      have hr' := run_append_room (P := P) w t ty e i ht hi g n cap cur hgg a m c news hl hnews h1 hroom hfit
      rw [hr] at hr'
      injection hr' with e1 e2
      subst e1
      exact .inl hk
    · have hr' := run_append_grow (P := P) w t ty e i z ht hi hz ⟨g, 0, none⟩ n cap xs hown'.1 (hown'.cells (g := g) rfl) a m c news hl hnews (by omega) (by omega) (growslice_fits (by omega) hbytes)
      rw [hr] at hr'
      injection hr' with e1 e2
      subst e1
      simp [Value.ownBlock] at hk
      exact .inr (by omega)

/-- append of bytes, what it has turned, and where the row lies then. -/
theorem wpList_append_bgM {P : Program} (w : World) {ops : Array Oper} {rest : List Oper} {o : Oper} {a : Act} {Q : Exit → Act → World → Prop} (hgd : o.guard = none) (s x : Operand) (t : TypeId)
    (ho : o.op = .call { callee := .builtin .append, args := #[s, x], argTypes := #[t, t] }) (i : TypeInfo) (ht : P.underlying t = some (.slice 5)) (hi : P.info? 5 = some i) (hz : i.zero = some (.int .u8 0)) (hsize : i.size = 1) (hby : i.bytes = 1)
    (B : Nat) (v y : Value) (l m : List Int) (p q : Nat) (hp : l.length = p) (hq : m.length = q) (hs : a.eval s = v) (hx : a.eval x = y) (hown : Own w B v l) (hm : Bs w y m) (hbytes : p + q ≤ 140737488355328) (hB : B ≤ w.heap.size)
    (h : ∀ ao cap w', Own w' B (.slice ao (p + q) cap) (l ++ m) → w.grownBy w' v.ownBlock → (∀ k, (Value.slice ao (p + q) cap).ownBlock = some k → v.ownBlock = some k ∨ w.heap.size ≤ k) → wpList P ops Q rest (a.put o.dst (.slice ao (p + q) cap)) w') :
    wpList P ops Q (o :: rest) a w := by
  subst hp; subst hq
  have hlen : (l ++ m).length = l.length + m.length := List.length_append
  obtain ⟨ao, cap, rfl, hc, hn, hcell⟩ := hm
  cases ao with
  | none =>
    obtain rfl : cap = 0 := hn rfl
    obtain rfl : m = [] := List.eq_nil_of_length_eq_zero (by omega)
    have hown' := hown
    obtain ⟨ao, cap, rfl, hle, hsh⟩ := hown.opened
    refine wpList_append_own_none hgd s x t ho B 5 i 1 ht hi _ _ _ hs hown (by simpa using hx) ?_
    simpa using h ao cap w (by simpa using hown') (World.grownBy.refl _ _) (fun k hk => .inl (by simpa using hk))
  | some ad =>
    refine wpList_step fun K hk => ?_
    have hw : Region.wanted o (yielded ops a.tmps) = true := by simp [Region.wanted, hgd]
    rw [if_pos hw]
    obtain ⟨v', w', hrun, r1, r2, r3⟩ := append_blockM (P := P) w B t o.type 5 i (.int .u8 0) 1 1 ht hi hz hsize hby rfl (by decide) v l.length (bcells l) hown ad m.length cap (bcells m) (by rw [bcells_length]; omega) (fun j u hj => by
      obtain ⟨hj', rfl⟩ := bcells_get hj
      exact hcell ad rfl j hj') (bcells_one m) (by unfold maxLen; omega) (by omega) hB
    have ho2 : Own w' B v' (l ++ m) := by unfold Own; rw [hlen, bcells_append]; exact r1
    obtain ⟨ao', cap', rfl, hle, hsh⟩ := ho2.opened
    rw [hlen] at ho2 hrun r3
    unfold Oper.wp
    simp [execOp, ho, resolve, invoke, builtin, hs, hx, hrun, Result.andThen]
    exact hk _ _ (h ao' cap' w' ho2 r2 r3)
theorem cp_len (d : Nat) {n : Nat} {o : List Int} : (cpOut d n o).length = o.length + n := cpOut_len d n o
set_option maxHeartbeats 32000000 in
theorem appTo_run (x o : Value) (R m : List Int) (c : Int) (w0 w : World) (hb : Below w0.heap.size w0 w) (ho : Own w w0.heap.size o m) (hx : Bs w0 x R) (hlb : m.length + R.length ≤ 140737488351232) :
    Calls Try.prog 44 #[.agg #[.bool false, .int .i64 c, .int .i64 0, x], o] w (ApP w0 (m ++ R)) := by
  obtain ⟨i0, hi, hi0, hi1, hi2⟩ := info_parts Try.info5
  obtain ⟨w1, hw1, hb1, hbl⟩ : ∃ w1, w.alloc (.cells #[.bool false, .int .i64 c, .int .i64 0, x] 65) = w1 ∧ Below w0.heap.size w0 w1 ∧ w1.heap[w.heap.size]? = some (.cells #[.bool false, .int .i64 c, .int .i64 0, x] 65 (0, 0)) := ⟨_, rfl, hb.alloc hb.size _, heap_alloc_new w _⟩
  obtain ⟨f0, f1, f2, f3, k0, k1, k2, k3⟩ := tok_facts hbl
  have HO : Hid (Own w1 w0.heap.size o m) := by rw [← hw1]; exact ho.alloc _
  have HB : Hid (Below w0.heap.size w0 w1) := hb1
  have HX : Hid (Bs w1 x R) := hx.below hb1
  have hsz := hb1.size
  obtain ⟨ao, cap, rfl, hcx⟩ := id hx
  obtain ⟨rn, hrn⟩ : ∃ rn, R.length = rn := ⟨_, rfl⟩
  rw [hrn] at HX hw1 hbl k3 hlb ⊢
  clear hx ho hb hb1 hbl hcx
  go_enter Try.func44, Try.ntmps44
  go_wp2_with (at_builtin; refine wpList_append_bytes _ rfl (.tmp 8) (.tmp 10) 23 rfl i0 Try.underlying23 hi hi0 hi1 hi2 w0.heap.size _ (.slice ao rn cap) m R rfl rfl HO.out HX.out (by rw [hrn]; omega) w0 HB.out hsz ?_; intro ao1 cap1 w5 ho1 hb1 _ _; generalize m.length + R.length = N1 at ho1 ⊢; have HO5 : Hid (Own w5 w0.heap.size _ _) := ho1; have HB5 : Hid (Below w0.heap.size w0 w5) := hb1; clear ho1 hb1)
  go_ret
  exact ⟨_, rfl, HO5.out, HB5.out⟩
set_option maxHeartbeats 32000000 in
theorem appTo_cp (y o : Value) (n d : Nat) (m : List Int) (w0 w : World) (hb : Below w0.heap.size w0 w) (ho : Own w w0.heap.size o m) (hd1 : 1 ≤ d) (hd : d ≤ m.length) (hn : n ≤ 1000) (hlb : m.length ≤ 140737488350232) :
    Calls Try.prog 44 #[.agg #[.bool true, .int .i64 (n : Int), .int .i64 (d : Int), y], o] w (ApP w0 (cpOut d n m)) := by
  obtain ⟨i0, hi, hi0, hi1, hi2⟩ := info_parts Try.info5
  obtain ⟨w1, hw1, hb1, hbl⟩ : ∃ w1, w.alloc (.cells #[.bool true, .int .i64 (n : Int), .int .i64 (d : Int), y] 65) = w1 ∧ Below w0.heap.size w0 w1 ∧ w1.heap[w.heap.size]? = some (.cells #[.bool true, .int .i64 (n : Int), .int .i64 (d : Int), y] 65 (0, 0)) := ⟨_, rfl, hb.alloc hb.size _, heap_alloc_new w _⟩
  obtain ⟨f0, f1, f2, f3, k0, k1, k2, k3⟩ := tok_facts hbl
  obtain ⟨g, hg⟩ : ∃ g, w.heap.size = g := ⟨_, rfl⟩
  have HO : Hid (Own w1 w0.heap.size o m) := by rw [← hw1]; exact ho.alloc _
  have HNE : Hid (∀ k, o.ownBlock = some k → k ≠ g) := fun k hk => by
    have h' : w.ownsRow w0.heap.size 5 1 o m.length (bcells m) := ho
    have := (h'.lt k hk).2
    omega
  have HB : Hid (Below w0.heap.size w0 w1) := hb1
  have HG : Hid (w0.heap.size ≤ g ∧ g < w1.heap.size) := by
    refine ⟨by rw [← hg]; exact hb.size, ?_⟩
    rw [← hw1, World.size_alloc]; omega
  rw [hg] at hbl f0 f1 f2 f3 k0 k1 k2 k3
  have HBL : Hid (w1.heap[g]? = some (.cells #[.bool true, .int .i64 (n : Int), .int .i64 (d : Int), y] 65 (0, 0))) := hbl
  have hnM : n ≤ 1000 := hn
  clear ho hb hb1 hbl
  go_enter Try.func44, Try.ntmps44
  go_wp2_with fail
  go_loopw [1, 14] (fun o i wr => ∃ (j len cap : Nat) (ao : Option Addr) (L : List Int), j ≤ n ∧ i = .int .i64 j ∧ o = .slice ao len cap ∧ len = m.length + j ∧ Hid (L.length = len) ∧ Hid (Own wr w0.heap.size (.slice ao len cap) L) ∧ Hid (cpOut d (n - j) L = cpOut d n m) ∧ Hid (∀ k, (Value.slice ao len cap).ownBlock = some k → k ≠ g) ∧ Hid (wr.heap[g]? = some (.cells #[.bool true, .int .i64 (n : Int), .int .i64 (d : Int), y] 65 (0, 0))) ∧ Hid (w1.heap.size ≤ wr.heap.size) ∧ Hid (Below w0.heap.size w0 wr)) (fun _ i _ => n - (intOf i).toNat)
  case atStart =>
    obtain ⟨ao, cap, rfl, _, _⟩ := HO.out.opened
    exact ⟨0, m.length, cap, ao, m, Nat.zero_le _, rfl, rfl, rfl, rfl, HO.out, rfl, HNE.out, HBL.out, Nat.le_refl _, HB.out⟩
  case round =>
    obtain ⟨j, len, cap, ao, L, hj, rfl, rfl, hlen, HLL, HOR, HCP, HNK, HBR, HSZ, HBW⟩ := hrel
    by_cases hlt : j < n
    · obtain ⟨b, off, rfl, hcl⟩ := bs_some HOR.out.bs (by omega)
      obtain ⟨q, hq⟩ : ∃ q, len - d = q := ⟨_, rfl⟩
      have hql : q < len := by omega
      have hc1 := hcl q hql
      obtain ⟨x, hx⟩ : ∃ x, L.getD q 0 = x := ⟨_, rfl⟩
      rw [hx] at hc1
      have e1 : IntKind.i64.wrap ((len : Int) - (d : Int)) = (q : Int) := by rw [show (len : Int) - (d : Int) = (q : Int) by omega]; exact wrap_i64_in _ (by omega) (by omega)
      have HN : Hid (cpOut d (n - (j + 1)) (L ++ [x]) = cpOut d n m) := by
        rw [Hid, ← HCP.out, show n - j = (n - (j + 1)) + 1 by omega, cpOut, HLL.out, hq, hx]
      obtain ⟨_, _, _, _, z0, z1, z2, z3⟩ := tok_facts HBR.out
      have hlM : len + 1 ≤ 140737488355328 := by omega
      have hlti : (j : Int) < (n : Int) := by omega
      have HLEN : Hid (len = m.length + j) := hlen
      have hsz1 := HSZ.out
      have hBsz := HBW.out.size
      clear hcl hx hq hlen
      go_wp2_with (at_builtin; refine wpList_append_bgM _ rfl (.tmp 16) (.tmp 25) 23 rfl i0 Try.underlying23 hi hi0 hi1 hi2 w0.heap.size (.slice (some ⟨b, off, none⟩) len cap) _ L [x] len 1 HLL.out rfl rfl rfl (HOR.out.alloc _) (Bs.one _ _) hlM (by simp; omega) ?_; intro ao1 cap1 w5 ho1 hg1 hk1; have HO5 : Hid (Own w5 w0.heap.size _ _) := ho1; have HG5 : Hid _ := hg1; have HK5 : Hid _ := hk1; clear ho1 hg1 hk1)
      have hlt5 : g < wr.heap.size := Nat.lt_of_lt_of_le HG.out.2 HSZ.out
      have hne5 : some g ≠ (Value.slice (some ⟨b, off, none⟩) len cap).ownBlock := fun e => HNK.out g e.symm rfl
      have hB5 : Below w0.heap.size w0 w5 := (HBW.out.alloc hBsz _).grown HG5.out (by simp; omega) (fun k hk => by
        have h' : wr.ownsRow w0.heap.size 5 1 _ L.length (bcells L) := HOR.out
        exact (h'.lt k hk).1)
      have hs5 : w1.heap.size ≤ w5.heap.size := by
        have := HG5.out.size
        rw [World.size_alloc] at this
        omega
      have hg5 : w5.heap[g]? = some (.cells #[.bool true, .int .i64 (n : Int), .int .i64 (d : Int), y] 65 (0, 0)) := by
        rw [HG5.out.block g (by rw [World.size_alloc]; omega) hne5, Below.heap_alloc _ _ _ hlt5]
        exact HBR.out
      have hk5 : ∀ k, (Value.slice ao1 (len + 1) cap1).ownBlock = some k → k ≠ g := fun k hk => by
        rcases HK5.out k hk with h | h
        · exact HNK.out k h
        · rw [World.size_alloc] at h; omega
      have HX5 : Hid (Below w0.heap.size w0 w5 ∧ w1.heap.size ≤ w5.heap.size ∧ w5.heap[g]? = some (.cells #[.bool true, .int .i64 (n : Int), .int .i64 (d : Int), y] 65 (0, 0))) := ⟨hB5, hs5, hg5⟩
      clear hB5 hs5 hg5
      go_roundw
      case rel => exact ⟨j + 1, len + 1, cap1, ao1, L ++ [x], by omega, by go_num, rfl, by have := HLEN.out; omega, by rw [Hid, List.length_append, HLL.out]; rfl, HO5.out, HN.out, hk5, HX5.out.2.2, HX5.out.2.1, HX5.out.1⟩
      case measure => simp [intOf]; omega
    · obtain rfl : n = j := by omega
      have HE : Hid (cpOut d n m = L) := by rw [Hid, ← HCP.out, Nat.sub_self]; rfl
      go_wp2_with fail
      go_ret
      exact ⟨_, rfl, by rw [HE.out]; exact HOR.out, HBW.out⟩
end Go.Proofs.Ytgodoogmbdgeoab
