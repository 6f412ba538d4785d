/-
  bytes.Repeat. Conditions: of 1 to 256 bytes so many that there are at most 65536 together.
-/
import Derived.Test.YtneegijbbbebkaaGWhole
import Derived.Test.YtneegijbbbebkaaWalkF
import Derived.Lib.MakeNoZero
import Derived.Laws.CopyRow
import Derived.Laws.CopyOwn
namespace Go.Proofs.Ytneegijbbbebkaa
open Go.RowKit Go.Shelf
set_option linter.unusedVariables false
set_option maxRecDepth 100000

theorem and32 (n : Nat) (h : n < 4294967296) : bits .and .u64 (n : Int) 4294967295 = (n : Int) := by
  have e : bits .and .u64 (n : Int) 4294967295 = IntKind.u64.wrap (((BitVec.ofInt 64 (n : Int) &&& BitVec.ofInt 64 4294967295).toNat : Nat) : Int) := rfl
  have h1 : (BitVec.ofInt 64 (n : Int)).toNat = n := by simp; omega
  have h2 : (BitVec.ofInt 64 4294967295).toNat = 2 ^ 32 - 1 := by decide
  rw [e, BitVec.toNat_and, h1, h2, Nat.and_two_pow_sub_one_eq_mod, Nat.mod_eq_of_lt (by omega)]
  simp [IntKind.wrap, IntKind.bits, IntKind.signed]; omega
theorem and32_0 : bits .and .u64 0 4294967295 = 0 := by decide
theorem wrap_u64_in (n : Int) (h0 : 0 ≤ n) (h1 : n ≤ 18446744073709551615) : IntKind.u64.wrap n = n := by
  simp [IntKind.wrap, IntKind.bits, IntKind.signed]; omega
set_option maxHeartbeats 4000000 in
theorem mul64_any (m n p : Nat) (hm : m ≤ 1048576) (hn : n ≤ 1048576) (hp : m * n = p) (hpb : p < 4294967296) (w : World) : Calls Try.prog 59 #[.int .u64 (m : Int), .int .u64 (n : Int)] w fun e w' => e = .returned (.tuple #[.int .u64 0, .int .u64 (p : Int)]) ∧ w' = w := by
  have hmn : (m : Int) * (n : Int) = (p : Int) := by rw [← hp]; simp
  have h1 := and32 m (by omega)
  have h2 := and32 n (by omega)
  have h3 := and32_0
  have h4 : (m : Int) / 4294967296 = 0 := by omega
  have h4' : (n : Int) / 4294967296 = 0 := by omega
  have h4'' : (p : Int) / 4294967296 = 0 := by omega
  have h5 := wrap_u64_in (m : Int) (by omega) (by omega)
  have h6 := wrap_u64_in (n : Int) (by omega) (by omega)
  have h7 := wrap_u64_in (p : Int) (by omega) (by omega)
  have h8 : IntKind.u64.wrap ((m : Int) * (n : Int)) = (p : Int) := by rw [hmn]; exact h7
  go_enter Try.func59, Try.ntmps59
  go_wp2
  go_ret2
  refine ⟨?_, rfl⟩
  simp
theorem mul_any (m n p : Nat) (hm : m ≤ 1048576) (hn : n ≤ 1048576) (hp : m * n = p) (hpb : p < 4294967296) (w : World) : Calls Try.prog 51 #[.int .u64 (m : Int), .int .u64 (n : Int)] w fun e w' => e = .returned (.tuple #[.int .u64 0, .int .u64 (p : Int)]) ∧ w' = w := by
  go_enter Try.func51, Try.ntmps51
  go_wp2_with (go_at_call 59; refine (mul64_any m n p hm hn hp hpb _).mono ?_; rintro e w1 ⟨rfl, hw1⟩; obtain rfl := hw1.symm)
  go_ret2
  exact ⟨rfl, rfl⟩
/-- A list so many times. -/
def repL (c : Nat) (l : List Int) : List Int := (List.replicate c l).flatten
theorem repL_len (c : Nat) (l : List Int) : (repL c l).length = c * l.length := by simp [repL, List.length_flatten]
theorem repL_add (a b : Nat) (l : List Int) : repL (a + b) l = repL a l ++ repL b l := by
  rw [repL, repL, repL, ← List.replicate_append_replicate, List.flatten_append]
theorem repL_take {a b : Nat} (h : a ≤ b) (l : List Int) : (repL b l).take (a * l.length) = repL a l := by
  obtain ⟨c, rfl⟩ : ∃ c, b = a + c := ⟨b - a, by omega⟩
  rw [repL_add, List.take_left' (repL_len a l)]
theorem repL_one (l : List Int) : repL 1 l = l := by simp [repL]
/-- The first bytes of a block. -/
def Dst (w : World) (g : Nat) (l : List Int) : Prop := ∃ cs : Array Value, w.heap[g]? = some (.cells cs 5 (0, 0)) ∧ cs.toList.take l.length = bcells l
theorem Dst.size {w : World} {g : Nat} {l : List Int} {cs : Array Value} (h : cs.toList.take l.length = bcells l) : l.length ≤ cs.size := by
  have := congrArg List.length h
  rw [List.length_take, bcells_length] at this
  simp at this
  omega
theorem Dst.lt {w : World} {g : Nat} {l : List Int} (h : Dst w g l) : g < w.heap.size := by
  obtain ⟨cs, h1, _⟩ := h
  exact (Array.getElem?_eq_some_iff.1 h1).1
theorem Dst.of_block {w w' : World} {g : Nat} {l : List Int} (h : Dst w g l) (e : w'.heap[g]? = w.heap[g]?) : Dst w' g l := by
  obtain ⟨cs, h1, h2⟩ := h
  exact ⟨cs, e.trans h1, h2⟩
theorem Dst.below {w w' : World} {g : Nat} {l : List Int} (h : Dst w g l) (hb : Below w.heap.size w w') : Dst w' g l := h.of_block (hb.block g h.lt)
theorem Dst.drew {w : World} {g : Nat} {l : List Int} (h : Dst w g l) : Dst w.drew g l := h
theorem Dst.cell {w : World} {g : Nat} {l : List Int} (h : Dst w g l) {i : Nat} (hi : i < l.length) : w.cell? ⟨g, i, none⟩ = some (.int .u8 (l.getD i 0)) := by
  obtain ⟨cs, h1, h2⟩ := h
  rw [cell_of_row w g i _ _ _ h1]
  have h3 : (cs.toList.take l.length)[i]? = (bcells l)[i]? := by rw [h2]
  rw [List.getElem?_take_of_lt hi] at h3
  rw [← Array.getElem?_toList, h3, bcells, List.getElem?_map, List.getElem?_eq_getElem hi]
  simp [List.getD, hi]
theorem Dst.bs {w : World} {g : Nat} {l : List Int} (h : Dst w g l) (cap : Nat) (hc : l.length ≤ cap) : Bs w (.slice (some ⟨g, 0, none⟩) l.length cap) l := by
  refine ⟨_, cap, rfl, hc, (fun e => by cases e), fun ad ha i hi => ?_⟩
  obtain rfl := Option.some.inj ha
  rw [addr_add, Nat.zero_add]
  exact h.cell hi
/-- Bytes of a list in the place of others. -/
def cpy (s x : List Int) (a : Nat) : List Int := s.take a ++ (x ++ s.drop (a + x.length))
theorem cpy_len {s x : List Int} {a : Nat} (h : a + x.length ≤ s.length) : (cpy s x a).length = s.length := by
  simp [cpy]; omega
theorem bcells_take (l : List Int) (n : Nat) : bcells (l.take n) = (bcells l).take n := by simp [bcells, List.map_take]
theorem bcells_drop (l : List Int) (n : Nat) : bcells (l.drop n) = (bcells l).drop n := by simp [bcells, List.map_drop]
theorem dst_copy {w : World} {g : Nat} {s x : List Int} {a : Nat} {cs : Array Value} (hg : w.heap[g]? = some (.cells cs 5 (0, 0))) (hs : cs.toList.take s.length = bcells s) (h : a + x.length ≤ s.length) :
    (w.setRow g (cs.toList.take a ++ bcells x ++ cs.toList.drop (a + (bcells x).length)).toArray).heap[g]? = some (.cells (cs.toList.take a ++ bcells x ++ cs.toList.drop (a + (bcells x).length)).toArray 5 (0, 0)) ∧ (cs.toList.take a ++ bcells x ++ cs.toList.drop (a + (bcells x).length)).toArray.size = cs.size ∧ (cs.toList.take a ++ bcells x ++ cs.toList.drop (a + (bcells x).length)).toArray.toList.take s.length = bcells (cpy s x a) := by
  have hsz := Dst.size (w := w) (g := g) hs
  refine ⟨setRow_heap w g _ _ _ _ hg, ?_, ?_⟩
  · simp [bcells_length]; omega
  · have e1 : cs.toList.take a = bcells (s.take a) := by
      rw [bcells_take, ← hs, List.take_take, Nat.min_eq_left (by omega)]
    have e2 : (cs.toList.drop (a + x.length)).take (s.length - (a + x.length)) = bcells (s.drop (a + x.length)) := by
      rw [bcells_drop, ← hs, List.drop_take]
    rw [bcells_length, e1, cpy, bcells_append, bcells_append, ← e2]
    have h5 : (bcells (s.take a) ++ bcells x).length = a + x.length := by rw [List.length_append, bcells_length, bcells_length, List.length_take]; omega
    rw [List.take_append, List.take_of_length_le (by rw [h5]; exact h), h5, List.append_assoc]
theorem mul_min (a b d : Nat) : min a b * d = min (a * d) (b * d) := by
  rcases Nat.le_total a b with h | h
  · rw [Nat.min_eq_left h, Nat.min_eq_left (Nat.mul_le_mul_right d h)]
  · rw [Nat.min_eq_right h, Nat.min_eq_right (Nat.mul_le_mul_right d h)]
/-- What Repeat tells. -/
def RpP (w : World) (N : Nat) (R : List Int) (e : Ending) (w' : World) : Prop := ∃ g cap, e = .returned (.slice (some ⟨g, 0, none⟩) N cap) ∧ N ≤ cap ∧ Dst w' g R ∧ w.heap.size ≤ g ∧ Below w.heap.size w w'
theorem run_copy_in {w : World} {g : Nat} {cs : Array Value} {s x : List Int} {a dLen dCap sLen sCap : Nat} {ad : Addr} (hg : w.heap[g]? = some (.cells cs 5 (0, 0))) (hs : cs.toList.take s.length = bcells s) (hfit : a + x.length ≤ s.length) (hn : x.length = Nat.min sLen dLen) (hx : ∀ j, j < x.length → w.cell? (ad.add j) = some (.int .u8 (x.getD j 0))) (B : Nat) (w0 : World) (hb : Below B w0 w) (hB : B ≤ g) :
    ∃ w', (∀ ty, (Builtin.copy_ #[37, 37] ty #[.slice (some ⟨g, a, none⟩) dLen dCap, .slice (some ad) sLen sCap]).run Try.prog w = .ok (.int .i64 (x.length : Int)) w') ∧ (∃ cs', w'.heap[g]? = some (.cells cs' 5 (0, 0)) ∧ cs'.size = cs.size ∧ cs'.toList.take s.length = bcells (cpy s x a)) ∧ Below B w0 w' ∧ Kp (fun y => y = g) w w' := by
  have hsz := Dst.size (w := w) (g := g) hs
  obtain ⟨h1, h2, h3⟩ := dst_copy hg hs hfit
  refine ⟨_, fun ty => ?_, ⟨_, h1, h2, h3⟩, below_setRow hb hB _, ?_⟩
  · have := run_copy_row (P := Try.prog) w 37 37 ty 5 g a dLen dCap ad sLen sCap cs 5 (bcells x) Try.underlying37 Try.size5 hg (by rw [bcells_length]; exact hn) (fun j u hj => by
      obtain ⟨hj', rfl⟩ := bcells_get hj
      exact hx j hj') (by rw [bcells_length]; omega) (bcells_one _)
    rw [bcells_length] at this
    rw [bcells_length, this]
    rfl
  · exact ⟨rfl, rfl, rfl, by simp [World.setRow], fun k hk hne => setRow_other w g k _ hne⟩
/-- A copy behind what is known of a block. -/
theorem run_copy_push {w : World} {g : Nat} {cs : Array Value} {p x : List Int} {k m dLen dCap sLen sCap : Nat} {ad : Addr} (hg : w.heap[g]? = some (.cells cs 5 (0, 0))) (hp : cs.toList.take k = bcells p) (hk : p.length = k) (hm : x.length = m) (hfit : k + m ≤ cs.size) (hn : m = Nat.min sLen dLen) (hx : ∀ j, j < m → w.cell? (ad.add j) = some (.int .u8 (x.getD j 0))) (B : Nat) (w0 : World) (hb : Below B w0 w) (hB : B ≤ g) :
    ∃ w', (∀ ty, (Builtin.copy_ #[37, 37] ty #[.slice (some ⟨g, k, none⟩) dLen dCap, .slice (some ad) sLen sCap]).run Try.prog w = .ok (.int .i64 (m : Int)) w') ∧ (∃ cs', w'.heap[g]? = some (.cells cs' 5 (0, 0)) ∧ cs'.size = cs.size ∧ cs'.toList.take (k + m) = bcells (p ++ x)) ∧ Below B w0 w' := by
  subst hm
  have h5 : (bcells p ++ bcells x).length = k + x.length := by rw [List.length_append, bcells_length, bcells_length, hk]
  refine ⟨_, fun ty => ?_, ⟨_, setRow_heap w g cs (cs.toList.take k ++ bcells x ++ cs.toList.drop (k + (bcells x).length)).toArray 5 (0, 0) hg, ?_, ?_⟩, below_setRow hb hB _⟩
  · have := run_copy_row (P := Try.prog) w 37 37 ty 5 g k dLen dCap ad sLen sCap cs 5 (bcells x) Try.underlying37 Try.size5 hg (by rw [bcells_length]; exact hn) (fun j u hj => by
      obtain ⟨hj', rfl⟩ := bcells_get hj
      exact hx j hj') (by rw [bcells_length]; omega) (bcells_one _)
    rw [this, bcells_length]
    rfl
  · simp [bcells_length]; omega
  · rw [hp, bcells_append]
    show (bcells p ++ bcells x ++ _).take _ = _
    rw [List.take_left' h5]
set_option maxHeartbeats 8000000 in
theorem rep_any (v : Value) (l : List Int) (d c N : Nat) (w : World) (hv : Bs w v l) (hl : l.length = d) (hd : 1 ≤ d) (hd2 : d ≤ 256) (hN : d * c = N) (hN2 : N ≤ 65536) :
    Calls Try.prog 38 #[v, .int .i64 (c : Int)] w (RpP w N (repL c l)) := by
  have HV : Hid (Bs w v l) := hv
  have HL : Hid (l.length = d) := hl
  have hcb : c ≤ 65536 := by
    have := Nat.mul_le_mul_right c hd
    omega
  have HRN : Hid ((repL c l).length = N) := by rw [Hid, repL_len, hl, Nat.mul_comm]; exact hN
  have HMU : Hid _ := mul_any d c N (by omega) (by omega) hN (by omega) w
  have HNN : Hid (d * c = N) := hN
  obtain ⟨ao, cap, rfl, hc, hnn, hcell⟩ := hv
  rw [hl] at hc ⊢
  clear hcell hnn hl hN
  rcases Nat.eq_zero_or_pos c with h0 | h0
  · subst h0
    have hN0 : N = 0 := by have := HNN.out; omega
    subst hN0
    obtain ⟨wa, hwa, hba, hsa, hga⟩ := alloc_facts w (.cells #[] 5)
    have HD : Hid (Dst wa w.heap.size (repL 0 l)) := ⟨#[], hga, by simp [repL, bcells]⟩
    have HBA : Hid (Below w.heap.size w wa) := hba
    clear hba hsa hga
    go_enter Try.func38, Try.ntmps38
    go_wp2_with fail
    go_ret
    exact ⟨w.heap.size, 0, rfl, Nat.le_refl _, HD.out, Nat.le_refl _, HBA.out⟩
  · have hN1 : d ≤ N := by
      have := Nat.mul_le_mul_left d h0
      have := HNN.out
      omega
    have h1 : ((c : Int) == 0) = false := by simp; omega
    have h2 : IntKind.u64.wrap (d : Int) = d := wrap_u64_in _ (by omega) (by omega)
    have h3 : IntKind.u64.wrap (c : Int) = c := wrap_u64_in _ (by omega) (by omega)
    have h4 : IntKind.i64.wrap (N : Int) = N := wrap_i64_in _ (by omega) (by omega)
    have h5 : ((d : Int) == 0) = false := by simp; omega
    have h6 : decide ((9223372036854775807 : Int) < (N : Int)) = false := decide_eq_false (by omega)
    have h7 : decide ((c : Int) < 0) = false := decide_eq_false (by omega)
    obtain ⟨cs0, hmk0, hmk1, _⟩ := Lib.run_makeNoZero (P := Try.prog) w #[3] 37 5 Try.underlying37 N (by omega)
    obtain ⟨w2, hw2⟩ : ∃ w2, w.drew.drew.alloc (.cells cs0 5) = w2 := ⟨_, rfl⟩
    have hmk : (callFunc 52 #[.int .i64 (N : Int)]).run Try.prog w = .ok (.value (.slice (some ⟨w.heap.size, 0, none⟩) N cs0.size)) w2 := by
      rw [run_callFunc_extern Try.func52 (by kernel_rfl) (by kernel_rfl) (by kernel_rfl) (e := Extern.BytealgMakeNoZero.makeNoZero #[3] #[37]) (by kernel_rfl)]
      simp [hmk0, hw2]
    have HC0 : Hid (w2.heap[w.heap.size]? = some (.cells cs0 5 (0, 0)) ∧ Below w.heap.size w w2) := by
      have h9 : Below w.heap.size w w.drew.drew := (Below.refl _ w).drew.drew
      rw [← hw2]
      exact ⟨heap_alloc_new w.drew.drew _, h9.alloc (Nat.le_refl _) _⟩
    have HS3 : Hid (Bs w2 (.slice ao d cap) l) := by
      have h9 := HV.out.below HC0.out.2
      rw [HL.out] at h9
      exact h9
    obtain ⟨b1, o1, cap1, e1, _, hcc⟩ := HS3.out.opened (by rw [HL.out]; omega)
    injection e1 with e1 e2 e3
    subst e1
    obtain ⟨w3, hr3, hx3, hb3⟩ := run_copy_push (w := w2) (g := w.heap.size) (cs := cs0) (p := []) (x := l) (k := 0) (m := d) (dLen := N) (dCap := N) (sLen := d) (sCap := cap) (ad := ⟨b1, o1, none⟩) HC0.out.1 (by simp [bcells]) rfl HL.out (by omega) (Nat.min_eq_left hN1).symm (fun j hj => by rw [addr_add]; exact hcc j (by rw [HL.out]; exact hj)) w.heap.size w HC0.out.2 (Nat.le_refl _)
    have HC3 : Hid (∃ cs : Array Value, w3.heap[w.heap.size]? = some (.cells cs 5 (0, 0)) ∧ cs.size = cs0.size ∧ cs.toList.take d = bcells l) := by
      obtain ⟨cs', u1, u2, u3⟩ := hx3
      exact ⟨cs', u1, u2, by rw [Nat.zero_add] at u3; exact u3⟩
    have HB3 : Hid (Below w.heap.size w w3) := hb3
    have hr3' := hr3 3
    have hcs0 : (N : Int) ≤ (cs0.size : Int) := by omega
    have HNCS : Hid (N ≤ cs0.size) := by rw [Hid]; omega
    clear hx3 hb3 hr3 hmk0 hcc e2 e3
    by_cases hbig : 8192 < N
    · obtain ⟨m, hm⟩ : ∃ m, 8192 / d = m := ⟨_, rfl⟩
      obtain ⟨cm, hcm⟩ : ∃ cm, m * d = cm := ⟨_, rfl⟩
      have hm1 : 1 ≤ m := by rw [← hm]; exact (Nat.le_div_iff_mul_le (by omega)).2 (by omega)
      have HCM : Hid (cm = m * d ∧ 1 ≤ m) := ⟨hcm.symm, hm1⟩
      have hcm1 : cm ≤ 8192 := by rw [← hcm, ← hm]; exact Nat.div_mul_le_self 8192 d
      have hcm2 : d ≤ cm := by rw [← hcm]; exact Nat.le_mul_of_pos_left d hm1
      have hq1 : (8192 : Int).tdiv (d : Int) = (m : Int) := by rw [Int.tdiv_eq_ediv_of_nonneg (by omega), ← hm]; rfl
      have hq2 : (8192 : Int) / (d : Int) = (m : Int) := by rw [← hm]; rfl
      have hq3 : IntKind.i64.wrap ((m : Int) * (d : Int)) = (cm : Int) := by rw [← Int.natCast_mul, hcm]; exact wrap_i64_in _ (by omega) (by omega)
      have hq4 : ((cm : Int) == 0) = false := by simp; omega
      have hq5 : (d : Int) ≠ 0 := by omega
      have hq6 : (d : Int) ≠ -1 := by omega
      have hm8 : m ≤ 8192 := by rw [← hm]; exact Nat.div_le_self _ _
      have hbi : decide ((8192 : Int) < (N : Int)) = true := decide_eq_true (by omega)
      clear hm hcm
      go_enter Try.func38, Try.ntmps38
      go_wp2_with (go_at_call 51; refine Calls.mono HMU.out ?_; rintro e w1 ⟨rfl, hw1⟩; obtain rfl := hw1.symm)
      go_loopw [10] (fun x wr => ∃ q k : Nat, q ≤ c ∧ 1 ≤ q ∧ x = .int .i64 (k : Int) ∧ Hid (q * d = k) ∧ Hid (∃ cs : Array Value, wr.heap[w.heap.size]? = some (.cells cs 5 (0, 0)) ∧ cs.size = cs0.size ∧ cs.toList.take k = bcells (repL q l)) ∧ Hid (Below w.heap.size w wr)) (fun x _ => N - (intOf x).toNat)
      case atStart => exact ⟨1, d, h0, Nat.le_refl _, rfl, Nat.one_mul d, by rw [Hid, repL_one]; exact HC3.out, HB3.out⟩
      case round =>
        obtain ⟨q, k, hqc, hq1, rfl, HK, HQ, HB⟩ := hrel
        rename World => w6
        have hkN : k ≤ N := by rw [← HK.out, ← HNN.out, Nat.mul_comm]; exact Nat.mul_le_mul_left d hqc
        by_cases hlt : k < N
        · have hqlt : q < c := by
            rcases Nat.lt_or_ge q c with h9 | h9
            · exact h9
            · exfalso
              have := Nat.mul_le_mul_left d h9
              have e1 := HNN.out
              have e2 := HK.out
              rw [Nat.mul_comm] at e2
              omega
          obtain ⟨M, hM⟩ : ∃ M, min (min q m) (c - q) = M := ⟨_, rfl⟩
          obtain ⟨cs, hcs1, hcs2, hcs3⟩ := HQ.out
          obtain ⟨Md, hMdd⟩ : ∃ Md, M * d = Md := ⟨_, rfl⟩
          have hMd : Md = min (min k cm) (N - k) := by
            have e1 : N - k = (c - q) * d := by rw [Nat.sub_mul, HK.out, Nat.mul_comm c d, HNN.out]
            rw [e1, ← HK.out, HCM.out.1, ← hMdd, ← hM, mul_min, mul_min]
          have hk1 : d ≤ k := by rw [← HK.out]; exact Nat.le_mul_of_pos_left d hq1
          have hM1 : 1 ≤ M := by have := HCM.out.2; omega
          have hMq : M ≤ q := by omega
          have hMc : q + M ≤ c := by omega
          have hMd1 : d ≤ Md := by rw [← hMdd]; exact Nat.le_mul_of_pos_left d hM1
          obtain ⟨ch, hch⟩ : ∃ ch, min k cm = ch := ⟨_, rfl⟩
          rw [hch] at hMd
          have hchk : ch ≤ k := by omega
          have HCS : Hid (∀ j, j < Md → w6.drew.cell? ((⟨w.heap.size, 0, none⟩ : Addr).add j) = some (.int .u8 ((repL M l).getD j 0))) := fun j hj => by
            have hr : (repL M l).getD j 0 = (repL q l).getD j 0 := by
              rw [← repL_take hMq, HL.out, hMdd]
              simp [List.getD, hj]
            rw [hr, addr_add, Nat.zero_add]
            show w6.cell? _ = _
            exact (show Dst w6 w.heap.size (repL q l) from ⟨cs, hcs1, by rw [repL_len, HL.out, HK.out]; exact hcs3⟩).cell (by rw [repL_len, HL.out, HK.out]; omega)
          obtain ⟨w7, hr7, hx7, hb7⟩ := run_copy_push (w := w6.drew) (g := w.heap.size) (cs := cs) (p := repL q l) (x := repL M l) (k := k) (m := Md) (dLen := N - k) (dCap := N - k) (sLen := ch) (sCap := N) (ad := ⟨w.heap.size, 0, none⟩) hcs1 hcs3 (by rw [repL_len, HL.out, HK.out]) (by rw [repL_len, HL.out, hMdd]) (by rw [hcs2]; omega) (by rw [hMd]) HCS.out w.heap.size w HB.out.drew (Nat.le_refl _)
          have HX7 : Hid (∃ cs : Array Value, w7.heap[w.heap.size]? = some (.cells cs 5 (0, 0)) ∧ cs.size = cs0.size ∧ cs.toList.take (k + Md) = bcells (repL (q + M) l)) := by
            obtain ⟨cs', u1, u2, u3⟩ := hx7
            exact ⟨cs', u1, by rw [u2, hcs2], by rw [repL_add]; exact u3⟩
          have HB7 : Hid (Below w.heap.size w w7) := hb7
          have HK7 : Hid ((q + M) * d = k + Md) := by rw [Hid, Nat.add_mul, HK.out, hMdd]
          have hkm : IntKind.i64.wrap ((k : Int) + (Md : Int)) = (k : Int) + (Md : Int) := wrap_i64_in _ (by omega) (by omega)
          have hkl : (k : Int) < (N : Int) := by omega
          have hci : (ch : Int) ≤ (N : Int) := by omega
          have hmin : min (k : Int) (cm : Int) = (ch : Int) := by omega
          have hne : ¬ N = k := by omega
          have hr7' := hr7 3
          have hki : (k : Int) ≤ (N : Int) := by omega
          clear hcs1 hcs2 hcs3 hx7 hb7 hM hMdd hMd hr7
          go_wp2_with fail
          go_region_with (fail)
          simp [Exit.inBlock, Act.put]
          go_wp2_with fail
          go_roundw
          case rel => exact ⟨q + M, k + Md, hMc, by omega, by simp, HK7.out, HX7.out, HB7.out⟩
          case measure => simp [intOf]; omega
        · obtain rfl : k = N := by omega
          have HV9 : Hid (RpP w k (repL c l) (.returned (.slice (some ⟨w.heap.size, 0, none⟩) k k)) w6) := by
            have hqe : q = c := by
              rcases Nat.lt_or_ge q c with h9 | h9
              · exfalso
                have h8 := Nat.mul_lt_mul_of_pos_right h9 (show 0 < d by omega)
                rw [HK.out, Nat.mul_comm c d, HNN.out] at h8
                omega
              · omega
            obtain ⟨cs, hcs1, hcs2, hcs3⟩ := HQ.out
            rw [hqe] at hcs3
            exact ⟨w.heap.size, k, rfl, Nat.le_refl _, ⟨cs, hcs1, by rw [HRN.out]; exact hcs3⟩, Nat.le_refl _, HB.out⟩
          go_wp2_with fail
          go_ret
          exact HV9.out
    · obtain ⟨cm, hcm⟩ : ∃ cm, N = cm := ⟨_, rfl⟩
      obtain ⟨m, hm⟩ : ∃ m, c = m := ⟨_, rfl⟩
      have HCM : Hid (cm = m * d ∧ 1 ≤ m) := ⟨by rw [← hcm, ← hm, Nat.mul_comm, HNN.out], by omega⟩
      have hcm1 : cm ≤ 8192 := by omega
      have hbi : decide ((8192 : Int) < (N : Int)) = false := decide_eq_false (by omega)
      have HCN : Hid (N = cm) := hcm
      have hq4 : ((N : Int) == 0) = false := by simp; omega
      clear hm hcm
      go_enter Try.func38, Try.ntmps38
      go_wp2_with (go_at_call 51; refine Calls.mono HMU.out ?_; rintro e w1 ⟨rfl, hw1⟩; obtain rfl := hw1.symm)
      go_loopw [10] (fun x wr => ∃ q k : Nat, q ≤ c ∧ 1 ≤ q ∧ x = .int .i64 (k : Int) ∧ Hid (q * d = k) ∧ Hid (∃ cs : Array Value, wr.heap[w.heap.size]? = some (.cells cs 5 (0, 0)) ∧ cs.size = cs0.size ∧ cs.toList.take k = bcells (repL q l)) ∧ Hid (Below w.heap.size w wr)) (fun x _ => N - (intOf x).toNat)
      case atStart => exact ⟨1, d, h0, Nat.le_refl _, rfl, Nat.one_mul d, by rw [Hid, repL_one]; exact HC3.out, HB3.out⟩
      case round =>
        obtain ⟨q, k, hqc, hq1, rfl, HK, HQ, HB⟩ := hrel
        rename World => w6
        have hkN : k ≤ N := by rw [← HK.out, ← HNN.out, Nat.mul_comm]; exact Nat.mul_le_mul_left d hqc
        by_cases hlt : k < N
        · have hqlt : q < c := by
            rcases Nat.lt_or_ge q c with h9 | h9
            · exact h9
            · exfalso
              have := Nat.mul_le_mul_left d h9
              have e1 := HNN.out
              have e2 := HK.out
              rw [Nat.mul_comm] at e2
              omega
          obtain ⟨M, hM⟩ : ∃ M, min (min q m) (c - q) = M := ⟨_, rfl⟩
          obtain ⟨cs, hcs1, hcs2, hcs3⟩ := HQ.out
          obtain ⟨Md, hMdd⟩ : ∃ Md, M * d = Md := ⟨_, rfl⟩
          have hMd : Md = min (min k cm) (N - k) := by
            have e1 : N - k = (c - q) * d := by rw [Nat.sub_mul, HK.out, Nat.mul_comm c d, HNN.out]
            rw [e1, ← HK.out, HCM.out.1, ← hMdd, ← hM, mul_min, mul_min]
          have hk1 : d ≤ k := by rw [← HK.out]; exact Nat.le_mul_of_pos_left d hq1
          have hM1 : 1 ≤ M := by have := HCM.out.2; omega
          have hMq : M ≤ q := by omega
          have hMc : q + M ≤ c := by omega
          have hMd1 : d ≤ Md := by rw [← hMdd]; exact Nat.le_mul_of_pos_left d hM1
          obtain ⟨ch, hch⟩ : ∃ ch, min k cm = ch := ⟨_, rfl⟩
          rw [hch] at hMd
          have hchk : ch ≤ k := by omega
          have HCS : Hid (∀ j, j < Md → w6.drew.cell? ((⟨w.heap.size, 0, none⟩ : Addr).add j) = some (.int .u8 ((repL M l).getD j 0))) := fun j hj => by
            have hr : (repL M l).getD j 0 = (repL q l).getD j 0 := by
              rw [← repL_take hMq, HL.out, hMdd]
              simp [List.getD, hj]
            rw [hr, addr_add, Nat.zero_add]
            show w6.cell? _ = _
            exact (show Dst w6 w.heap.size (repL q l) from ⟨cs, hcs1, by rw [repL_len, HL.out, HK.out]; exact hcs3⟩).cell (by rw [repL_len, HL.out, HK.out]; omega)
          obtain ⟨w7, hr7, hx7, hb7⟩ := run_copy_push (w := w6.drew) (g := w.heap.size) (cs := cs) (p := repL q l) (x := repL M l) (k := k) (m := Md) (dLen := N - k) (dCap := N - k) (sLen := ch) (sCap := N) (ad := ⟨w.heap.size, 0, none⟩) hcs1 hcs3 (by rw [repL_len, HL.out, HK.out]) (by rw [repL_len, HL.out, hMdd]) (by rw [hcs2]; omega) (by rw [hMd]) HCS.out w.heap.size w HB.out.drew (Nat.le_refl _)
          have HX7 : Hid (∃ cs : Array Value, w7.heap[w.heap.size]? = some (.cells cs 5 (0, 0)) ∧ cs.size = cs0.size ∧ cs.toList.take (k + Md) = bcells (repL (q + M) l)) := by
            obtain ⟨cs', u1, u2, u3⟩ := hx7
            exact ⟨cs', u1, by rw [u2, hcs2], by rw [repL_add]; exact u3⟩
          have HB7 : Hid (Below w.heap.size w w7) := hb7
          have HK7 : Hid ((q + M) * d = k + Md) := by rw [Hid, Nat.add_mul, HK.out, hMdd]
          have hkm : IntKind.i64.wrap ((k : Int) + (Md : Int)) = (k : Int) + (Md : Int) := wrap_i64_in _ (by omega) (by omega)
          have hkl : (k : Int) < (N : Int) := by omega
          have hci : (ch : Int) ≤ (N : Int) := by omega
          have hmin : min (k : Int) (N : Int) = (ch : Int) := by have := HCN.out; omega
          have hne : ¬ N = k := by omega
          have hr7' := hr7 3
          have hki : (k : Int) ≤ (N : Int) := by omega
          clear hcs1 hcs2 hcs3 hx7 hb7 hM hMdd hMd hr7
          go_wp2_with fail
          go_region_with (fail)
          simp [Exit.inBlock, Act.put]
          go_wp2_with fail
          go_roundw
          case rel => exact ⟨q + M, k + Md, hMc, by omega, by simp, HK7.out, HX7.out, HB7.out⟩
          case measure => simp [intOf]; omega
        · obtain rfl : k = N := by omega
          have HV9 : Hid (RpP w k (repL c l) (.returned (.slice (some ⟨w.heap.size, 0, none⟩) k k)) w6) := by
            have hqe : q = c := by
              rcases Nat.lt_or_ge q c with h9 | h9
              · exfalso
                have h8 := Nat.mul_lt_mul_of_pos_right h9 (show 0 < d by omega)
                rw [HK.out, Nat.mul_comm c d, HNN.out] at h8
                omega
              · omega
            obtain ⟨cs, hcs1, hcs2, hcs3⟩ := HQ.out
            rw [hqe] at hcs3
            exact ⟨w.heap.size, k, rfl, Nat.le_refl _, ⟨cs, hcs1, by rw [HRN.out]; exact hcs3⟩, Nat.le_refl _, HB.out⟩
          go_wp2_with fail
          go_ret
          exact HV9.out
end Go.Proofs.Ytneegijbbbebkaa
