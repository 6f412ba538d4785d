/-
  Bytes that tell of a list are that list's bytes.
-/
import Derived.Test.YtkiccnedmejnaabDoorXBytesMath
namespace Go.Proofs.YtkiccnedmejnaabDoor
open Go.RowKit
set_option linter.unusedVariables false
set_option maxRecDepth 100000

theorem dig4 (a b c d : Int) (ha : 0 ≤ a ∧ a ≤ 255) (hb : 0 ≤ b ∧ b ≤ 255) (hc : 0 ≤ c ∧ c ≤ 255) (hd : 0 ≤ d ∧ d ≤ 255) : d4 (val true [a, b, c, d]) = [a, b, c, d] := by
  have hv : val true [a, b, c, d] = d + 256 * (c + 256 * (b + 256 * a)) := by
    unfold val
    rw [if_pos rfl, show [a, b, c, d].reverse = [d, c, b, a] from rfl, show [a, b, c, d].length = 3 + 1 from rfl, num_cons, show (3 : Nat) = 2 + 1 from rfl, num_cons, show (2 : Nat) = 1 + 1 from rfl, num_cons, show (1 : Nat) = 0 + 1 from rfl, num_cons, show num [] 0 = 0 from rfl]
    omega
  rw [hv]
  have hl : (d4 (d + 256 * (c + 256 * (b + 256 * a)))).length = 4 := d4_length _
  have hg : ∀ k, k < 4 → (digs (d + 256 * (c + 256 * (b + 256 * a))) 4).getD k 0 = qd (d + 256 * (c + 256 * (b + 256 * a))) k % 256 := fun k hk => digs_get _ 4 k hk
  have q0 := hg 0 (by omega)
  have q1 := hg 1 (by omega)
  have q2 := hg 2 (by omega)
  have q3 := hg 3 (by omega)
  simp only [qd_succ, qd_zero] at q0 q1 q2 q3
  have hd4 : d4 (d + 256 * (c + 256 * (b + 256 * a))) = (digs (d + 256 * (c + 256 * (b + 256 * a))) 4).reverse := rfl
  have hdl : (digs (d + 256 * (c + 256 * (b + 256 * a))) 4).length = 4 := digs_length _ 4
  rw [hd4]
  generalize digs (d + 256 * (c + 256 * (b + 256 * a))) 4 = T at *
  obtain ⟨t0, t1, t2, t3, rfl⟩ : ∃ t0 t1 t2 t3, T = [t0, t1, t2, t3] := by
    match T, hdl with
    | [t0, t1, t2, t3], _ => exact ⟨t0, t1, t2, t3, rfl⟩
  simp only [List.getD_cons_zero, List.getD_cons_succ] at q0 q1 q2 q3
  have e0 : t0 = d := by omega
  have e1 : t1 = c := by omega
  have e2 : t2 = b := by omega
  have e3 : t3 = a := by omega
  rw [e0, e1, e2, e3]
  rfl
theorem d4_at4 {b : List Int} (h : Byt b) {p : Nat} (hp : p + 4 ≤ b.length) : d4 (at4 b p) = (b.drop p).take 4 := by
  have hl : ((b.drop p).take 4).length = 4 := by rw [List.length_take, List.length_drop]; omega
  have hb := byt_take h p 4
  unfold at4
  generalize (b.drop p).take 4 = T at *
  obtain ⟨t0, t1, t2, t3, rfl⟩ : ∃ t0 t1 t2 t3, T = [t0, t1, t2, t3] := by
    match T, hl with
    | [t0, t1, t2, t3], _ => exact ⟨t0, t1, t2, t3, rfl⟩
  have b0 := hb 0
  have b1 := hb 1
  have b2 := hb 2
  have b3 := hb 3
  simp only [List.getD_cons_zero, List.getD_cons_succ] at b0 b1 b2 b3
  exact dig4 t0 t1 t2 t3 b0 b1 b2 b3
theorem xbs_lstOf {b : List Int} (h : Byt b) : ∀ {n : Nat}, 4 + 8 * n ≤ b.length → xbs (lstOf b n) = (b.drop 4).take (8 * n)
  | 0, _ => by simp [lstOf, xbs]
  | n + 1, hn => by
    rw [lstOf_succ, xbs_snoc, xbs_lstOf h (by omega)]
    unfold extOf
    dsimp only
    rw [d4_at4 h (by omega), d4_at4 h (by omega)]
    rw [show 8 * (n + 1) = 8 * n + (4 + 4) by omega, List.take_add, List.take_add, List.drop_drop, List.drop_drop]
theorem plain_back {b : List Int} (h : Byt b) {n : Nat} (hlen : b.length = 4 + 8 * n) (hc : at4 b 0 = n) : plainL (lstOf b n) = b := by
  unfold plainL
  rw [lstOf_length, xbs_lstOf h (by omega), ← hc, d4_at4 h (by omega)]
  rw [List.drop_zero, show (b.drop 4).take (8 * n) = b.drop 4 from List.take_of_length_le (by rw [List.length_drop]; omega)]
  exact List.take_append_drop 4 b
end Go.Proofs.YtkiccnedmejnaabDoor
