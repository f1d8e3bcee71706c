/- few; below, a little further down. -/
import Derived.Test.YtfkahbgphoonaaaXb
namespace Go.Proofs.Ytfkahbgphoonaaa
open Go.RowKit Go.Shelf Go.Maps Go.Sort

set_option maxRecDepth 100000 in
set_option maxHeartbeats 1000000 in
theorem below_more (t m : Int) (w : World) (ht : -9007199254740993 ≤ t ∧ t ≤ 9007199254740992) (hm : 1 ≤ m ∧ m ≤ 900719925474099300) :
    Calls Try.prog 26 #[.int .i64 t, .int .i64 m] w fun e w' => e = .returned (.int .i64 (t - t % m)) ∧ w' = w := by
  have hmz : m ≠ 0 := by omega
  have h1 : -m < Int.tmod t m := by
    have := Int.lt_tmod_of_pos t (show 0 < m by omega); omega
  have h2 : Int.tmod t m < m := Int.tmod_lt_of_pos t (by omega)
  have h3 : -9223372036854775808 ≤ t - t % m := by have := Int.emod_lt_of_pos t (show 0 < m by omega); omega
  have h4 := Int.emod_nonneg t hmz
  by_cases h : Int.tmod t m < 0
  · have e : t.tmod m + m = t % m := by
      have e2 := Int.add_mul_emod_self_left (t.tmod m) m 1
      rw [Int.mul_one] at e2
      rw [emod_of_tmod, ← e2]
      exact (Int.emod_eq_of_lt (by omega) (by omega)).symm
    have hw1 : IntKind.i64.wrap (t.tmod m + m) = t % m := by rw [IntKind.wrap_i64]; omega
    have hw2 : IntKind.i64.wrap (t - t % m) = t - t % m := by rw [IntKind.wrap_i64]; omega
    have HE : Hid _ := e
    clear e h3
    go_enter Try.func26, Try.ntmps26
    go_wp2
    go_ret
    exact ⟨ret_int (by have := HE.out; omega), rfl⟩
  · have e : t.tmod m = t % m := by
      rw [emod_of_tmod]
      exact (Int.emod_eq_of_lt (by omega) (by omega)).symm
    have hw2 : IntKind.i64.wrap (t - t.tmod m) = t - t.tmod m := by rw [IntKind.wrap_i64]; omega
    have HE : Hid _ := e
    clear e h3
    go_enter Try.func26, Try.ntmps26
    go_wp2
    go_ret
    exact ⟨ret_int (by have := HE.out; omega), rfl⟩

theorem mtC_take (l : List Mt) (m : Nat) (hm : m ≤ l.length) : (mtC l).take (m * 4) = mtC (l.take m) := by
  conv => lhs; rw [← List.take_append_drop m l, mtC_append]
  rw [List.take_left' (by rw [mtC_length, List.length_take, Nat.min_eq_left hm])]
theorem MtAt.take {w : World} {a : Option Addr} {c : Nat} {l : List Mt} (h : MtAt w (.slice a l.length c) l) (m : Nat) (hm : m ≤ l.length) : MtAt w (.slice a m c) (l.take m) := by
  have h9 := RowAt.take h hm
  rw [mtC_take l m hm] at h9
  unfold MtAt
  rw [List.length_take, Nat.min_eq_left hm]
  exact h9

set_option maxRecDepth 100000 in
set_option maxHeartbeats 1000000 in
theorem few_any (v : Value) (l : List Mt) (w : World) (h : MtAt w v l) :
    Calls Try.prog 5 #[v] w fun e w' => (∃ u, e = .returned u ∧ MtAt w u (l.take 30)) ∧ w' = w := by
  obtain ⟨a1, c1, rfl, hc1, -⟩ := id h
  have HL : Hid (MtAt w (.slice a1 l.length c1) l) := h
  have hmx : (c1 : Int) ≤ 9223372036854775807 := by have h1 := hc1.2; unfold maxLen at h1; omega
  clear h
  by_cases hgt : 30 < l.length
  · have hi : (30 : Int) < (l.length : Int) := by omega
    have hi2 : (30 : Int) ≤ (c1 : Int) := by omega
    go_enter Try.func5, Try.ntmps5
    go_wp2
    go_ret
    exact ⟨⟨_, rfl, MtAt.take HL.out 30 (by omega)⟩, rfl⟩
  · have hi : ¬ (30 : Int) < (l.length : Int) := by omega
    go_enter Try.func5, Try.ntmps5
    go_wp2
    go_ret
    exact ⟨⟨_, rfl, by rw [List.take_of_length_le (by omega)]; exact HL.out⟩, rfl⟩

end Go.Proofs.Ytfkahbgphoonaaa
