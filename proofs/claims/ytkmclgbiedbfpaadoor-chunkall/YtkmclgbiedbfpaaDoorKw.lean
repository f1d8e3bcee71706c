/- Within. -/
import Derived.Test.YtkmclgbiedbfpaaDoorKl
import Derived.Test.YtkmclgbiedbfpaaDoorKv
namespace Go.Proofs.YtkmclgbiedbfpaaDoor
open Go.RowKit Go.Shelf Go.Maps

theorem emod_of_tmod (n m : Int) : n % m = (n.tmod m) % m := by
  have h := Int.mul_tdiv_add_tmod n m
  conv => lhs; rw [← h, Int.add_comm]
  rw [Int.add_mul_emod_self_left]

set_option maxRecDepth 100000 in
set_option maxHeartbeats 1000000 in
theorem within_any (n m : Int) (w : World) (hm : 1 ≤ m) (hm' : m ≤ 4611686018427387904) (_hn : -9223372036854775808 ≤ n) (_hn' : n ≤ 9223372036854775807) :
    Calls Tryd.prog 28 #[.int .i64 n, .int .i64 m] w fun e w' => e = .returned (.int .i64 (n % m)) ∧ w' = w := by
  have hmz : m ≠ 0 := by omega
  have h1 : -m < Int.tmod n m := by
    have := Int.lt_tmod_of_pos n (show 0 < m by omega); omega
  have h2 : Int.tmod n m < m := Int.tmod_lt_of_pos n (by omega)
  by_cases h : Int.tmod n m < 0
  · go_enter Tryd.func28, Tryd.ntmps28
    go_wp2
    go_ret
    have e : n.tmod m + m = n % m := by
      have e2 := Int.add_mul_emod_self_left (n.tmod m) m 1
      rw [Int.mul_one] at e2
      rw [emod_of_tmod, ← e2]
      exact (Int.emod_eq_of_lt (by omega) (by omega)).symm
    exact ⟨ret_i e, rfl⟩
  · go_enter Tryd.func28, Tryd.ntmps28
    go_wp2
    go_ret
    have e : n.tmod m = n % m := by
      rw [emod_of_tmod]
      exact (Int.emod_eq_of_lt (by omega) (by omega)).symm
    exact ⟨ret_i e, rfl⟩

end Go.Proofs.YtkmclgbiedbfpaaDoor
