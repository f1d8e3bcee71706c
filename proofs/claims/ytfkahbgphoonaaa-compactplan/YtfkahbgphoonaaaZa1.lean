/- The document's inside, wide, floor. -/
import Derived.Test.YtfkahbgphoonaaaYv
namespace Go.Proofs.Ytfkahbgphoonaaa
open Go.RowKit Go.Maps

set_option maxRecDepth 100000 in
set_option maxHeartbeats 1000000 in
theorem refInside (t : Int) (w : World) : Calls Try.prog 20 #[.int .i64 t] w fun e w' => e = .returned (.int .i64 (cl t)) ∧ w' = w := by
  by_cases h1 : t < -9007199254740992
  · have e : cl t = -9007199254740992 := by unfold cl; omega
    rw [e]
    go_enter Try.func20, Try.ntmps20
    go_wp2
    go_ret
    exact ⟨rfl, rfl⟩
  · by_cases h2 : 9007199254740992 < t
    · have e : cl t = 9007199254740992 := by unfold cl; omega
      rw [e]
      go_enter Try.func20, Try.ntmps20
      go_wp2
      go_ret
      exact ⟨rfl, rfl⟩
    · have e : cl t = t := by unfold cl; omega
      rw [e]
      go_enter Try.func20, Try.ntmps20
      go_wp2
      go_ret
      exact ⟨rfl, rfl⟩
set_option maxHeartbeats 1000000 in
theorem refWide (m : Int) (w : World) : Calls Try.prog 18 #[.int .i64 m] w fun e w' => e = .returned (.int .i64 (max m 1)) ∧ w' = w := by
  by_cases h1 : m < 1
  · have e : max m 1 = 1 := by omega
    rw [e]
    go_enter Try.func18, Try.ntmps18
    go_wp2
    go_ret
    exact ⟨rfl, rfl⟩
  · have e : max m 1 = m := by omega
    rw [e]
    go_enter Try.func18, Try.ntmps18
    go_wp2
    go_ret
    exact ⟨rfl, rfl⟩

set_option maxRecDepth 100000 in
set_option maxHeartbeats 1000000 in
theorem refFloor0 (t m : Int) (w : World) (ht : -9007199254740992 ≤ t ∧ t ≤ 9007199254740992) (hm : 1 ≤ m ∧ m ≤ 9223372036854775807) :
    Calls Try.prog 19 #[.int .i64 t, .int .i64 m] w fun e w' => e = .returned (.int .i64 (t - t % m)) ∧ w' = w := by
  have hmz : m ≠ 0 := by omega
  have h1 : -m < Int.tmod t m := by
    have := Int.lt_tmod_of_pos t (show 0 < m by omega); omega
  have h2 : Int.tmod t m < m := Int.tmod_lt_of_pos t (by omega)
  have h3 := fl_lo t m ht hm
  have h4 := Int.emod_nonneg t hmz
  by_cases h : Int.tmod t m < 0
  · have e : t.tmod m + m = t % m := by
      have e2 := Int.add_mul_emod_self_left (t.tmod m) m 1
      rw [Int.mul_one] at e2
      rw [emod_of_tmod, ← e2]
      exact (Int.emod_eq_of_lt (by omega) (by omega)).symm
    have hw1 : IntKind.i64.wrap (t.tmod m + m) = t % m := by rw [IntKind.wrap_i64]; omega
    have hw2 : IntKind.i64.wrap (t - t % m) = t - t % m := by rw [IntKind.wrap_i64]; omega
    have HE : Hid _ := e
    clear e h3
    go_enter Try.func19, Try.ntmps19
    go_wp2
    go_ret
    exact ⟨ret_int (by have := HE.out; omega), rfl⟩
  · have e : t.tmod m = t % m := by
      rw [emod_of_tmod]
      exact (Int.emod_eq_of_lt (by omega) (by omega)).symm
    have hw2 : IntKind.i64.wrap (t - t.tmod m) = t - t.tmod m := by rw [IntKind.wrap_i64]; omega
    have HE : Hid _ := e
    clear e h3
    go_enter Try.func19, Try.ntmps19
    go_wp2
    go_ret
    exact ⟨ret_int (by have := HE.out; omega), rfl⟩

end Go.Proofs.Ytfkahbgphoonaaa
