/- within, below, Floor. -/
import Derived.Test.YtfkahbgphoonaaaYa
namespace Go.Proofs.Ytfkahbgphoonaaa
open Go.RowKit Go.Shelf Go.Maps

/-- A time within all times. -/
def cl (t : Int) : Int := min (max t (-9007199254740992)) 9007199254740992
def flF (t w : Int) : Int := cl t - cl t % max w 1
theorem cl_in (t : Int) : -9007199254740992 ≤ cl t ∧ cl t ≤ 9007199254740992 := by unfold cl; omega
theorem emod_of_tmod (n m : Int) : n % m = (n.tmod m) % m := by
  have h := Int.mul_tdiv_add_tmod n m
  conv => lhs; rw [← h, Int.add_comm]
  rw [Int.add_mul_emod_self_left]

set_option maxRecDepth 100000 in
set_option maxHeartbeats 1000000 in
theorem within_any (t : Int) (w : World) : Calls Try.prog 16 #[.int .i64 t] w fun e w' => e = .returned (.int .i64 (cl t)) ∧ w' = w := by
  unfold cl
  go_enter Try.func16, Try.ntmps16
  go_wp2
  go_ret
  exact ⟨rfl, rfl⟩

theorem fl_lo (t w : Int) (ht : -9007199254740992 ≤ t ∧ t ≤ 9007199254740992) (hw : 1 ≤ w ∧ w ≤ 9223372036854775807) : -9223372036854775808 ≤ t - t % w := by
  have h1 := Int.emod_nonneg t (show w ≠ 0 by omega)
  have h2 := Int.emod_lt_of_pos t (show 0 < w by omega)
  by_cases h : 0 ≤ t
  · omega
  · by_cases h4 : -t ≤ w
    · have h5 : t % w = (t + w) % w := by simp
      rw [h5]
      by_cases h6 : -t = w
      · rw [show t + w = 0 by omega]
        simp
        omega
      · rw [Int.emod_eq_of_lt (by omega) (by omega)]
        omega
    · omega

set_option maxRecDepth 100000 in
set_option maxHeartbeats 1000000 in
theorem below_any (t m : Int) (w : World) (ht : -9007199254740992 ≤ t ∧ t ≤ 9007199254740992) (hm : 1 ≤ m ∧ m ≤ 9223372036854775807) :
    Calls Try.prog 26 #[.int .i64 t, .int .i64 m] w fun e w' => e = .returned (.int .i64 (t - t % m)) ∧ w' = w := by
  have hmz : m ≠ 0 := by omega
  have h1 : -m < Int.tmod t m := by
    have := Int.lt_tmod_of_pos t (show 0 < m by omega); omega
  have h2 : Int.tmod t m < m := Int.tmod_lt_of_pos t (by omega)
  have h3 := fl_lo t m ht hm
  have h4 := Int.emod_nonneg t hmz
  by_cases h : Int.tmod t m < 0
  · have e : t.tmod m + m = t % m := by
      have e2 := Int.add_mul_emod_self_left (t.tmod m) m 1
      rw [Int.mul_one] at e2
      rw [emod_of_tmod, ← e2]
      exact (Int.emod_eq_of_lt (by omega) (by omega)).symm
    have hw1 : IntKind.i64.wrap (t.tmod m + m) = t % m := by rw [IntKind.wrap_i64]; omega
    have hw2 : IntKind.i64.wrap (t - t % m) = t - t % m := by rw [IntKind.wrap_i64]; omega
    have HE : Hid _ := e
    clear e h3
    go_enter Try.func26, Try.ntmps26
    go_wp2
    go_ret
    exact ⟨ret_int (by have := HE.out; omega), rfl⟩
  · have e : t.tmod m = t % m := by
      rw [emod_of_tmod]
      exact (Int.emod_eq_of_lt (by omega) (by omega)).symm
    have hw2 : IntKind.i64.wrap (t - t.tmod m) = t - t.tmod m := by rw [IntKind.wrap_i64]; omega
    have HE : Hid _ := e
    clear e h3
    go_enter Try.func26, Try.ntmps26
    go_wp2
    go_ret
    exact ⟨ret_int (by have := HE.out; omega), rfl⟩

set_option maxRecDepth 100000 in
set_option maxHeartbeats 1000000 in
theorem floor_any (t m : Int) (w : World) (hm : m ≤ 9223372036854775807) :
    Calls Try.prog 24 #[.int .i64 t, .int .i64 m] w fun e w' => e = .returned (.int .i64 (flF t m)) ∧ w' = w := by
  have hw := fun W => within_any t W
  have hbe := fun W => below_any (cl t) (max m 1) W (cl_in t) (by omega)
  unfold flF
  generalize cl t = u at *
  go_enter Try.func24, Try.ntmps24
  go_wp2_with (first
    | (go_at_call 16; refine (hw _).mono ?_; clear hw; rintro e w' ⟨rfl, rfl⟩)
    | (go_at_call 26; refine (hbe _).mono ?_; clear hbe; rintro e w' ⟨rfl, rfl⟩))
  go_ret
  exact ⟨rfl, rfl⟩

end Go.Proofs.Ytfkahbgphoonaaa
