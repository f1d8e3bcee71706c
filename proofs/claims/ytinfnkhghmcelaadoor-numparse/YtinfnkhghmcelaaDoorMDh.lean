/- A number without its sign. -/
import Derived.Test.YtinfnkhghmcelaaDoorMDf
namespace Go.Proofs.YtinfnkhghmcelaaDoor
open Go.RowKit Go.Maps

set_option maxRecDepth 100000 in
theorem size_any (n : Int) (w : World) (h1 : -9223372036854775808 ≤ n) (h2 : n ≤ 9223372036854775807) : Calls Tryd.prog 55 #[.int .i64 n] w fun e w' => e = .returned (.int .u64 (n.natAbs : Nat)) ∧ w' = w := by
  by_cases h0 : n < 0
  · have HE : Hid (((n.natAbs : Nat) : Int) = IntKind.u64.wrap (-IntKind.u64.wrap n)) := by
      show _ = _
      rw [wrapU, wrapU]
      omega
    go_enter Tryd.func55, Tryd.ntmps55
    go_wp2
    go_ret
    exact ⟨by rw [HE.out]; rfl, rfl⟩
  · have HE : Hid (((n.natAbs : Nat) : Int) = n) := by
      show _ = _
      omega
    go_enter Tryd.func55, Tryd.ntmps55
    go_wp2
    go_ret
    exact ⟨by rw [HE.out]; rfl, rfl⟩

theorem ret_ui {a b c d : Int} (h1 : a = b) (h2 : c = d) : Ending.returned (.tuple #[.int .u64 a, .int .i64 c]) = .returned (.tuple #[.int .u64 b, .int .i64 d]) := by rw [h1, h2]
/-- The count and the power of two of a float's bits, which have no sign. -/
def apartN (raw : Nat) : Nat × Int := if raw / 4503599627370496 = 0 then (raw % 4503599627370496, -1074) else (raw % 4503599627370496 + 4503599627370496, ((raw / 4503599627370496 : Nat) : Int) - 1 + -1074)

set_option maxRecDepth 100000 in
theorem apart_any (raw : Nat) (w : World) (h : raw < 9223372036854775808) : Calls Tryd.prog 32 #[.int .u64 raw] w fun e w' => e = .returned (.tuple #[.int .u64 (apartN raw).1, .int .i64 (apartN raw).2]) ∧ w' = w := by
  obtain ⟨m, hm⟩ : ∃ m, m = raw % 4503599627370496 := ⟨_, rfl⟩
  have hand : bits .and .u64 (raw : Int) 4503599627370495 = (m : Int) := by
    have h1 := u64_and_nat raw 4503599627370495 (by omega) (by decide)
    have e : raw &&& 4503599627370495 = m := by rw [hm]; exact Nat.and_two_pow_sub_one_eq_mod raw 52
    rw [e] at h1
    exact h1
  have hor : bits .or .u64 (m : Int) 4503599627370496 = ((m + 4503599627370496 : Nat) : Int) := by
    have h1 := u64_or_nat m 4503599627370496 (by omega) (by decide)
    have e : 4503599627370496 ||| m = 4503599627370496 + m := nat_join 52 4503599627370496 m (by decide) (by omega)
    rw [Nat.or_comm, e, Nat.add_comm] at h1
    exact h1
  by_cases h0 : raw / 4503599627370496 = 0
  · have HE : Hid (apartN raw = (m, -1074)) := by show _ = _; unfold apartN; rw [if_pos h0, hm]
    have h0' : (raw : Int) / 4503599627370496 = 0 := by omega
    clear hm h0
    go_enter Tryd.func32, Tryd.ntmps32
    go_wp2
    go_ret2
    exact ⟨by rw [HE.out]; rfl, rfl⟩
  · have HE : Hid (apartN raw = (m + 4503599627370496, ((raw / 4503599627370496 : Nat) : Int) - 1 + -1074)) := by show _ = _; unfold apartN; rw [if_neg h0, hm]
    have h0' : ((raw : Int) / 4503599627370496 == 0) = false := by rw [beq_eq_false_iff_ne]; omega
    clear hm h0
    go_enter Tryd.func32, Tryd.ntmps32
    go_wp2
    go_ret2
    exact ⟨by rw [HE.out]; exact ret_ui (by simp) (by simp), rfl⟩

end Go.Proofs.YtinfnkhghmcelaaDoor
