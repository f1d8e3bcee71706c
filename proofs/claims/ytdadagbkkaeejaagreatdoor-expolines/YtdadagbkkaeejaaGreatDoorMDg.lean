/- Texts that belong together. -/
import Derived.Test.YtdadagbkkaeejaaGreatDoorMDe
import Derived.WalkKit
/- What wakes reads. -/
namespace Go.Proofs.YtdadagbkkaeejaaGreatDoor.Nu
theorem parse_wakes : parseR ⟨#[50, 46, 53, 101, 45, 49]⟩ = (4598175219545276416, 0) := by kernel_rfl
end Go.Proofs.YtdadagbkkaeejaaGreatDoor.Nu

/- Floats stand in the order of their bits. -/
namespace Go.Proofs.YtdadagbkkaeejaaGreatDoor.Nu
open Ieee

/-- A float's size without its sign, counted in the least floats. -/
def magF (r : Nat) : Nat := if r < 4503599627370496 then r else (4503599627370496 + r % 4503599627370496) * 2 ^ (r / 4503599627370496 - 1)
theorem magF_succ (r : Nat) : magF r < magF (r + 1) := by
  unfold magF
  by_cases h : r + 1 < 4503599627370496
  · rw [if_pos h, if_pos (by omega)]; omega
  · rw [if_neg h]
    by_cases h2 : r < 4503599627370496
    · rw [if_pos h2]
      obtain rfl : r = 4503599627370495 := by omega
      decide
    · rw [if_neg h2]
      have hp : 0 < 2 ^ (r / 4503599627370496 - 1) := Nat.pow_pos (by decide)
      by_cases h3 : (r + 1) / 4503599627370496 = r / 4503599627370496
      · rw [h3]
        exact Nat.mul_lt_mul_of_pos_right (by omega) hp
      · have h4 : (r + 1) / 4503599627370496 = r / 4503599627370496 + 1 := by omega
        have h5 : (r + 1) % 4503599627370496 = 0 := by omega
        have h6 : r % 4503599627370496 = 4503599627370495 := by omega
        have h7 : (r + 1) / 4503599627370496 - 1 = (r / 4503599627370496 - 1) + 1 := by omega
        rw [h7, h5, h6, Nat.pow_succ]
        generalize 2 ^ (r / 4503599627370496 - 1) = P at *
        omega
theorem magF_lt {r s : Nat} (h : r < s) : magF r < magF s := by
  obtain ⟨k, rfl⟩ : ∃ k, s = r + 1 + k := ⟨s - (r + 1), by omega⟩
  clear h
  induction k with
  | zero => exact magF_succ r
  | succ k ih => exact Nat.lt_trans ih (magF_succ _)
theorem magF_iff {r s : Nat} : magF r < magF s ↔ r < s := by
  constructor
  · intro h
    rcases Nat.lt_or_ge r s with h1 | h1
    · exact h1
    · rcases Nat.lt_or_ge s r with h2 | h2
      · have := magF_lt h2; omega
      · have : r = s := by omega
        subst this; omega
  · exact magF_lt
def keyF (x : Nat) : Int := if x / 9223372036854775808 % 2 = 1 then -((x % 9223372036854775808 : Nat) : Int) else ((x % 9223372036854775808 : Nat) : Int)
theorem read_double (x : Nat) : double.read x = (if x % 9223372036854775808 < 4503599627370496 then .number (x / 9223372036854775808 % 2 == 1) (x % 9223372036854775808) (-1074)
    else if x % 9223372036854775808 < 9218868437227405312 then .number (x / 9223372036854775808 % 2 == 1) (4503599627370496 + x % 9223372036854775808 % 4503599627370496) (-1074 + (x % 9223372036854775808 / 4503599627370496 - 1 : Nat))
    else if x % 9223372036854775808 = 9218868437227405312 then .infinity (x / 9223372036854775808 % 2 == 1)
    else .nan (x / 9223372036854775808 % 2 == 1) (x % 9223372036854775808 - 9218868437227405312)) := rfl
theorem read_number {x : Nat} (h : x % 9223372036854775808 < 9218868437227405312) : ∃ m p, double.read x = .number (x / 9223372036854775808 % 2 == 1) m p ∧ -1074 ≤ p ∧ m * 2 ^ (p + 1074).toNat = magF (x % 9223372036854775808) := by
  rw [read_double]
  unfold magF
  split
  · exact ⟨_, _, rfl, by omega, by simp⟩
  · exact ⟨_, _, rfl, by omega, by congr 2; omega⟩
theorem cmp_int_mul (a b : Int) (k : Nat) : compare a b = compare (a * 2 ^ k) (b * 2 ^ k) := by
  have hp : (0 : Int) < 2 ^ k := Int.pow_pos (by decide)
  show compareOfLessAndEq a b = compareOfLessAndEq _ _
  unfold compareOfLessAndEq
  have h1 : a < b ↔ a * 2 ^ k < b * 2 ^ k := ⟨fun h => Int.mul_lt_mul_of_pos_right h hp, fun h => Int.lt_of_mul_lt_mul_right h (Int.le_of_lt hp)⟩
  have h2 : a = b ↔ a * 2 ^ k = b * 2 ^ k := ⟨fun h => by rw [h], fun h => Int.eq_of_mul_eq_mul_right (by omega) h⟩
  simp only [h1, h2]
theorem signed_val (s : Bool) (m up : Nat) (k : Nat) : signed s m up * 2 ^ k = if s then -((m * 2 ^ (up + k) : Nat) : Int) else ((m * 2 ^ (up + k) : Nat) : Int) := by
  unfold signed
  rw [Nat.shiftLeft_eq, Nat.pow_add, ← Nat.mul_assoc]
  cases s
  · simp
  · simp [Int.neg_mul]
theorem cmp_int {a b c d : Int} (h1 : a < b ↔ c < d) (h2 : a = b ↔ c = d) : compare a b = compare c d := by
  show compareOfLessAndEq a b = compareOfLessAndEq c d
  unfold compareOfLessAndEq
  simp only [h1, h2]
/-- Two floats that are no NaN stand as their keys do. -/
theorem order_key {x y : Nat} (hx : x % 9223372036854775808 ≤ 9218868437227405312) (hy : y % 9223372036854775808 ≤ 9218868437227405312) : double.order x y = some (compare (keyF x) (keyF y)) := by
  unfold Format.order
  by_cases h1 : x % 9223372036854775808 < 9218868437227405312
  · obtain ⟨m, p, e1, hp, hm⟩ := read_number h1
    by_cases h2 : y % 9223372036854775808 < 9218868437227405312
    · obtain ⟨n, q, e2, hq, hn⟩ := read_number h2
      rw [e1, e2]
      show some (compare _ _) = _
      congr 1
      rw [cmp_int_mul _ _ (min p q + 1074).toNat, signed_val, signed_val]
      have e3 : (p - min p q).toNat + (min p q + 1074).toNat = (p + 1074).toNat := by omega
      have e4 : (q - min p q).toNat + (min p q + 1074).toNat = (q + 1074).toNat := by omega
      rw [e3, e4, hm, hn]
      unfold keyF
      have a1 := @magF_iff (x % 9223372036854775808) (y % 9223372036854775808)
      have a2 := @magF_iff (y % 9223372036854775808) (x % 9223372036854775808)
      have z1 := @magF_iff 0 (x % 9223372036854775808)
      have z2 := @magF_iff 0 (y % 9223372036854775808)
      have z0 : magF 0 = 0 := rfl
      rw [z0] at z1 z2
      generalize magF (x % 9223372036854775808) = M at *
      generalize magF (y % 9223372036854775808) = N at *
      generalize x % 9223372036854775808 = r at *
      generalize y % 9223372036854775808 = s at *
      by_cases s1 : x / 9223372036854775808 % 2 = 1 <;> by_cases s2 : y / 9223372036854775808 % 2 = 1 <;> simp only [s1, s2, beq_self_eq_true, if_true, if_false, beq_iff_eq] <;> apply cmp_int <;> omega
    · have e2 : double.read y = .infinity (y / 9223372036854775808 % 2 == 1) := by rw [read_double, if_neg (by omega), if_neg h2, if_pos (by omega)]
      rw [e1, e2]
      show some (if _ then Ordering.gt else Ordering.lt) = _
      congr 1
      unfold keyF
      have e3 : y % 9223372036854775808 = 9218868437227405312 := by omega
      rw [e3]
      generalize x % 9223372036854775808 = r at *
      by_cases s2 : y / 9223372036854775808 % 2 = 1
      · simp only [s2, beq_self_eq_true, if_true]
        symm
        show compareOfLessAndEq _ _ = _
        unfold compareOfLessAndEq
        rw [if_neg (by split <;> omega), if_neg (by split <;> omega)]
      · have s2' : (y / 9223372036854775808 % 2 == 1) = false := by rw [beq_eq_false_iff_ne]; exact s2
        rw [s2', if_neg s2]
        symm
        show compareOfLessAndEq _ _ = _
        unfold compareOfLessAndEq
        rw [if_pos (by split <;> omega)]
        rfl
  · have e1 : double.read x = .infinity (x / 9223372036854775808 % 2 == 1) := by rw [read_double, if_neg (by omega), if_neg h1, if_pos (by omega)]
    have e3 : x % 9223372036854775808 = 9218868437227405312 := by omega
    by_cases h2 : y % 9223372036854775808 < 9218868437227405312
    · obtain ⟨n, q, e2, hq, hn⟩ := read_number h2
      rw [e1, e2]
      show some (if _ then Ordering.lt else Ordering.gt) = _
      congr 1
      unfold keyF
      rw [e3]
      generalize y % 9223372036854775808 = r at *
      by_cases s2 : x / 9223372036854775808 % 2 = 1
      · simp only [s2, beq_self_eq_true, if_true]
        symm
        show compareOfLessAndEq _ _ = _
        unfold compareOfLessAndEq
        rw [if_pos (by split <;> omega)]
      · have s2' : (x / 9223372036854775808 % 2 == 1) = false := by rw [beq_eq_false_iff_ne]; exact s2
        rw [s2', if_neg s2]
        symm
        show compareOfLessAndEq _ _ = _
        unfold compareOfLessAndEq
        rw [if_neg (by split <;> omega), if_neg (by split <;> omega)]
        rfl
    · have e2 : double.read y = .infinity (y / 9223372036854775808 % 2 == 1) := by rw [read_double, if_neg (by omega), if_neg h2, if_pos (by omega)]
      have e4 : y % 9223372036854775808 = 9218868437227405312 := by omega
      rw [e1, e2]
      show some (compare _ _) = _
      congr 1
      unfold keyF
      rw [e3, e4]
      have b1 : ∀ z : Nat, z / 9223372036854775808 % 2 = 1 ∨ z / 9223372036854775808 % 2 = 0 := fun z => by omega
      rcases b1 x with s1 | s1 <;> rcases b1 y with s2 | s2 <;> rw [s1, s2] <;> decide
theorem order_nan_left {x y : Nat} (hx : 9218868437227405312 < x % 9223372036854775808) : double.order x y = none := by
  unfold Format.order
  rw [read_double x, if_neg (by omega), if_neg (by omega), if_neg (by omega)]
  rfl
theorem order_nan_right {x y : Nat} (hy : 9218868437227405312 < y % 9223372036854775808) : double.order x y = none := by
  unfold Format.order
  rw [read_double y, if_neg (by omega), if_neg (by omega), if_neg (by omega)]
  cases double.read x <;> rfl
end Go.Proofs.YtdadagbkkaeejaaGreatDoor.Nu
