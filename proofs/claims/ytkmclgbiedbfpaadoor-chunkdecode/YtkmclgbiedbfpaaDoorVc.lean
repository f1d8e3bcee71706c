/- The noughts at a number's ends. -/
import Derived.Test.YtkmclgbiedbfpaaDoorVb
namespace Go.Proofs.YtkmclgbiedbfpaaDoor
open Go.RowKit Go.Maps

theorem top_bits {x : Nat} (h0 : x ≠ 0) (h : x < 18446744073709551616) : 1 ≤ Lib.bitLen x ∧ Lib.bitLen x ≤ 64 ∧ x.testBit (Lib.bitLen x - 1) = true ∧ ∀ j, Lib.bitLen x ≤ j → x.testBit j = false := by
  obtain ⟨h1, h2, h3⟩ := Lib.bitLenAux_bounds 64 x h h0
  have h4 : Lib.bitLen x ≤ 64 := Lib.bitLen_le x 64 (by omega) h
  have h1 : 1 ≤ Lib.bitLen x := h1
  have h2 : 2 ^ (Lib.bitLen x - 1) ≤ x := h2
  have h3 : x < 2 ^ Lib.bitLen x := h3
  refine ⟨h1, h4, ?_, fun j hj => Nat.testBit_lt_two_pow (Nat.lt_of_lt_of_le h3 (Nat.pow_le_pow_right (by decide) hj))⟩
  have e : Lib.bitLen x = (Lib.bitLen x - 1) + 1 := by omega
  rw [e, Nat.pow_succ] at h3
  generalize Lib.bitLen x - 1 = b at *
  rw [Nat.testBit_eq_decide_div_mod_eq]
  have : x / 2 ^ b = 1 := by
    apply Nat.div_eq_of_lt_le
    · omega
    · omega
  rw [this]
  rfl
theorem low_bits {x : Nat} (h0 : x ≠ 0) (h : x < 18446744073709551616) : tz x < 64 ∧ x.testBit (tz x) = true ∧ ∀ j, j < tz x → x.testBit j = false := by
  obtain ⟨m, hm⟩ := tz_dvd h0 h
  refine ⟨tz_lt h0 h, ?_, fun j hj => ?_⟩
  · generalize tz x = t at *
    rw [hm, Nat.testBit_eq_decide_div_mod_eq, Nat.mul_div_cancel_left _ (Nat.pow_pos (by decide))]
    simp
  · generalize tz x = t at *
    rw [hm, Nat.testBit_eq_decide_div_mod_eq]
    have e : 2 ^ t * (2 * m + 1) = 2 ^ j * (2 * (2 ^ (t - j - 1) * (2 * m + 1))) := by
      have : t = j + (1 + (t - j - 1)) := by omega
      conv => lhs; rw [this, Nat.pow_add, Nat.pow_add]
      rw [Nat.mul_assoc, Nat.mul_assoc]
    rw [e, Nat.mul_div_cancel_left _ (Nat.pow_pos (by decide))]
    simp

set_option maxRecDepth 100000 in
set_option maxHeartbeats 2000000 in
theorem zeros_any (x : Nat) (w : World) (h0 : x ≠ 0) (hx : x < 18446744073709551616) :
    Calls Tryd.prog 34 #[.int .u64 x] w fun e w' => e = .returned (.tuple #[.int .i64 ((64 - Lib.bitLen x : Nat) : Int), .int .i64 (tz x : Int)]) ∧ w' = w := by
  obtain ⟨t1, t2, t3, t4⟩ := top_bits h0 hx
  obtain ⟨l1, l2, l3⟩ := low_bits h0 hx
  obtain ⟨p, hp⟩ : ∃ p, p = 64 - Lib.bitLen x := ⟨_, rfl⟩
  have HT : Hid (∀ k j, j = 63 - k → k < 64 → k ≤ p → bits .and .u64 ((x : Int) / 2 ^ j) 1 = if k = p then 1 else 0) := fun k j hj hk hkp => by
    rw [bit_nat x j hx]
    by_cases h9 : k = p
    · rw [if_pos h9, show j = Lib.bitLen x - 1 by omega, t3]
      rfl
    · rw [if_neg h9, t4 j (by omega)]
      rfl
  have HL : Hid (∀ k, k ≤ tz x → bits .and .u64 ((x : Int) / 2 ^ k) 1 = if k = tz x then 1 else 0) := fun k hkp => by
    rw [bit_nat x k hx]
    by_cases h9 : k = tz x
    · rw [if_pos h9, h9, l2]
      rfl
    · rw [if_neg h9, l3 k (by omega)]
      rfl
  have hp64 : p < 64 := by omega
  rw [← hp]
  clear t3 t4 l2 l3 hp t1 t2
  generalize tz x = q at *
  go_enter Tryd.func34, Tryd.ntmps34
  go_wp2
  go_loopw [4] (fun i wr => ∃ k : Nat, k ≤ p ∧ i = .int .i64 k ∧ wr = w) (fun i _ => p - (intOf i).toNat)
  case atStart => exact ⟨0, Nat.zero_le _, rfl, rfl⟩
  case round =>
    obtain ⟨k, hk, rfl, rfl⟩ := hrel
    obtain ⟨j, hj⟩ : ∃ j, j = 63 - k := ⟨_, rfl⟩
    have hji : (63 : Int) - (k : Int) = (j : Int) := by omega
    have hb := HT.out k j hj (by omega) hk
    have hk64 : (k : Int) < 64 := by omega
    by_cases hlt : k = p
    · rw [if_pos hlt] at hb
      clear hj HT
      have HK : Hid (k = p) := hlt
      clear hlt
      go_wp2
      go_loopw [5] (fun i wr2 => ∃ k : Nat, k ≤ q ∧ i = .int .i64 k ∧ wr2 = wr) (fun i _ => q - (intOf i).toNat)
      case atStart => exact ⟨0, Nat.zero_le _, rfl, rfl⟩
      case round =>
        obtain ⟨m, hm, rfl, rfl⟩ := hrel
        have hb2 := HL.out m hm
        have hm64 : (m : Int) < 64 := by omega
        by_cases hmq : m = q
        · rw [if_pos hmq] at hb2
          have HM : Hid (m = q) := hmq
          clear hmq HL
          go_wp2
          go_ret2
          rw [HK.out, HM.out]
          exact ⟨rfl, rfl⟩
        · rw [if_neg hmq] at hb2
          clear HL
          go_wp2
          go_roundw
          case rel => exact ⟨m + 1, by omega, by go_num, trivial⟩
          case measure => simp [intOf]; omega
    · rw [if_neg hlt] at hb
      clear hj HT
      go_wp2
      go_roundw
      case rel => exact ⟨k + 1, by omega, by go_num, trivial⟩
      case measure => simp [intOf]; omega

end Go.Proofs.YtkmclgbiedbfpaaDoor
