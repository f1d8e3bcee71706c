/- The shortest digits are read as the float; shorter ones as others. -/
import Derived.Test.YtlhhnklncaakbaaDoorQs
namespace Go.Proofs.YtlhhnklncaakbaaDoor

theorem magF_raw (raw : Nat) (h : raw < 9223372036854775808) : magF raw = cR raw * 2 ^ (pR raw + 1074).toNat := by
  unfold magF cR pR apartN
  by_cases h1 : raw < 4503599627370496
  · rw [if_pos h1, if_pos (show raw / 4503599627370496 = 0 by omega)]
    simp
    omega
  · rw [if_neg h1, if_neg (show ¬ raw / 4503599627370496 = 0 by omega)]
    show _ = (raw % 4503599627370496 + 4503599627370496) * _
    rw [Nat.add_comm (raw % 4503599627370496)]
    congr 2
    omega
theorem raw_next (raw : Nat) (h : raw < 9223372036854775807) : magF (raw + 1) = magF raw + 2 ^ (pR raw + 1074).toNat := by
  rw [magF_raw raw (by omega)]
  unfold magF cR pR apartN
  by_cases h1 : raw < 4503599627370496
  · rw [if_pos (show raw / 4503599627370496 = 0 by omega)]
    by_cases h2 : raw + 1 < 4503599627370496
    · rw [if_pos h2]
      simp
      omega
    · rw [if_neg h2]
      have e : raw = 4503599627370495 := by omega
      subst e
      decide
  · rw [if_neg (show ¬ raw / 4503599627370496 = 0 by omega), if_neg (show ¬ raw + 1 < 4503599627370496 by omega)]
    show _ = (raw % 4503599627370496 + 4503599627370496) * 2 ^ (((raw / 4503599627370496 : Nat) : Int) - 1 + -1074 + 1074).toNat + 2 ^ (((raw / 4503599627370496 : Nat) : Int) - 1 + -1074 + 1074).toNat
    have e0 : (((raw / 4503599627370496 : Nat) : Int) - 1 + -1074 + 1074).toNat = raw / 4503599627370496 - 1 := by omega
    rw [e0]
    by_cases h3 : (raw + 1) / 4503599627370496 = raw / 4503599627370496
    · have e1 : (raw + 1) % 4503599627370496 = raw % 4503599627370496 + 1 := by omega
      rw [h3, e1]
      have e2 : 4503599627370496 + (raw % 4503599627370496 + 1) = raw % 4503599627370496 + 4503599627370496 + 1 := by omega
      rw [e2, Nat.add_mul _ 1, Nat.one_mul]
    · have e1 : (raw + 1) / 4503599627370496 - 1 = raw / 4503599627370496 - 1 + 1 := by omega
      have e2 : (raw + 1) % 4503599627370496 = 0 := by omega
      have e3 : raw % 4503599627370496 = 4503599627370495 := by omega
      rw [e1, e2, e3, Nat.pow_succ]
      generalize 2 ^ (raw / 4503599627370496 - 1) = P
      omega
/-- How far the float below is: half as far at a power of two. -/
theorem raw_prev (raw : Nat) (h0 : 0 < raw) (h : raw < 9223372036854775807) : 2 * magF (raw - 1) + (if cR raw = 4503599627370496 ∧ -1074 < pR raw then 1 else 2) * 2 ^ (pR raw + 1074).toNat = 2 * magF raw := by
  have hn := raw_next (raw - 1) (by omega)
  rw [show raw - 1 + 1 = raw by omega] at hn
  by_cases hb : cR raw = 4503599627370496 ∧ -1074 < pR raw
  · rw [if_pos hb]
    have e : (pR raw + 1074).toNat = (pR (raw - 1) + 1074).toNat + 1 := by
      have h1 := hb.1
      have h2 := hb.2
      unfold cR at h1
      unfold pR at h2 ⊢
      unfold apartN at h1 h2 ⊢
      by_cases h3 : raw / 4503599627370496 = 0
      · rw [if_pos h3] at h2; simp at h2
      · rw [if_neg h3] at h1 h2 ⊢
        simp only at h1 h2 ⊢
        by_cases h4 : (raw - 1) / 4503599627370496 = 0
        · rw [if_pos h4]; simp only; omega
        · rw [if_neg h4]; simp only; omega
    rw [e, Nat.pow_succ]
    generalize 2 ^ (pR (raw - 1) + 1074).toNat = P at *
    omega
  · rw [if_neg hb]
    have e : (pR raw + 1074).toNat = (pR (raw - 1) + 1074).toNat := by
      unfold cR pR at hb
      unfold pR
      unfold apartN at hb ⊢
      by_cases h3 : raw / 4503599627370496 = 0
      · rw [if_pos h3, if_pos (show (raw - 1) / 4503599627370496 = 0 by omega)]
      · rw [if_neg h3] at hb ⊢
        simp only at hb ⊢
        by_cases h4 : (raw - 1) / 4503599627370496 = 0
        · rw [if_pos h4]; simp only; omega
        · rw [if_neg h4]; simp only; omega
    rw [e]
    generalize 2 ^ (pR (raw - 1) + 1074).toNat = P at *
    omega
end Go.Proofs.YtlhhnklncaakbaaDoor
