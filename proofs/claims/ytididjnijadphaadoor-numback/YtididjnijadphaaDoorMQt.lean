/- Texts that belong together. -/
import Derived.Test.YtididjnijadphaaDoorMQs
/- The shortest digits are read as the float; shorter ones as others. -/
namespace Go.Proofs.YtididjnijadphaaDoor

theorem magF_raw (raw : Nat) (h : raw < 9223372036854775808) : magF raw = cR raw * 2 ^ (pR raw + 1074).toNat := by
  unfold magF cR pR apartN
  by_cases h1 : raw < 4503599627370496
  · rw [if_pos h1, if_pos (show raw / 4503599627370496 = 0 by omega)]
    simp
    omega
  · rw [if_neg h1, if_neg (show ¬ raw / 4503599627370496 = 0 by omega)]
    show _ = (raw % 4503599627370496 + 4503599627370496) * _
    rw [Nat.add_comm (raw % 4503599627370496)]
    congr 2
    omega
theorem raw_next (raw : Nat) (h : raw < 9223372036854775807) : magF (raw + 1) = magF raw + 2 ^ (pR raw + 1074).toNat := by
  rw [magF_raw raw (by omega)]
  unfold magF cR pR apartN
  by_cases h1 : raw < 4503599627370496
  · rw [if_pos (show raw / 4503599627370496 = 0 by omega)]
    by_cases h2 : raw + 1 < 4503599627370496
    · rw [if_pos h2]
      simp
      omega
    · rw [if_neg h2]
      have e : raw = 4503599627370495 := by omega
      subst e
      decide
  · rw [if_neg (show ¬ raw / 4503599627370496 = 0 by omega), if_neg (show ¬ raw + 1 < 4503599627370496 by omega)]
    show _ = (raw % 4503599627370496 + 4503599627370496) * 2 ^ (((raw / 4503599627370496 : Nat) : Int) - 1 + -1074 + 1074).toNat + 2 ^ (((raw / 4503599627370496 : Nat) : Int) - 1 + -1074 + 1074).toNat
    have e0 : (((raw / 4503599627370496 : Nat) : Int) - 1 + -1074 + 1074).toNat = raw / 4503599627370496 - 1 := by omega
    rw [e0]
    by_cases h3 : (raw + 1) / 4503599627370496 = raw / 4503599627370496
    · have e1 : (raw + 1) % 4503599627370496 = raw % 4503599627370496 + 1 := by omega
      rw [h3, e1]
      have e2 : 4503599627370496 + (raw % 4503599627370496 + 1) = raw % 4503599627370496 + 4503599627370496 + 1 := by omega
      rw [e2, Nat.add_mul _ 1, Nat.one_mul]
    · have e1 : (raw + 1) / 4503599627370496 - 1 = raw / 4503599627370496 - 1 + 1 := by omega
      have e2 : (raw + 1) % 4503599627370496 = 0 := by omega
      have e3 : raw % 4503599627370496 = 4503599627370495 := by omega
      rw [e1, e2, e3, Nat.pow_succ]
      generalize 2 ^ (raw / 4503599627370496 - 1) = P
      omega
/-- How far the float below is: half as far at a power of two. -/
theorem raw_prev (raw : Nat) (h0 : 0 < raw) (h : raw < 9223372036854775807) : 2 * magF (raw - 1) + (if cR raw = 4503599627370496 ∧ -1074 < pR raw then 1 else 2) * 2 ^ (pR raw + 1074).toNat = 2 * magF raw := by
  have hn := raw_next (raw - 1) (by omega)
  rw [show raw - 1 + 1 = raw by omega] at hn
  by_cases hb : cR raw = 4503599627370496 ∧ -1074 < pR raw
  · rw [if_pos hb]
    have e : (pR raw + 1074).toNat = (pR (raw - 1) + 1074).toNat + 1 := by
      have h1 := hb.1
      have h2 := hb.2
      unfold cR at h1
      unfold pR at h2 ⊢
      unfold apartN at h1 h2 ⊢
      by_cases h3 : raw / 4503599627370496 = 0
      · rw [if_pos h3] at h2; simp at h2
      · rw [if_neg h3] at h1 h2 ⊢
        simp only at h1 h2 ⊢
        by_cases h4 : (raw - 1) / 4503599627370496 = 0
        · rw [if_pos h4]; simp only; omega
        · rw [if_neg h4]; simp only; omega
    rw [e, Nat.pow_succ]
    generalize 2 ^ (pR (raw - 1) + 1074).toNat = P at *
    omega
  · rw [if_neg hb]
    have e : (pR raw + 1074).toNat = (pR (raw - 1) + 1074).toNat := by
      unfold cR pR at hb
      unfold pR
      unfold apartN at hb ⊢
      by_cases h3 : raw / 4503599627370496 = 0
      · rw [if_pos h3, if_pos (show (raw - 1) / 4503599627370496 = 0 by omega)]
      · rw [if_neg h3] at hb ⊢
        simp only at hb ⊢
        by_cases h4 : (raw - 1) / 4503599627370496 = 0
        · rw [if_pos h4]; simp only; omega
        · rw [if_neg h4]; simp only; omega
    rw [e]
    generalize 2 ^ (pR (raw - 1) + 1074).toNat = P at *
    omega
end Go.Proofs.YtididjnijadphaaDoor

/- Digits and floats: what they are held against. -/
namespace Go.Proofs.YtididjnijadphaaDoor

theorem pow_shift {p : Int} {a : Nat} (h1 : -1074 ≤ p) (ha : a = 1075) : 2 ^ p.toNat * 2 ^ a = 2 * (2 ^ (-p).toNat * 2 ^ (p + 1074).toNat) := by
  rw [← Nat.pow_add, ← Nat.pow_add, show p.toNat + a = (-p).toNat + (p + 1074).toNat + 1 by omega, Nat.pow_succ]
  exact Nat.mul_comm _ _
theorem ten_shift (V W : Nat) (e : Int) : scaleW V W e * 10 ^ (-scaleE V W e).toNat = W * (10 ^ (-e).toNat * 10 ^ (scaleE V W e).toNat) := by
  unfold scaleW scaleE
  split
  · have e1 : 10 ^ e.toNat * 10 * 10 ^ (-(e + 1)).toNat = 10 ^ (-e).toNat * 10 ^ (e + 1).toNat := by
      have : 10 ^ e.toNat * 10 = 10 ^ (e.toNat + 1) := (Nat.pow_succ 10 e.toNat).symm
      rw [this, ← Nat.pow_add, ← Nat.pow_add]
      congr 1
      omega
    rw [Nat.mul_assoc W, Nat.mul_assoc W, e1]
  · rw [Nat.mul_assoc, ← Nat.pow_add, ← Nat.pow_add, Nat.add_comm]
/-- The three facts on a float's span. -/
theorem span_facts {raw : Nat} (hf : DigF raw) (h0 : 0 < raw) (h1 : raw < 9218868437227405312) : ∃ Y M Z, Y = 10 ^ (EX raw).toNat ∧ M = 10 ^ (-EX raw).toNat ∧ Z = WX raw * M ∧ 0 < Z ∧
    vR raw * tR raw * Y * U75 = 2 * (magF raw * Z) ∧ bR raw * tR raw * Y * U75 + magF (raw - 1) * Z = magF raw * Z ∧ aR raw * tR raw * Y * U75 + magF raw * Z = magF (raw + 1) * Z := by
  obtain ⟨a, ha, hU⟩ := U75_eq
  have hs := pow_shift hf.p1 ha
  rw [← hU] at hs
  have ht := ten_shift (vR raw) (wR raw) (eR raw)
  have hm := magF_raw raw (by omega)
  have hnx := raw_next raw (by omega)
  have hpv := raw_prev raw h0 (by omega)
  obtain ⟨G, hG⟩ : ∃ G, G = tR raw * 10 ^ (EX raw).toNat := ⟨_, rfl⟩
  have hZ : WX raw * 10 ^ (-EX raw).toNat = 4 * (2 ^ (-pR raw).toNat * G) := by
    show scaleW (vR raw) (wR raw) (eR raw) * 10 ^ (-scaleE (vR raw) (wR raw) (eR raw)).toNat = _
    rw [ht, hG]
    unfold wR
    rw [Nat.mul_assoc]
    rfl
  obtain ⟨Y, hY⟩ : ∃ Y, Y = 10 ^ (EX raw).toNat := ⟨_, rfl⟩
  obtain ⟨M, hM⟩ : ∃ M, M = 10 ^ (-EX raw).toNat := ⟨_, rfl⟩
  rw [← hY] at hG
  rw [← hM] at hZ
  obtain ⟨dn, hdn⟩ : ∃ dn, dn = 2 ^ (-pR raw).toNat := ⟨_, rfl⟩
  obtain ⟨up, hup⟩ : ∃ up, up = 2 ^ (pR raw).toNat := ⟨_, rfl⟩
  obtain ⟨q, hq⟩ : ∃ q, q = 2 ^ (pR raw + 1074).toNat := ⟨_, rfl⟩
  rw [← hdn, ← hup, ← hq] at hs
  rw [← hdn] at hZ
  rw [← hq] at hm hnx hpv
  have hdp : 0 < dn := by rw [hdn]; exact Nat.pow_pos (by decide)
  have hGp : 0 < G := by
    rw [hG, hY]
    exact Nat.mul_pos (Nat.pow_pos (by decide)) (Nat.pow_pos (by decide))
  have k1 : ∀ x : Nat, x * up * tR raw * Y * U75 = 2 * (x * q * (dn * G)) := fun x => by
    have e1 : x * up * tR raw * Y * U75 = x * (tR raw * Y) * (up * U75) := by
      simp only [Nat.mul_assoc, Nat.mul_comm, Nat.mul_left_comm]
    rw [e1, hs, ← hG]
    simp only [Nat.mul_assoc, Nat.mul_comm, Nat.mul_left_comm]
  refine ⟨Y, M, WX raw * M, hY, hM, rfl, by rw [hZ]; exact Nat.mul_pos (by decide) (Nat.mul_pos hdp hGp), ?_, ?_, ?_⟩
  · have e2 : vR raw = 4 * cR raw * up := by
      unfold vR
      rw [Nat.pow_add, ← hup]
      simp only [Nat.mul_assoc, Nat.mul_comm]
    rw [e2, k1, hZ, hm]
    simp only [Nat.mul_assoc, Nat.mul_comm, Nat.mul_left_comm]
  · have e2 : bR raw = (if cR raw = 4503599627370496 ∧ -1074 < pR raw then 1 else 2) * up := by
      unfold bR
      rw [← hup]
    have e4 : 4 * (dn * G) = 2 * (2 * (dn * G)) := by omega
    rw [e2, k1, hZ, e4]
    generalize (if cR raw = 4503599627370496 ∧ -1074 < pR raw then 1 else 2) = β at *
    have e3 : 2 * (β * q * (dn * G)) + magF (raw - 1) * (2 * (2 * (dn * G))) = (2 * magF (raw - 1) + β * q) * (2 * (dn * G)) := by
      rw [Nat.add_mul, Nat.add_comm]
      simp only [Nat.mul_assoc, Nat.mul_comm, Nat.mul_left_comm]
    rw [e3, hpv]
    simp only [Nat.mul_assoc, Nat.mul_comm, Nat.mul_left_comm]
  · have e2 : aR raw = 2 * up := by
      unfold aR
      rw [← hup]
    rw [e2, k1, hZ, hnx, Nat.add_mul, Nat.add_comm]
    simp only [Nat.mul_assoc, Nat.mul_comm, Nat.mul_left_comm]
/-- A sum of neighbours against so many digits with an exponent. -/
theorem link {S N k : Nat} {E : Int} {W Y M : Nat} (hW : 0 < W) (hY : Y = 10 ^ E.toNat) (hM : M = 10 ^ (-E).toNat) :
    (S * 10 ^ (-(E - k)).toNat ≤ N * 10 ^ (E - k).toNat * U75 ↔ S * (W * M) * 10 ^ k ≤ N * W * Y * U75) ∧ (N * 10 ^ (E - k).toNat * U75 ≤ S * 10 ^ (-(E - k)).toNat ↔ N * W * Y * U75 ≤ S * (W * M) * 10 ^ k) := by
  obtain ⟨D, hD⟩ : ∃ D, D = 10 ^ (-(E - k)).toNat := ⟨_, rfl⟩
  obtain ⟨P, hP⟩ : ∃ P, P = 10 ^ (E - k).toNat := ⟨_, rfl⟩
  have hI : P * (10 ^ k * M) = Y * D := by
    rw [hP, hM, hY, hD, ← Nat.pow_add, ← Nat.pow_add, ← Nat.pow_add]
    congr 1
    omega
  rw [← hD, ← hP]
  have hDp : 0 < D := by rw [hD]; exact pow10_pos _
  have hFp : 0 < 10 ^ k * M * W := Nat.mul_pos (Nat.mul_pos (pow10_pos _) (by rw [hM]; exact pow10_pos _)) hW
  have e1 : S * D * (10 ^ k * M * W) = S * (W * M) * 10 ^ k * D := by
    simp only [Nat.mul_assoc, Nat.mul_comm, Nat.mul_left_comm]
  have e2 : N * P * U75 * (10 ^ k * M * W) = N * W * Y * U75 * D := by
    have : N * P * U75 * (10 ^ k * M * W) = N * W * U75 * (P * (10 ^ k * M)) := by
      simp only [Nat.mul_assoc, Nat.mul_comm, Nat.mul_left_comm]
    rw [this, hI]
    simp only [Nat.mul_comm, Nat.mul_left_comm]
  constructor
  · constructor
    · intro h
      have h9 := Nat.mul_le_mul_right (10 ^ k * M * W) h
      rw [e1, e2] at h9
      exact Nat.le_of_mul_le_mul_right h9 hDp
    · intro h
      have h9 := Nat.mul_le_mul_right D h
      rw [← e1, ← e2] at h9
      exact Nat.le_of_mul_le_mul_right h9 hFp
  · constructor
    · intro h
      have h9 := Nat.mul_le_mul_right (10 ^ k * M * W) h
      rw [e1, e2] at h9
      exact Nat.le_of_mul_le_mul_right h9 hDp
    · intro h
      have h9 := Nat.mul_le_mul_right D h
      rw [← e1, ← e2] at h9
      exact Nat.le_of_mul_le_mul_right h9 hFp
end Go.Proofs.YtididjnijadphaaDoor
