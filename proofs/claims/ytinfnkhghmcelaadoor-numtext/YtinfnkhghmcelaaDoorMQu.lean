/- Texts that belong together. -/
import Derived.Test.YtinfnkhghmcelaaDoorMDq
import Derived.Test.YtinfnkhghmcelaaDoorMDr
import Derived.Test.YtinfnkhghmcelaaDoorMDw
/- Digits and floats: what they are held against. -/
namespace Go.Proofs.YtinfnkhghmcelaaDoor

theorem pow_shift {p : Int} {a : Nat} (h1 : -1074 ≤ p) (ha : a = 1075) : 2 ^ p.toNat * 2 ^ a = 2 * (2 ^ (-p).toNat * 2 ^ (p + 1074).toNat) := by
  rw [← Nat.pow_add, ← Nat.pow_add, show p.toNat + a = (-p).toNat + (p + 1074).toNat + 1 by omega, Nat.pow_succ]
  exact Nat.mul_comm _ _
theorem ten_shift (V W : Nat) (e : Int) : scaleW V W e * 10 ^ (-scaleE V W e).toNat = W * (10 ^ (-e).toNat * 10 ^ (scaleE V W e).toNat) := by
  unfold scaleW scaleE
  split
  · have e1 : 10 ^ e.toNat * 10 * 10 ^ (-(e + 1)).toNat = 10 ^ (-e).toNat * 10 ^ (e + 1).toNat := by
      have : 10 ^ e.toNat * 10 = 10 ^ (e.toNat + 1) := (Nat.pow_succ 10 e.toNat).symm
      rw [this, ← Nat.pow_add, ← Nat.pow_add]
      congr 1
      omega
    rw [Nat.mul_assoc W, Nat.mul_assoc W, e1]
  · rw [Nat.mul_assoc, ← Nat.pow_add, ← Nat.pow_add, Nat.add_comm]
/-- The three facts on a float's span. -/
theorem span_facts {raw : Nat} (hf : DigF raw) (h0 : 0 < raw) (h1 : raw < 9218868437227405312) : ∃ Y M Z, Y = 10 ^ (EX raw).toNat ∧ M = 10 ^ (-EX raw).toNat ∧ Z = WX raw * M ∧ 0 < Z ∧
    vR raw * tR raw * Y * U75 = 2 * (magF raw * Z) ∧ bR raw * tR raw * Y * U75 + magF (raw - 1) * Z = magF raw * Z ∧ aR raw * tR raw * Y * U75 + magF raw * Z = magF (raw + 1) * Z := by
  obtain ⟨a, ha, hU⟩ := U75_eq
  have hs := pow_shift hf.p1 ha
  rw [← hU] at hs
  have ht := ten_shift (vR raw) (wR raw) (eR raw)
  have hm := magF_raw raw (by omega)
  have hnx := raw_next raw (by omega)
  have hpv := raw_prev raw h0 (by omega)
  obtain ⟨G, hG⟩ : ∃ G, G = tR raw * 10 ^ (EX raw).toNat := ⟨_, rfl⟩
  have hZ : WX raw * 10 ^ (-EX raw).toNat = 4 * (2 ^ (-pR raw).toNat * G) := by
    show scaleW (vR raw) (wR raw) (eR raw) * 10 ^ (-scaleE (vR raw) (wR raw) (eR raw)).toNat = _
    rw [ht, hG]
    unfold wR
    rw [Nat.mul_assoc]
    rfl
  obtain ⟨Y, hY⟩ : ∃ Y, Y = 10 ^ (EX raw).toNat := ⟨_, rfl⟩
  obtain ⟨M, hM⟩ : ∃ M, M = 10 ^ (-EX raw).toNat := ⟨_, rfl⟩
  rw [← hY] at hG
  rw [← hM] at hZ
  obtain ⟨dn, hdn⟩ : ∃ dn, dn = 2 ^ (-pR raw).toNat := ⟨_, rfl⟩
  obtain ⟨up, hup⟩ : ∃ up, up = 2 ^ (pR raw).toNat := ⟨_, rfl⟩
  obtain ⟨q, hq⟩ : ∃ q, q = 2 ^ (pR raw + 1074).toNat := ⟨_, rfl⟩
  rw [← hdn, ← hup, ← hq] at hs
  rw [← hdn] at hZ
  rw [← hq] at hm hnx hpv
  have hdp : 0 < dn := by rw [hdn]; exact Nat.pow_pos (by decide)
  have hGp : 0 < G := by
    rw [hG, hY]
    exact Nat.mul_pos (Nat.pow_pos (by decide)) (Nat.pow_pos (by decide))
  have k1 : ∀ x : Nat, x * up * tR raw * Y * U75 = 2 * (x * q * (dn * G)) := fun x => by
    have e1 : x * up * tR raw * Y * U75 = x * (tR raw * Y) * (up * U75) := by
      simp only [Nat.mul_assoc, Nat.mul_comm, Nat.mul_left_comm]
    rw [e1, hs, ← hG]
    simp only [Nat.mul_assoc, Nat.mul_comm, Nat.mul_left_comm]
  refine ⟨Y, M, WX raw * M, hY, hM, rfl, by rw [hZ]; exact Nat.mul_pos (by decide) (Nat.mul_pos hdp hGp), ?_, ?_, ?_⟩
  · have e2 : vR raw = 4 * cR raw * up := by
      unfold vR
      rw [Nat.pow_add, ← hup]
      simp only [Nat.mul_assoc, Nat.mul_comm]
    rw [e2, k1, hZ, hm]
    simp only [Nat.mul_assoc, Nat.mul_comm, Nat.mul_left_comm]
  · have e2 : bR raw = (if cR raw = 4503599627370496 ∧ -1074 < pR raw then 1 else 2) * up := by
      unfold bR
      rw [← hup]
    have e4 : 4 * (dn * G) = 2 * (2 * (dn * G)) := by omega
    rw [e2, k1, hZ, e4]
    generalize (if cR raw = 4503599627370496 ∧ -1074 < pR raw then 1 else 2) = β at *
    have e3 : 2 * (β * q * (dn * G)) + magF (raw - 1) * (2 * (2 * (dn * G))) = (2 * magF (raw - 1) + β * q) * (2 * (dn * G)) := by
      rw [Nat.add_mul, Nat.add_comm]
      simp only [Nat.mul_assoc, Nat.mul_comm, Nat.mul_left_comm]
    rw [e3, hpv]
    simp only [Nat.mul_assoc, Nat.mul_comm, Nat.mul_left_comm]
  · have e2 : aR raw = 2 * up := by
      unfold aR
      rw [← hup]
    rw [e2, k1, hZ, hnx, Nat.add_mul, Nat.add_comm]
    simp only [Nat.mul_assoc, Nat.mul_comm, Nat.mul_left_comm]
/-- A sum of neighbours against so many digits with an exponent. -/
theorem link {S N k : Nat} {E : Int} {W Y M : Nat} (hW : 0 < W) (hY : Y = 10 ^ E.toNat) (hM : M = 10 ^ (-E).toNat) :
    (S * 10 ^ (-(E - k)).toNat ≤ N * 10 ^ (E - k).toNat * U75 ↔ S * (W * M) * 10 ^ k ≤ N * W * Y * U75) ∧ (N * 10 ^ (E - k).toNat * U75 ≤ S * 10 ^ (-(E - k)).toNat ↔ N * W * Y * U75 ≤ S * (W * M) * 10 ^ k) := by
  obtain ⟨D, hD⟩ : ∃ D, D = 10 ^ (-(E - k)).toNat := ⟨_, rfl⟩
  obtain ⟨P, hP⟩ : ∃ P, P = 10 ^ (E - k).toNat := ⟨_, rfl⟩
  have hI : P * (10 ^ k * M) = Y * D := by
    rw [hP, hM, hY, hD, ← Nat.pow_add, ← Nat.pow_add, ← Nat.pow_add]
    congr 1
    omega
  rw [← hD, ← hP]
  have hDp : 0 < D := by rw [hD]; exact pow10_pos _
  have hFp : 0 < 10 ^ k * M * W := Nat.mul_pos (Nat.mul_pos (pow10_pos _) (by rw [hM]; exact pow10_pos _)) hW
  have e1 : S * D * (10 ^ k * M * W) = S * (W * M) * 10 ^ k * D := by
    simp only [Nat.mul_assoc, Nat.mul_comm, Nat.mul_left_comm]
  have e2 : N * P * U75 * (10 ^ k * M * W) = N * W * Y * U75 * D := by
    have : N * P * U75 * (10 ^ k * M * W) = N * W * U75 * (P * (10 ^ k * M)) := by
      simp only [Nat.mul_assoc, Nat.mul_comm, Nat.mul_left_comm]
    rw [this, hI]
    simp only [Nat.mul_comm, Nat.mul_left_comm]
  constructor
  · constructor
    · intro h
      have h9 := Nat.mul_le_mul_right (10 ^ k * M * W) h
      rw [e1, e2] at h9
      exact Nat.le_of_mul_le_mul_right h9 hDp
    · intro h
      have h9 := Nat.mul_le_mul_right D h
      rw [← e1, ← e2] at h9
      exact Nat.le_of_mul_le_mul_right h9 hFp
  · constructor
    · intro h
      have h9 := Nat.mul_le_mul_right (10 ^ k * M * W) h
      rw [e1, e2] at h9
      exact Nat.le_of_mul_le_mul_right h9 hDp
    · intro h
      have h9 := Nat.mul_le_mul_right D h
      rw [← e1, ← e2] at h9
      exact Nat.le_of_mul_le_mul_right h9 hFp
end Go.Proofs.YtinfnkhghmcelaaDoor

/- The shortest digits are read as the float, shorter ones as others. -/
namespace Go.Proofs.YtinfnkhghmcelaaDoor

theorem scale_le {x y C : Nat} (hC : 0 < C) : x ≤ y ↔ x * C ≤ y * C := ⟨Nat.mul_le_mul_right C, fun h => Nat.le_of_mul_le_mul_right h hC⟩
/-- What the digits were held against, told of the floats about them. -/
theorem span_link {raw : Nat} (hf : DigF raw) (h0 : 0 < raw) (h1 : raw < 9218868437227405312) (N k : Nat) :
    ((vR raw * tR raw) * 10 ^ k ≤ N * WX raw + (bR raw * tR raw) * 10 ^ k ↔ (magF (raw - 1) + magF raw) * 10 ^ (-(EX raw - k)).toNat ≤ N * 10 ^ (EX raw - k).toNat * U75) ∧
    (N * WX raw + (bR raw * tR raw) * 10 ^ k ≤ (vR raw * tR raw) * 10 ^ k ↔ N * 10 ^ (EX raw - k).toNat * U75 ≤ (magF (raw - 1) + magF raw) * 10 ^ (-(EX raw - k)).toNat) ∧
    ((vR raw * tR raw) * 10 ^ k + (aR raw * tR raw) * 10 ^ k ≤ N * WX raw ↔ (magF raw + magF (raw + 1)) * 10 ^ (-(EX raw - k)).toNat ≤ N * 10 ^ (EX raw - k).toNat * U75) ∧
    (N * WX raw ≤ (vR raw * tR raw) * 10 ^ k + (aR raw * tR raw) * 10 ^ k ↔ N * 10 ^ (EX raw - k).toNat * U75 ≤ (magF raw + magF (raw + 1)) * 10 ^ (-(EX raw - k)).toNat) := by
  obtain ⟨Y, M, Z, hY, hM, hZ, hZ0, f1, f2, f3⟩ := span_facts hf h0 h1
  have hW : 0 < WX raw := Nat.pos_of_ne_zero fun e => by rw [e, Nat.zero_mul] at hZ; omega
  obtain ⟨l1, l2⟩ := link (S := magF (raw - 1) + magF raw) (N := N) (k := k) hW hY hM
  obtain ⟨l3, l4⟩ := link (S := magF raw + magF (raw + 1)) (N := N) (k := k) hW hY hM
  rw [← hZ] at l1 l2 l3 l4
  rw [l1, l2, l3, l4]
  clear l1 l2 l3 l4
  have hC : 0 < Y * U75 := Nat.mul_pos (by rw [hY]; exact pow10_pos _) U75_pos
  generalize magF (raw - 1) = m0 at *
  generalize magF raw = m1 at *
  generalize magF (raw + 1) = m2 at *
  generalize vR raw * tR raw = v at *
  generalize bR raw * tR raw = b at *
  generalize aR raw * tR raw = a at *
  generalize WX raw = W at *
  generalize 10 ^ k = K at *
  have g1 : v * K * (Y * U75) = 2 * (m1 * Z * K) := by
    have : v * K * (Y * U75) = v * Y * U75 * K := by simp only [Nat.mul_comm, Nat.mul_left_comm]
    rw [this, f1, Nat.mul_assoc 2]
  have g2 : b * K * (Y * U75) + m0 * Z * K = m1 * Z * K := by
    have : b * K * (Y * U75) = b * Y * U75 * K := by simp only [Nat.mul_comm, Nat.mul_left_comm]
    rw [this, ← Nat.add_mul, f2]
  have g3 : a * K * (Y * U75) + m1 * Z * K = m2 * Z * K := by
    have : a * K * (Y * U75) = a * Y * U75 * K := by simp only [Nat.mul_comm, Nat.mul_left_comm]
    rw [this, ← Nat.add_mul, f3]
  have g4 : N * W * (Y * U75) = N * W * Y * U75 := (Nat.mul_assoc _ _ _).symm
  have s1 : (m0 + m1) * Z * K = m0 * Z * K + m1 * Z * K := by rw [Nat.add_mul, Nat.add_mul]
  have s2 : (m1 + m2) * Z * K = m1 * Z * K + m2 * Z * K := by rw [Nat.add_mul, Nat.add_mul]
  rw [scale_le hC (x := v * K), scale_le hC (x := N * W + b * K), scale_le hC (x := v * K + a * K), scale_le hC (x := N * W), s1, s2, Nat.add_mul (N * W), Nat.add_mul (v * K), g1, g4]
  generalize b * K * (Y * U75) = bb at *
  generalize a * K * (Y * U75) = aa at *
  generalize m0 * Z * K = q0 at *
  generalize m1 * Z * K = q1 at *
  generalize m2 * Z * K = q2 at *
  generalize N * W * Y * U75 = T at *
  refine ⟨?_, ?_, ?_, ?_⟩ <;> constructor <;> intro h <;> omega
theorem near_below {A D R raw : Nat} (h : NearF A D R) (hD : 0 < D) (h0 : 0 < raw) (hl : A * U75 ≤ (magF (raw - 1) + magF raw) * D) (hE : A * U75 = (magF (raw - 1) + magF raw) * D → raw % 2 = 1) : R < raw := by
  rcases Nat.lt_or_ge R raw with h9 | h9
  · exact h9
  · exfalso
    have q1 := h.low (by omega)
    rcases Nat.lt_or_ge raw R with h8 | h8
    · have m1 : magF raw ≤ magF (R - 1) := magF_le (by omega)
      have m2 : magF (raw - 1) < magF R := magF_lt (by omega)
      have : (magF (raw - 1) + magF raw) * D < (magF (R - 1) + magF R) * D := Nat.mul_lt_mul_of_pos_right (by omega) hD
      omega
    · obtain rfl : R = raw := by omega
      have e := Nat.le_antisymm q1 hl
      have := h.lowE (by omega) e
      have := hE e.symm
      omega
theorem near_above {A D R raw : Nat} (h : NearF A D R) (hD : 0 < D) (h1 : raw < 9218868437227405312) (hl : (magF raw + magF (raw + 1)) * D ≤ A * U75) (hE : A * U75 = (magF raw + magF (raw + 1)) * D → raw % 2 = 1) : raw < R := by
  rcases Nat.lt_or_ge raw R with h9 | h9
  · exact h9
  · exfalso
    have q1 := h.up (by omega)
    rcases Nat.lt_or_ge R raw with h8 | h8
    · have m1 : magF (R + 1) ≤ magF raw := magF_le (by omega)
      have m2 : magF R < magF (raw + 1) := magF_lt (by omega)
      have : (magF R + magF (R + 1)) * D < (magF raw + magF (raw + 1)) * D := Nat.mul_lt_mul_of_pos_right (by omega) hD
      omega
    · obtain rfl : R = raw := by omega
      have e := Nat.le_antisymm q1 hl
      have := h.upE (by omega) e
      have := hE e
      omega
theorem cl_even {raw : Nat} : clR raw = true ↔ raw % 2 = 0 := by
  unfold clR cR apartN
  split
  · simp; omega
  · simp; omega
end Go.Proofs.YtinfnkhghmcelaaDoor

/- How the digits of a float, those cut and those one greater are read. -/
namespace Go.Proofs.YtinfnkhghmcelaaDoor

theorem scale_ge {V W : Nat} {e : Int} (h : W * 10 ^ e.toNat ≤ 10 * (V * 10 ^ (-e).toNat)) : scaleW V W e ≤ 10 * (V * 10 ^ (-e).toNat) := by
  unfold scaleW
  split
  · omega
  · exact h
theorem dig_ten {raw : Nat} (h : DigF raw) : WX raw ≤ 10 * (vR raw * tR raw) := by
  refine scale_ge ?_
  have hok := okE_at h.k
  unfold okE at hok
  simp only [Bool.and_eq_true, decide_eq_true_eq] at hok
  have h1 := hok.2
  have hlog := ((Nat.log2_eq_iff (show cR raw ≠ 0 by have := h.c1; omega)).1 rfl).1
  unfold vR wR
  show 4 * 2 ^ (-pR raw).toNat * 10 ^ (expE ((cR raw).log2 + pR raw)).toNat ≤ 10 * (cR raw * 2 ^ ((pR raw).toNat + 2) * 10 ^ (-expE ((cR raw).log2 + pR raw)).toNat)
  generalize 10 ^ (-expE ((cR raw).log2 + pR raw)).toNat = X at *
  generalize 10 ^ (expE ((cR raw).log2 + pR raw)).toNat = Y at *
  have e1 : cR raw * 2 ^ ((pR raw).toNat + 2) * X = 4 * (cR raw * 2 ^ (pR raw).toNat * X) := by
    rw [Nat.pow_add]
    simp only [Nat.mul_comm, Nat.mul_left_comm]
  have e3 : (2 : Nat) ^ ((cR raw).log2 + (pR raw).toNat) = 2 ^ (cR raw).log2 * 2 ^ (pR raw).toNat := Nat.pow_add _ _ _
  rw [e3] at h1
  have h2 : 2 ^ (cR raw).log2 * 2 ^ (pR raw).toNat * X ≤ cR raw * 2 ^ (pR raw).toNat * X := Nat.mul_le_mul_right _ (Nat.mul_le_mul_right _ hlog)
  rw [e1, Nat.mul_assoc 4]
  omega
/-- A float has at most 18 digits. -/
theorem dig_18 {raw : Nat} (h : DigF raw) : ∃ l, shortF 18 (vR raw * tR raw) (bR raw * tR raw) (aR raw * tR raw) (WX raw) (clR raw) = some l := by
  have h1 := dig_ten h
  obtain ⟨b1, b2, b3, b4⟩ := dig_bounds h
  have h2 : vR raw * tR raw ≤ 36028797018963968 * (bR raw * tR raw) := by
    rw [← Nat.mul_assoc]
    refine Nat.mul_le_mul_right _ ?_
    unfold vR bR
    rw [Nat.pow_add, ← Nat.mul_assoc]
    have hc := h.c2
    have q1 : 1 * 2 ^ (pR raw).toNat ≤ (if cR raw = 4503599627370496 ∧ -1074 < pR raw then 1 else 2) * 2 ^ (pR raw).toNat := Nat.mul_le_mul_right _ (by split <;> omega)
    have q2 : cR raw * 2 ^ (pR raw).toNat ≤ 9007199254740992 * 2 ^ (pR raw).toNat := Nat.mul_le_mul_right _ (by omega)
    omega
  refine shortF_ends 17 _ _ _ _ _ (by omega) ?_
  omega
end Go.Proofs.YtinfnkhghmcelaaDoor
