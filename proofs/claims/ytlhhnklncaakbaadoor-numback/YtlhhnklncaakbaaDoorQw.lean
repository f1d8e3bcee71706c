/- How the digits of a float, those cut and those one greater are read. -/
import Derived.Test.YtlhhnklncaakbaaDoorQv
import Derived.Test.YtlhhnklncaakbaaDoorEl
namespace Go.Proofs.YtlhhnklncaakbaaDoor

theorem scale_ge {V W : Nat} {e : Int} (h : W * 10 ^ e.toNat ≤ 10 * (V * 10 ^ (-e).toNat)) : scaleW V W e ≤ 10 * (V * 10 ^ (-e).toNat) := by
  unfold scaleW
  split
  · omega
  · exact h
theorem dig_ten {raw : Nat} (h : DigF raw) : WX raw ≤ 10 * (vR raw * tR raw) := by
  refine scale_ge ?_
  have hok := okE_at h.k
  unfold okE at hok
  simp only [Bool.and_eq_true, decide_eq_true_eq] at hok
  have h1 := hok.2
  have hlog := ((Nat.log2_eq_iff (show cR raw ≠ 0 by have := h.c1; omega)).1 rfl).1
  unfold vR wR
  show 4 * 2 ^ (-pR raw).toNat * 10 ^ (expE ((cR raw).log2 + pR raw)).toNat ≤ 10 * (cR raw * 2 ^ ((pR raw).toNat + 2) * 10 ^ (-expE ((cR raw).log2 + pR raw)).toNat)
  generalize 10 ^ (-expE ((cR raw).log2 + pR raw)).toNat = X at *
  generalize 10 ^ (expE ((cR raw).log2 + pR raw)).toNat = Y at *
  have e1 : cR raw * 2 ^ ((pR raw).toNat + 2) * X = 4 * (cR raw * 2 ^ (pR raw).toNat * X) := by
    rw [Nat.pow_add]
    simp only [Nat.mul_comm, Nat.mul_left_comm]
  have e3 : (2 : Nat) ^ ((cR raw).log2 + (pR raw).toNat) = 2 ^ (cR raw).log2 * 2 ^ (pR raw).toNat := Nat.pow_add _ _ _
  rw [e3] at h1
  have h2 : 2 ^ (cR raw).log2 * 2 ^ (pR raw).toNat * X ≤ cR raw * 2 ^ (pR raw).toNat * X := Nat.mul_le_mul_right _ (Nat.mul_le_mul_right _ hlog)
  rw [e1, Nat.mul_assoc 4]
  omega
/-- A float has at most 18 digits. -/
theorem dig_18 {raw : Nat} (h : DigF raw) : ∃ l, shortF 18 (vR raw * tR raw) (bR raw * tR raw) (aR raw * tR raw) (WX raw) (clR raw) = some l := by
  have h1 := dig_ten h
  obtain ⟨b1, b2, b3, b4⟩ := dig_bounds h
  have h2 : vR raw * tR raw ≤ 36028797018963968 * (bR raw * tR raw) := by
    rw [← Nat.mul_assoc]
    refine Nat.mul_le_mul_right _ ?_
    unfold vR bR
    rw [Nat.pow_add, ← Nat.mul_assoc]
    have hc := h.c2
    have q1 : 1 * 2 ^ (pR raw).toNat ≤ (if cR raw = 4503599627370496 ∧ -1074 < pR raw then 1 else 2) * 2 ^ (pR raw).toNat := Nat.mul_le_mul_right _ (by split <;> omega)
    have q2 : cR raw * 2 ^ (pR raw).toNat ≤ 9007199254740992 * 2 ^ (pR raw).toNat := Nat.mul_le_mul_right _ (by omega)
    omega
  refine shortF_ends 17 _ _ _ _ _ (by omega) ?_
  omega
end Go.Proofs.YtlhhnklncaakbaaDoor
