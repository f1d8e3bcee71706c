/- What NumShortest asks of a float's digits. -/
import Derived.Test.YtinfnkhghmcelaaDoorMQu
namespace Go.Proofs.YtinfnkhghmcelaaDoor

theorem parse_point {y : List UInt8} {k : Int} (hy : ∀ b ∈ y, isD b) (hl : y.length ≤ 300) (h1 : -1000000 ≤ k) (h2 : k ≤ 1000000) : ∃ R, parseR ⟨(48 :: 46 :: (y ++ 101 :: Lib.itoa k)).toArray⟩ = (R, 0) ∧ NearF (valT y * 10 ^ (k - y.length).toNat) (10 ^ (-(k - y.length)).toNat) R := by
  have h48 : isD 48 := by unfold isD; decide
  obtain ⟨ds, h3, h4, h5⟩ := decR_point (x := [48]) (y := y) (fun b hb => by rw [List.mem_singleton.1 hb]; exact h48) hy (by simp) (itoa_exp k h1 h2)
  have hil : (Lib.itoa k).length ≤ 21 := Lib.itoa_length_le k (by omega) (by omega)
  have hp := parse_digit (b := 48) (t := 46 :: (y ++ 101 :: Lib.itoa k)) h48 (by simp; omega)
  rw [List.singleton_append] at h3 h4
  rw [hp, h3]
  refine ⟨nearN ds (k - y.length), rfl, ?_⟩
  have e : valT (48 :: y) = valT y := by rw [valT_cons]; simp
  rw [← e, ← h4]
  exact nearN_near h5 _
/-- What is told of digits d with exponent E of a float, cut and one greater. -/
structure DigsOf (raw : Nat) (d pre : List UInt8) (E : Int) : Prop where
  isd : ∀ b ∈ d, isD b
  len : d.length = pre.length + 1
  cut : d.take pre.length = pre
  one : 1 ≤ pre.length
  few : pre.length ≤ 17
  e1 : -500 ≤ E
  e2 : E ≤ 500
  same : ∀ R, NearF (valT d * 10 ^ (E - d.length).toNat) (10 ^ (-(E - d.length)).toNat) R → R = raw
  low : ∀ R, NearF (valT pre * 10 ^ (E - pre.length).toNat) (10 ^ (-(E - pre.length)).toNat) R → R < raw
  up : ∀ R, NearF ((valT pre + 1) * 10 ^ (E - pre.length).toNat) (10 ^ (-(E - pre.length)).toNat) R → raw < R
theorem digs_of {raw : Nat} (h2 : 2 ≤ (dgR raw).1.length) : 0 < raw ∧ raw < 9218868437227405312 ∧ ∃ pre, DigsOf raw (dgR raw).1 pre (dgR raw).2 := by
  unfold dgR at h2 ⊢
  by_cases hz : raw = 0 ∨ 9218868437227405312 ≤ raw
  · rw [if_pos hz] at h2; simp at h2
  · rw [if_neg hz] at h2 ⊢
    have h0 : 0 < raw := by omega
    have h1 : raw < 9218868437227405312 := by omega
    refine ⟨h0, h1, ?_⟩
    have hf := dig_facts h0 h1
    obtain ⟨l, hl⟩ := dig_18 hf
    have hll := shortF_len _ _ _ _ _ _ _ hl
    obtain ⟨b1, b2, b3, b4⟩ := dig_bounds hf
    have ha : 0 < aR raw * tR raw := Nat.mul_pos (by unfold aR; exact Nat.mul_pos (by decide) (Nat.pow_pos (by decide))) (Nat.pow_pos (by decide))
    rw [dig_short hf hl] at h2 ⊢
    unfold upR at h2 ⊢
    by_cases h57 : 57 < (l.headD 0).toNat
    · rw [if_pos h57] at h2; simp at h2
    · rw [if_neg h57] at h2 ⊢
      have h2 : 2 ≤ l.length := h2
      obtain ⟨pre, c, rfl⟩ : ∃ pre c, l = pre ++ [c] := ⟨l.dropLast, l.getLast (by intro e; subst e; simp at h2), (List.dropLast_concat_getLast _).symm⟩
      have hpl : 1 ≤ pre.length := by simp at h2; omega
      obtain ⟨i1, i2, i3, i4⟩ := short_in _ _ _ _ _ _ _ b1 b4 ha hl
      obtain ⟨j1, j2, j3, j4, j5⟩ := short_cut _ _ _ _ _ _ _ pre c b1 hl rfl (by intro e; rw [e] at hpl; simp at hpl)
      have hlen : (pre ++ [c]).length = pre.length + 1 := by simp
      have hgood := (shortF_good _ _ _ _ _ _ _ b1 hl).2 c (by simp)
      have hvl : valT (pre ++ [c]) = valT pre * 10 + (c.toNat - 48) := by rw [valT_append, valT_cons]; simp [valT]
      -- the last digit is a digit
      have hc : isD c := by
        refine ⟨hgood.1, ?_⟩
        rcases Nat.lt_or_ge c.toNat 58 with h9 | h9
        · omega
        · exfalso
          have e58 : c.toNat - 48 = 10 := by omega
          rw [hlen, hvl, e58, Nat.pow_succ] at i2 i4
          have q1 : (valT pre * 10 + 10) * WX raw = 10 * ((valT pre + 1) * WX raw) := by rw [← Nat.mul_assoc, Nat.mul_add, Nat.mul_one, Nat.mul_comm 10]
          rw [q1] at i2 i4
          rw [Nat.add_mul] at j2 j4
          have q2 : vR raw * tR raw * (10 ^ pre.length * 10) = 10 * (vR raw * tR raw * 10 ^ pre.length) := by rw [← Nat.mul_assoc, Nat.mul_comm]
          have q3 : aR raw * tR raw * (10 ^ pre.length * 10) = 10 * (aR raw * tR raw * 10 ^ pre.length) := by rw [← Nat.mul_assoc, Nat.mul_comm]
          rw [q2, q3] at i2 i4
          have e : vR raw * tR raw * 10 ^ pre.length + aR raw * tR raw * 10 ^ pre.length = (valT pre + 1) * WX raw := by omega
          have c1 := j4 e
          have c2 := i4 (by omega)
          rw [c1] at c2
          cases c2
      have hE : -500 ≤ EX raw ∧ EX raw ≤ 500 := by
        have := hf.e1
        have := hf.e2
        unfold EX scaleE
        split <;> omega
      have hodd : clR raw = false → raw % 2 = 1 := fun h => by
        rcases Nat.mod_two_eq_zero_or_one raw with h9 | h9
        · rw [cl_even.2 h9] at h; cases h
        · exact h9
      have hl18 : pre.length ≤ 17 := by rw [hlen] at hll; omega
      refine ⟨pre, ?_, by simp, by simp, hpl, hl18, hE.1, hE.2, ?_, ?_, ?_⟩
      · intro b hb
        rcases List.mem_append.1 hb with h9 | h9
        · exact j5 b h9
        · rw [List.mem_singleton.1 h9]; exact hc
      · intro R hR
        obtain ⟨s1, s2, s3, s4⟩ := span_link hf h0 h1 (valT (pre ++ [c])) (pre ++ [c]).length
        have hnear : NearF (valT (pre ++ [c]) * 10 ^ (EX raw - ((pre ++ [c]).length : Nat)).toNat) (10 ^ (-(EX raw - ((pre ++ [c]).length : Nat))).toNat) raw := by
          refine ⟨by omega, fun _ => s1.1 i1, fun _ e => ?_, fun _ => s4.1 i2, fun _ e => ?_⟩
          · exact cl_even.1 (i3 (Nat.le_antisymm i1 (s2.2 (Nat.le_of_eq e.symm))))
          · exact cl_even.1 (i4 (Nat.le_antisymm i2 (s3.2 (Nat.le_of_eq e.symm))))
        exact hR.one hnear (pow10_pos _) (pow10_pos _) rfl
      · intro R hR
        obtain ⟨s1, s2, s3, s4⟩ := span_link hf h0 h1 (valT pre) pre.length
        refine near_below hR (pow10_pos _) h0 (s2.1 j1) (fun e => hodd (j3 (Nat.le_antisymm j1 (s1.2 (Nat.le_of_eq e.symm)))))
      · intro R hR
        obtain ⟨s1, s2, s3, s4⟩ := span_link hf h0 h1 (valT pre + 1) pre.length
        rw [Nat.add_mul] at j2 j4
        refine near_above hR (pow10_pos _) h1 (s3.1 j2) (fun e => hodd (j4 (Nat.le_antisymm j2 (s4.2 (Nat.le_of_eq e)))))
end Go.Proofs.YtinfnkhghmcelaaDoor
