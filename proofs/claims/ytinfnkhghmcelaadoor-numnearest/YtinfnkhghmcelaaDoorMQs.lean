/- Texts that belong together. -/
import Derived.Test.YtinfnkhghmcelaaDoorMDq
import Derived.Test.YtinfnkhghmcelaaDoorMPp
/- The shortest digits lie within the float's span, and no shorter ones do. -/
namespace Go.Proofs.YtinfnkhghmcelaaDoor

theorem pow10_pos (k : Nat) : 0 < 10 ^ k := Nat.pow_pos (by decide)
theorem ofNat_dig {q x : Nat} (h : q + x < 256) : (UInt8.ofNat (x + q)).toNat - x = q := by
  rw [UInt8.toNat_ofNat', Nat.mod_eq_of_lt (show x + q < 2 ^ 8 by omega)]
  omega
/-- What is told lies within. -/
theorem short_in : ∀ (n v b a w : Nat) (cl : Bool) (l : List UInt8), v < w → 0 < b → 0 < a → shortF n v b a w cl = some l →
    v * 10 ^ l.length ≤ valT l * w + b * 10 ^ l.length ∧ valT l * w ≤ v * 10 ^ l.length + a * 10 ^ l.length ∧ (v * 10 ^ l.length = valT l * w + b * 10 ^ l.length → cl = true) ∧ (valT l * w = v * 10 ^ l.length + a * 10 ^ l.length → cl = true)
  | 0, _, _, _, _, _, _, _, _, _, h => by cases h
  | n + 1, v, b, a, w, cl, l, hv, hb, ha, h => by
    have hw : 0 < w := by omega
    have hdm := Nat.div_add_mod (v * 10) w
    have hr := Nat.mod_lt (v * 10) hw
    have hq : v * 10 / w ≤ 9 := by
      have : v * 10 / w < 10 := Nat.div_lt_of_lt_mul (by omega)
      omega
    unfold shortF at h
    rw [Nat.mul_comm w] at hdm
    generalize v * 10 / w = q at *
    generalize v * 10 % w = r at *
    have e48 : (UInt8.ofNat (48 + q)).toNat - 48 = q := ofNat_dig (by omega)
    have e49 : (UInt8.ofNat (49 + q)).toNat - 48 = q + 1 := by
      rw [UInt8.toNat_ofNat', Nat.mod_eq_of_lt (show 49 + q < 2 ^ 8 by omega)]
      omega
    split at h
    · rename_i hup
      injection h with h; subst h
      simp only [Bool.and_eq_true] at hup
      have hu := hup.1
      unfold upB at hu
      simp only [Bool.or_eq_true, Bool.and_eq_true, decide_eq_true_eq] at hu
      have hv1 : valT [UInt8.ofNat (49 + q)] = q + 1 := by rw [valT_cons, e49]; simp [valT]
      rw [hv1, List.length_singleton, Nat.pow_one, Nat.add_mul, Nat.one_mul]
      refine ⟨by omega, by omega, fun h => by omega, fun h => ?_⟩
      rcases hu with h1 | h1
      · omega
      · exact h1.2
    · rename_i hup
      split at h
      · rename_i hd
        injection h with h; subst h
        unfold downB at hd
        simp only [Bool.or_eq_true, Bool.and_eq_true, decide_eq_true_eq] at hd
        have hv1 : valT [UInt8.ofNat (48 + q)] = q := by rw [valT_cons, e48]; simp [valT]
        rw [hv1, List.length_singleton, Nat.pow_one]
        refine ⟨by omega, by omega, fun h => ?_, fun h => by omega⟩
        rcases hd with h1 | h1
        · omega
        · exact h1.2
      · obtain ⟨t, ht, rfl⟩ := Option.map_eq_some_iff.1 h
        obtain ⟨i1, i2, i3, i4⟩ := short_in n r (b * 10) (a * 10) w cl t hr (by omega) (by omega) ht
        have e1 : v * 10 ^ (t.length + 1) = q * w * 10 ^ t.length + r * 10 ^ t.length := by rw [Nat.pow_succ, ← Nat.add_mul, hdm, Nat.mul_comm (10 ^ t.length) 10, Nat.mul_assoc]
        have e2 : (q * 10 ^ t.length + valT t) * w = q * w * 10 ^ t.length + valT t * w := by rw [Nat.add_mul, Nat.mul_right_comm]
        have e3 : b * 10 ^ (t.length + 1) = b * 10 * 10 ^ t.length := by rw [Nat.pow_succ, Nat.mul_comm (10 ^ t.length) 10, Nat.mul_assoc]
        have e4 : a * 10 ^ (t.length + 1) = a * 10 * 10 ^ t.length := by rw [Nat.pow_succ, Nat.mul_comm (10 ^ t.length) 10, Nat.mul_assoc]
        rw [valT_cons, e48, List.length_cons, e1, e2, e3, e4]
        exact ⟨by omega, by omega, fun h => i3 (by omega), fun h => i4 (by omega)⟩
/-- The digits ahead of the last one lie below, and with one more above. -/
theorem short_cut : ∀ (n v b a w : Nat) (cl : Bool) (l pre : List UInt8) (d : UInt8), v < w → shortF n v b a w cl = some l → l = pre ++ [d] → pre ≠ [] →
    valT pre * w + b * 10 ^ pre.length ≤ v * 10 ^ pre.length ∧ (v + a) * 10 ^ pre.length ≤ (valT pre + 1) * w ∧ (valT pre * w + b * 10 ^ pre.length = v * 10 ^ pre.length → cl = false) ∧ ((v + a) * 10 ^ pre.length = (valT pre + 1) * w → cl = false) ∧ ∀ x ∈ pre, isD x
  | 0, _, _, _, _, _, _, _, _, _, h, _, _ => by cases h
  | n + 1, v, b, a, w, cl, l, pre, d, hv, h, hl, hne => by
    have hw : 0 < w := by omega
    have hdm := Nat.div_add_mod (v * 10) w
    have hr := Nat.mod_lt (v * 10) hw
    have hq : v * 10 / w ≤ 9 := by
      have : v * 10 / w < 10 := Nat.div_lt_of_lt_mul (by omega)
      omega
    unfold shortF at h
    rw [Nat.mul_comm w] at hdm
    generalize v * 10 / w = q at *
    generalize v * 10 % w = r at *
    have e48 : (UInt8.ofNat (48 + q)).toNat - 48 = q := ofNat_dig (by omega)
    have hlen : 2 ≤ l.length := by
      rw [hl, List.length_append, List.length_singleton]
      have := List.length_pos_iff.2 hne
      omega
    split at h
    · injection h with h; subst h; simp at hlen
    · rename_i hup
      split at h
      · injection h with h; subst h; simp at hlen
      · rename_i hd
        obtain ⟨t, ht, rfl⟩ := Option.map_eq_some_iff.1 h
        have hnu : ¬ upB r (a * 10) w cl = true := fun h9 => by
          apply hup
          rw [h9]
          have : downB r (b * 10) cl = false := by simpa using hd
          rw [this]
          rfl
        unfold upB at hnu
        unfold downB at hd
        simp only [Bool.or_eq_true, Bool.and_eq_true, decide_eq_true_eq, not_or, not_and] at hnu hd
        have hisd : isD (UInt8.ofNat (48 + q)) := by
          unfold isD
          rw [UInt8.toNat_ofNat', Nat.mod_eq_of_lt (show 48 + q < 2 ^ 8 by omega)]
          omega
        obtain ⟨x, pr, rfl⟩ : ∃ x pr, pre = x :: pr := by
          cases pre with
          | nil => exact absurd rfl hne
          | cons x pr => exact ⟨x, pr, rfl⟩
        rw [List.cons_append] at hl
        obtain ⟨hx, ht2⟩ := List.cons.inj hl
        subst hx
        by_cases hp : pr = []
        · subst hp
          have hv1 : valT [UInt8.ofNat (48 + q)] = q := by rw [valT_cons, e48]; simp [valT]
          rw [hv1, List.length_singleton, Nat.pow_one, Nat.add_mul q, Nat.one_mul, Nat.add_mul v]
          refine ⟨by omega, by omega, fun h => ?_, fun h => ?_, fun x hx => ?_⟩
          · have := hd.2 (by omega)
            simpa using this
          · have := hnu.2 (by omega)
            simpa using this
          · rw [List.mem_singleton.1 hx]; exact hisd
        · obtain ⟨i1, i2, i3, i4, i5⟩ := short_cut n r (b * 10) (a * 10) w cl t pr d hr ht ht2 hp
          have e1 : v * 10 ^ (pr.length + 1) = q * w * 10 ^ pr.length + r * 10 ^ pr.length := by rw [Nat.pow_succ, ← Nat.add_mul, hdm, Nat.mul_comm (10 ^ pr.length) 10, Nat.mul_assoc]
          have e2 : (q * 10 ^ pr.length + valT pr) * w = q * w * 10 ^ pr.length + valT pr * w := by rw [Nat.add_mul, Nat.mul_right_comm]
          have e3 : b * 10 ^ (pr.length + 1) = b * 10 * 10 ^ pr.length := by rw [Nat.pow_succ, Nat.mul_comm (10 ^ pr.length) 10, Nat.mul_assoc]
          have e4 : a * 10 ^ (pr.length + 1) = a * 10 * 10 ^ pr.length := by rw [Nat.pow_succ, Nat.mul_comm (10 ^ pr.length) 10, Nat.mul_assoc]
          have e5 : (r + a * 10) * 10 ^ pr.length = r * 10 ^ pr.length + a * 10 * 10 ^ pr.length := Nat.add_mul _ _ _
          have e6 : (valT pr + 1) * w = valT pr * w + w := by rw [Nat.add_mul, Nat.one_mul]
          rw [valT_cons, e48, List.length_cons, Nat.add_mul v, e1, e3, e4, Nat.add_mul (q * 10 ^ pr.length + valT pr), e2, Nat.one_mul]
          refine ⟨by omega, by omega, fun h => i3 (by omega), fun h => i4 (by omega), fun x hx => ?_⟩
          rcases List.mem_cons.1 hx with rfl | h9
          · exact hisd
          · exact i5 x h9
end Go.Proofs.YtinfnkhghmcelaaDoor

/- The shortest digits are read as the float; shorter ones as others. -/
namespace Go.Proofs.YtinfnkhghmcelaaDoor

theorem magF_raw (raw : Nat) (h : raw < 9223372036854775808) : magF raw = cR raw * 2 ^ (pR raw + 1074).toNat := by
  unfold magF cR pR apartN
  by_cases h1 : raw < 4503599627370496
  · rw [if_pos h1, if_pos (show raw / 4503599627370496 = 0 by omega)]
    simp
    omega
  · rw [if_neg h1, if_neg (show ¬ raw / 4503599627370496 = 0 by omega)]
    show _ = (raw % 4503599627370496 + 4503599627370496) * _
    rw [Nat.add_comm (raw % 4503599627370496)]
    congr 2
    omega
theorem raw_next (raw : Nat) (h : raw < 9223372036854775807) : magF (raw + 1) = magF raw + 2 ^ (pR raw + 1074).toNat := by
  rw [magF_raw raw (by omega)]
  unfold magF cR pR apartN
  by_cases h1 : raw < 4503599627370496
  · rw [if_pos (show raw / 4503599627370496 = 0 by omega)]
    by_cases h2 : raw + 1 < 4503599627370496
    · rw [if_pos h2]
      simp
      omega
    · rw [if_neg h2]
      have e : raw = 4503599627370495 := by omega
      subst e
      decide
  · rw [if_neg (show ¬ raw / 4503599627370496 = 0 by omega), if_neg (show ¬ raw + 1 < 4503599627370496 by omega)]
    show _ = (raw % 4503599627370496 + 4503599627370496) * 2 ^ (((raw / 4503599627370496 : Nat) : Int) - 1 + -1074 + 1074).toNat + 2 ^ (((raw / 4503599627370496 : Nat) : Int) - 1 + -1074 + 1074).toNat
    have e0 : (((raw / 4503599627370496 : Nat) : Int) - 1 + -1074 + 1074).toNat = raw / 4503599627370496 - 1 := by omega
    rw [e0]
    by_cases h3 : (raw + 1) / 4503599627370496 = raw / 4503599627370496
    · have e1 : (raw + 1) % 4503599627370496 = raw % 4503599627370496 + 1 := by omega
      rw [h3, e1]
      have e2 : 4503599627370496 + (raw % 4503599627370496 + 1) = raw % 4503599627370496 + 4503599627370496 + 1 := by omega
      rw [e2, Nat.add_mul _ 1, Nat.one_mul]
    · have e1 : (raw + 1) / 4503599627370496 - 1 = raw / 4503599627370496 - 1 + 1 := by omega
      have e2 : (raw + 1) % 4503599627370496 = 0 := by omega
      have e3 : raw % 4503599627370496 = 4503599627370495 := by omega
      rw [e1, e2, e3, Nat.pow_succ]
      generalize 2 ^ (raw / 4503599627370496 - 1) = P
      omega
/-- How far the float below is: half as far at a power of two. -/
theorem raw_prev (raw : Nat) (h0 : 0 < raw) (h : raw < 9223372036854775807) : 2 * magF (raw - 1) + (if cR raw = 4503599627370496 ∧ -1074 < pR raw then 1 else 2) * 2 ^ (pR raw + 1074).toNat = 2 * magF raw := by
  have hn := raw_next (raw - 1) (by omega)
  rw [show raw - 1 + 1 = raw by omega] at hn
  by_cases hb : cR raw = 4503599627370496 ∧ -1074 < pR raw
  · rw [if_pos hb]
    have e : (pR raw + 1074).toNat = (pR (raw - 1) + 1074).toNat + 1 := by
      have h1 := hb.1
      have h2 := hb.2
      unfold cR at h1
      unfold pR at h2 ⊢
      unfold apartN at h1 h2 ⊢
      by_cases h3 : raw / 4503599627370496 = 0
      · rw [if_pos h3] at h2; simp at h2
      · rw [if_neg h3] at h1 h2 ⊢
        simp only at h1 h2 ⊢
        by_cases h4 : (raw - 1) / 4503599627370496 = 0
        · rw [if_pos h4]; simp only; omega
        · rw [if_neg h4]; simp only; omega
    rw [e, Nat.pow_succ]
    generalize 2 ^ (pR (raw - 1) + 1074).toNat = P at *
    omega
  · rw [if_neg hb]
    have e : (pR raw + 1074).toNat = (pR (raw - 1) + 1074).toNat := by
      unfold cR pR at hb
      unfold pR
      unfold apartN at hb ⊢
      by_cases h3 : raw / 4503599627370496 = 0
      · rw [if_pos h3, if_pos (show (raw - 1) / 4503599627370496 = 0 by omega)]
      · rw [if_neg h3] at hb ⊢
        simp only at hb ⊢
        by_cases h4 : (raw - 1) / 4503599627370496 = 0
        · rw [if_pos h4]; simp only; omega
        · rw [if_neg h4]; simp only; omega
    rw [e]
    generalize 2 ^ (pR (raw - 1) + 1074).toNat = P at *
    omega
end Go.Proofs.YtinfnkhghmcelaaDoor
