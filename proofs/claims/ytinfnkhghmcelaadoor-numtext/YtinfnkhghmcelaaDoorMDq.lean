/- Texts that belong together. -/
import Derived.Test.YtinfnkhghmcelaaDoorMDp
import Derived.Test.YtinfnkhghmcelaaDoorMPp
/- A float's digits: numbers. -/
namespace Go.Proofs.YtinfnkhghmcelaaDoor
open Go.RowKit Go.Maps

def cR (raw : Nat) : Nat := (apartN raw).1
def pR (raw : Nat) : Int := (apartN raw).2
def eR (raw : Nat) : Int := expE ((cR raw).log2 + pR raw)
def vR (raw : Nat) : Nat := cR raw * 2 ^ ((pR raw).toNat + 2)
def bR (raw : Nat) : Nat := (if cR raw = 4503599627370496 ∧ -1074 < pR raw then 1 else 2) * 2 ^ (pR raw).toNat
def aR (raw : Nat) : Nat := 2 * 2 ^ (pR raw).toNat
def wR (raw : Nat) : Nat := 4 * 2 ^ (-pR raw).toNat
def clR (raw : Nat) : Bool := ((cR raw : Nat) : Int) % 2 == 0
def tR (raw : Nat) : Nat := 10 ^ (-eR raw).toNat
def EX (raw : Nat) : Int := scaleE (vR raw) (wR raw) (eR raw)
def WX (raw : Nat) : Nat := scaleW (vR raw) (wR raw) (eR raw)
def upR (l : List UInt8) (E : Int) : List UInt8 × Int := if 57 < (l.headD 0).toNat then ([49], E + 1) else (l, E)
/-- A float's digits, and the exponent of ten of 0.digits. -/
def digR (raw : Nat) : List UInt8 × Int := match shortF 30000 (vR raw * tR raw) (bR raw * tR raw) (aR raw * tR raw) (WX raw) (clR raw) with
  | some l => upR l (EX raw)
  | none => ([], 0)
structure DigF (raw : Nat) : Prop where
  c1 : 1 ≤ cR raw
  c2 : cR raw < 9007199254740992
  p1 : -1074 ≤ pR raw
  p2 : pR raw ≤ 971
  k : ((cR raw).log2 ≤ 52 ∧ pR raw = -1074) ∨ ((cR raw).log2 = 52 ∧ -1074 ≤ pR raw ∧ pR raw ≤ 971)
  e1 : -400 ≤ eR raw
  e2 : eR raw ≤ 400
theorem log_lt {c k : Nat} (h : c < 2 ^ (k + 1)) (h0 : c ≠ 0) : c.log2 ≤ k := by
  have h1 := (Nat.log2_eq_iff h0).1 rfl
  have h2 : 2 ^ c.log2 < 2 ^ (k + 1) := Nat.lt_of_le_of_lt h1.1 h
  have h3 := (Nat.pow_lt_pow_iff_right (a := 2) (by decide)).1 h2
  omega
theorem log_ge {c k : Nat} (h : 2 ^ k ≤ c) (h0 : c ≠ 0) : k ≤ c.log2 := by
  have h1 := (Nat.log2_eq_iff h0).1 rfl
  have h2 : 2 ^ k < 2 ^ (c.log2 + 1) := Nat.lt_of_le_of_lt h h1.2
  have h3 := (Nat.pow_lt_pow_iff_right (a := 2) (by decide)).1 h2
  omega
theorem dig_facts {raw : Nat} (h0 : 0 < raw) (h1 : raw < 9218868437227405312) : DigF raw := by
  have hk : (1 ≤ cR raw ∧ cR raw < 9007199254740992) ∧ (-1074 ≤ pR raw ∧ pR raw ≤ 971) ∧ (((cR raw).log2 ≤ 52 ∧ pR raw = -1074) ∨ ((cR raw).log2 = 52 ∧ -1074 ≤ pR raw ∧ pR raw ≤ 971)) := by
    unfold cR pR apartN
    split
    · refine ⟨⟨by simp; omega, by simp; omega⟩, ⟨by simp, by simp⟩, Or.inl ⟨?_, rfl⟩⟩
      exact log_lt (k := 52) (by simp; omega) (by simp; omega)
    · have q1 : raw / 4503599627370496 ≤ 2046 := by omega
      refine ⟨⟨by simp <;> omega, by simp <;> omega⟩, ⟨by simp <;> omega, by simp <;> omega⟩, Or.inr ⟨Nat.le_antisymm (log_lt (k := 52) (by simp; omega) (by simp)) (log_ge (by simp) (by simp)), by simp; omega, by simp; omega⟩⟩
  obtain ⟨⟨a, b⟩, ⟨c, d⟩, e⟩ := hk
  have hl : (cR raw).log2 ≤ 52 := by omega
  refine ⟨a, b, c, d, e, ?_, ?_⟩
  · unfold eR expE; omega
  · unfold eR expE; omega
theorem scale_lt {V W : Nat} {e : Int} (h : V * 10 ^ (-e).toNat < 10 * (W * 10 ^ e.toNat)) : V * 10 ^ (-e).toNat < scaleW V W e := by
  unfold scaleW
  split
  · omega
  · omega
/-- The value lies below the whole, and what else the digits ask. -/
theorem dig_bounds {raw : Nat} (h : DigF raw) : vR raw * tR raw < WX raw ∧ bR raw * tR raw ≤ WX raw ∧ aR raw * tR raw ≤ 2 * (bR raw * tR raw) ∧ 0 < bR raw * tR raw := by
  have hpp : 0 < 2 ^ (pR raw).toNat := Nat.pow_pos (by decide)
  have hpt : 0 < tR raw := Nat.pow_pos (by decide)
  have hv : vR raw * tR raw < WX raw := by
    refine scale_lt ?_
    have hok := okE_at h.k
    unfold okE at hok
    simp only [Bool.and_eq_true, decide_eq_true_eq] at hok
    have h1 := hok.1
    have hlog := ((Nat.log2_eq_iff (show cR raw ≠ 0 by have := h.c1; omega)).1 rfl).2
    unfold vR wR
    show cR raw * 2 ^ ((pR raw).toNat + 2) * 10 ^ (-expE ((cR raw).log2 + pR raw)).toNat < 10 * (4 * 2 ^ (-pR raw).toNat * 10 ^ (expE ((cR raw).log2 + pR raw)).toNat)
    have hX0 : 0 < 10 ^ (-expE ((cR raw).log2 + pR raw)).toNat := Nat.pow_pos (by decide)
    generalize 10 ^ (-expE ((cR raw).log2 + pR raw)).toNat = X at *
    generalize 10 ^ (expE ((cR raw).log2 + pR raw)).toNat = Y at *
    have e1 : cR raw * 2 ^ ((pR raw).toNat + 2) * X = 4 * (cR raw * 2 ^ (pR raw).toNat * X) := by
      rw [Nat.pow_add]
      simp only [Nat.mul_comm, Nat.mul_left_comm]
    have e2 : 10 * (4 * 2 ^ (-pR raw).toNat * Y) = 4 * (10 * (2 ^ (-pR raw).toNat * Y)) := by
      simp only [Nat.mul_comm, Nat.mul_left_comm]
    rw [e1, e2]
    have e3 : (2 : Nat) ^ ((cR raw).log2 + 1 + (pR raw).toNat) = 2 ^ ((cR raw).log2 + 1) * 2 ^ (pR raw).toNat := Nat.pow_add _ _ _
    rw [e3] at h1
    have h2 : cR raw * 2 ^ (pR raw).toNat * X < 2 ^ ((cR raw).log2 + 1) * 2 ^ (pR raw).toNat * X := Nat.mul_lt_mul_of_pos_right (Nat.mul_lt_mul_of_pos_right hlog hpp) hX0
    omega
  have hb1 : bR raw ≤ vR raw := by
    unfold bR vR
    have q1 : (if cR raw = 4503599627370496 ∧ -1074 < pR raw then 1 else 2) * 2 ^ (pR raw).toNat ≤ 2 * 2 ^ (pR raw).toNat := Nat.mul_le_mul_right _ (by split <;> omega)
    have q2 : 1 * 2 ^ ((pR raw).toNat + 2) ≤ cR raw * 2 ^ ((pR raw).toNat + 2) := Nat.mul_le_mul_right _ h.c1
    have q3 : 2 ^ ((pR raw).toNat + 2) = 2 ^ (pR raw).toNat * 4 := Nat.pow_add _ _ _
    omega
  have ha1 : aR raw ≤ 2 * bR raw := by
    unfold aR bR
    have q1 : 1 * 2 ^ (pR raw).toNat ≤ (if cR raw = 4503599627370496 ∧ -1074 < pR raw then 1 else 2) * 2 ^ (pR raw).toNat := Nat.mul_le_mul_right _ (by split <;> omega)
    omega
  have hb0 : 0 < bR raw := by
    unfold bR
    exact Nat.mul_pos (by split <;> omega) hpp
  refine ⟨hv, Nat.le_of_lt (Nat.lt_of_le_of_lt (Nat.mul_le_mul_right _ hb1) hv), ?_, Nat.mul_pos hb0 hpt⟩
  rw [← Nat.mul_assoc]
  exact Nat.mul_le_mul_right _ ha1
theorem B90 {x y : Nat} (h1 : x < B 40) (h2 : y ≤ B 50) : x * y < B 899 := by
  have h3 : x * y ≤ x * B 50 := Nat.mul_le_mul_left _ h2
  have h4 : x * B 50 < B 40 * B 50 := Nat.mul_lt_mul_of_pos_right h1 (B_pos 50)
  rw [B_add] at h4
  have h5 := B_lt (show 40 + 50 < 899 by decide)
  omega
theorem dig_small {raw : Nat} (h : DigF raw) : vR raw * tR raw < B 899 ∧ bR raw * tR raw < B 899 ∧ aR raw * tR raw < B 899 ∧ wR raw * 10 ^ (eR raw).toNat < B 899 ∧ WX raw < B 900 := by
  have q1 := h.p1
  have q2 := h.p2
  have ht : tR raw ≤ B 50 := pow10_lt (by have := h.e1; omega)
  have ht2 : 10 ^ (eR raw).toNat ≤ B 50 := pow10_lt (by have := h.e2; omega)
  have hs : ∀ {x k : Nat}, x < 2 ^ 53 → k ≤ 1100 → x * 2 ^ k < B 40 := fun {x k} h1 h2 => by
    have h3 : x * 2 ^ k < 2 ^ 53 * 2 ^ k := Nat.mul_lt_mul_of_pos_right h1 (Nat.pow_pos (by decide))
    rw [← Nat.pow_add] at h3
    have h4 : 2 ^ (53 + k) ≤ B 40 := pow_le_B (by omega)
    omega
  have hv : vR raw < B 40 := hs h.c2 (by omega)
  have hb : bR raw < B 40 := hs (by split <;> decide) (by omega)
  have ha : aR raw < B 40 := hs (by decide) (by omega)
  have hw : wR raw < B 40 := hs (by decide) (by omega)
  have hW := B90 hw ht2
  refine ⟨B90 hv ht, B90 hb ht, B90 ha ht, hW, ?_⟩
  unfold WX scaleW
  have e : B 900 = 4294967296 * B 899 := B_succ 899
  split <;> omega
theorem B_ten {m k : Nat} (h : 32 * m ≤ k) : B m ≤ 10 ^ k := by
  have hB : B m = 2 ^ (32 * m) := by unfold B; rw [Nat.pow_mul]
  rw [hB]
  exact Nat.le_trans (Nat.pow_le_pow_left (by decide : 2 ≤ 10) _) (Nat.pow_le_pow_right (by decide) h)
theorem dig_short {raw : Nat} (h : DigF raw) {n : Nat} {l : List UInt8} (hl : shortF n (vR raw * tR raw) (bR raw * tR raw) (aR raw * tR raw) (WX raw) (clR raw) = some l) : digR raw = upR l (EX raw) := by
  obtain ⟨b1, b2, b3, b4⟩ := dig_bounds h
  have hW := (dig_small h).2.2.2.2
  obtain ⟨N, hN⟩ : ∃ N, N = 29999 := ⟨_, rfl⟩
  have h10 : WX raw < bR raw * tR raw * 10 ^ (N + 1) := by
    have h3 : B 900 ≤ 10 ^ (N + 1) := B_ten (by omega)
    have h4 : 1 * 10 ^ (N + 1) ≤ bR raw * tR raw * 10 ^ (N + 1) := Nat.mul_le_mul_right _ b4
    omega
  obtain ⟨l', hl'⟩ := shortF_ends N (vR raw * tR raw) (bR raw * tR raw) (aR raw * tR raw) (WX raw) (clR raw) (by omega) h10
  have hl' := shortF_mono (N + 1) 0 _ _ _ _ _ _ hl'
  rw [show N + 1 + 0 = 30000 by omega] at hl'
  have := shortF_one hl hl'
  subst this
  unfold digR
  rw [hl']
end Go.Proofs.YtinfnkhghmcelaaDoor

/- The shortest digits lie within the float's span, and no shorter ones do. -/
namespace Go.Proofs.YtinfnkhghmcelaaDoor

theorem pow10_pos (k : Nat) : 0 < 10 ^ k := Nat.pow_pos (by decide)
theorem ofNat_dig {q x : Nat} (h : q + x < 256) : (UInt8.ofNat (x + q)).toNat - x = q := by
  rw [UInt8.toNat_ofNat', Nat.mod_eq_of_lt (show x + q < 2 ^ 8 by omega)]
  omega
/-- What is told lies within. -/
theorem short_in : ∀ (n v b a w : Nat) (cl : Bool) (l : List UInt8), v < w → 0 < b → 0 < a → shortF n v b a w cl = some l →
    v * 10 ^ l.length ≤ valT l * w + b * 10 ^ l.length ∧ valT l * w ≤ v * 10 ^ l.length + a * 10 ^ l.length ∧ (v * 10 ^ l.length = valT l * w + b * 10 ^ l.length → cl = true) ∧ (valT l * w = v * 10 ^ l.length + a * 10 ^ l.length → cl = true)
  | 0, _, _, _, _, _, _, _, _, _, h => by cases h
  | n + 1, v, b, a, w, cl, l, hv, hb, ha, h => by
    have hw : 0 < w := by omega
    have hdm := Nat.div_add_mod (v * 10) w
    have hr := Nat.mod_lt (v * 10) hw
    have hq : v * 10 / w ≤ 9 := by
      have : v * 10 / w < 10 := Nat.div_lt_of_lt_mul (by omega)
      omega
    unfold shortF at h
    rw [Nat.mul_comm w] at hdm
    generalize v * 10 / w = q at *
    generalize v * 10 % w = r at *
    have e48 : (UInt8.ofNat (48 + q)).toNat - 48 = q := ofNat_dig (by omega)
    have e49 : (UInt8.ofNat (49 + q)).toNat - 48 = q + 1 := by
      rw [UInt8.toNat_ofNat', Nat.mod_eq_of_lt (show 49 + q < 2 ^ 8 by omega)]
      omega
    split at h
    · rename_i hup
      injection h with h; subst h
      simp only [Bool.and_eq_true] at hup
      have hu := hup.1
      unfold upB at hu
      simp only [Bool.or_eq_true, Bool.and_eq_true, decide_eq_true_eq] at hu
      have hv1 : valT [UInt8.ofNat (49 + q)] = q + 1 := by rw [valT_cons, e49]; simp [valT]
      rw [hv1, List.length_singleton, Nat.pow_one, Nat.add_mul, Nat.one_mul]
      refine ⟨by omega, by omega, fun h => by omega, fun h => ?_⟩
      rcases hu with h1 | h1
      · omega
      · exact h1.2
    · rename_i hup
      split at h
      · rename_i hd
        injection h with h; subst h
        unfold downB at hd
        simp only [Bool.or_eq_true, Bool.and_eq_true, decide_eq_true_eq] at hd
        have hv1 : valT [UInt8.ofNat (48 + q)] = q := by rw [valT_cons, e48]; simp [valT]
        rw [hv1, List.length_singleton, Nat.pow_one]
        refine ⟨by omega, by omega, fun h => ?_, fun h => by omega⟩
        rcases hd with h1 | h1
        · omega
        · exact h1.2
      · obtain ⟨t, ht, rfl⟩ := Option.map_eq_some_iff.1 h
        obtain ⟨i1, i2, i3, i4⟩ := short_in n r (b * 10) (a * 10) w cl t hr (by omega) (by omega) ht
        have e1 : v * 10 ^ (t.length + 1) = q * w * 10 ^ t.length + r * 10 ^ t.length := by rw [Nat.pow_succ, ← Nat.add_mul, hdm, Nat.mul_comm (10 ^ t.length) 10, Nat.mul_assoc]
        have e2 : (q * 10 ^ t.length + valT t) * w = q * w * 10 ^ t.length + valT t * w := by rw [Nat.add_mul, Nat.mul_right_comm]
        have e3 : b * 10 ^ (t.length + 1) = b * 10 * 10 ^ t.length := by rw [Nat.pow_succ, Nat.mul_comm (10 ^ t.length) 10, Nat.mul_assoc]
        have e4 : a * 10 ^ (t.length + 1) = a * 10 * 10 ^ t.length := by rw [Nat.pow_succ, Nat.mul_comm (10 ^ t.length) 10, Nat.mul_assoc]
        rw [valT_cons, e48, List.length_cons, e1, e2, e3, e4]
        exact ⟨by omega, by omega, fun h => i3 (by omega), fun h => i4 (by omega)⟩
/-- The digits ahead of the last one lie below, and with one more above. -/
theorem short_cut : ∀ (n v b a w : Nat) (cl : Bool) (l pre : List UInt8) (d : UInt8), v < w → shortF n v b a w cl = some l → l = pre ++ [d] → pre ≠ [] →
    valT pre * w + b * 10 ^ pre.length ≤ v * 10 ^ pre.length ∧ (v + a) * 10 ^ pre.length ≤ (valT pre + 1) * w ∧ (valT pre * w + b * 10 ^ pre.length = v * 10 ^ pre.length → cl = false) ∧ ((v + a) * 10 ^ pre.length = (valT pre + 1) * w → cl = false) ∧ ∀ x ∈ pre, isD x
  | 0, _, _, _, _, _, _, _, _, _, h, _, _ => by cases h
  | n + 1, v, b, a, w, cl, l, pre, d, hv, h, hl, hne => by
    have hw : 0 < w := by omega
    have hdm := Nat.div_add_mod (v * 10) w
    have hr := Nat.mod_lt (v * 10) hw
    have hq : v * 10 / w ≤ 9 := by
      have : v * 10 / w < 10 := Nat.div_lt_of_lt_mul (by omega)
      omega
    unfold shortF at h
    rw [Nat.mul_comm w] at hdm
    generalize v * 10 / w = q at *
    generalize v * 10 % w = r at *
    have e48 : (UInt8.ofNat (48 + q)).toNat - 48 = q := ofNat_dig (by omega)
    have hlen : 2 ≤ l.length := by
      rw [hl, List.length_append, List.length_singleton]
      have := List.length_pos_iff.2 hne
      omega
    split at h
    · injection h with h; subst h; simp at hlen
    · rename_i hup
      split at h
      · injection h with h; subst h; simp at hlen
      · rename_i hd
        obtain ⟨t, ht, rfl⟩ := Option.map_eq_some_iff.1 h
        have hnu : ¬ upB r (a * 10) w cl = true := fun h9 => by
          apply hup
          rw [h9]
          have : downB r (b * 10) cl = false := by simpa using hd
          rw [this]
          rfl
        unfold upB at hnu
        unfold downB at hd
        simp only [Bool.or_eq_true, Bool.and_eq_true, decide_eq_true_eq, not_or, not_and] at hnu hd
        have hisd : isD (UInt8.ofNat (48 + q)) := by
          unfold isD
          rw [UInt8.toNat_ofNat', Nat.mod_eq_of_lt (show 48 + q < 2 ^ 8 by omega)]
          omega
        obtain ⟨x, pr, rfl⟩ : ∃ x pr, pre = x :: pr := by
          cases pre with
          | nil => exact absurd rfl hne
          | cons x pr => exact ⟨x, pr, rfl⟩
        rw [List.cons_append] at hl
        obtain ⟨hx, ht2⟩ := List.cons.inj hl
        subst hx
        by_cases hp : pr = []
        · subst hp
          have hv1 : valT [UInt8.ofNat (48 + q)] = q := by rw [valT_cons, e48]; simp [valT]
          rw [hv1, List.length_singleton, Nat.pow_one, Nat.add_mul q, Nat.one_mul, Nat.add_mul v]
          refine ⟨by omega, by omega, fun h => ?_, fun h => ?_, fun x hx => ?_⟩
          · have := hd.2 (by omega)
            simpa using this
          · have := hnu.2 (by omega)
            simpa using this
          · rw [List.mem_singleton.1 hx]; exact hisd
        · obtain ⟨i1, i2, i3, i4, i5⟩ := short_cut n r (b * 10) (a * 10) w cl t pr d hr ht ht2 hp
          have e1 : v * 10 ^ (pr.length + 1) = q * w * 10 ^ pr.length + r * 10 ^ pr.length := by rw [Nat.pow_succ, ← Nat.add_mul, hdm, Nat.mul_comm (10 ^ pr.length) 10, Nat.mul_assoc]
          have e2 : (q * 10 ^ pr.length + valT pr) * w = q * w * 10 ^ pr.length + valT pr * w := by rw [Nat.add_mul, Nat.mul_right_comm]
          have e3 : b * 10 ^ (pr.length + 1) = b * 10 * 10 ^ pr.length := by rw [Nat.pow_succ, Nat.mul_comm (10 ^ pr.length) 10, Nat.mul_assoc]
          have e4 : a * 10 ^ (pr.length + 1) = a * 10 * 10 ^ pr.length := by rw [Nat.pow_succ, Nat.mul_comm (10 ^ pr.length) 10, Nat.mul_assoc]
          have e5 : (r + a * 10) * 10 ^ pr.length = r * 10 ^ pr.length + a * 10 * 10 ^ pr.length := Nat.add_mul _ _ _
          have e6 : (valT pr + 1) * w = valT pr * w + w := by rw [Nat.add_mul, Nat.one_mul]
          rw [valT_cons, e48, List.length_cons, Nat.add_mul v, e1, e3, e4, Nat.add_mul (q * 10 ^ pr.length + valT pr), e2, Nat.one_mul]
          refine ⟨by omega, by omega, fun h => i3 (by omega), fun h => i4 (by omega), fun x hx => ?_⟩
          rcases List.mem_cons.1 hx with rfl | h9
          · exact hisd
          · exact i5 x h9
end Go.Proofs.YtinfnkhghmcelaaDoor

/- The shortest digits are read as the float; shorter ones as others. -/
namespace Go.Proofs.YtinfnkhghmcelaaDoor

theorem magF_raw (raw : Nat) (h : raw < 9223372036854775808) : magF raw = cR raw * 2 ^ (pR raw + 1074).toNat := by
  unfold magF cR pR apartN
  by_cases h1 : raw < 4503599627370496
  · rw [if_pos h1, if_pos (show raw / 4503599627370496 = 0 by omega)]
    simp
    omega
  · rw [if_neg h1, if_neg (show ¬ raw / 4503599627370496 = 0 by omega)]
    show _ = (raw % 4503599627370496 + 4503599627370496) * _
    rw [Nat.add_comm (raw % 4503599627370496)]
    congr 2
    omega
theorem raw_next (raw : Nat) (h : raw < 9223372036854775807) : magF (raw + 1) = magF raw + 2 ^ (pR raw + 1074).toNat := by
  rw [magF_raw raw (by omega)]
  unfold magF cR pR apartN
  by_cases h1 : raw < 4503599627370496
  · rw [if_pos (show raw / 4503599627370496 = 0 by omega)]
    by_cases h2 : raw + 1 < 4503599627370496
    · rw [if_pos h2]
      simp
      omega
    · rw [if_neg h2]
      have e : raw = 4503599627370495 := by omega
      subst e
      decide
  · rw [if_neg (show ¬ raw / 4503599627370496 = 0 by omega), if_neg (show ¬ raw + 1 < 4503599627370496 by omega)]
    show _ = (raw % 4503599627370496 + 4503599627370496) * 2 ^ (((raw / 4503599627370496 : Nat) : Int) - 1 + -1074 + 1074).toNat + 2 ^ (((raw / 4503599627370496 : Nat) : Int) - 1 + -1074 + 1074).toNat
    have e0 : (((raw / 4503599627370496 : Nat) : Int) - 1 + -1074 + 1074).toNat = raw / 4503599627370496 - 1 := by omega
    rw [e0]
    by_cases h3 : (raw + 1) / 4503599627370496 = raw / 4503599627370496
    · have e1 : (raw + 1) % 4503599627370496 = raw % 4503599627370496 + 1 := by omega
      rw [h3, e1]
      have e2 : 4503599627370496 + (raw % 4503599627370496 + 1) = raw % 4503599627370496 + 4503599627370496 + 1 := by omega
      rw [e2, Nat.add_mul _ 1, Nat.one_mul]
    · have e1 : (raw + 1) / 4503599627370496 - 1 = raw / 4503599627370496 - 1 + 1 := by omega
      have e2 : (raw + 1) % 4503599627370496 = 0 := by omega
      have e3 : raw % 4503599627370496 = 4503599627370495 := by omega
      rw [e1, e2, e3, Nat.pow_succ]
      generalize 2 ^ (raw / 4503599627370496 - 1) = P
      omega
/-- How far the float below is: half as far at a power of two. -/
theorem raw_prev (raw : Nat) (h0 : 0 < raw) (h : raw < 9223372036854775807) : 2 * magF (raw - 1) + (if cR raw = 4503599627370496 ∧ -1074 < pR raw then 1 else 2) * 2 ^ (pR raw + 1074).toNat = 2 * magF raw := by
  have hn := raw_next (raw - 1) (by omega)
  rw [show raw - 1 + 1 = raw by omega] at hn
  by_cases hb : cR raw = 4503599627370496 ∧ -1074 < pR raw
  · rw [if_pos hb]
    have e : (pR raw + 1074).toNat = (pR (raw - 1) + 1074).toNat + 1 := by
      have h1 := hb.1
      have h2 := hb.2
      unfold cR at h1
      unfold pR at h2 ⊢
      unfold apartN at h1 h2 ⊢
      by_cases h3 : raw / 4503599627370496 = 0
      · rw [if_pos h3] at h2; simp at h2
      · rw [if_neg h3] at h1 h2 ⊢
        simp only at h1 h2 ⊢
        by_cases h4 : (raw - 1) / 4503599627370496 = 0
        · rw [if_pos h4]; simp only; omega
        · rw [if_neg h4]; simp only; omega
    rw [e, Nat.pow_succ]
    generalize 2 ^ (pR (raw - 1) + 1074).toNat = P at *
    omega
  · rw [if_neg hb]
    have e : (pR raw + 1074).toNat = (pR (raw - 1) + 1074).toNat := by
      unfold cR pR at hb
      unfold pR
      unfold apartN at hb ⊢
      by_cases h3 : raw / 4503599627370496 = 0
      · rw [if_pos h3, if_pos (show (raw - 1) / 4503599627370496 = 0 by omega)]
      · rw [if_neg h3] at hb ⊢
        simp only at hb ⊢
        by_cases h4 : (raw - 1) / 4503599627370496 = 0
        · rw [if_pos h4]; simp only; omega
        · rw [if_neg h4]; simp only; omega
    rw [e]
    generalize 2 ^ (pR (raw - 1) + 1074).toNat = P at *
    omega
end Go.Proofs.YtinfnkhghmcelaaDoor
