/- Texts that belong together. -/
import Derived.Test.YtfckdleahljdeaaGreatDoorMDh
import Derived.Test.YtfckdleahljdeaaGreatDoorMQn
import Derived.Test.YtfckdleahljdeaaGreatDoorMHf
/- The shortest digits lie within the float's span, and no shorter ones do. -/
namespace Go.Proofs.YtfckdleahljdeaaGreatDoor.Nu

theorem pow10_pos (k : Nat) : 0 < 10 ^ k := Nat.pow_pos (by decide)
theorem ofNat_dig {q x : Nat} (h : q + x < 256) : (UInt8.ofNat (x + q)).toNat - x = q := by
  rw [UInt8.toNat_ofNat', Nat.mod_eq_of_lt (show x + q < 2 ^ 8 by omega)]
  omega
/-- What is told lies within. -/
theorem short_in : ∀ (n v b a w : Nat) (cl : Bool) (l : List UInt8), v < w → 0 < b → 0 < a → shortF n v b a w cl = some l →
    v * 10 ^ l.length ≤ valT l * w + b * 10 ^ l.length ∧ valT l * w ≤ v * 10 ^ l.length + a * 10 ^ l.length ∧ (v * 10 ^ l.length = valT l * w + b * 10 ^ l.length → cl = true) ∧ (valT l * w = v * 10 ^ l.length + a * 10 ^ l.length → cl = true)
  | 0, _, _, _, _, _, _, _, _, _, h => by cases h
  | n + 1, v, b, a, w, cl, l, hv, hb, ha, h => by
    have hw : 0 < w := by omega
    have hdm := Nat.div_add_mod (v * 10) w
    have hr := Nat.mod_lt (v * 10) hw
    have hq : v * 10 / w ≤ 9 := by
      have : v * 10 / w < 10 := Nat.div_lt_of_lt_mul (by omega)
      omega
    unfold shortF at h
    rw [Nat.mul_comm w] at hdm
    generalize v * 10 / w = q at *
    generalize v * 10 % w = r at *
    have e48 : (UInt8.ofNat (48 + q)).toNat - 48 = q := ofNat_dig (by omega)
    have e49 : (UInt8.ofNat (49 + q)).toNat - 48 = q + 1 := by
      rw [UInt8.toNat_ofNat', Nat.mod_eq_of_lt (show 49 + q < 2 ^ 8 by omega)]
      omega
    split at h
    · rename_i hup
      injection h with h; subst h
      simp only [Bool.and_eq_true] at hup
      have hu := hup.1
      unfold upB at hu
      simp only [Bool.or_eq_true, Bool.and_eq_true, decide_eq_true_eq] at hu
      have hv1 : valT [UInt8.ofNat (49 + q)] = q + 1 := by rw [valT_cons, e49]; simp [valT]
      rw [hv1, List.length_singleton, Nat.pow_one, Nat.add_mul, Nat.one_mul]
      refine ⟨by omega, by omega, fun h => by omega, fun h => ?_⟩
      rcases hu with h1 | h1
      · omega
      · exact h1.2
    · rename_i hup
      split at h
      · rename_i hd
        injection h with h; subst h
        unfold downB at hd
        simp only [Bool.or_eq_true, Bool.and_eq_true, decide_eq_true_eq] at hd
        have hv1 : valT [UInt8.ofNat (48 + q)] = q := by rw [valT_cons, e48]; simp [valT]
        rw [hv1, List.length_singleton, Nat.pow_one]
        refine ⟨by omega, by omega, fun h => ?_, fun h => by omega⟩
        rcases hd with h1 | h1
        · omega
        · exact h1.2
      · obtain ⟨t, ht, rfl⟩ := Option.map_eq_some_iff.1 h
        obtain ⟨i1, i2, i3, i4⟩ := short_in n r (b * 10) (a * 10) w cl t hr (by omega) (by omega) ht
        have e1 : v * 10 ^ (t.length + 1) = q * w * 10 ^ t.length + r * 10 ^ t.length := by rw [Nat.pow_succ, ← Nat.add_mul, hdm, Nat.mul_comm (10 ^ t.length) 10, Nat.mul_assoc]
        have e2 : (q * 10 ^ t.length + valT t) * w = q * w * 10 ^ t.length + valT t * w := by rw [Nat.add_mul, Nat.mul_right_comm]
        have e3 : b * 10 ^ (t.length + 1) = b * 10 * 10 ^ t.length := by rw [Nat.pow_succ, Nat.mul_comm (10 ^ t.length) 10, Nat.mul_assoc]
        have e4 : a * 10 ^ (t.length + 1) = a * 10 * 10 ^ t.length := by rw [Nat.pow_succ, Nat.mul_comm (10 ^ t.length) 10, Nat.mul_assoc]
        rw [valT_cons, e48, List.length_cons, e1, e2, e3, e4]
        exact ⟨by omega, by omega, fun h => i3 (by omega), fun h => i4 (by omega)⟩
/-- The digits ahead of the last one lie below, and with one more above. -/
theorem short_cut : ∀ (n v b a w : Nat) (cl : Bool) (l pre : List UInt8) (d : UInt8), v < w → shortF n v b a w cl = some l → l = pre ++ [d] → pre ≠ [] →
    valT pre * w + b * 10 ^ pre.length ≤ v * 10 ^ pre.length ∧ (v + a) * 10 ^ pre.length ≤ (valT pre + 1) * w ∧ (valT pre * w + b * 10 ^ pre.length = v * 10 ^ pre.length → cl = false) ∧ ((v + a) * 10 ^ pre.length = (valT pre + 1) * w → cl = false) ∧ ∀ x ∈ pre, isD x
  | 0, _, _, _, _, _, _, _, _, _, h, _, _ => by cases h
  | n + 1, v, b, a, w, cl, l, pre, d, hv, h, hl, hne => by
    have hw : 0 < w := by omega
    have hdm := Nat.div_add_mod (v * 10) w
    have hr := Nat.mod_lt (v * 10) hw
    have hq : v * 10 / w ≤ 9 := by
      have : v * 10 / w < 10 := Nat.div_lt_of_lt_mul (by omega)
      omega
    unfold shortF at h
    rw [Nat.mul_comm w] at hdm
    generalize v * 10 / w = q at *
    generalize v * 10 % w = r at *
    have e48 : (UInt8.ofNat (48 + q)).toNat - 48 = q := ofNat_dig (by omega)
    have hlen : 2 ≤ l.length := by
      rw [hl, List.length_append, List.length_singleton]
      have := List.length_pos_iff.2 hne
      omega
    split at h
    · injection h with h; subst h; simp at hlen
    · rename_i hup
      split at h
      · injection h with h; subst h; simp at hlen
      · rename_i hd
        obtain ⟨t, ht, rfl⟩ := Option.map_eq_some_iff.1 h
        have hnu : ¬ upB r (a * 10) w cl = true := fun h9 => by
          apply hup
          rw [h9]
          have : downB r (b * 10) cl = false := by simpa using hd
          rw [this]
          rfl
        unfold upB at hnu
        unfold downB at hd
        simp only [Bool.or_eq_true, Bool.and_eq_true, decide_eq_true_eq, not_or, not_and] at hnu hd
        have hisd : isD (UInt8.ofNat (48 + q)) := by
          unfold isD
          rw [UInt8.toNat_ofNat', Nat.mod_eq_of_lt (show 48 + q < 2 ^ 8 by omega)]
          omega
        obtain ⟨x, pr, rfl⟩ : ∃ x pr, pre = x :: pr := by
          cases pre with
          | nil => exact absurd rfl hne
          | cons x pr => exact ⟨x, pr, rfl⟩
        rw [List.cons_append] at hl
        obtain ⟨hx, ht2⟩ := List.cons.inj hl
        subst hx
        by_cases hp : pr = []
        · subst hp
          have hv1 : valT [UInt8.ofNat (48 + q)] = q := by rw [valT_cons, e48]; simp [valT]
          rw [hv1, List.length_singleton, Nat.pow_one, Nat.add_mul q, Nat.one_mul, Nat.add_mul v]
          refine ⟨by omega, by omega, fun h => ?_, fun h => ?_, fun x hx => ?_⟩
          · have := hd.2 (by omega)
            simpa using this
          · have := hnu.2 (by omega)
            simpa using this
          · rw [List.mem_singleton.1 hx]; exact hisd
        · obtain ⟨i1, i2, i3, i4, i5⟩ := short_cut n r (b * 10) (a * 10) w cl t pr d hr ht ht2 hp
          have e1 : v * 10 ^ (pr.length + 1) = q * w * 10 ^ pr.length + r * 10 ^ pr.length := by rw [Nat.pow_succ, ← Nat.add_mul, hdm, Nat.mul_comm (10 ^ pr.length) 10, Nat.mul_assoc]
          have e2 : (q * 10 ^ pr.length + valT pr) * w = q * w * 10 ^ pr.length + valT pr * w := by rw [Nat.add_mul, Nat.mul_right_comm]
          have e3 : b * 10 ^ (pr.length + 1) = b * 10 * 10 ^ pr.length := by rw [Nat.pow_succ, Nat.mul_comm (10 ^ pr.length) 10, Nat.mul_assoc]
          have e4 : a * 10 ^ (pr.length + 1) = a * 10 * 10 ^ pr.length := by rw [Nat.pow_succ, Nat.mul_comm (10 ^ pr.length) 10, Nat.mul_assoc]
          have e5 : (r + a * 10) * 10 ^ pr.length = r * 10 ^ pr.length + a * 10 * 10 ^ pr.length := Nat.add_mul _ _ _
          have e6 : (valT pr + 1) * w = valT pr * w + w := by rw [Nat.add_mul, Nat.one_mul]
          rw [valT_cons, e48, List.length_cons, Nat.add_mul v, e1, e3, e4, Nat.add_mul (q * 10 ^ pr.length + valT pr), e2, Nat.one_mul]
          refine ⟨by omega, by omega, fun h => i3 (by omega), fun h => i4 (by omega), fun x hx => ?_⟩
          rcases List.mem_cons.1 hx with rfl | h9
          · exact hisd
          · exact i5 x h9
end Go.Proofs.YtfckdleahljdeaaGreatDoor.Nu

/- The shortest digits are read as the float; shorter ones as others. -/
namespace Go.Proofs.YtfckdleahljdeaaGreatDoor.Nu

theorem magF_raw (raw : Nat) (h : raw < 9223372036854775808) : magF raw = cR raw * 2 ^ (pR raw + 1074).toNat := by
  unfold magF cR pR apartN
  by_cases h1 : raw < 4503599627370496
  · rw [if_pos h1, if_pos (show raw / 4503599627370496 = 0 by omega)]
    simp
    omega
  · rw [if_neg h1, if_neg (show ¬ raw / 4503599627370496 = 0 by omega)]
    show _ = (raw % 4503599627370496 + 4503599627370496) * _
    rw [Nat.add_comm (raw % 4503599627370496)]
    congr 2
    omega
theorem raw_next (raw : Nat) (h : raw < 9223372036854775807) : magF (raw + 1) = magF raw + 2 ^ (pR raw + 1074).toNat := by
  rw [magF_raw raw (by omega)]
  unfold magF cR pR apartN
  by_cases h1 : raw < 4503599627370496
  · rw [if_pos (show raw / 4503599627370496 = 0 by omega)]
    by_cases h2 : raw + 1 < 4503599627370496
    · rw [if_pos h2]
      simp
      omega
    · rw [if_neg h2]
      have e : raw = 4503599627370495 := by omega
      subst e
      decide
  · rw [if_neg (show ¬ raw / 4503599627370496 = 0 by omega), if_neg (show ¬ raw + 1 < 4503599627370496 by omega)]
    show _ = (raw % 4503599627370496 + 4503599627370496) * 2 ^ (((raw / 4503599627370496 : Nat) : Int) - 1 + -1074 + 1074).toNat + 2 ^ (((raw / 4503599627370496 : Nat) : Int) - 1 + -1074 + 1074).toNat
    have e0 : (((raw / 4503599627370496 : Nat) : Int) - 1 + -1074 + 1074).toNat = raw / 4503599627370496 - 1 := by omega
    rw [e0]
    by_cases h3 : (raw + 1) / 4503599627370496 = raw / 4503599627370496
    · have e1 : (raw + 1) % 4503599627370496 = raw % 4503599627370496 + 1 := by omega
      rw [h3, e1]
      have e2 : 4503599627370496 + (raw % 4503599627370496 + 1) = raw % 4503599627370496 + 4503599627370496 + 1 := by omega
      rw [e2, Nat.add_mul _ 1, Nat.one_mul]
    · have e1 : (raw + 1) / 4503599627370496 - 1 = raw / 4503599627370496 - 1 + 1 := by omega
      have e2 : (raw + 1) % 4503599627370496 = 0 := by omega
      have e3 : raw % 4503599627370496 = 4503599627370495 := by omega
      rw [e1, e2, e3, Nat.pow_succ]
      generalize 2 ^ (raw / 4503599627370496 - 1) = P
      omega
/-- How far the float below is: half as far at a power of two. -/
theorem raw_prev (raw : Nat) (h0 : 0 < raw) (h : raw < 9223372036854775807) : 2 * magF (raw - 1) + (if cR raw = 4503599627370496 ∧ -1074 < pR raw then 1 else 2) * 2 ^ (pR raw + 1074).toNat = 2 * magF raw := by
  have hn := raw_next (raw - 1) (by omega)
  rw [show raw - 1 + 1 = raw by omega] at hn
  by_cases hb : cR raw = 4503599627370496 ∧ -1074 < pR raw
  · rw [if_pos hb]
    have e : (pR raw + 1074).toNat = (pR (raw - 1) + 1074).toNat + 1 := by
      have h1 := hb.1
      have h2 := hb.2
      unfold cR at h1
      unfold pR at h2 ⊢
      unfold apartN at h1 h2 ⊢
      by_cases h3 : raw / 4503599627370496 = 0
      · rw [if_pos h3] at h2; simp at h2
      · rw [if_neg h3] at h1 h2 ⊢
        simp only at h1 h2 ⊢
        by_cases h4 : (raw - 1) / 4503599627370496 = 0
        · rw [if_pos h4]; simp only; omega
        · rw [if_neg h4]; simp only; omega
    rw [e, Nat.pow_succ]
    generalize 2 ^ (pR (raw - 1) + 1074).toNat = P at *
    omega
  · rw [if_neg hb]
    have e : (pR raw + 1074).toNat = (pR (raw - 1) + 1074).toNat := by
      unfold cR pR at hb
      unfold pR
      unfold apartN at hb ⊢
      by_cases h3 : raw / 4503599627370496 = 0
      · rw [if_pos h3, if_pos (show (raw - 1) / 4503599627370496 = 0 by omega)]
      · rw [if_neg h3] at hb ⊢
        simp only at hb ⊢
        by_cases h4 : (raw - 1) / 4503599627370496 = 0
        · rw [if_pos h4]; simp only; omega
        · rw [if_neg h4]; simp only; omega
    rw [e]
    generalize 2 ^ (pR (raw - 1) + 1074).toNat = P at *
    omega
end Go.Proofs.YtfckdleahljdeaaGreatDoor.Nu

/- How the document compares floats with a number (pure), and any signs. -/
namespace Go.Proofs.YtfckdleahljdeaaGreatDoor.Nu
open Go.RowKit Go.Maps

theorem cmpN_mul (a b k : Nat) (hk : 0 < k) : cmpN (a * k) (b * k) = cmpN a b := by
  unfold cmpN
  have h1 : a * k < b * k ↔ a < b := Nat.mul_lt_mul_right hk
  have h2 : a * k = b * k ↔ a = b := ⟨fun h => Nat.eq_of_mul_eq_mul_right hk h, fun h => by rw [h]⟩
  simp only [h1, h2]
/-- Powers of two on either side, made even. -/
theorem cmp_scale (p q s : Nat) (e : Int) (h : -(s : Int) ≤ e) : cmpN (p * 2 ^ e.toNat) (q * 2 ^ (-e).toNat) = cmpN (p * 2 ^ (e + s).toNat) (q * 2 ^ s) := by
  by_cases he : 0 ≤ e
  · rw [← cmpN_mul _ _ (2 ^ s) (Nat.pow_pos (by decide)), Nat.mul_assoc, ← Nat.pow_add, show (-e).toNat = 0 by omega, Nat.pow_zero, Nat.mul_one, show e.toNat + s = (e + s).toNat by omega]
  · rw [← cmpN_mul _ _ (2 ^ (e + s).toNat) (Nat.pow_pos (by decide)), Nat.mul_assoc q, ← Nat.pow_add, show e.toNat = 0 by omega, Nat.pow_zero, Nat.mul_one, show (-e).toNat + (e + s).toNat = s by omega]
theorem refBelow_any (m : Nat) (e x : Int) (V l c : Nat) (a : Option Addr) (w : World) (h : QAt w (.slice a l c) V) (hm : m ≤ 4611686018427387904) (he1 : -100000 ≤ e) (he2 : e ≤ 100000) (hx1 : -100000 ≤ x) (hx2 : x ≤ 100000)
    (hA : (digQ (m * 2 ^ e.toNat * 10 ^ (-x).toNat)).length ≤ 40000) (hB : (digQ (V * 2 ^ (-e).toNat * 10 ^ x.toNat)).length ≤ 40000) :
    Calls Tryz.prog 102 #[.int .i64 m, .int .i64 e, .agg #[.slice a l c, .int .i64 x]] w fun ee w' => ee = .returned (.int .i64 (cmpN (m * 2 ^ e.toNat * 10 ^ (-x).toNat) (V * 2 ^ (-e).toNat * 10 ^ x.toNat))) ∧ Below w.heap.size w w' := by
  by_cases he : 0 < e
  · obtain ⟨E, rfl⟩ : ∃ E : Nat, e = E := ⟨e.toNat, by omega⟩
    rw [show (-(E : Int)).toNat = 0 by omega, Int.toNat_natCast, Nat.pow_zero, Nat.mul_one] at *
    by_cases hx : 0 < x
    · obtain ⟨X, rfl⟩ : ∃ X : Nat, x = X := ⟨x.toNat, by omega⟩
      rw [show (-(X : Int)).toNat = 0 by omega, Int.toNat_natCast, Nat.pow_zero, Nat.mul_one] at *
      exact refBelow_pp m E X V l c a w h hm (by omega) (by omega) (by omega) (by omega) hA hB
    · obtain ⟨X, rfl⟩ : ∃ X : Nat, x = -(X : Int) := ⟨(-x).toNat, by omega⟩
      rw [show (-(-(X : Int))).toNat = X by omega, show (-(X : Int)).toNat = 0 by omega, Nat.pow_zero, Nat.mul_one] at *
      exact refBelow_pn m E X V l c a w h hm (by omega) (by omega) (by omega) hA hB
  · obtain ⟨E, rfl⟩ : ∃ E : Nat, e = -(E : Int) := ⟨(-e).toNat, by omega⟩
    rw [show (-(-(E : Int))).toNat = E by omega, show (-(E : Int)).toNat = 0 by omega, Nat.pow_zero, Nat.mul_one] at *
    by_cases hx : 0 < x
    · obtain ⟨X, rfl⟩ : ∃ X : Nat, x = X := ⟨x.toNat, by omega⟩
      rw [show (-(X : Int)).toNat = 0 by omega, Int.toNat_natCast, Nat.pow_zero, Nat.mul_one] at *
      exact refBelow_np m E X V l c a w h hm (by omega) (by omega) (by omega) hA hB
    · obtain ⟨X, rfl⟩ : ∃ X : Nat, x = -(X : Int) := ⟨(-x).toNat, by omega⟩
      rw [show (-(-(X : Int))).toNat = X by omega, show (-(X : Int)).toNat = 0 by omega, Nat.pow_zero, Nat.mul_one] at *
      exact refBelow_nn m E X V l c a w h hm (by omega) (by omega) hA hB
def U74 : Nat := 2 ^ (k75 - 1)
theorem U74_eq : ∃ a, a = 1074 ∧ U74 = 2 ^ a := ⟨k75 - 1, rfl, rfl⟩
theorem U75_two : U75 = 2 * U74 := by
  obtain ⟨a, ha, h1⟩ := U75_eq
  obtain ⟨b, hb, h2⟩ := U74_eq
  rw [h1, h2, show a = b + 1 by omega, Nat.pow_succ, Nat.mul_comm]
theorem pow_le4 (b n : Nat) (hb : b ≤ 10000) : b ^ n ≤ 10000 ^ n := Nat.pow_le_pow_left hb n
theorem digQ_size {M E X : Nat} {j : Nat} (h : M < 10000 ^ j) (hj : j + E + X ≤ 40000) : (digQ (M * 2 ^ E * 10 ^ X)).length ≤ 40000 := by
  refine Nat.le_trans (digQ_len (j + E + X) _ ?_) hj
  rw [Nat.pow_add, Nat.pow_add]
  have h1 := pow_le4 2 E (by decide)
  have h2 := pow_le4 10 X (by decide)
  have h3 : 0 < 10000 ^ E := Nat.pow_pos (by decide)
  have h4 : 0 < 10000 ^ X := Nat.pow_pos (by decide)
  calc M * 2 ^ E * 10 ^ X ≤ M * 10000 ^ E * 10000 ^ X := Nat.mul_le_mul (Nat.mul_le_mul_left _ h1) h2
    _ < 10000 ^ j * 10000 ^ E * 10000 ^ X := Nat.mul_lt_mul_of_pos_right (Nat.mul_lt_mul_of_pos_right h h3) h4
/-- How a float stands to the number. -/
theorem below_float (raw V l c j : Nat) (x : Int) (a : Option Addr) (w : World) (h : QAt w (.slice a l c) V) (hraw : raw < 9218868437227405312) (hj : j ≤ 400) (hV : V < 10000 ^ j) (hx1 : -1000 ≤ x) (hx2 : x ≤ 1000) :
    Calls Tryz.prog 102 #[.int .i64 (apartN raw).1, .int .i64 (apartN raw).2, .agg #[.slice a l c, .int .i64 x]] w fun ee w' => ee = .returned (.int .i64 (cmpN (magF raw * 10 ^ (-x).toNat) (V * 10 ^ x.toNat * U74))) ∧ Below w.heap.size w w' := by
  have hc : cR raw = (apartN raw).1 := rfl
  have hp : pR raw = (apartN raw).2 := rfl
  have hm := magF_raw raw (by omega)
  rw [hc, hp] at hm
  have hb : (apartN raw).1 < 9007199254740992 ∧ -1074 ≤ (apartN raw).2 ∧ (apartN raw).2 ≤ 971 := by
    unfold apartN
    split
    · exact ⟨by dsimp only; omega, by dsimp only; omega, by dsimp only; omega⟩
    · exact ⟨by dsimp only; omega, by dsimp only; omega, by dsimp only; omega⟩
  generalize (apartN raw).1 = m at *
  generalize (apartN raw).2 = e at *
  have h9 := refBelow_any m e x V l c a w h (by omega) (by omega) (by omega) (by omega) (by omega) (digQ_size (j := 4) (by omega) (by omega)) (digQ_size (j := j) hV (by omega))
  obtain ⟨b, hb74, hU⟩ := U74_eq
  have e1 : cmpN (m * 2 ^ e.toNat * 10 ^ (-x).toNat) (V * 2 ^ (-e).toNat * 10 ^ x.toNat) = cmpN (magF raw * 10 ^ (-x).toNat) (V * 10 ^ x.toNat * U74) := by
    rw [Nat.mul_right_comm m, Nat.mul_right_comm V, cmp_scale _ _ b e (by omega), hU, hm, hb74, Nat.mul_right_comm m]
    rfl
  rw [e1] at h9
  exact h9
/-- How the middle between a float and the next stands to the number. -/
theorem below_half (raw V l c j : Nat) (x : Int) (a : Option Addr) (w : World) (h : QAt w (.slice a l c) V) (hraw : raw < 9218868437227405312) (hj : j ≤ 400) (hV : V < 10000 ^ j) (hx1 : -1000 ≤ x) (hx2 : x ≤ 1000) :
    Calls Tryz.prog 102 #[.int .i64 (2 * ((apartN raw).1 : Int) + 1), .int .i64 ((apartN raw).2 - 1), .agg #[.slice a l c, .int .i64 x]] w fun ee w' => ee = .returned (.int .i64 (cmpN ((magF raw + magF (raw + 1)) * 10 ^ (-x).toNat) (V * 10 ^ x.toNat * U75))) ∧ Below w.heap.size w w' := by
  have hc : cR raw = (apartN raw).1 := rfl
  have hp : pR raw = (apartN raw).2 := rfl
  have hm := magF_raw raw (by omega)
  have hn := raw_next raw (by omega)
  rw [hc, hp] at hm
  rw [hp] at hn
  have hb : (apartN raw).1 < 9007199254740992 ∧ -1074 ≤ (apartN raw).2 ∧ (apartN raw).2 ≤ 971 := by
    unfold apartN
    split
    · exact ⟨by dsimp only; omega, by dsimp only; omega, by dsimp only; omega⟩
    · exact ⟨by dsimp only; omega, by dsimp only; omega, by dsimp only; omega⟩
  generalize (apartN raw).1 = m at *
  generalize (apartN raw).2 = e at *
  have h9 := refBelow_any (2 * m + 1) (e - 1) x V l c a w h (by omega) (by omega) (by omega) (by omega) (by omega) (digQ_size (j := 5) (by omega) (by omega)) (digQ_size (j := j) hV (by omega))
  obtain ⟨b, hb75, hU⟩ := U75_eq
  have e0 : magF raw + magF (raw + 1) = (2 * m + 1) * 2 ^ (e + 1074).toNat := by
    rw [hn, hm, Nat.add_mul, Nat.one_mul, Nat.mul_assoc 2]
    omega
  have e1 : cmpN ((2 * m + 1) * 2 ^ (e - 1).toNat * 10 ^ (-x).toNat) (V * 2 ^ (-(e - 1)).toNat * 10 ^ x.toNat) = cmpN ((magF raw + magF (raw + 1)) * 10 ^ (-x).toNat) (V * 10 ^ x.toNat * U75) := by
    rw [Nat.mul_right_comm (2 * m + 1), Nat.mul_right_comm V, cmp_scale _ _ b (e - 1) (by omega), hU, e0, show e - 1 + (b : Int) = e + 1074 by omega, Nat.mul_right_comm (2 * m + 1)]
  rw [e1, show (((2 * m + 1 : Nat)) : Int) = 2 * (m : Int) + 1 by omega] at h9
  exact h9
end Go.Proofs.YtfckdleahljdeaaGreatDoor.Nu

/- The document's nearest float. -/
namespace Go.Proofs.YtfckdleahljdeaaGreatDoor.Nu
open Go.RowKit Go.Maps

theorem near_up {A D lo : Nat} (_hD : 0 < D) (hlo : lo < 9218868437227405312) (hhi : lo + 1 < 9218868437227405312 → A * U74 < magF (lo + 1) * D)
    (h : (magF lo + magF (lo + 1)) * D < A * U75 ∨ ((magF lo + magF (lo + 1)) * D = A * U75 ∧ lo % 2 = 1)) : NearF A D (lo + 1) := by
  refine ⟨by omega, fun _ => ?_, fun _ he => ?_, fun ht => ?_, fun ht he => ?_⟩
  · rw [Nat.add_sub_cancel]
    rcases h with h | h <;> omega
  · rw [Nat.add_sub_cancel] at he
    rcases h with h | h <;> omega
  · have h1 := hhi ht
    have h2 : magF (lo + 1) ≤ magF (lo + 1 + 1) := magF_le (by omega)
    have h3 : magF (lo + 1) * D ≤ magF (lo + 1 + 1) * D := Nat.mul_le_mul_right _ h2
    rw [Nat.add_mul, U75_two, Nat.mul_left_comm]
    omega
  · have h1 := hhi ht
    have h2 : magF (lo + 1) ≤ magF (lo + 1 + 1) := magF_le (by omega)
    have h3 : magF (lo + 1) * D ≤ magF (lo + 1 + 1) * D := Nat.mul_le_mul_right _ h2
    rw [Nat.add_mul, U75_two, Nat.mul_left_comm] at he
    omega
theorem near_low {A D lo : Nat} (hD : 0 < D) (hlo : lo < 9218868437227405312) (hle : magF lo * D ≤ A * U74)
    (h : A * U75 < (magF lo + magF (lo + 1)) * D ∨ ((magF lo + magF (lo + 1)) * D = A * U75 ∧ lo % 2 = 0)) : NearF A D lo := by
  refine ⟨by omega, fun h0 => ?_, fun h0 he => ?_, fun _ => ?_, fun _ he => ?_⟩
  · have h1 : magF (lo - 1) ≤ magF lo := magF_le (by omega)
    have h2 : magF (lo - 1) * D ≤ magF lo * D := Nat.mul_le_mul_right _ h1
    rw [Nat.add_mul, U75_two, Nat.mul_left_comm]
    omega
  · exfalso
    have h1 : magF (lo - 1) < magF lo := magF_lt (by omega)
    have h2 : magF (lo - 1) * D < magF lo * D := Nat.mul_lt_mul_of_pos_right h1 hD
    rw [Nat.add_mul, U75_two, Nat.mul_left_comm] at he
    omega
  · rcases h with h | h <;> omega
  · rcases h with h | h
    · omega
    · exact h.2
theorem U75_ten : U75 < 10 ^ 324 := by
  obtain ⟨a, ha, h⟩ := U75_eq
  rw [h, ha]
  decide +kernel
theorem near_tiny {V : Nat} {x : Int} {n : Nat} (hV : V < 10 ^ n) (h : (n : Int) + x < -340) : NearF (V * 10 ^ x.toNat) (10 ^ (-x).toNat) 0 := by
  apply NearF.zero
  rw [show x.toNat = 0 by omega, Nat.pow_zero, Nat.mul_one]
  have h1 := U75_ten
  have h2 : 10 ^ (n + 324) ≤ 10 ^ (-x).toNat := Nat.pow_le_pow_right (by decide) (by omega)
  rw [Nat.pow_add] at h2
  exact Nat.lt_of_lt_of_le (Nat.mul_lt_mul_of_lt_of_le hV (Nat.le_of_lt h1) (Nat.lt_of_le_of_lt (Nat.zero_le _) h1)) h2
theorem magF_top : ∃ a b, a = 1024 ∧ b = 1075 ∧ magF 9218868437227405311 + magF 9218868437227405312 ≤ 2 ^ a * 2 ^ b := ⟨1024, 1075, rfl, rfl, by
  have h1 : magF 9218868437227405311 ≤ magF 9218868437227405312 := magF_le (by decide)
  have h2 : magF 9218868437227405312 = 2 ^ 2098 := by
    unfold magF
    rw [if_neg (by decide)]
    decide +kernel
  have h3 : (2 : Nat) ^ 1024 * 2 ^ 1075 = 2 ^ 2098 + 2 ^ 2098 := by decide +kernel
  rw [h3]
  omega⟩
theorem ten_top : ∃ a b, a = 1024 ∧ b = 320 ∧ (2 : Nat) ^ a ≤ 10 ^ b := ⟨1024, 320, rfl, rfl, by decide +kernel⟩
theorem near_huge {V : Nat} {x : Int} {n : Nat} (hn : 1 ≤ n) (hV : 10 ^ (n - 1) ≤ V) (h : 320 < (n : Int) + x) : NearF (V * 10 ^ x.toNat) (10 ^ (-x).toNat) 9218868437227405312 := by
  apply NearF.inf rfl
  obtain ⟨a, b, ha, hb, hm⟩ := magF_top
  obtain ⟨a', t, ha', ht, h10⟩ := ten_top
  obtain ⟨u, hu, hU⟩ := U75_eq
  obtain rfl : a = a' := by omega
  obtain rfl : b = u := by omega
  rw [show (9218868437227405312 - 1 : Nat) = 9218868437227405311 from rfl, hU]
  have k1 : 10 ^ t * 10 ^ (-x).toNat ≤ V * 10 ^ x.toNat := by
    refine Nat.le_trans ?_ (Nat.mul_le_mul_right _ hV)
    rw [← Nat.pow_add, ← Nat.pow_add]
    exact Nat.pow_le_pow_right (by decide) (by omega)
  calc (magF 9218868437227405311 + magF 9218868437227405312) * 10 ^ (-x).toNat ≤ 2 ^ a * 2 ^ b * 10 ^ (-x).toNat := Nat.mul_le_mul_right _ hm
    _ = 2 ^ a * 10 ^ (-x).toNat * 2 ^ b := Nat.mul_right_comm _ _ _
    _ ≤ 10 ^ t * 10 ^ (-x).toNat * 2 ^ b := Nat.mul_le_mul_right _ (Nat.mul_le_mul_right _ h10)
    _ ≤ V * 10 ^ x.toNat * 2 ^ b := Nat.mul_le_mul_right _ k1
end Go.Proofs.YtfckdleahljdeaaGreatDoor.Nu

/- The document's nearest float, walked. -/
namespace Go.Proofs.YtfckdleahljdeaaGreatDoor.Nu
open Go.RowKit Go.Maps

theorem cmpN_le {a b : Nat} : cmpN a b ≤ 0 ↔ a ≤ b := by
  unfold cmpN
  by_cases h1 : a < b
  · rw [if_pos h1]; omega
  · rw [if_neg h1]
    by_cases h2 : a = b
    · rw [if_pos h2]; omega
    · rw [if_neg h2]; omega
theorem cmpN_lt {a b : Nat} : cmpN a b < 0 ↔ a < b := by
  unfold cmpN
  by_cases h1 : a < b
  · rw [if_pos h1]; omega
  · rw [if_neg h1]
    by_cases h2 : a = b
    · rw [if_pos h2]; omega
    · rw [if_neg h2]; omega
theorem cmpN_eq {a b : Nat} : cmpN a b = 0 ↔ a = b := by
  unfold cmpN
  by_cases h1 : a < b
  · rw [if_pos h1]; omega
  · rw [if_neg h1]
    by_cases h2 : a = b
    · rw [if_pos h2]; simp [h2]
    · rw [if_neg h2]; omega
theorem cmpN_range (a b : Nat) : -1 ≤ cmpN a b ∧ cmpN a b ≤ 1 := by
  unfold cmpN
  split
  · omega
  · split <;> omega

set_option maxRecDepth 100000 in
set_option maxHeartbeats 1000000 in
theorem refNearest_any (V l c n : Nat) (x : Int) (a : Option Addr) (w : World) (h : QAt w (.slice a l c) V) (hn : n ≤ 400) (hx1 : -100000000 ≤ x) (hx2 : x ≤ 100000000) (_hV0 : V = 0 → n = 0) (hV1 : V ≠ 0 → 1 ≤ n ∧ 10 ^ (n - 1) ≤ V ∧ V < 10 ^ n) :
    Calls Tryz.prog 76 #[.agg #[.slice a l c, .int .i64 x], .int .i64 n] w fun e w' => ∃ R : Nat, e = .returned (.int .u64 R) ∧ NearF (V * 10 ^ x.toNat) (10 ^ (-x).toNat) R ∧ Below w.heap.size w w' := by
  have HL : Hid (l = (digQ V).length) := by
    obtain ⟨a9, c9, e9, -⟩ := id h
    cases e9
    rfl
  obtain ⟨W1, hW1⟩ : ∃ W1, w.alloc (.cells #[.slice a l c, .int .i64 x] 107) = W1 := ⟨_, rfl⟩
  obtain ⟨c0, c1⟩ := num_cells (w := W1) (b := w.heap.size) (v0 := .slice a l c) (v1 := .int .i64 x) (by rw [← hW1]; exact heap_alloc_new w _)
  have hxl : w.heap.size < W1.heap.size := by rw [← hW1]; simp
  have HB1 : Hid (Below w.heap.size w W1) := by rw [← hW1]; exact (Below.refl _ _).alloc (Nat.le_refl _) _
  have HW1 : Hid (w.alloc (.cells #[.slice a l c, .int .i64 x] 107) = W1) := hW1
  have HC : Hid (W1.cell? ⟨w.heap.size, 0, none⟩ = some (.slice a l c) ∧ W1.cell? ⟨w.heap.size, 1, none⟩ = some (.int .i64 x)) := ⟨c0, c1⟩
  have HXL : Hid (w.heap.size < W1.heap.size) := hxl
  have HQ1 : Hid (QAt W1 (.slice a l c) V) := h.below HB1.out
  clear hW1
  clear h
  by_cases hl0 : l = 0
  · have hV : V = 0 := digQ_nil.1 (by rw [← HL.out]; exact hl0)
    have HN : Hid (NearF (V * 10 ^ x.toNat) (10 ^ (-x).toNat) 0) := by
      rw [hV, Nat.zero_mul]
      exact NearF.zero (by rw [Nat.zero_mul]; exact Nat.pow_pos (by decide))
    have hl0i : ((l : Int) == 0) = true := by rw [hl0]; rfl
    clear hl0 hV HL _hV0 hV1
    go_enter Tryz.func76, Tryz.ntmps76
    go_wp2
    rw [HW1.out]
    go_wp2
    go_ret
    exact ⟨0, rfl, HN.out, HB1.out⟩
  · have hVne : V ≠ 0 := fun e => hl0 (by rw [HL.out, e, digQ_zero]; rfl)
    obtain ⟨hn1, hVl0, hVh0⟩ := hV1 hVne
    have hVl : Hid (10 ^ (n - 1) ≤ V) := hVl0
    have hVh : Hid (V < 10 ^ n) := hVh0
    clear hVl0 hVh0 _hV0 hV1
    have hl0i : ((l : Int) == 0) = false := by rw [beq_eq_false_iff_ne]; omega
    by_cases hlow : (n : Int) + x < -340
    · have HN : Hid (NearF (V * 10 ^ x.toNat) (10 ^ (-x).toNat) 0) := near_tiny hVh.out hlow
      clear hVl hVh hVne hl0
      go_enter Tryz.func76, Tryz.ntmps76
      go_wp2
      rw [HW1.out]
      go_wp2
      go_ret
      exact ⟨0, rfl, HN.out, HB1.out⟩
    · by_cases hhigh : 320 < (n : Int) + x
      · have HN : Hid (NearF (V * 10 ^ x.toNat) (10 ^ (-x).toNat) 9218868437227405312) := near_huge hn1 hVl.out hhigh
        clear hVl hVh hVne hl0
        go_enter Tryz.func76, Tryz.ntmps76
        go_wp2
        rw [HW1.out]
        go_wp2
        go_ret
        exact ⟨9218868437227405312, rfl, HN.out, HB1.out⟩
      · have HV4 : Hid (V < 10000 ^ n) := Nat.lt_of_lt_of_le hVh.out (pow_le4 10 n (by decide))
        obtain ⟨A, hA⟩ : ∃ A, A = V * 10 ^ x.toNat := ⟨_, rfl⟩
        obtain ⟨D, hD⟩ : ∃ D, D = 10 ^ (-x).toNat := ⟨_, rfl⟩
        have HD : Hid (0 < D) := by rw [hD]; exact Nat.pow_pos (by decide)
        have HPA : Hid (∀ (raw : Nat) (W : World), raw < 9223372036854775808 → Calls Tryz.prog 101 #[.int .u64 raw] W fun e w' => e = .returned (.tuple #[.int .i64 (apartN raw).1, .int .i64 (apartN raw).2]) ∧ w' = W) := fun raw W h => refParts_any raw W h
        have HBF : Hid (∀ (raw : Nat) (W : World), QAt W (.slice a l c) V → raw < 9218868437227405312 → Calls Tryz.prog 102 #[.int .i64 (apartN raw).1, .int .i64 (apartN raw).2, .agg #[.slice a l c, .int .i64 x]] W fun ee w' => ee = .returned (.int .i64 (cmpN (magF raw * D) (A * U74))) ∧ Below W.heap.size W w') := fun raw W hq hr => by
          rw [hA, hD]
          exact below_float raw V l c n x a W hq hr hn HV4.out (by omega) (by omega)
        have HBH : Hid (∀ (raw : Nat) (W : World), QAt W (.slice a l c) V → raw < 9218868437227405312 → Calls Tryz.prog 102 #[.int .i64 (2 * ((apartN raw).1 : Int) + 1), .int .i64 ((apartN raw).2 - 1), .agg #[.slice a l c, .int .i64 x]] W fun ee w' => ee = .returned (.int .i64 (cmpN ((magF raw + magF (raw + 1)) * D) (A * U75))) ∧ Below W.heap.size W w') := fun raw W hq hr => by
          rw [hA, hD]
          exact below_half raw V l c n x a W hq hr hn HV4.out (by omega) (by omega)
        have HAP : Hid (∀ raw : Nat, raw < 9218868437227405312 → (apartN raw).1 < 9007199254740992 ∧ -1074 ≤ (apartN raw).2 ∧ (apartN raw).2 ≤ 971) := fun raw hr => by
          unfold apartN
          split
          · exact ⟨by dsimp only; omega, by dsimp only; omega, by dsimp only; omega⟩
          · exact ⟨by dsimp only; omega, by dsimp only; omega, by dsimp only; omega⟩
        have HM0 : Hid (magF 0 * D ≤ A * U74) := by
          show _ ≤ _
          rw [show magF 0 = 0 from rfl, Nat.zero_mul]
          exact Nat.zero_le _
        rw [← hA, ← hD]
        clear hVl hVh hVne hl0 hA hD HV4
        go_enter Tryz.func76, Tryz.ntmps76
        go_wp2
        rw [HW1.out]
        go_wp2
        clear c0 c1 hxl
        go_loopw [5, 6] (fun lv hv wr => ∃ lo hi : Nat, lv = .int .u64 lo ∧ hv = .int .u64 hi ∧ lo < hi ∧ hi ≤ 9218868437227405312 ∧ Hid (magF lo * D ≤ A * U74 ∧ (hi < 9218868437227405312 → A * U74 < magF hi * D) ∧ Below w.heap.size w wr ∧ W1.heap.size ≤ wr.heap.size ∧ Below W1.heap.size W1 wr)) (fun lv hv _ => (intOf hv).toNat - (intOf lv).toNat)
        case atStart => exact ⟨0, 9218868437227405312, rfl, rfl, by omega, by omega, HM0.out, fun h => absurd h (by omega), HB1.out, Nat.le_refl _, Below.refl _ _⟩
        case round =>
          obtain ⟨lo, hi, rfl, rfl, hlh, hhi, HI⟩ := hrel
          have HBL : Hid (Below w.heap.size w wr) := HI.out.2.2.1
          have HBW : Hid (Below W1.heap.size W1 wr) := HI.out.2.2.2.2
          have cz0 := (HBW.out.cell (p := ⟨w.heap.size, 0, none⟩) HXL.out).trans HC.out.1
          have cz1 := (HBW.out.cell (p := ⟨w.heap.size, 1, none⟩) HXL.out).trans HC.out.2
          have HQ : Hid (QAt wr (.slice a l c) V) := HQ1.out.below HBW.out
          by_cases hgap : 1 < hi - lo
          · have hgi : (1 : Int) < (hi : Int) - lo := by omega
            obtain ⟨mid, hmid⟩ : ∃ mid, mid = lo + (hi - lo) / 2 := ⟨_, rfl⟩
            have hmi : (lo : Int) + ((hi : Int) - lo) / 2 = (mid : Int) := by omega
            have hm1 : lo < mid ∧ mid < hi := by omega
            have hpa := HPA.out mid wr (by omega)
            have hbf := HBF.out mid wr HQ.out (by omega)
            obtain ⟨p1, p2, p3⟩ := HAP.out mid (by omega)
            have hcr := cmpN_range (magF mid * D) (A * U74)
            have HCL : Hid (cmpN (magF mid * D) (A * U74) ≤ 0 ↔ magF mid * D ≤ A * U74) := cmpN_le
            generalize (apartN mid).1 = pm at *
            generalize (apartN mid).2 = pe at *
            generalize cmpN (magF mid * D) (A * U74) = C at *
            clear hmid
            by_cases hle : C ≤ 0
            · have HLO : Hid (magF mid * D ≤ A * U74) := HCL.out.1 hle
              go_wp2_with (first
                | (go_at_call 101; refine hpa.mono ?_; clear hpa; rintro e w2 ⟨rfl, hw2⟩; have hw2 := hw2.symm; subst hw2)
                | (go_at_call 102; refine hbf.mono ?_; clear hbf; rintro e w4 ⟨rfl, hb4⟩; have HB4 : Hid (Below w.heap.size w w4) := HBL.out.trans (hb4.mono HBL.out.size); have HBW4 : Hid (Below W1.heap.size W1 w4) := HBW.out.trans (hb4.mono HBW.out.size); clear hb4))
              go_roundw
              case rel => exact ⟨mid, hi, rfl, rfl, by omega, hhi, HLO.out, HI.out.2.1, HB4.out, HBW4.out.size, HBW4.out⟩
              case measure => simp [intOf]; omega
            · have HHI : Hid (A * U74 < magF mid * D) := Nat.lt_of_not_le (fun h => hle (HCL.out.2 h))
              go_wp2_with (first
                | (go_at_call 101; refine hpa.mono ?_; clear hpa; rintro e w2 ⟨rfl, hw2⟩; have hw2 := hw2.symm; subst hw2)
                | (go_at_call 102; refine hbf.mono ?_; clear hbf; rintro e w4 ⟨rfl, hb4⟩; have HB4 : Hid (Below w.heap.size w w4) := HBL.out.trans (hb4.mono HBL.out.size); have HBW4 : Hid (Below W1.heap.size W1 w4) := HBW.out.trans (hb4.mono HBW.out.size); clear hb4))
              go_roundw
              case rel => exact ⟨lo, mid, rfl, rfl, by omega, by omega, HI.out.1, fun _ => HHI.out, HB4.out, HBW4.out.size, HBW4.out⟩
              case measure => simp [intOf]; omega
          · have hgi : ¬ (1 : Int) < (hi : Int) - lo := by omega
            have hpa := HPA.out lo wr (by omega)
            have hbh := HBH.out lo wr HQ.out (by omega)
            obtain ⟨p1, p2, p3⟩ := HAP.out lo (by omega)
            have hcr := cmpN_range ((magF lo + magF (lo + 1)) * D) (A * U75)
            have HCL : Hid (cmpN ((magF lo + magF (lo + 1)) * D) (A * U75) < 0 ↔ (magF lo + magF (lo + 1)) * D < A * U75) := cmpN_lt
            have HCE : Hid (cmpN ((magF lo + magF (lo + 1)) * D) (A * U75) = 0 ↔ (magF lo + magF (lo + 1)) * D = A * U75) := cmpN_eq
            have HUP : Hid (((magF lo + magF (lo + 1)) * D < A * U75 ∨ ((magF lo + magF (lo + 1)) * D = A * U75 ∧ lo % 2 = 1)) → NearF A D (lo + 1)) := fun hh => near_up HD.out (by omega) (fun h9 => by
              have h8 := HI.out.2.1 (by omega)
              rw [show hi = lo + 1 by omega] at h8
              exact h8) hh
            have HLO : Hid ((A * U75 < (magF lo + magF (lo + 1)) * D ∨ ((magF lo + magF (lo + 1)) * D = A * U75 ∧ lo % 2 = 0)) → NearF A D lo) := fun hh => near_low HD.out (by omega) HI.out.1 hh
            generalize (apartN lo).1 = pm at *
            generalize (apartN lo).2 = pe at *
            generalize cmpN ((magF lo + magF (lo + 1)) * D) (A * U75) = C at *
            generalize (magF lo + magF (lo + 1)) * D = LH at *
            generalize A * U75 = AH at *
            clear HI
            by_cases hlt : C < 0
            · have HN : Hid (NearF A D (lo + 1)) := HUP.out (Or.inl (HCL.out.1 hlt))
              go_wp2_with (first
                | (go_at_call 101; refine hpa.mono ?_; clear hpa; rintro e w2 ⟨rfl, hw2⟩; have hw2 := hw2.symm; subst hw2)
                | (go_at_call 102; refine hbh.mono ?_; clear hbh; rintro e w4 ⟨rfl, hb4⟩; have HB4 : Hid (Below w.heap.size w w4) := HBL.out.trans (hb4.mono HBL.out.size); clear hb4))
              go_ret
              exact ⟨lo + 1, by go_num, HN.out, HB4.out⟩
            · by_cases heq : C = 0
              · have HE : Hid (LH = AH) := HCE.out.1 heq
                by_cases hodd : lo % 2 = 1
                · have HN : Hid (NearF A D (lo + 1)) := HUP.out (Or.inr ⟨HE.out, hodd⟩)
                  have hoi : (lo : Int) % 2 = 1 := by omega
                  clear hodd
                  go_wp2_with (first
                    | (go_at_call 101; refine hpa.mono ?_; clear hpa; rintro e w2 ⟨rfl, hw2⟩; have hw2 := hw2.symm; subst hw2)
                    | (go_at_call 102; refine hbh.mono ?_; clear hbh; rintro e w4 ⟨rfl, hb4⟩; have HB4 : Hid (Below w.heap.size w w4) := HBL.out.trans (hb4.mono HBL.out.size); clear hb4))
                  go_ret
                  exact ⟨lo + 1, by go_num, HN.out, HB4.out⟩
                · have HN : Hid (NearF A D lo) := HLO.out (Or.inr ⟨HE.out, by omega⟩)
                  have hoi : (lo : Int) % 2 = 0 := by omega
                  clear hodd
                  go_wp2_with (first
                    | (go_at_call 101; refine hpa.mono ?_; clear hpa; rintro e w2 ⟨rfl, hw2⟩; have hw2 := hw2.symm; subst hw2)
                    | (go_at_call 102; refine hbh.mono ?_; clear hbh; rintro e w4 ⟨rfl, hb4⟩; have HB4 : Hid (Below w.heap.size w w4) := HBL.out.trans (hb4.mono HBL.out.size); clear hb4))
                  go_ret
                  exact ⟨lo, rfl, HN.out, HB4.out⟩
              · have HN : Hid (NearF A D lo) := HLO.out (Or.inl (by
                  rcases Nat.lt_trichotomy LH AH with h | h | h
                  · exact absurd (HCL.out.2 h) hlt
                  · exact absurd (HCE.out.2 h) heq
                  · exact h))
                obtain rfl : C = 1 := by omega
                clear heq hlt HCL HCE hcr HUP HLO
                go_wp2_with (first
                  | (go_at_call 101; refine hpa.mono ?_; clear hpa; rintro e w2 ⟨rfl, hw2⟩; have hw2 := hw2.symm; subst hw2)
                  | (go_at_call 102; refine hbh.mono ?_; clear hbh; rintro e w4 ⟨rfl, hb4⟩; have HB4 : Hid (Below w.heap.size w w4) := HBL.out.trans (hb4.mono HBL.out.size); clear hb4))
                go_ret
                exact ⟨lo, rfl, HN.out, HB4.out⟩
end Go.Proofs.YtfckdleahljdeaaGreatDoor.Nu
