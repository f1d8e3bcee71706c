/- Texts that belong together. -/
import Derived.Test.YtinfnkhghmcelaaDoorMHf
import Derived.Test.YtinfnkhghmcelaaDoorMDq
/- How the document compares floats with a number (pure), and any signs. -/
namespace Go.Proofs.YtinfnkhghmcelaaDoor
open Go.RowKit Go.Maps

theorem cmpN_mul (a b k : Nat) (hk : 0 < k) : cmpN (a * k) (b * k) = cmpN a b := by
  unfold cmpN
  have h1 : a * k < b * k ↔ a < b := Nat.mul_lt_mul_right hk
  have h2 : a * k = b * k ↔ a = b := ⟨fun h => Nat.eq_of_mul_eq_mul_right hk h, fun h => by rw [h]⟩
  simp only [h1, h2]
/-- Powers of two on either side, made even. -/
theorem cmp_scale (p q s : Nat) (e : Int) (h : -(s : Int) ≤ e) : cmpN (p * 2 ^ e.toNat) (q * 2 ^ (-e).toNat) = cmpN (p * 2 ^ (e + s).toNat) (q * 2 ^ s) := by
  by_cases he : 0 ≤ e
  · rw [← cmpN_mul _ _ (2 ^ s) (Nat.pow_pos (by decide)), Nat.mul_assoc, ← Nat.pow_add, show (-e).toNat = 0 by omega, Nat.pow_zero, Nat.mul_one, show e.toNat + s = (e + s).toNat by omega]
  · rw [← cmpN_mul _ _ (2 ^ (e + s).toNat) (Nat.pow_pos (by decide)), Nat.mul_assoc q, ← Nat.pow_add, show e.toNat = 0 by omega, Nat.pow_zero, Nat.mul_one, show (-e).toNat + (e + s).toNat = s by omega]
theorem refBelow_any (m : Nat) (e x : Int) (V l c : Nat) (a : Option Addr) (w : World) (h : QAt w (.slice a l c) V) (hm : m ≤ 4611686018427387904) (he1 : -100000 ≤ e) (he2 : e ≤ 100000) (hx1 : -100000 ≤ x) (hx2 : x ≤ 100000)
    (hA : (digQ (m * 2 ^ e.toNat * 10 ^ (-x).toNat)).length ≤ 40000) (hB : (digQ (V * 2 ^ (-e).toNat * 10 ^ x.toNat)).length ≤ 40000) :
    Calls Tryd.prog 53 #[.int .i64 m, .int .i64 e, .agg #[.slice a l c, .int .i64 x]] w fun ee w' => ee = .returned (.int .i64 (cmpN (m * 2 ^ e.toNat * 10 ^ (-x).toNat) (V * 2 ^ (-e).toNat * 10 ^ x.toNat))) ∧ Below w.heap.size w w' := by
  by_cases he : 0 < e
  · obtain ⟨E, rfl⟩ : ∃ E : Nat, e = E := ⟨e.toNat, by omega⟩
    rw [show (-(E : Int)).toNat = 0 by omega, Int.toNat_natCast, Nat.pow_zero, Nat.mul_one] at *
    by_cases hx : 0 < x
    · obtain ⟨X, rfl⟩ : ∃ X : Nat, x = X := ⟨x.toNat, by omega⟩
      rw [show (-(X : Int)).toNat = 0 by omega, Int.toNat_natCast, Nat.pow_zero, Nat.mul_one] at *
      exact refBelow_pp m E X V l c a w h hm (by omega) (by omega) (by omega) (by omega) hA hB
    · obtain ⟨X, rfl⟩ : ∃ X : Nat, x = -(X : Int) := ⟨(-x).toNat, by omega⟩
      rw [show (-(-(X : Int))).toNat = X by omega, show (-(X : Int)).toNat = 0 by omega, Nat.pow_zero, Nat.mul_one] at *
      exact refBelow_pn m E X V l c a w h hm (by omega) (by omega) (by omega) hA hB
  · obtain ⟨E, rfl⟩ : ∃ E : Nat, e = -(E : Int) := ⟨(-e).toNat, by omega⟩
    rw [show (-(-(E : Int))).toNat = E by omega, show (-(E : Int)).toNat = 0 by omega, Nat.pow_zero, Nat.mul_one] at *
    by_cases hx : 0 < x
    · obtain ⟨X, rfl⟩ : ∃ X : Nat, x = X := ⟨x.toNat, by omega⟩
      rw [show (-(X : Int)).toNat = 0 by omega, Int.toNat_natCast, Nat.pow_zero, Nat.mul_one] at *
      exact refBelow_np m E X V l c a w h hm (by omega) (by omega) (by omega) hA hB
    · obtain ⟨X, rfl⟩ : ∃ X : Nat, x = -(X : Int) := ⟨(-x).toNat, by omega⟩
      rw [show (-(-(X : Int))).toNat = X by omega, show (-(X : Int)).toNat = 0 by omega, Nat.pow_zero, Nat.mul_one] at *
      exact refBelow_nn m E X V l c a w h hm (by omega) (by omega) hA hB
def U74 : Nat := 2 ^ (k75 - 1)
theorem U74_eq : ∃ a, a = 1074 ∧ U74 = 2 ^ a := ⟨k75 - 1, rfl, rfl⟩
theorem U75_two : U75 = 2 * U74 := by
  obtain ⟨a, ha, h1⟩ := U75_eq
  obtain ⟨b, hb, h2⟩ := U74_eq
  rw [h1, h2, show a = b + 1 by omega, Nat.pow_succ, Nat.mul_comm]
theorem pow_le4 (b n : Nat) (hb : b ≤ 10000) : b ^ n ≤ 10000 ^ n := Nat.pow_le_pow_left hb n
theorem digQ_size {M E X : Nat} {j : Nat} (h : M < 10000 ^ j) (hj : j + E + X ≤ 40000) : (digQ (M * 2 ^ E * 10 ^ X)).length ≤ 40000 := by
  refine Nat.le_trans (digQ_len (j + E + X) _ ?_) hj
  rw [Nat.pow_add, Nat.pow_add]
  have h1 := pow_le4 2 E (by decide)
  have h2 := pow_le4 10 X (by decide)
  have h3 : 0 < 10000 ^ E := Nat.pow_pos (by decide)
  have h4 : 0 < 10000 ^ X := Nat.pow_pos (by decide)
  calc M * 2 ^ E * 10 ^ X ≤ M * 10000 ^ E * 10000 ^ X := Nat.mul_le_mul (Nat.mul_le_mul_left _ h1) h2
    _ < 10000 ^ j * 10000 ^ E * 10000 ^ X := Nat.mul_lt_mul_of_pos_right (Nat.mul_lt_mul_of_pos_right h h3) h4
/-- How a float stands to the number. -/
theorem below_float (raw V l c j : Nat) (x : Int) (a : Option Addr) (w : World) (h : QAt w (.slice a l c) V) (hraw : raw < 9218868437227405312) (hj : j ≤ 400) (hV : V < 10000 ^ j) (hx1 : -1000 ≤ x) (hx2 : x ≤ 1000) :
    Calls Tryd.prog 53 #[.int .i64 (apartN raw).1, .int .i64 (apartN raw).2, .agg #[.slice a l c, .int .i64 x]] w fun ee w' => ee = .returned (.int .i64 (cmpN (magF raw * 10 ^ (-x).toNat) (V * 10 ^ x.toNat * U74))) ∧ Below w.heap.size w w' := by
  have hc : cR raw = (apartN raw).1 := rfl
  have hp : pR raw = (apartN raw).2 := rfl
  have hm := magF_raw raw (by omega)
  rw [hc, hp] at hm
  have hb : (apartN raw).1 < 9007199254740992 ∧ -1074 ≤ (apartN raw).2 ∧ (apartN raw).2 ≤ 971 := by
    unfold apartN
    split
    · exact ⟨by dsimp only; omega, by dsimp only; omega, by dsimp only; omega⟩
    · exact ⟨by dsimp only; omega, by dsimp only; omega, by dsimp only; omega⟩
  generalize (apartN raw).1 = m at *
  generalize (apartN raw).2 = e at *
  have h9 := refBelow_any m e x V l c a w h (by omega) (by omega) (by omega) (by omega) (by omega) (digQ_size (j := 4) (by omega) (by omega)) (digQ_size (j := j) hV (by omega))
  obtain ⟨b, hb74, hU⟩ := U74_eq
  have e1 : cmpN (m * 2 ^ e.toNat * 10 ^ (-x).toNat) (V * 2 ^ (-e).toNat * 10 ^ x.toNat) = cmpN (magF raw * 10 ^ (-x).toNat) (V * 10 ^ x.toNat * U74) := by
    rw [Nat.mul_right_comm m, Nat.mul_right_comm V, cmp_scale _ _ b e (by omega), hU, hm, hb74, Nat.mul_right_comm m]
    rfl
  rw [e1] at h9
  exact h9
/-- How the middle between a float and the next stands to the number. -/
theorem below_half (raw V l c j : Nat) (x : Int) (a : Option Addr) (w : World) (h : QAt w (.slice a l c) V) (hraw : raw < 9218868437227405312) (hj : j ≤ 400) (hV : V < 10000 ^ j) (hx1 : -1000 ≤ x) (hx2 : x ≤ 1000) :
    Calls Tryd.prog 53 #[.int .i64 (2 * ((apartN raw).1 : Int) + 1), .int .i64 ((apartN raw).2 - 1), .agg #[.slice a l c, .int .i64 x]] w fun ee w' => ee = .returned (.int .i64 (cmpN ((magF raw + magF (raw + 1)) * 10 ^ (-x).toNat) (V * 10 ^ x.toNat * U75))) ∧ Below w.heap.size w w' := by
  have hc : cR raw = (apartN raw).1 := rfl
  have hp : pR raw = (apartN raw).2 := rfl
  have hm := magF_raw raw (by omega)
  have hn := raw_next raw (by omega)
  rw [hc, hp] at hm
  rw [hp] at hn
  have hb : (apartN raw).1 < 9007199254740992 ∧ -1074 ≤ (apartN raw).2 ∧ (apartN raw).2 ≤ 971 := by
    unfold apartN
    split
    · exact ⟨by dsimp only; omega, by dsimp only; omega, by dsimp only; omega⟩
    · exact ⟨by dsimp only; omega, by dsimp only; omega, by dsimp only; omega⟩
  generalize (apartN raw).1 = m at *
  generalize (apartN raw).2 = e at *
  have h9 := refBelow_any (2 * m + 1) (e - 1) x V l c a w h (by omega) (by omega) (by omega) (by omega) (by omega) (digQ_size (j := 5) (by omega) (by omega)) (digQ_size (j := j) hV (by omega))
  obtain ⟨b, hb75, hU⟩ := U75_eq
  have e0 : magF raw + magF (raw + 1) = (2 * m + 1) * 2 ^ (e + 1074).toNat := by
    rw [hn, hm, Nat.add_mul, Nat.one_mul, Nat.mul_assoc 2]
    omega
  have e1 : cmpN ((2 * m + 1) * 2 ^ (e - 1).toNat * 10 ^ (-x).toNat) (V * 2 ^ (-(e - 1)).toNat * 10 ^ x.toNat) = cmpN ((magF raw + magF (raw + 1)) * 10 ^ (-x).toNat) (V * 10 ^ x.toNat * U75) := by
    rw [Nat.mul_right_comm (2 * m + 1), Nat.mul_right_comm V, cmp_scale _ _ b (e - 1) (by omega), hU, e0, show e - 1 + (b : Int) = e + 1074 by omega, Nat.mul_right_comm (2 * m + 1)]
  rw [e1, show (((2 * m + 1 : Nat)) : Int) = 2 * (m : Int) + 1 by omega] at h9
  exact h9
end Go.Proofs.YtinfnkhghmcelaaDoor

/- The document's nearest float. -/
namespace Go.Proofs.YtinfnkhghmcelaaDoor
open Go.RowKit Go.Maps

theorem near_up {A D lo : Nat} (_hD : 0 < D) (hlo : lo < 9218868437227405312) (hhi : lo + 1 < 9218868437227405312 → A * U74 < magF (lo + 1) * D)
    (h : (magF lo + magF (lo + 1)) * D < A * U75 ∨ ((magF lo + magF (lo + 1)) * D = A * U75 ∧ lo % 2 = 1)) : NearF A D (lo + 1) := by
  refine ⟨by omega, fun _ => ?_, fun _ he => ?_, fun ht => ?_, fun ht he => ?_⟩
  · rw [Nat.add_sub_cancel]
    rcases h with h | h <;> omega
  · rw [Nat.add_sub_cancel] at he
    rcases h with h | h <;> omega
  · have h1 := hhi ht
    have h2 : magF (lo + 1) ≤ magF (lo + 1 + 1) := magF_le (by omega)
    have h3 : magF (lo + 1) * D ≤ magF (lo + 1 + 1) * D := Nat.mul_le_mul_right _ h2
    rw [Nat.add_mul, U75_two, Nat.mul_left_comm]
    omega
  · have h1 := hhi ht
    have h2 : magF (lo + 1) ≤ magF (lo + 1 + 1) := magF_le (by omega)
    have h3 : magF (lo + 1) * D ≤ magF (lo + 1 + 1) * D := Nat.mul_le_mul_right _ h2
    rw [Nat.add_mul, U75_two, Nat.mul_left_comm] at he
    omega
theorem near_low {A D lo : Nat} (hD : 0 < D) (hlo : lo < 9218868437227405312) (hle : magF lo * D ≤ A * U74)
    (h : A * U75 < (magF lo + magF (lo + 1)) * D ∨ ((magF lo + magF (lo + 1)) * D = A * U75 ∧ lo % 2 = 0)) : NearF A D lo := by
  refine ⟨by omega, fun h0 => ?_, fun h0 he => ?_, fun _ => ?_, fun _ he => ?_⟩
  · have h1 : magF (lo - 1) ≤ magF lo := magF_le (by omega)
    have h2 : magF (lo - 1) * D ≤ magF lo * D := Nat.mul_le_mul_right _ h1
    rw [Nat.add_mul, U75_two, Nat.mul_left_comm]
    omega
  · exfalso
    have h1 : magF (lo - 1) < magF lo := magF_lt (by omega)
    have h2 : magF (lo - 1) * D < magF lo * D := Nat.mul_lt_mul_of_pos_right h1 hD
    rw [Nat.add_mul, U75_two, Nat.mul_left_comm] at he
    omega
  · rcases h with h | h <;> omega
  · rcases h with h | h
    · omega
    · exact h.2
theorem U75_ten : U75 < 10 ^ 324 := by
  obtain ⟨a, ha, h⟩ := U75_eq
  rw [h, ha]
  decide +kernel
theorem near_tiny {V : Nat} {x : Int} {n : Nat} (hV : V < 10 ^ n) (h : (n : Int) + x < -340) : NearF (V * 10 ^ x.toNat) (10 ^ (-x).toNat) 0 := by
  apply NearF.zero
  rw [show x.toNat = 0 by omega, Nat.pow_zero, Nat.mul_one]
  have h1 := U75_ten
  have h2 : 10 ^ (n + 324) ≤ 10 ^ (-x).toNat := Nat.pow_le_pow_right (by decide) (by omega)
  rw [Nat.pow_add] at h2
  exact Nat.lt_of_lt_of_le (Nat.mul_lt_mul_of_lt_of_le hV (Nat.le_of_lt h1) (Nat.lt_of_le_of_lt (Nat.zero_le _) h1)) h2
theorem magF_top : ∃ a b, a = 1024 ∧ b = 1075 ∧ magF 9218868437227405311 + magF 9218868437227405312 ≤ 2 ^ a * 2 ^ b := ⟨1024, 1075, rfl, rfl, by
  have h1 : magF 9218868437227405311 ≤ magF 9218868437227405312 := magF_le (by decide)
  have h2 : magF 9218868437227405312 = 2 ^ 2098 := by
    unfold magF
    rw [if_neg (by decide)]
    decide +kernel
  have h3 : (2 : Nat) ^ 1024 * 2 ^ 1075 = 2 ^ 2098 + 2 ^ 2098 := by decide +kernel
  rw [h3]
  omega⟩
theorem ten_top : ∃ a b, a = 1024 ∧ b = 320 ∧ (2 : Nat) ^ a ≤ 10 ^ b := ⟨1024, 320, rfl, rfl, by decide +kernel⟩
theorem near_huge {V : Nat} {x : Int} {n : Nat} (hn : 1 ≤ n) (hV : 10 ^ (n - 1) ≤ V) (h : 320 < (n : Int) + x) : NearF (V * 10 ^ x.toNat) (10 ^ (-x).toNat) 9218868437227405312 := by
  apply NearF.inf rfl
  obtain ⟨a, b, ha, hb, hm⟩ := magF_top
  obtain ⟨a', t, ha', ht, h10⟩ := ten_top
  obtain ⟨u, hu, hU⟩ := U75_eq
  obtain rfl : a = a' := by omega
  obtain rfl : b = u := by omega
  rw [show (9218868437227405312 - 1 : Nat) = 9218868437227405311 from rfl, hU]
  have k1 : 10 ^ t * 10 ^ (-x).toNat ≤ V * 10 ^ x.toNat := by
    refine Nat.le_trans ?_ (Nat.mul_le_mul_right _ hV)
    rw [← Nat.pow_add, ← Nat.pow_add]
    exact Nat.pow_le_pow_right (by decide) (by omega)
  calc (magF 9218868437227405311 + magF 9218868437227405312) * 10 ^ (-x).toNat ≤ 2 ^ a * 2 ^ b * 10 ^ (-x).toNat := Nat.mul_le_mul_right _ hm
    _ = 2 ^ a * 10 ^ (-x).toNat * 2 ^ b := Nat.mul_right_comm _ _ _
    _ ≤ 10 ^ t * 10 ^ (-x).toNat * 2 ^ b := Nat.mul_le_mul_right _ (Nat.mul_le_mul_right _ h10)
    _ ≤ V * 10 ^ x.toNat * 2 ^ b := Nat.mul_le_mul_right _ k1
end Go.Proofs.YtinfnkhghmcelaaDoor
