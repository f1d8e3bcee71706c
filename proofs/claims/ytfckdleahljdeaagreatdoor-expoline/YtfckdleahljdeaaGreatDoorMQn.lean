/- Texts that belong together. -/
import Derived.Test.YtfckdleahljdeaaGreatDoorMDd
import Derived.Test.YtfckdleahljdeaaGreatDoorMDr
import Derived.Lib.AppendIntMem
import Derived.Lib.LaidTab
/- The quotient is the nearest float. -/
namespace Go.Proofs.YtfckdleahljdeaaGreatDoor.Nu

def k75 : Nat := 1075
def U75 : Nat := 2 ^ k75
def k309 : Nat := 309
def T309 : Nat := 10 ^ k309
theorem T309_eq : ∃ a, a = 309 ∧ T309 = 10 ^ a := ⟨k309, rfl, rfl⟩
theorem pow_two_more (a k : Nat) : 2 ^ (a + 1 + k) = 2 * 2 ^ a * 2 ^ k := by rw [Nat.pow_add, Nat.pow_succ, Nat.mul_comm 2]
theorem U75_eq : ∃ a, a = 1075 ∧ U75 = 2 ^ a := ⟨k75, rfl, rfl⟩
theorem U75_pos : 0 < U75 := by
  obtain ⟨a, _, h⟩ := U75_eq
  rw [h]
  exact Nat.pow_pos (by decide)
/-- R is the float nearest to A through D; of two as near the even one. -/
structure NearF (A D R : Nat) : Prop where
  top : R ≤ 9218868437227405312
  low : 0 < R → (magF (R - 1) + magF R) * D ≤ A * U75
  lowE : 0 < R → (magF (R - 1) + magF R) * D = A * U75 → R % 2 = 0
  up : R < 9218868437227405312 → A * U75 ≤ (magF R + magF (R + 1)) * D
  upE : R < 9218868437227405312 → A * U75 = (magF R + magF (R + 1)) * D → R % 2 = 0

theorem magF_le {r s : Nat} (h : r ≤ s) : magF r ≤ magF s := by
  rcases Nat.lt_or_ge r s with h1 | h1
  · exact Nat.le_of_lt (magF_lt h1)
  · have : r = s := by omega
    rw [this]; exact Nat.le_refl _
/-- The greater number has no lesser float. -/
theorem NearF.mono {A1 D1 R1 A2 D2 R2 : Nat} (h1 : NearF A1 D1 R1) (h2 : NearF A2 D2 R2) (hD1 : 0 < D1) (hD2 : 0 < D2) (h : A1 * D2 ≤ A2 * D1) : R1 ≤ R2 := by
  rcases Nat.lt_or_ge R2 R1 with hlt | hge
  · exfalso
    have ht := h1.top
    have l1 := h1.low (by omega)
    have u2 := h2.up (by omega)
    have m1 : magF R2 ≤ magF (R1 - 1) := magF_le (by omega)
    have m2 : magF (R2 + 1) ≤ magF R1 := magF_le (by omega)
    have k1 : (magF R2 + magF (R2 + 1)) * (D1 * D2) ≤ (magF (R1 - 1) + magF R1) * (D1 * D2) := Nat.mul_le_mul_right _ (by omega)
    have k2 : (magF (R1 - 1) + magF R1) * D1 * D2 ≤ A1 * U75 * D2 := Nat.mul_le_mul_right _ l1
    have k3 : A2 * U75 * D1 ≤ (magF R2 + magF (R2 + 1)) * D2 * D1 := Nat.mul_le_mul_right _ u2
    have k4 : A1 * D2 * U75 ≤ A2 * D1 * U75 := Nat.mul_le_mul_right _ h
    have e1 : A1 * U75 * D2 = A1 * D2 * U75 := Nat.mul_right_comm _ _ _
    have e2 : A2 * U75 * D1 = A2 * D1 * U75 := Nat.mul_right_comm _ _ _
    have e3 : (magF (R1 - 1) + magF R1) * D1 * D2 = (magF (R1 - 1) + magF R1) * (D1 * D2) := Nat.mul_assoc _ _ _
    have e4 : (magF R2 + magF (R2 + 1)) * D2 * D1 = (magF R2 + magF (R2 + 1)) * (D1 * D2) := by rw [Nat.mul_assoc, Nat.mul_comm D2]
    have a1 : (magF (R1 - 1) + magF R1) * D1 * D2 = A1 * U75 * D2 := by omega
    have a2 : A2 * U75 * D1 = (magF R2 + magF (R2 + 1)) * D2 * D1 := by omega
    have q1 := h1.lowE (by omega) (Nat.eq_of_mul_eq_mul_right hD2 a1)
    have q2 := h2.upE (by omega) (Nat.eq_of_mul_eq_mul_right hD1 a2)
    have a3 : (magF R2 + magF (R2 + 1)) * (D1 * D2) = (magF (R1 - 1) + magF R1) * (D1 * D2) := by omega
    have a4 := Nat.eq_of_mul_eq_mul_right (Nat.mul_pos hD1 hD2) a3
    have a5 : magF (R2 + 1) = magF R1 := by omega
    rcases Nat.lt_or_ge (R2 + 1) R1 with h9 | h9
    · have := magF_lt h9; omega
    · omega
  · exact hge
theorem NearF.one {A1 D1 R1 A2 D2 R2 : Nat} (h1 : NearF A1 D1 R1) (h2 : NearF A2 D2 R2) (hD1 : 0 < D1) (hD2 : 0 < D2) (h : A1 * D2 = A2 * D1) : R1 = R2 :=
  Nat.le_antisymm (h1.mono h2 hD1 hD2 (Nat.le_of_eq h)) (h2.mono h1 hD2 hD1 (Nat.le_of_eq h.symm))
theorem NearF.zero {A D : Nat} (h : A * U75 < D) : NearF A D 0 := by
  have e : magF 0 + magF (0 + 1) = 1 := rfl
  refine ⟨by omega, by omega, by omega, fun _ => ?_, fun _ => ?_⟩
  · rw [e, Nat.one_mul]; omega
  · intro _; rfl
theorem NearF.inf {A D R : Nat} (hR : R = 9218868437227405312) (h : (magF (R - 1) + magF R) * D ≤ A * U75) : NearF A D R :=
  ⟨by omega, fun _ => h, fun _ _ => by omega, fun h => by omega, fun h => by omega⟩
theorem magF_at (c e : Nat) (h : (e = 0 ∧ c ≤ 9007199254740992) ∨ (4503599627370496 ≤ c ∧ c ≤ 9007199254740992)) : magF (c + e * 4503599627370496) = c * 2 ^ e := by
  unfold magF
  by_cases h1 : c < 4503599627370496
  · obtain rfl : e = 0 := by omega
    rw [Nat.zero_mul, Nat.add_zero, if_pos h1, Nat.pow_zero, Nat.mul_one]
  · rw [if_neg (by omega)]
    by_cases h2 : c = 9007199254740992
    · have e1 : (c + e * 4503599627370496) % 4503599627370496 = 0 := by omega
      have e2 : (c + e * 4503599627370496) / 4503599627370496 - 1 = e + 1 := by omega
      rw [e1, e2, Nat.pow_succ]
      generalize 2 ^ e = P
      subst h2
      omega
    · have e1 : (c + e * 4503599627370496) % 4503599627370496 = c - 4503599627370496 := by omega
      have e2 : (c + e * 4503599627370496) / 4503599627370496 - 1 = e := by omega
      have e3 : 4503599627370496 + (c - 4503599627370496) = c := by omega
      rw [e1, e2, e3]
theorem divL_spec (D : Nat) : ∀ (n A c : Nat), A < 2 * D → (2 * c * D + A) * 2 ^ n = 2 * (divL D n A c).2 * D + (divL D n A c).1 ∧ (divL D n A c).1 < 2 * D ∧ c * 2 ^ n ≤ (divL D n A c).2 ∧ (divL D n A c).2 < (c + 1) * 2 ^ n
  | 0, A, c, h => by simp [divL]; exact h
  | n + 1, A, c, h => by
    unfold divL
    have h2 : (2 : Nat) ^ (n + 1) = 2 * 2 ^ n := by rw [Nat.pow_succ, Nat.mul_comm]
    split
    · rename_i h1
      obtain ⟨a, b, d, e⟩ := divL_spec D n ((A - D) * 2) (c * 2 + 1) (by omega)
      refine ⟨?_, b, ?_, ?_⟩
      · rw [← a, h2, ← Nat.mul_assoc]
        congr 1
        have e9 : 2 * (c * 2 + 1) * D = 4 * (c * D) + 2 * D := by rw [Nat.mul_assoc, Nat.add_mul, Nat.mul_right_comm]; omega
        have e8 : 2 * c * D = 2 * (c * D) := Nat.mul_assoc _ _ _
        rw [e9, e8]
        omega
      · rw [h2, ← Nat.mul_assoc]
        exact Nat.le_trans (Nat.mul_le_mul_right _ (by omega)) d
      · rw [h2, ← Nat.mul_assoc]
        exact Nat.lt_of_lt_of_le e (Nat.mul_le_mul_right _ (by omega))
    · obtain ⟨a, b, d, e⟩ := divL_spec D n (A * 2) (c * 2) (by omega)
      refine ⟨?_, b, ?_, ?_⟩
      · rw [← a, h2, ← Nat.mul_assoc]
        congr 1
        have e9 : 2 * (c * 2) * D = 4 * (c * D) := by rw [Nat.mul_assoc, Nat.mul_right_comm]; omega
        have e8 : 2 * c * D = 2 * (c * D) := Nat.mul_assoc _ _ _
        rw [e9, e8]
        omega
      · rw [h2, ← Nat.mul_assoc]
        exact Nat.le_trans (Nat.mul_le_mul_right _ (by omega)) d
      · rw [h2, ← Nat.mul_assoc]
        exact Nat.lt_of_lt_of_le e (Nat.mul_le_mul_right _ (by omega))

/-- From what is left of the division to the nearest float. -/
theorem near_of {A D D0 c r e R : Nat} (hD0 : 0 < D0) (hD : 0 < D) (hE : A * U75 * D0 = (2 * c * D0 + r) * (2 ^ e * D)) (hr : r < 2 * D0)
    (hc : (e = 0 ∧ c < 9007199254740992) ∨ (4503599627370496 ≤ c ∧ c < 9007199254740992)) (hR : R = min (roundQ D0 (r, c) + e * 4503599627370496) 9218868437227405312) : NearF A D R := by
  have hQ : 0 < 2 ^ e * D := Nat.mul_pos (Nat.pow_pos (by decide)) hD
  -- what a sum of two neighbours is held against
  have key : ∀ S s : Nat, S = s * 2 ^ e → (s * D0 ≤ 2 * c * D0 + r → S * D ≤ A * U75) ∧ (2 * c * D0 + r ≤ s * D0 → A * U75 ≤ S * D) ∧ (S * D = A * U75 → s * D0 = 2 * c * D0 + r) := by
    intro S s hS
    have e1 : S * D * D0 = s * D0 * (2 ^ e * D) := by
      rw [hS]
      simp only [Nat.mul_assoc, Nat.mul_comm, Nat.mul_left_comm]
    refine ⟨fun h => ?_, fun h => ?_, fun h => ?_⟩
    · refine Nat.le_of_mul_le_mul_right ?_ hD0
      rw [e1, hE]
      exact Nat.mul_le_mul_right _ h
    · refine Nat.le_of_mul_le_mul_right ?_ hD0
      rw [e1, hE]
      exact Nat.mul_le_mul_right _ h
    · have h9 : S * D * D0 = A * U75 * D0 := by rw [h]
      rw [e1, hE] at h9
      exact Nat.eq_of_mul_eq_mul_right hQ h9
  have ec : 2 * c * D0 = 2 * (c * D0) := Nat.mul_assoc _ _ _
  have e2 : (2 * c + 1) * D0 = 2 * (c * D0) + D0 := by rw [Nat.add_mul, Nat.mul_assoc, Nat.one_mul]
  have e3 : (2 * c + 2) * D0 = 2 * (c * D0) + 2 * D0 := by rw [Nat.add_mul, Nat.mul_assoc]
  -- the float ahead of the bound
  obtain ⟨T, hT⟩ : ∃ T, T = roundQ D0 (r, c) + e * 4503599627370496 := ⟨_, rfl⟩
  have hfin : (0 < T → (magF (T - 1) + magF T) * D ≤ A * U75) ∧ (0 < T → (magF (T - 1) + magF T) * D = A * U75 → T % 2 = 0) ∧ A * U75 ≤ (magF T + magF (T + 1)) * D ∧ (A * U75 = (magF T + magF (T + 1)) * D → T % 2 = 0) := by
    by_cases hup : D0 < r ∨ (r = D0 ∧ c % 2 = 1)
    · have hTc : T = c + 1 + e * 4503599627370496 := by rw [hT]; unfold roundQ; rw [if_pos hup]
      have m1 : magF (T - 1) = c * 2 ^ e := by rw [show T - 1 = c + e * 4503599627370496 by omega]; exact magF_at c e (by omega)
      have m2 : magF T = (c + 1) * 2 ^ e := by rw [hTc]; exact magF_at (c + 1) e (by omega)
      have m3 : magF T < magF (T + 1) := magF_succ T
      have s1 : magF (T - 1) + magF T = (2 * c + 1) * 2 ^ e := by rw [m1, m2, ← Nat.add_mul]; congr 1; omega
      obtain ⟨k1, k2, k3⟩ := key _ _ s1
      obtain ⟨j1, j2, j3⟩ := key ((2 * c + 2) * 2 ^ e) (2 * c + 2) rfl
      have s2 : (2 * c + 2) * 2 ^ e = magF T + magF T := by rw [m2, ← Nat.add_mul]; congr 1; omega
      have q1 : (2 * c + 2) * 2 ^ e * D < (magF T + magF (T + 1)) * D := Nat.mul_lt_mul_of_pos_right (by omega) hD
      have q2 := j2 (by omega)
      refine ⟨fun _ => k1 (by omega), fun _ h => ?_, by omega, fun h => by omega⟩
      have := k3 h
      omega
    · have hTc : T = c + e * 4503599627370496 := by rw [hT]; unfold roundQ; rw [if_neg hup]
      have m1 : magF T = c * 2 ^ e := by rw [hTc]; exact magF_at c e (by omega)
      have m2 : magF (T + 1) = (c + 1) * 2 ^ e := by rw [show T + 1 = c + 1 + e * 4503599627370496 by omega]; exact magF_at (c + 1) e (by omega)
      have s1 : magF T + magF (T + 1) = (2 * c + 1) * 2 ^ e := by rw [m1, m2, ← Nat.add_mul]; congr 1; omega
      obtain ⟨k1, k2, k3⟩ := key _ _ s1
      obtain ⟨j1, j2, j3⟩ := key ((2 * c) * 2 ^ e) (2 * c) rfl
      have s2 : (2 * c) * 2 ^ e = magF T + magF T := by rw [m1, Nat.mul_assoc]; exact Nat.two_mul _
      have q2 := j1 (by omega)
      have low : 0 < T → (magF (T - 1) + magF T) * D < A * U75 := fun h0 => by
        have m3 : magF (T - 1) < magF T := magF_lt (by omega)
        have q1 : (magF (T - 1) + magF T) * D < (2 * c) * 2 ^ e * D := Nat.mul_lt_mul_of_pos_right (by omega) hD
        omega
      refine ⟨fun h0 => Nat.le_of_lt (low h0), fun h0 h => absurd h (Nat.ne_of_lt (low h0)), k2 (by omega), fun h => ?_⟩
      have := k3 h.symm
      omega
  rw [← hT] at hR
  obtain ⟨f1, f2, f3, f4⟩ := hfin
  rcases Nat.lt_or_ge T 9218868437227405312 with h9 | h9
  · have : R = T := by omega
    subst this
    exact ⟨by omega, f1, f2, fun _ => f3, fun _ => f4⟩
  · have hR' : R = 9218868437227405312 := by omega
    have g1 := magF_le (show R - 1 ≤ T - 1 by omega)
    have g2 := magF_le (show R ≤ T by omega)
    have g3 := f1 (by omega)
    have g4 : (magF (R - 1) + magF R) * D ≤ (magF (T - 1) + magF T) * D := Nat.mul_le_mul_right _ (by omega)
    exact NearF.inf hR' (Nat.le_trans g4 g3)

theorem quotB_near {A D A0 D0 : Nat} {t : Int} (hr : A0 * D * 2 ^ t.toNat = A * D0 * 2 ^ (-t).toNat) (h1 : D0 ≤ A0) (h2 : A0 < 2 * D0) (hD : 0 < D) (hD0 : 0 < D0) : NearF A D (quotB A0 D0 t) := by
  unfold quotB
  split
  · rename_i ht
    apply NearF.zero
    obtain ⟨a, ha, hU⟩ := U75_eq
    obtain ⟨k, hk⟩ : ∃ k, (-t).toNat = a + 1 + k := ⟨(-t).toNat - 1076, by omega⟩
    have e1 : t.toNat = 0 := by omega
    rw [e1, Nat.pow_zero, Nat.mul_one, hk, pow_two_more, ← hU] at hr
    have h3 : A * D0 * (2 * U75) ≤ A0 * D := by
      rw [hr, ← Nat.mul_assoc (A * D0) (2 * U75)]
      exact Nat.le_mul_of_pos_right _ (Nat.pow_pos (by decide))
    have h4 : A0 * D < 2 * D0 * D := Nat.mul_lt_mul_of_pos_right h2 hD
    have h5 : A * D0 * (2 * U75) = 2 * D0 * (A * U75) := by
      simp only [Nat.mul_assoc, Nat.mul_comm, Nat.mul_left_comm]
    have h6 : 2 * D0 * (A * U75) < 2 * D0 * D := by omega
    exact Nat.lt_of_mul_lt_mul_left h6
  · rename_i ht
    obtain ⟨p, hp⟩ : ∃ p, p = powQ t := ⟨_, rfl⟩
    rw [← hp]
    unfold powQ at hp
    obtain ⟨n, hn⟩ : ∃ n, n = (t - p + 1).toNat := ⟨_, rfl⟩
    obtain ⟨e, he⟩ : ∃ e, e = (p + 1074).toNat := ⟨_, rfl⟩
    rw [← hn, ← he]
    obtain ⟨s1, s2, s3, s4⟩ := divL_spec D0 n A0 0 h2
    rw [Nat.mul_zero, Nat.zero_mul, Nat.zero_add] at s1
    rw [Nat.zero_add, Nat.one_mul] at s4
    obtain ⟨⟨r, c⟩, hrc⟩ : ∃ x, x = divL D0 n A0 0 := ⟨_, rfl⟩
    rw [← hrc] at s1 s2 s4 ⊢
    simp only at s1 s2 s4
    have hn53 : n ≤ 53 := by omega
    have hc53 : c < 9007199254740992 := Nat.lt_of_lt_of_le s4 (Nat.pow_le_pow_right (n := 2) (by decide) hn53)
    refine near_of hD0 hD ?_ s2 ?_ rfl
    · rw [← s1]
      have e2 : (t + 1075).toNat = n + e := by omega
      have e3 : A0 * 2 ^ n * (2 ^ e * D) = A0 * D * 2 ^ (t + 1075).toNat := by
        rw [e2, Nat.pow_add]
        simp only [Nat.mul_assoc, Nat.mul_comm, Nat.mul_left_comm]
      rw [e3]
      obtain ⟨a, ha, hU⟩ := U75_eq
      rw [hU]
      rcases Int.le_total 0 t with h0 | h0
      · have e4 : (-t).toNat = 0 := by omega
        have e5 : (t + 1075).toNat = t.toNat + a := by omega
        rw [e4, Nat.pow_zero, Nat.mul_one] at hr
        rw [e5, Nat.pow_add, ← Nat.mul_assoc, hr]
        exact Nat.mul_right_comm _ _ _
      · have e4 : t.toNat = 0 := by omega
        rw [e4, Nat.pow_zero, Nat.mul_one] at hr
        rw [hr, Nat.mul_assoc (A * D0), ← Nat.pow_add]
        have e5 : (-t).toNat + (t + 1075).toNat = a := by omega
        rw [e5]
        exact Nat.mul_right_comm _ _ _
    · rcases Nat.eq_zero_or_pos e with h0 | h0
      · exact Or.inl ⟨h0, hc53⟩
      · refine Or.inr ⟨?_, hc53⟩
        have e6 : n = 53 := by omega
        rcases Nat.lt_or_ge c 4503599627370496 with h9 | h9
        · exfalso
          rw [e6] at s1
          have q1 : D0 * 9007199254740992 ≤ A0 * 2 ^ 53 := Nat.mul_le_mul_right _ h1
          have q2 : 2 * c * D0 ≤ 9007199254740990 * D0 := Nat.mul_le_mul_right _ (by omega)
          have q3 : 9007199254740990 * D0 + 2 * D0 = D0 * 9007199254740992 := by rw [← Nat.add_mul, Nat.mul_comm]
          omega
        · exact h9
theorem quotN_near {A D : Nat} (hA : A ≠ 0) (hD : D ≠ 0) : NearF A D (quotN A D) := by
  have l1 := level hA hD
  have l2 := level hD hA
  unfold quotN
  obtain ⟨u, hu⟩ : ∃ u, u = ((D.log2 : Int) - A.log2).toNat := ⟨_, rfl⟩
  obtain ⟨v, hv⟩ : ∃ v, v = ((A.log2 : Int) - D.log2).toNat := ⟨_, rfl⟩
  rw [← hu, ← hv] at l1 l2 ⊢
  have hpu : 0 < 2 ^ u := Nat.pow_pos (by decide)
  have hpv : 0 < 2 ^ v := Nat.pow_pos (by decide)
  have hD1 : 0 < D * 2 ^ v := Nat.mul_pos (by omega) hpv
  split
  · rename_i h
    refine quotB_near ?_ (by omega) (by omega) (by omega) hD1
    rcases Int.le_total ((A.log2 : Int) - D.log2) 0 with h0 | h0
    · have e1 : ((A.log2 : Int) - D.log2 - 1).toNat = 0 := by omega
      have e2 : (-((A.log2 : Int) - D.log2 - 1)).toNat = u + 1 := by omega
      have e3 : v = 0 := by omega
      rw [e1, e2, e3, Nat.pow_succ]
      simp only [Nat.pow_zero, Nat.mul_one]
      simp only [Nat.mul_assoc, Nat.mul_comm, Nat.mul_left_comm]
    · by_cases h7 : (A.log2 : Int) - D.log2 = 0
      · have e1 : ((A.log2 : Int) - D.log2 - 1).toNat = 0 := by omega
        have e2 : (-((A.log2 : Int) - D.log2 - 1)).toNat = u + 1 := by omega
        have e3 : v = 0 := by omega
        rw [e1, e2, e3, Nat.pow_succ]
        simp only [Nat.pow_zero, Nat.mul_one]
        simp only [Nat.mul_assoc, Nat.mul_comm, Nat.mul_left_comm]
      · obtain ⟨v', hv'⟩ : ∃ v', v = v' + 1 := ⟨v - 1, by omega⟩
        have e1 : ((A.log2 : Int) - D.log2 - 1).toNat = v' := by omega
        have e2 : (-((A.log2 : Int) - D.log2 - 1)).toNat = 0 := by omega
        have e3 : u = 0 := by omega
        rw [e1, e2, e3, hv', Nat.pow_succ]
        simp only [Nat.pow_zero, Nat.mul_one]
        simp only [Nat.mul_assoc, Nat.mul_comm, Nat.mul_left_comm]
  · rename_i h
    refine quotB_near ?_ (by omega) l1 (by omega) hD1
    have e2 : (-((A.log2 : Int) - D.log2)).toNat = u := by omega
    rw [← hv, e2]
    simp only [Nat.mul_assoc, Nat.mul_comm, Nat.mul_left_comm]
def T324 : Nat := 10 ^ (k309 + 15)
theorem T324_eq : ∃ a, a = 324 ∧ T324 = 10 ^ a := ⟨k309 + 15, rfl, rfl⟩
theorem two_ten : U75 ≤ T324 := Nat.le_of_ble_eq_true (by kernel_rfl)
theorem inf_ten : (magF (9218868437227405312 - 1) + magF 9218868437227405312) ≤ T309 * U75 := Nat.le_of_ble_eq_true (by kernel_rfl)
/-- What is read of digits is the nearest float. -/
theorem nearN_near {ds : List UInt8} (h : GoodD ds) (p : Int) : NearF (valD ds * 10 ^ p.toNat) (10 ^ (-p).toNat) (nearN ds p) := by
  have hpos : 0 < 10 ^ (-p).toNat := Nat.pow_pos (by decide)
  have hlt := valD_lt ds h.1
  unfold nearN
  split
  · rename_i h1
    apply NearF.zero
    by_cases h0 : ds.length = 0
    · rw [List.eq_nil_of_length_eq_zero h0]
      show 0 * _ * _ < _
      rw [Nat.zero_mul, Nat.zero_mul]
      exact hpos
    · have e1 : p.toNat = 0 := by omega
      rw [e1, Nat.pow_zero, Nat.mul_one]
      obtain ⟨a, ha, hT⟩ := T324_eq
      obtain ⟨k, hk⟩ : ∃ k, (-p).toNat = ds.length + a + k := ⟨(-p).toNat - (ds.length + 324), by omega⟩
      rw [hk, Nat.pow_add, Nat.pow_add]
      have q1 : valD ds * U75 < 10 ^ ds.length * U75 := Nat.mul_lt_mul_of_pos_right hlt U75_pos
      have q2 : 10 ^ ds.length * U75 ≤ 10 ^ ds.length * 10 ^ a := by rw [← hT]; exact Nat.mul_le_mul_left _ two_ten
      have q3 : 10 ^ ds.length * 10 ^ a ≤ 10 ^ ds.length * 10 ^ a * 10 ^ k := Nat.le_mul_of_pos_right _ (Nat.pow_pos (by decide))
      exact Nat.lt_of_lt_of_le q1 (Nat.le_trans q2 q3)
  · rename_i h1
    have h0 : ds ≠ [] := fun e => h1 (Or.inl (by rw [e]; rfl))
    have hv := valD_pos ds h.2 h0
    split
    · rename_i h2
      refine NearF.inf rfl ?_
      have hge : 10 ^ (ds.length - 1) ≤ valD ds := by
        cases ds with
        | nil => exact absurd rfl h0
        | cons d t =>
          have h3 := h.2 d rfl
          rw [valD_cons, List.length_cons, Nat.add_sub_cancel]
          have h4 : 1 * 10 ^ t.length ≤ d.toNat * 10 ^ t.length := Nat.mul_le_mul_right _ (by omega)
          omega
      have hl : 0 < ds.length := List.length_pos_iff.2 h0
      have q1 : (magF (9218868437227405312 - 1) + magF 9218868437227405312) * 10 ^ (-p).toNat ≤ T309 * U75 * 10 ^ (-p).toNat := Nat.mul_le_mul_right _ inf_ten
      have q2 : T309 * U75 * 10 ^ (-p).toNat ≤ valD ds * 10 ^ p.toNat * U75 := by
        obtain ⟨a, ha, hU⟩ := T309_eq
        rw [Nat.mul_right_comm, hU]
        refine Nat.mul_le_mul_right _ ?_
        rw [← Nat.pow_add]
        have q3 : 10 ^ (ds.length - 1) * 10 ^ p.toNat ≤ valD ds * 10 ^ p.toNat := Nat.mul_le_mul_right _ hge
        rw [← Nat.pow_add] at q3
        exact Nat.le_trans (Nat.pow_le_pow_right (by decide) (by omega)) q3
      exact Nat.le_trans q1 q2
    · exact quotN_near (Nat.mul_ne_zero hv (Nat.ne_of_gt (Nat.pow_pos (by decide)))) (Nat.ne_of_gt hpos)
end Go.Proofs.YtfckdleahljdeaaGreatDoor.Nu

/- Texts of digits, as they are read. -/
namespace Go.Proofs.YtfckdleahljdeaaGreatDoor.Nu

def isD (b : UInt8) : Prop := 48 ≤ b.toNat ∧ b.toNat ≤ 57
/-- The number that digits say. -/
def valT (l : List UInt8) : Nat := l.foldl (fun N d => N * 10 + (d.toNat - 48)) 0
theorem foldT : ∀ (l : List UInt8) (N : Nat), l.foldl (fun N d => N * 10 + (d.toNat - 48)) N = N * 10 ^ l.length + valT l
  | [], N => by simp [valT]
  | d :: t, N => by
    unfold valT
    rw [List.foldl_cons, List.foldl_cons, foldT t, foldT t (0 * 10 + (d.toNat - 48)), List.length_cons, Nat.pow_succ, Nat.add_mul, Nat.zero_mul, Nat.zero_add, Nat.mul_assoc, Nat.mul_comm 10]
    omega
theorem valT_cons (d : UInt8) (t : List UInt8) : valT (d :: t) = (d.toNat - 48) * 10 ^ t.length + valT t := by
  show (d :: t).foldl _ 0 = _
  rw [List.foldl_cons, foldT]
  simp
theorem valT_append (a b : List UInt8) : valT (a ++ b) = valT a * 10 ^ b.length + valT b := by
  show (a ++ b).foldl _ 0 = _
  rw [List.foldl_append, foldT]
  rfl
theorem valT_lt : ∀ (l : List UInt8), (∀ b ∈ l, isD b) → valT l < 10 ^ l.length
  | [], _ => by simp [valT]
  | d :: t, h => by
    have h1 := valT_lt t (fun x hx => h x (by simp [hx]))
    have h2 := h d (by simp)
    unfold isD at h2
    rw [valT_cons, List.length_cons, Nat.pow_succ]
    have h3 : (d.toNat - 48) * 10 ^ t.length ≤ 9 * 10 ^ t.length := Nat.mul_le_mul_right _ (by omega)
    omega
/-- A row of digits is read whole, and adds its number. -/
theorem scan_row : ∀ (l rest ds : List UInt8) (p : Int) (n : Nat) (pt : Bool), (∀ b ∈ l, isD b) →
    ∃ ds', scanD (l ++ rest) ds p n pt = scanD rest ds' (if pt then p - l.length else p) (n + l.length) pt ∧ valD ds' = valD ds * 10 ^ l.length + valT l
  | [], rest, ds, p, n, pt, _ => ⟨ds, by simp, by simp [valT]⟩
  | b :: t, rest, ds, p, n, pt, h => by
    have hb := h b (by simp)
    unfold isD at hb
    obtain ⟨ds', h1, h2⟩ := scan_row t rest (if b.toNat ≠ 48 ∨ ds ≠ [] then ds ++ [UInt8.ofNat (b.toNat - 48)] else ds) (if pt then p - 1 else p) (n + 1) pt (fun x hx => h x (by simp [hx]))
    refine ⟨ds', ?_, ?_⟩
    · rw [List.cons_append, scanD, if_pos hb, h1]
      congr 1
      · cases pt
        · rfl
        · simp; omega
      · rw [List.length_cons]; omega
    · rw [h2, valT_cons, List.length_cons, Nat.pow_succ]
      have e : valD (if b.toNat ≠ 48 ∨ ds ≠ [] then ds ++ [UInt8.ofNat (b.toNat - 48)] else ds) = valD ds * 10 + (b.toNat - 48) := by
        split
        · rw [valD_snoc, UInt8.toNat_ofNat']
          congr 1
          omega
        · rename_i h9
          have h8 : b.toNat = 48 ∧ ds = [] := by
            constructor
            · exact Classical.byContradiction fun h7 => h9 (Or.inl h7)
            · exact Classical.byContradiction fun h7 => h9 (Or.inr h7)
          rw [h8.2, h8.1]
          rfl
      rw [e, Nat.add_mul, Nat.mul_assoc, Nat.mul_comm 10, Nat.add_assoc]
theorem scan_stop {b : UInt8} {t ds : List UInt8} {p : Int} {n : Nat} {pt : Bool} (h1 : ¬ (48 ≤ b.toNat ∧ b.toNat ≤ 57)) (h2 : ¬ (b.toNat = 46 ∧ pt = false)) : scanD (b :: t) ds p n pt = (ds, p, n, b :: t) := by
  rw [scanD, if_neg h1, if_neg h2]
theorem expF_row : ∀ (l : List UInt8) (n : Nat), (∀ b ∈ l, isD b) → n * 10 ^ l.length + valT l ≤ 1048576 → expF l n = some (n * 10 ^ l.length + valT l)
  | [], n, _, _ => by simp [expF, valT]
  | b :: t, n, h, hle => by
    have hb := h b (by simp)
    unfold isD at hb
    rw [valT_cons, List.length_cons, Nat.pow_succ] at hle ⊢
    have e : n * (10 ^ t.length * 10) + ((b.toNat - 48) * 10 ^ t.length + valT t) = (n * 10 + (b.toNat - 48)) * 10 ^ t.length + valT t := by
      rw [Nat.add_mul, Nat.mul_assoc, Nat.mul_comm 10, Nat.add_assoc]
    have hpos : 0 < 10 ^ t.length := Nat.pow_pos (by decide)
    have h3 : n * 10 + (b.toNat - 48) ≤ 1048576 := by
      have : (n * 10 + (b.toNat - 48)) * 1 ≤ (n * 10 + (b.toNat - 48)) * 10 ^ t.length := Nat.mul_le_mul_left _ hpos
      omega
    rw [expF, if_pos hb, Nat.min_eq_left h3, expF_row t _ (fun x hx => h x (by simp [hx])) (by omega), e]
/-- A sign or none, and digits. -/
theorem expR_plain {l : List UInt8} (h : ∀ b ∈ l, isD b) (hne : l ≠ []) (hle : valT l ≤ 1048576) : expR ⟨l.toArray⟩ = (((valT l : Nat) : Int), true) := by
  have hc : cutB ⟨l.toArray⟩ = (⟨l.toArray⟩, false) := by
    unfold cutB hdB
    cases l with
    | nil => exact absurd rfl hne
    | cons b t =>
      have hb := h b (by simp)
      unfold isD at hb
      rw [dif_pos (by simp [ByteArray.size])]
      have e : (⟨(b :: t).toArray⟩ : ByteArray)[0]'(by simp [ByteArray.size]) = b := rfl
      rw [e, if_neg (by omega)]
  unfold expR
  rw [hc]
  have hs : ¬ (⟨l.toArray⟩ : ByteArray).size = 0 := by
    cases l with
    | nil => exact absurd rfl hne
    | cons b t => simp [ByteArray.size]
  simp only
  rw [if_neg hs, expF_row l 0 h (by omega)]
  simp
theorem expR_minus {l : List UInt8} (h : ∀ b ∈ l, isD b) (hne : l ≠ []) (hle : valT l ≤ 1048576) : expR ⟨(45 :: l).toArray⟩ = (-((valT l : Nat) : Int), true) := by
  have hc : cutB ⟨(45 :: l).toArray⟩ = (⟨l.toArray⟩, true) := by
    unfold cutB hdB
    rw [dif_pos (by simp [ByteArray.size])]
    have e : (⟨(45 :: l).toArray⟩ : ByteArray)[0]'(by simp [ByteArray.size]) = 45 := rfl
    have e2 : (45 : UInt8).toNat = 45 := rfl
    rw [e, e2, if_pos (Or.inl rfl)]
    congr 1
    apply ByteArray.ext
    simp [ByteArray.size]
  unfold expR
  rw [hc]
  have hs : ¬ (⟨l.toArray⟩ : ByteArray).size = 0 := by
    cases l with
    | nil => exact absurd rfl hne
    | cons b t => simp [ByteArray.size]
  simp only
  rw [if_neg hs, expF_row l 0 h (by omega)]
  simp

theorem ba_of (l : List UInt8) : (⟨l.toArray⟩ : ByteArray).data.toList = l := by simp
/-- A text that begins with a digit is cut nowhere, and is no word. -/
theorem parse_digit {b : UInt8} {t : List UInt8} (hb : isD b) (hl : t.length < 400) : parseR ⟨(b :: t).toArray⟩ = match decR ⟨(b :: t).toArray⟩ with
    | none => (0, 8)
    | some (ds, p) => (nearN ds p, 0) := by
  unfold isD at hb
  have hc : cutB ⟨(b :: t).toArray⟩ = (⟨(b :: t).toArray⟩, false) := by
    unfold cutB hdB
    rw [dif_pos (by simp [ByteArray.size])]
    have e : (⟨(b :: t).toArray⟩ : ByteArray)[0]'(by simp [ByteArray.size]) = b := rfl
    rw [e, if_neg (by omega)]
  have hlow : low b = b := by unfold low; rw [if_neg (by omega)]
  unfold parseR
  have hsz : ¬ 400 < (⟨(b :: t).toArray⟩ : ByteArray).size := by simp [ByteArray.size]; omega
  rw [if_neg hsz, hc]
  have hm : (⟨(b :: t).toArray⟩ : ByteArray).data.toList.map low = b :: t.map low := by rw [ba_of, List.map_cons, hlow]
  show (if (⟨(b :: t).toArray⟩ : ByteArray).data.toList.map low = [110, 97, 110] then _ else _) = _
  rw [hm]
  generalize t.map low = tl
  have n1 : ∀ x : UInt8, 97 ≤ x.toNat → b ≠ x := fun x hx e => by subst e; omega
  rw [if_neg (fun h => n1 110 (by decide) (List.cons.inj h).1), if_neg (fun h => h.elim (fun h => n1 105 (by decide) (List.cons.inj h).1) (fun h => n1 105 (by decide) (List.cons.inj h).1))]
  have sg : ∀ n, sgB false n = n := fun n => rfl
  simp only [sg]
  cases decR ⟨(b :: t).toArray⟩ with
  | none => rfl
  | some x => rfl
/-- Digits, the letter e, a whole number. -/
theorem decR_whole {x k : List UInt8} {e : Int} (hx : ∀ b ∈ x, isD b) (hne : x ≠ []) (hk : expR ⟨k.toArray⟩ = (e, true)) : ∃ ds, decR ⟨(x ++ 101 :: k).toArray⟩ = some (ds, e) ∧ valD ds = valT x ∧ GoodD ds := by
  obtain ⟨ds, h1, h2⟩ := scan_row x (101 :: k) [] 0 0 false hx
  rw [scan_stop (by decide) (by decide)] at h1
  have hg := scan_good (x ++ 101 :: k) [] 0 0 false ⟨by simp, by simp⟩
  rw [h1] at hg
  refine ⟨ds, ?_, by rw [h2]; simp [valD], hg.1⟩
  unfold decR
  rw [ba_of, h1]
  have hl : 0 < x.length := List.length_pos_iff.2 hne
  have h0 : ¬ (0 + x.length = 0) := by omega
  have h101 : (101 : UInt8).toNat = 101 := rfl
  simp only [if_neg h0, h101, true_or, if_true, hk, Bool.false_eq_true, if_false]
  simp
/-- Digits, a point, digits, the letter e, a whole number. -/
theorem decR_point {x y k : List UInt8} {e : Int} (hx : ∀ b ∈ x, isD b) (hy : ∀ b ∈ y, isD b) (hne : x ≠ []) (hk : expR ⟨k.toArray⟩ = (e, true)) : ∃ ds, decR ⟨(x ++ 46 :: (y ++ 101 :: k)).toArray⟩ = some (ds, e - y.length) ∧ valD ds = valT (x ++ y) ∧ GoodD ds := by
  obtain ⟨d1, h1, h2⟩ := scan_row x (46 :: (y ++ 101 :: k)) [] 0 0 false hx
  obtain ⟨ds, h3, h4⟩ := scan_row y (101 :: k) d1 0 (0 + x.length) true hy
  have h5 : scanD (46 :: (y ++ 101 :: k)) d1 0 (0 + x.length) false = scanD (y ++ 101 :: k) d1 0 (0 + x.length) true := by
    rw [scanD, if_neg (by decide), if_pos (by decide)]
  rw [scan_stop (by decide) (by decide)] at h3
  simp only [Bool.false_eq_true, if_false] at h1
  rw [h5, h3] at h1
  have hg := scan_good (x ++ 46 :: (y ++ 101 :: k)) [] 0 0 false ⟨by simp, by simp⟩
  rw [h1] at hg
  refine ⟨ds, ?_, by rw [h4, h2, valT_append]; simp [valD], hg.1⟩
  unfold decR
  rw [ba_of, h1]
  have hl : 0 < x.length := List.length_pos_iff.2 hne
  have h0 : ¬ (0 + x.length + y.length = 0) := by omega
  have h101 : (101 : UInt8).toNat = 101 := rfl
  simp only [if_neg h0, h101, true_or, if_true, hk]
  congr 2
  omega
end Go.Proofs.YtfckdleahljdeaaGreatDoor.Nu

/- The document's digits. -/
namespace Go.Proofs.YtfckdleahljdeaaGreatDoor.Nu
open Go.RowKit Go.Maps

theorem refDigit_any (b : Int) (w : World) : Calls Tryz.prog 73 #[.int .u8 b] w fun e w' => e = .returned (.bool (decide (48 ≤ b ∧ b ≤ 57))) ∧ w' = w := by
  have key : ∀ R : Bool, R = decide (48 ≤ b ∧ b ≤ 57) → Calls Tryz.prog 73 #[.int .u8 b] w fun e w' => e = .returned (.bool R) ∧ w' = w := fun R hR => by
    have HR : Hid (R = decide (48 ≤ b ∧ b ≤ 57)) := hR
    clear hR
    by_cases h1 : 48 ≤ b
    · by_cases h2 : b ≤ 57
      · have e : R = true := by rw [HR.out]; simp; omega
        subst e
        clear HR
        go_enter Tryz.func73, Tryz.ntmps73
        go_wp2
        go_ret
        exact ⟨rfl, rfl⟩
      · have e : R = false := by rw [HR.out]; simp; omega
        subst e
        clear HR
        go_enter Tryz.func73, Tryz.ntmps73
        go_wp2
        go_ret
        exact ⟨rfl, rfl⟩
    · have e : R = false := by rw [HR.out]; simp; omega
      subst e
      clear HR
      go_enter Tryz.func73, Tryz.ntmps73
      go_wp2
      go_ret
      exact ⟨rfl, rfl⟩
  exact key _ rfl
theorem refDigit_yes {b : Int} (w : World) (h1 : 48 ≤ b) (h2 : b ≤ 57) : Calls Tryz.prog 73 #[.int .u8 b] w fun e w' => e = .returned (.bool true) ∧ w' = w := by
  have := refDigit_any b w
  rw [show decide (48 ≤ b ∧ b ≤ 57) = true by simp; omega] at this
  exact this
theorem refDigit_no {b : Int} (w : World) (h : ¬ (48 ≤ b ∧ b ≤ 57)) : Calls Tryz.prog 73 #[.int .u8 b] w fun e w' => e = .returned (.bool false) ∧ w' = w := by
  have := refDigit_any b w
  rw [show decide (48 ≤ b ∧ b ≤ 57) = false by simp; omega] at this
  exact this

theorem ne_list {a b : ByteArray} (h : a ≠ b) : (a.toList == b.toList) = false := by
  rw [beq_eq_false_iff_ne, ByteArray.toList_eq, ByteArray.toList_eq]
  intro e
  exact h (ByteArray.ext (Array.ext' e))

end Go.Proofs.YtfckdleahljdeaaGreatDoor.Nu

/- Whole numbers as digits; the table of the powers of ten. -/
namespace Go.Proofs.YtfckdleahljdeaaGreatDoor.Nu
open Go.RowKit Go.Maps

/-- The table of the powers of ten, as the library lays it. -/
def Pow (w : World) : Prop := Lib.TabIs Tryz.prog w "internal/strconv.uint64pow10" .u64 Lib.pow10Tab
theorem Pow.below {w w' : World} (h : Pow w) (hb : Below w.heap.size w w') : Pow w' := by
  have hg : Tryz.prog.globalNamed "internal/strconv.uint64pow10" = some 6 := by kernel_rfl
  unfold Pow Lib.TabIs World.var? at h ⊢
  rw [hg] at h ⊢
  simp only [Option.bind_some] at h ⊢
  have hlt : 6 < w.heap.size := by
    rcases Nat.lt_or_ge 6 w.heap.size with h' | h'
    · exact h'
    · rw [Array.getElem?_eq_none h'] at h; cases h
  rw [hb.block _ hlt]
  exact h
/-- A number's digits say it. -/
theorem dec_val : ∀ (n u : Nat), u ≤ n → (∀ b ∈ Lib.decDigits u, isD b) ∧ Lib.decDigits u ≠ [] ∧ valT (Lib.decDigits u) = u
  | n, u, h => by
    by_cases h10 : u < 10
    · rw [Lib.decDigits_one h10]
      have e : (UInt8.ofNat (48 + u)).toNat = 48 + u := by rw [UInt8.toNat_ofNat']; omega
      refine ⟨fun b hb => ?_, by simp, ?_⟩
      · rw [List.mem_singleton.1 hb]; unfold isD; omega
      · rw [valT_cons, e]; simp [valT]
    · cases n with
      | zero => omega
      | succ n =>
        obtain ⟨i1, i2, i3⟩ := dec_val n (u / 10) (by omega)
        have e : (UInt8.ofNat (48 + u % 10)).toNat = 48 + u % 10 := by rw [UInt8.toNat_ofNat']; omega
        have hd : Lib.decDigits u = Lib.decDigits (u / 10) ++ [UInt8.ofNat (48 + u % 10)] := by rw [Lib.decDigits, dif_neg h10]
        rw [hd]
        refine ⟨fun b hb => ?_, by simp, ?_⟩
        · rcases List.mem_append.1 hb with h1 | h1
          · exact i1 b h1
          · rw [List.mem_singleton.1 h1]; unfold isD; omega
        · rw [valT_append, i3, valT_cons, e]; simp [valT]; omega
theorem itoa_exp (n : Int) (h1 : -1000000 ≤ n) (h2 : n ≤ 1000000) : expR ⟨(Lib.itoa n).toArray⟩ = (n, true) := by
  unfold Lib.itoa
  split
  · obtain ⟨a, b, c⟩ := dec_val n.natAbs n.natAbs (Nat.le_refl _)
    have h := expR_minus a b (by rw [c]; omega)
    rw [h, c]
    congr 1
    omega
  · obtain ⟨a, b, c⟩ := dec_val n.toNat n.toNat (Nat.le_refl _)
    have h := expR_plain a b (by rw [c]; omega)
    rw [h, c]
    congr 1
    omega
/-- A whole number with an exponent is read as the nearest float. -/
theorem parse_whole {x : List UInt8} {k : Int} (hx : ∀ b ∈ x, isD b) (hne : x ≠ []) (hl : x.length ≤ 300) (h1 : -1000000 ≤ k) (h2 : k ≤ 1000000) : ∃ R, parseR ⟨(x ++ 101 :: Lib.itoa k).toArray⟩ = (R, 0) ∧ NearF (valT x * 10 ^ k.toNat) (10 ^ (-k).toNat) R := by
  obtain ⟨ds, h3, h4, h5⟩ := decR_whole hx hne (itoa_exp k h1 h2)
  have hil : (Lib.itoa k).length ≤ 21 := Lib.itoa_length_le k (by omega) (by omega)
  obtain ⟨b, t, rfl⟩ : ∃ b t, x = b :: t := by
    cases x with
    | nil => exact absurd rfl hne
    | cons b t => exact ⟨b, t, rfl⟩
  have hp := parse_digit (b := b) (t := t ++ 101 :: Lib.itoa k) (hx b (by simp)) (by simp at hl ⊢; omega)
  rw [List.cons_append] at h3 ⊢
  rw [hp, h3]
  refine ⟨nearN ds k, rfl, ?_⟩
  rw [← h4]
  exact nearN_near h5 k
end Go.Proofs.YtfckdleahljdeaaGreatDoor.Nu
