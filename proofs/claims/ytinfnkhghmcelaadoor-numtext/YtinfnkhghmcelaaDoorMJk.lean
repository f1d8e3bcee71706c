/- Texts that belong together. -/
import Derived.Test.YtinfnkhghmcelaaDoorMJh
import Derived.Test.YtinfnkhghmcelaaDoorMFa
import Derived.Test.YtinfnkhghmcelaaDoorMQu
/- The document's search for the fewest digits is the program's (pure). -/
namespace Go.Proofs.YtinfnkhghmcelaaDoor
open Go

def rdO (raw K : Nat) (s : Int) : Bool := rdB (cmpN ((magF raw + magF (raw + 1)) * 10 ^ (-s).toNat) (K * 10 ^ s.toNat * U75)) (cmpN ((magF (raw - 1) + magF raw) * 10 ^ (-s).toNat) (K * 10 ^ s.toNat * U75)) (decide (raw % 2 = 0))
def nrO (raw K : Nat) (s : Int) : Int := cmpN (2 * magF raw * 10 ^ (-s).toNat) ((K + (K + 1)) * 10 ^ s.toNat * U74)
def upO (raw K : Nat) (s : Int) : Bool := !rdO raw K s || (rdO raw (K + 1) s && (decide (0 < nrO raw K s) || (decide (nrO raw K s = 0) && decide (K % 2 = 1))))
def docF (raw : Nat) (X : Int) : List Nat → Nat → Nat → Option (Nat × Nat)
  | [], _, _ => none
  | d :: t, K, n => if rdO raw (K * 10 + d) (X - ((n + 1 : Nat) : Int)) || rdO raw (K * 10 + d + 1) (X - ((n + 1 : Nat) : Int)) then some (if upO raw (K * 10 + d) (X - ((n + 1 : Nat) : Int)) then K * 10 + d + 1 else K * 10 + d, n + 1) else docF raw X t (K * 10 + d) (n + 1)
theorem cmpN_le' {a b : Nat} : 0 ≤ cmpN a b ↔ b ≤ a := by
  unfold cmpN
  split
  · constructor
    · intro h; omega
    · intro h; omega
  · split
    · constructor
      · intro _; omega
      · intro _; omega
    · constructor
      · intro _; omega
      · intro _; omega
theorem rdB_of {u l : Int} {ev : Bool} {P Q : Prop} [Decidable P] [Decidable Q] (hu : 0 < u) (h1 : l < 0 ↔ P) (h2 : l = 0 ↔ Q) : rdB u l ev = (decide P || (decide Q && ev)) := by
  unfold rdB
  rw [decide_eq_true hu, Bool.true_or, Bool.true_and, decide_eq_decide.2 h1, decide_eq_decide.2 h2]
theorem rdB_of' {u l : Int} {ev : Bool} {P Q : Prop} [Decidable P] [Decidable Q] (hl : l < 0) (h1 : 0 < u ↔ P) (h2 : u = 0 ↔ Q) : rdB u l ev = (decide P || (decide Q && ev)) := by
  unfold rdB
  rw [decide_eq_true hl, Bool.true_or, Bool.and_true, decide_eq_decide.2 h1, decide_eq_decide.2 h2]
theorem rd_downL {P0 P1 Q x r b a : Nat} {ev : Bool} (s1 : x + r ≤ x + b ↔ P0 ≤ Q) (s2 : x + b ≤ x + r ↔ Q ≤ P0) (s3 : x + r + a ≤ x ↔ P1 ≤ Q) (ha : 0 < a) : rdB (cmpN P1 Q) (cmpN P0 Q) ev = downB r b ev := by
  unfold downB
  refine rdB_of ?_ ?_ ?_
  · apply Classical.byContradiction
    intro h9
    have h8 : cmpN P1 Q ≤ 0 := by omega
    rw [cmpN_le] at h8
    have h7 := s3.2 h8
    omega
  · rw [cmpN_lt, ← Nat.not_le, ← s2]
    omega
  · rw [cmpN_eq]
    constructor
    · intro e
      have e1 := s1.2 (Nat.le_of_eq e)
      have e2 := s2.2 (Nat.le_of_eq e.symm)
      omega
    · intro e
      exact Nat.le_antisymm (s1.1 (by omega)) (s2.1 (by omega))
theorem rd_upL {P0 P1 Q x r b a w : Nat} {ev : Bool} (s2 : x + w + b ≤ x + r ↔ Q ≤ P0) (s3 : x + r + a ≤ x + w ↔ P1 ≤ Q) (s4 : x + w ≤ x + r + a ↔ Q ≤ P1) (hb : 0 < b) (hr : r < w) : rdB (cmpN P1 Q) (cmpN P0 Q) ev = upB r a w ev := by
  unfold upB
  refine rdB_of' ?_ ?_ ?_
  · rw [cmpN_lt, ← Nat.not_le, ← s2]
    omega
  · have e0 : 0 < cmpN P1 Q ↔ ¬ cmpN P1 Q ≤ 0 := by omega
    rw [e0, cmpN_le, ← s3]
    omega
  · rw [cmpN_eq]
    constructor
    · intro e
      have e1 := s3.2 (Nat.le_of_eq e)
      have e2 := s4.2 (Nat.le_of_eq e.symm)
      omega
    · intro e
      exact Nat.le_antisymm (s3.1 (by omega)) (s4.1 (by omega))
theorem ev_cl {raw : Nat} : decide (raw % 2 = 0) = clR raw := by
  cases h : clR raw with
  | true => exact decide_eq_true (cl_even.1 h)
  | false => exact decide_eq_false (fun e => by rw [cl_even.2 e] at h; cases h)
theorem cmpN_of {a b c d : Nat} (hA : a ≤ b ↔ c ≤ d) (hB : b ≤ a ↔ d ≤ c) : cmpN a b = cmpN c d := by
  have t1 := cmpN_three a b
  have t2 := cmpN_three c d
  have e1 := cmpN_lt (a := a) (b := b)
  have e2 := cmpN_lt (a := c) (b := d)
  have f1 := cmpN_eq (a := a) (b := b)
  have f2 := cmpN_eq (a := c) (b := d)
  generalize cmpN a b = p at *
  generalize cmpN c d = q at *
  omega
section
variable {raw : Nat} (hf : DigF raw) (h0 : 0 < raw) (h1 : raw < 9218868437227405312)
include hf h0 h1
theorem rd_down {K r k : Nat} (hK : K * WX raw + r = vR raw * tR raw * 10 ^ k) : rdO raw K (EX raw - k) = downB r (bR raw * tR raw * 10 ^ k) (clR raw) := by
  obtain ⟨s1, s2, s3, s4⟩ := span_link hf h0 h1 K k
  have ha : 0 < aR raw * tR raw * 10 ^ k := by
    refine Nat.mul_pos ?_ (Nat.pow_pos (by decide))
    unfold aR tR
    exact Nat.mul_pos (Nat.mul_pos (by decide) (Nat.pow_pos (by decide))) (Nat.pow_pos (by decide))
  unfold rdO
  rw [ev_cl]
  rw [← hK] at s1 s2 s3
  exact rd_downL s1 s2 s3 ha
theorem rd_up {K r k : Nat} (hK : K * WX raw + r = vR raw * tR raw * 10 ^ k) (hr : r < WX raw) : rdO raw (K + 1) (EX raw - k) = upB r (aR raw * tR raw * 10 ^ k) (WX raw) (clR raw) := by
  obtain ⟨s1, s2, s3, s4⟩ := span_link hf h0 h1 (K + 1) k
  obtain ⟨q1, q2, q3, q4⟩ := dig_bounds hf
  have hb : 0 < bR raw * tR raw * 10 ^ k := Nat.mul_pos q4 (Nat.pow_pos (by decide))
  unfold rdO
  rw [ev_cl]
  rw [Nat.add_mul, Nat.one_mul, ← hK] at s2 s3 s4
  exact rd_upL s2 s3 s4 hb hr
theorem nr_is {K r k : Nat} (hK : K * WX raw + r = vR raw * tR raw * 10 ^ k) : nrO raw K (EX raw - k) = cmpN (2 * r) (WX raw) := by
  obtain ⟨Y, M, Z, hY, hM, hZ, hZ0, f1, f2, f3⟩ := span_facts hf h0 h1
  have hW : 0 < WX raw := Nat.pos_of_ne_zero fun e => by rw [e, Nat.zero_mul] at hZ; omega
  obtain ⟨l1, l2⟩ := link (S := 2 * (2 * magF raw)) (N := K + (K + 1)) (k := k) hW hY hM
  rw [← hZ] at l1 l2
  have hYU : 0 < Y * U75 := Nat.mul_pos (by rw [hY]; exact Nat.pow_pos (by decide)) U75_pos
  have e1 : 2 * (2 * magF raw) * Z * 10 ^ k = 2 * (vR raw * tR raw * 10 ^ k) * (Y * U75) := by
    have g1 : 2 * (2 * magF raw) * Z = 2 * (2 * (magF raw * Z)) := by simp only [Nat.mul_assoc]
    rw [g1, ← f1]
    simp only [Nat.mul_assoc, Nat.mul_comm, Nat.mul_left_comm]
  have e2 : (K + (K + 1)) * WX raw * Y * U75 = (K + (K + 1)) * WX raw * (Y * U75) := Nat.mul_assoc _ _ _
  rw [e1, e2] at l1 l2
  have l3 := l1.trans (scale_le hYU).symm
  have l4 := l2.trans (scale_le hYU).symm
  rw [← hK] at l3 l4
  unfold nrO
  have e3 : cmpN (2 * magF raw * 10 ^ (-(EX raw - k)).toNat) ((K + (K + 1)) * 10 ^ (EX raw - k).toNat * U74) = cmpN (2 * (2 * magF raw) * 10 ^ (-(EX raw - k)).toNat) ((K + (K + 1)) * 10 ^ (EX raw - k).toNat * U75) := by
    have g1 : 2 * (2 * magF raw) * 10 ^ (-(EX raw - k)).toNat = 2 * magF raw * 10 ^ (-(EX raw - k)).toNat * 2 := by rw [Nat.mul_comm 2 (2 * magF raw), Nat.mul_right_comm]
    have g2 : (K + (K + 1)) * 10 ^ (EX raw - k).toNat * U75 = (K + (K + 1)) * 10 ^ (EX raw - k).toNat * U74 * 2 := by rw [U75_two, Nat.mul_comm 2 U74, ← Nat.mul_assoc]
    rw [g1, g2, cmpN_mul _ _ 2 (by decide)]
  rw [e3]
  have e4 : (K + (K + 1)) * WX raw = 2 * (K * WX raw) + WX raw := by rw [← Nat.add_assoc, Nat.add_mul, Nat.one_mul, ← Nat.two_mul, Nat.mul_assoc]
  rw [e4] at l3 l4
  generalize K * WX raw = x at *
  exact cmpN_of (l3.trans (by omega)) (l4.trans (by omega))
end
end Go.Proofs.YtinfnkhghmcelaaDoor

/- The document's search is the program's (pure): its digits, its exponent. -/
namespace Go.Proofs.YtinfnkhghmcelaaDoor
open Go

theorem byte48 {x : Nat} (h : x ≤ 100) : (UInt8.ofNat (48 + x)).toNat - 48 = x := by rw [UInt8.toNat_ofNat']; omega
theorem valT_one (b : UInt8) : valT [b] = b.toNat - 48 := by simp [valT]
theorem near_not {r w q K : Nat} (hq : K % 2 = q % 2) : (decide (0 < cmpN (2 * r) w) || (decide (cmpN (2 * r) w = 0) && decide (K % 2 = 1))) = !nearB r w q := by
  have t1 := cmpN_three (2 * r) w
  have e1 := cmpN_lt (a := 2 * r) (b := w)
  have f1 := cmpN_eq (a := 2 * r) (b := w)
  unfold nearB
  generalize cmpN (2 * r) w = p at *
  rw [hq]
  by_cases h1 : 2 * r < w
  · have hp : p < 0 := e1.2 h1
    rw [decide_eq_true h1, decide_eq_false (show ¬ 0 < p by omega), decide_eq_false (show ¬ p = 0 by omega)]
    rfl
  · by_cases h2 : 2 * r = w
    · have hp : p = 0 := f1.2 h2
      rw [decide_eq_false h1, decide_eq_true h2, hp]
      rcases Nat.mod_two_eq_zero_or_one q with h3 | h3 <;> rw [h3] <;> rfl
    · have hp : 0 < p := by omega
      rw [decide_eq_false h1, decide_eq_false h2, decide_eq_true hp]
      rfl
theorem doc_short {raw : Nat} (hf : DigF raw) (h0 : 0 < raw) (h1 : raw < 9218868437227405312) : ∀ (j K n v : Nat) (l : List UInt8), v < WX raw → K * WX raw + v = vR raw * tR raw * 10 ^ n → shortF j v (bR raw * tR raw * 10 ^ n) (aR raw * tR raw * 10 ^ n) (WX raw) (clR raw) = some l → docF raw (EX raw) (dgs j v (WX raw)) K n = some (K * 10 ^ l.length + valT l, n + l.length)
  | 0, _, _, _, _, _, _, h => by cases h
  | j + 1, K, n, v, l, hv, hK, h => by
    have hW : 0 < WX raw := by omega
    have hr : v * 10 % WX raw < WX raw := Nat.mod_lt _ hW
    have hq : v * 10 / WX raw ≤ 9 := by
      have : v * 10 / WX raw < 10 := Nat.div_lt_of_lt_mul (by omega)
      omega
    have hdm : v * 10 / WX raw * WX raw + v * 10 % WX raw = v * 10 := by
      have := Nat.div_add_mod (v * 10) (WX raw)
      rw [Nat.mul_comm] at this
      exact this
    have hK2 : (K * 10 + v * 10 / WX raw) * WX raw + v * 10 % WX raw = vR raw * tR raw * 10 ^ (n + 1) := by
      rw [Nat.add_mul, Nat.add_assoc, hdm, Nat.pow_succ, ← Nat.mul_assoc, ← hK, Nat.add_mul, Nat.mul_right_comm]
    have dA := rd_down hf h0 h1 hK2
    have dB := rd_up hf h0 h1 hK2 hr
    have dN := nr_is hf h0 h1 hK2
    rw [shortF] at h
    rw [dgs, docF]
    unfold upO
    rw [dA, dB, dN, near_not (q := v * 10 / WX raw) (by omega)]
    rw [Nat.mul_assoc _ (10 ^ n) 10, ← Nat.pow_succ, Nat.mul_assoc _ (10 ^ n) 10, ← Nat.pow_succ] at h
    generalize hq9 : v * 10 / WX raw = q at *
    generalize hr9 : v * 10 % WX raw = r at *
    have f48 := byte48 (show q ≤ 100 by omega)
    have f49 : (UInt8.ofNat (49 + q)).toNat - 48 = q + 1 := by rw [UInt8.toNat_ofNat']; omega
    generalize UInt8.ofNat (48 + q) = B48 at *
    generalize UInt8.ofNat (49 + q) = B49 at *
    cases hd : downB r (bR raw * tR raw * 10 ^ (n + 1)) (clR raw) <;> cases hu : upB r (aR raw * tR raw * 10 ^ (n + 1)) (WX raw) (clR raw) <;> cases hn : nearB r (WX raw) q <;> rw [hd, hu, hn] at h <;> simp at h ⊢
    case false.false.false | false.false.true =>
      obtain ⟨t, ht, rfl⟩ := h
      have ih := doc_short hf h0 h1 j (K * 10 + q) (n + 1) r t hr hK2 ht
      rw [ih]
      simp only [List.length_cons, valT_cons, f48, Option.some.injEq, Prod.mk.injEq]
      constructor
      · rw [Nat.pow_succ, Nat.add_mul, Nat.mul_assoc K, Nat.mul_comm 10]
        omega
      · omega
    all_goals
      subst h
      simp only [List.length_cons, List.length_nil, valT_one, f48, f49, Nat.zero_add, Nat.pow_one, and_true]
      try omega
/-- The digits hang on the ratio alone. -/
theorem dgs_ratio : ∀ (j A B V W : Nat), 0 < B → 0 < W → A * W = V * B → dgs j A B = dgs j V W
  | 0, _, _, _, _, _, _, _ => rfl
  | j + 1, A, B, V, W, hB, hW, h => by
    have e1 : A * 10 * W = V * 10 * B := by rw [Nat.mul_right_comm, h, Nat.mul_right_comm]
    have hq : A * 10 / B = V * 10 / W := by
      have g1 : A * 10 * W / (B * W) = A * 10 / B := Nat.mul_div_mul_right _ _ hW
      have g2 : V * 10 * B / (W * B) = V * 10 / W := Nat.mul_div_mul_right _ _ hB
      rw [← g1, ← g2, e1, Nat.mul_comm B W]
    have hr : A * 10 % B * W = V * 10 % W * B := by
      have g1 := Nat.div_add_mod (A * 10) B
      have g2 := Nat.div_add_mod (V * 10) W
      have g3 : B * (A * 10 / B) * W + A * 10 % B * W = A * 10 * W := by rw [← Nat.add_mul, g1]
      have g4 : W * (V * 10 / W) * B + V * 10 % W * B = V * 10 * B := by rw [← Nat.add_mul, g2]
      have g5 : B * (A * 10 / B) * W = W * (V * 10 / W) * B := by rw [hq, Nat.mul_right_comm B, Nat.mul_comm B W, Nat.mul_right_comm W]
      omega
    rw [dgs, dgs, hq, dgs_ratio j _ B _ W hB hW hr]
theorem leX_mono {raw : Nat} {x y : Int} (h : leX raw x) (hy : y ≤ x) : leX raw y := by
  unfold leX at *
  obtain ⟨d, hd⟩ : ∃ d : Nat, x = y + d := ⟨(x - y).toNat, by omega⟩
  have e : 10 ^ y.toNat * 10 ^ (-x).toNat * 10 ^ d = 10 ^ x.toNat * 10 ^ (-y).toNat := by
    rw [← Nat.pow_add, ← Nat.pow_add, ← Nat.pow_add]
    congr 1
    omega
  have hp : 0 < 10 ^ (-x).toNat := Nat.pow_pos (by decide)
  have hd1 : 1 ≤ 10 ^ d := Nat.pow_pos (by decide)
  apply Nat.le_of_mul_le_mul_right (c := 10 ^ (-x).toNat) _ hp
  have g1 : 10 ^ y.toNat * U74 * 10 ^ (-x).toNat ≤ 10 ^ y.toNat * U74 * 10 ^ (-x).toNat * 10 ^ d := Nat.le_mul_of_pos_right _ hd1
  have g2 : 10 ^ y.toNat * U74 * 10 ^ (-x).toNat * 10 ^ d = 10 ^ x.toNat * U74 * 10 ^ (-y).toNat := by
    rw [Nat.mul_right_comm _ U74, Nat.mul_right_comm _ U74, e, Nat.mul_right_comm]
  have g3 : 10 ^ x.toNat * U74 * 10 ^ (-y).toNat ≤ magF raw * 10 ^ (-x).toNat * 10 ^ (-y).toNat := Nat.mul_le_mul_right _ h
  rw [g2] at g1
  rw [Nat.mul_right_comm (magF raw)]
  exact Nat.le_trans g1 g3
theorem ten_pow (E : Int) : 10 ^ (E - 1).toNat * 10 ^ (-E).toNat * 10 = 10 ^ E.toNat * 10 ^ (-(E - 1)).toNat := by
  rw [← Nat.pow_add, ← Nat.pow_add, ← Nat.pow_succ]
  congr 1
  omega
section
variable {raw : Nat} (hf : DigF raw) (h0 : 0 < raw) (h1 : raw < 9218868437227405312)
include hf h0 h1
theorem EX_facts : ∃ Y M, Y = 10 ^ (EX raw).toNat ∧ M = 10 ^ (-EX raw).toNat ∧ 0 < Y ∧ 0 < M ∧ 0 < WX raw ∧ vR raw * tR raw * (Y * U74) = magF raw * M * WX raw := by
  obtain ⟨Y, M, Z, hY, hM, hZ, hZ0, f1, f2, f3⟩ := span_facts hf h0 h1
  have hW : 0 < WX raw := Nat.pos_of_ne_zero fun e => by rw [e, Nat.zero_mul] at hZ; omega
  refine ⟨Y, M, hY, hM, by rw [hY]; exact Nat.pow_pos (by decide), by rw [hM]; exact Nat.pow_pos (by decide), hW, ?_⟩
  rw [U75_two, hZ] at f1
  have g1 : vR raw * tR raw * Y * (2 * U74) = 2 * (vR raw * tR raw * (Y * U74)) := by rw [Nat.mul_left_comm, Nat.mul_assoc (vR raw * tR raw)]
  rw [g1] at f1
  have g2 := Nat.eq_of_mul_eq_mul_left (by decide : 0 < 2) f1
  rw [g2, Nat.mul_assoc, Nat.mul_comm M]
/-- The document's exponent is the program's. -/
theorem X_is {X : Int} (hx : leX raw (X - 1)) (hx2 : ¬ leX raw X) : X = EX raw := by
  obtain ⟨Y, M, hY, hM, pY, pM, hW, hv⟩ := EX_facts hf h0 h1
  obtain ⟨q1, -, -, -⟩ := dig_bounds hf
  have q2 := dig_ten hf
  have pU : 0 < U74 := by
    obtain ⟨b, -, hU⟩ := U74_eq
    rw [hU]
    exact Nat.pow_pos (by decide)
  have n1 : ¬ leX raw (EX raw) := fun h => by
    unfold leX at h
    rw [← hY, ← hM] at h
    have g1 := Nat.mul_le_mul_right (WX raw) h
    rw [← hv] at g1
    have g2 : vR raw * tR raw * (Y * U74) < WX raw * (Y * U74) := Nat.mul_lt_mul_of_pos_right q1 (Nat.mul_pos pY pU)
    rw [Nat.mul_comm (WX raw)] at g2
    exact absurd g1 (Nat.not_le_of_lt g2)
  have n2 : leX raw (EX raw - 1) := by
    unfold leX
    have g0 : 10 ^ (EX raw - 1).toNat * M * 10 = Y * 10 ^ (-(EX raw - 1)).toNat := by
      rw [hY, hM]
      exact ten_pow (EX raw)
    have g1 : WX raw * (Y * U74) ≤ 10 * (vR raw * tR raw) * (Y * U74) := Nat.mul_le_mul_right _ q2
    rw [Nat.mul_assoc 10, hv] at g1
    have hp : 0 < M * WX raw := Nat.mul_pos pM hW
    apply Nat.le_of_mul_le_mul_right (c := M * 10 * WX raw) _ (Nat.mul_pos (Nat.mul_pos pM (by decide)) hW)
    have g2 : 10 ^ (EX raw - 1).toNat * U74 * (M * 10 * WX raw) = Y * 10 ^ (-(EX raw - 1)).toNat * U74 * WX raw := by
      rw [← g0]
      simp only [Nat.mul_assoc, Nat.mul_comm, Nat.mul_left_comm]
    have g3 : magF raw * 10 ^ (-(EX raw - 1)).toNat * (M * 10 * WX raw) = 10 * (magF raw * M * WX raw) * 10 ^ (-(EX raw - 1)).toNat := by
      simp only [Nat.mul_assoc, Nat.mul_comm, Nat.mul_left_comm]
    rw [g2, g3]
    have g4 := Nat.mul_le_mul_right (10 ^ (-(EX raw - 1)).toNat) g1
    have g5 : WX raw * (Y * U74) * 10 ^ (-(EX raw - 1)).toNat = Y * 10 ^ (-(EX raw - 1)).toNat * U74 * WX raw := by
      simp only [Nat.mul_assoc, Nat.mul_comm, Nat.mul_left_comm]
    rw [g5] at g4
    exact g4
  apply Classical.byContradiction
  intro h
  rcases Int.lt_or_gt_of_ne h with h9 | h9
  · exact hx2 (leX_mono n2 (by omega))
  · exact n1 (leX_mono hx (by omega))
theorem AX_ratio : AX raw (EX raw) * WX raw = vR raw * tR raw * BX raw (EX raw) ∧ 0 < BX raw (EX raw) := by
  obtain ⟨Y, M, hY, hM, pY, pM, hW, hv⟩ := EX_facts hf h0 h1
  have hm := magF_raw raw (by omega)
  have hc : cR raw = (apartN raw).1 := rfl
  have hp : pR raw = (apartN raw).2 := rfl
  rw [hc, hp] at hm
  obtain ⟨b1, b2, b3, b4⟩ := apart_in h0 h1
  unfold AX BX
  rw [← hY, ← hM]
  generalize (apartN raw).1 = m at *
  generalize (apartN raw).2 = e at *
  obtain ⟨b, hb74, hU⟩ := U74_eq
  have pU : 0 < U74 := by
    rw [hU]
    exact Nat.pow_pos (by decide)
  have e1 : 2 ^ e.toNat * U74 = 2 ^ (e + 1074).toNat * 2 ^ (-e).toNat := by
    have e2 : e.toNat + b = (e + 1074).toNat + (-e).toNat := by omega
    rw [hU, ← Nat.pow_add, ← Nat.pow_add, e2]
  refine ⟨?_, by rw [Nat.one_mul]; exact Nat.mul_pos (Nat.pow_pos (by decide)) pY⟩
  apply Nat.eq_of_mul_eq_mul_right (Nat.mul_pos pY pU)
  have g1 : m * 2 ^ e.toNat * M * WX raw * (Y * U74) = (2 ^ e.toNat * U74) * (m * M * WX raw * Y) := by
    simp only [Nat.mul_assoc, Nat.mul_comm, Nat.mul_left_comm]
  have g2 : vR raw * tR raw * (1 * 2 ^ (-e).toNat * Y) * (Y * U74) = vR raw * tR raw * (Y * U74) * (2 ^ (-e).toNat * Y) := by
    rw [Nat.one_mul]
    simp only [Nat.mul_assoc, Nat.mul_comm, Nat.mul_left_comm]
  rw [g1, g2, hv, hm, e1]
  simp only [Nat.mul_assoc, Nat.mul_comm, Nat.mul_left_comm]
end
end Go.Proofs.YtinfnkhghmcelaaDoor
