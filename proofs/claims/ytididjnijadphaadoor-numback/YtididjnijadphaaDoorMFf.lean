/- What is written of a float is read as just that float: pure. -/
import Derived.Test.YtididjnijadphaaDoorMFe
namespace Go.Proofs.YtididjnijadphaaDoor

theorem ten_cross (E : Int) : 1 * 10 ^ (E + 1 - 1).toNat * 10 ^ (-(E - 1)).toNat = 10 * 10 ^ (E - 1).toNat * 10 ^ (-(E + 1 - 1)).toNat := by
  rw [Nat.one_mul, show 10 * 10 ^ (E - 1).toNat = 10 ^ ((E - 1).toNat + 1) by rw [Nat.pow_succ, Nat.mul_comm], ← Nat.pow_add, ← Nat.pow_add]
  congr 1
  omega
/-- A float's digits are digits, and are read as the float. -/
theorem dig_same {raw : Nat} (h0 : 0 < raw) (h1 : raw < 9218868437227405312) : (∀ b ∈ (dgR raw).1, isD b) ∧ ∀ R, NearF (valT (dgR raw).1 * 10 ^ ((dgR raw).2 - ((dgR raw).1.length : Nat)).toNat) (10 ^ (-((dgR raw).2 - ((dgR raw).1.length : Nat))).toNat) R → R = raw := by
  by_cases h2 : 2 ≤ (dgR raw).1.length
  · obtain ⟨-, -, pre, hD⟩ := digs_of h2
    exact ⟨hD.isd, hD.same⟩
  · unfold dgR at h2 ⊢
    rw [if_neg (by omega)] at h2 ⊢
    have hf := dig_facts h0 h1
    obtain ⟨l, hl⟩ := dig_18 hf
    obtain ⟨b1, b2, b3, b4⟩ := dig_bounds hf
    have ha : 0 < aR raw * tR raw := Nat.mul_pos (by unfold aR; exact Nat.mul_pos (by decide) (Nat.pow_pos (by decide))) (Nat.pow_pos (by decide))
    have hg := shortF_good _ _ _ _ _ _ _ b1 hl
    rw [dig_short hf hl] at h2 ⊢
    obtain ⟨i1, i2, i3, i4⟩ := short_in _ _ _ _ _ _ _ b1 b4 ha hl
    have hnear : NearF (valT l * 10 ^ (EX raw - (l.length : Nat)).toNat) (10 ^ (-(EX raw - (l.length : Nat))).toNat) raw := by
      obtain ⟨s1, s2, s3, s4⟩ := span_link hf h0 h1 (valT l) l.length
      refine ⟨by omega, fun _ => s1.1 i1, fun _ e => ?_, fun _ => s4.1 i2, fun _ e => ?_⟩
      · exact cl_even.1 (i3 (Nat.le_antisymm i1 (s2.2 (Nat.le_of_eq e.symm))))
      · exact cl_even.1 (i4 (Nat.le_antisymm i2 (s3.2 (Nat.le_of_eq e.symm))))
    unfold upR at h2 ⊢
    by_cases h57 : 57 < (l.headD 0).toNat
    · rw [if_pos h57]
      have hl1 : l.length = 1 := by
        rcases Nat.lt_or_ge l.length 2 with h9 | h9
        · have := List.length_pos_iff.2 hg.1
          omega
        · exfalso
          obtain ⟨pre, c, rfl⟩ : ∃ pre c, l = pre ++ [c] := ⟨l.dropLast, l.getLast hg.1, (List.dropLast_concat_getLast _).symm⟩
          have hpl : 1 ≤ pre.length := by simp at h9; omega
          obtain ⟨j1, j2, j3, j4, j5⟩ := short_cut _ _ _ _ _ _ _ pre c b1 hl rfl (by intro e; rw [e] at hpl; simp at hpl)
          cases pre with
          | nil => simp at hpl
          | cons y t =>
            have := (j5 y (by simp)).2
            simp at h57
            omega
      obtain ⟨c, rfl⟩ : ∃ c, l = [c] := List.length_eq_one_iff.1 hl1
      have hc := hg.2 c (by simp)
      have hc2 : c.toNat = 58 := by simp at h57; omega
      have hv : valT [c] = 10 := by rw [valT_cons, hc2]; simp [valT]
      rw [hv] at hnear
      refine ⟨fun b hb => by rw [List.mem_singleton.1 hb]; unfold isD; decide, fun R hR => ?_⟩
      have e1 : valT [49] = 1 := rfl
      have hR' : NearF (1 * 10 ^ (EX raw + 1 - 1).toNat) (10 ^ (-(EX raw + 1 - 1)).toNat) R := by
        rw [← e1]
        exact hR
      exact hR'.one hnear (pow10_pos _) (pow10_pos _) (ten_cross (EX raw))
    · rw [if_neg h57] at h2 ⊢
      have hl1 : l.length = 1 := by
        have h2' : ¬ 2 ≤ l.length := h2
        have := List.length_pos_iff.2 hg.1
        omega
      obtain ⟨c, rfl⟩ : ∃ c, l = [c] := List.length_eq_one_iff.1 hl1
      have hc := hg.2 c (by simp)
      refine ⟨fun b hb => ?_, fun R hR => hR.one hnear (pow10_pos _) (pow10_pos _) rfl⟩
      rw [List.mem_singleton.1 hb]
      simp at h57
      exact ⟨hc.1, by omega⟩

/-- Digits alone, and digits with a point. -/
theorem decR_int {x : List UInt8} (hx : ∀ b ∈ x, isD b) (hne : x ≠ []) : ∃ ds, decR ⟨x.toArray⟩ = some (ds, 0) ∧ valD ds = valT x ∧ GoodD ds := by
  obtain ⟨ds, h1, h2⟩ := scan_row x [] [] 0 0 false hx
  rw [List.append_nil] at h1
  have hg := scan_good x [] 0 0 false ⟨by simp, by simp⟩
  rw [h1] at hg
  refine ⟨ds, ?_, by rw [h2]; simp [valD], hg.1⟩
  unfold decR
  rw [ba_of, h1]
  have hl : 0 < x.length := List.length_pos_iff.2 hne
  have h0 : ¬ (0 + x.length = 0) := by omega
  simp only [scanD, if_neg h0, Bool.false_eq_true, if_false]
theorem decR_frac {x y : List UInt8} (hx : ∀ b ∈ x, isD b) (hy : ∀ b ∈ y, isD b) (hne : x ≠ []) : ∃ ds, decR ⟨(x ++ 46 :: y).toArray⟩ = some (ds, -(y.length : Int)) ∧ valD ds = valT (x ++ y) ∧ GoodD ds := by
  obtain ⟨d1, h1, h2⟩ := scan_row x (46 :: y) [] 0 0 false hx
  obtain ⟨ds, h3, h4⟩ := scan_row y [] d1 0 (0 + x.length) true hy
  have h5 : scanD (46 :: y) d1 0 (0 + x.length) false = scanD y d1 0 (0 + x.length) true := by
    rw [scanD, if_neg (by decide), if_pos (by decide)]
  rw [List.append_nil] at h3
  simp only [Bool.false_eq_true, if_false] at h1
  rw [h5, h3] at h1
  have hg := scan_good (x ++ 46 :: y) [] 0 0 false ⟨by simp, by simp⟩
  rw [h1] at hg
  refine ⟨ds, ?_, by rw [h4, h2, valT_append]; simp [valD], hg.1⟩
  unfold decR
  rw [ba_of, h1]
  have hl : 0 < x.length := List.length_pos_iff.2 hne
  have h0 : ¬ (0 + x.length + y.length = 0) := by omega
  simp only [scanD, if_neg h0, if_true]
  congr 2
  omega
theorem expR_plus {l : List UInt8} (h : ∀ b ∈ l, isD b) (hne : l ≠ []) (hle : valT l ≤ 1048576) : expR ⟨(43 :: l).toArray⟩ = (((valT l : Nat) : Int), true) := by
  have hc : cutB ⟨(43 :: l).toArray⟩ = (⟨l.toArray⟩, false) := by
    unfold cutB hdB
    rw [dif_pos (by simp [ByteArray.size])]
    have e : (⟨(43 :: l).toArray⟩ : ByteArray)[0]'(by simp [ByteArray.size]) = 43 := rfl
    have e2 : (43 : UInt8).toNat = 43 := rfl
    rw [e, e2, if_pos (Or.inr rfl)]
    congr 1
    apply ByteArray.ext
    simp [ByteArray.size]
  unfold expR
  rw [hc]
  have hs : ¬ (⟨l.toArray⟩ : ByteArray).size = 0 := by
    cases l with
    | nil => exact absurd rfl hne
    | cons b t => simp [ByteArray.size]
  simp only
  rw [if_neg hs, expF_row l 0 h (by omega)]
  simp
/-- A text that begins with '-' and a digit. -/
theorem parse_minus {b : UInt8} {t : List UInt8} (hb : isD b) (hl : t.length < 399) : parseR ⟨(45 :: b :: t).toArray⟩ = match decR ⟨(b :: t).toArray⟩ with
    | none => (0, 8)
    | some (ds, p) => (nearN ds p + 9223372036854775808, 0) := by
  unfold isD at hb
  have hc : cutB ⟨(45 :: b :: t).toArray⟩ = (⟨(b :: t).toArray⟩, true) := by
    unfold cutB hdB
    rw [dif_pos (by simp [ByteArray.size])]
    have e : (⟨(45 :: b :: t).toArray⟩ : ByteArray)[0]'(by simp [ByteArray.size]) = 45 := rfl
    have e2 : (45 : UInt8).toNat = 45 := rfl
    rw [e, e2, if_pos (Or.inl rfl)]
    congr 1
    apply ByteArray.ext
    simp [ByteArray.size]
  have hlow : low b = b := by unfold low; rw [if_neg (by omega)]
  unfold parseR
  have hsz : ¬ 400 < (⟨(45 :: b :: t).toArray⟩ : ByteArray).size := by simp [ByteArray.size]; omega
  rw [if_neg hsz, hc]
  have hm : (⟨(b :: t).toArray⟩ : ByteArray).data.toList.map low = b :: t.map low := by rw [ba_of, List.map_cons, hlow]
  show (if (⟨(b :: t).toArray⟩ : ByteArray).data.toList.map low = [110, 97, 110] then _ else _) = _
  rw [hm]
  generalize t.map low = tl
  have n1 : ∀ x : UInt8, 97 ≤ x.toNat → b ≠ x := fun x hx e => by subst e; omega
  rw [if_neg (fun h => n1 110 (by decide) (List.cons.inj h).1), if_neg (fun h => h.elim (fun h => n1 105 (by decide) (List.cons.inj h).1) (fun h => n1 105 (by decide) (List.cons.inj h).1))]
  have sg : ∀ n, sgB true n = n + 9223372036854775808 := fun n => rfl
  simp only [sg]
  cases decR ⟨(b :: t).toArray⟩ with
  | none => rfl
  | some x => rfl
end Go.Proofs.YtididjnijadphaaDoor
