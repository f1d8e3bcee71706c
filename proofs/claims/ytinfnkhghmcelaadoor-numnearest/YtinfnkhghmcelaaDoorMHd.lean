/- The document's naturals: times 2 to some power. -/
import Derived.Test.YtinfnkhghmcelaaDoorMHc
namespace Go.Proofs.YtinfnkhghmcelaaDoor
open Go.RowKit Go.Maps

theorem digQ_mono {n m : Nat} (h : n ≤ m) : (digQ n).length ≤ (digQ m).length := by
  rcases Nat.lt_or_ge (digQ m).length (digQ n).length with h1 | h1
  · have := digQ_short h1
    omega
  · exact h1
theorem digQ_nil {n : Nat} : (digQ n).length = 0 ↔ n = 0 := by
  constructor
  · intro h
    rcases Nat.eq_zero_or_pos n with h0 | h0
    · exact h0
    · rw [digQ_pos h0] at h
      simp at h
  · rintro rfl
    rw [digQ_zero]
    rfl
theorem QAt.form {w : World} {v : Value} {N : Nat} (h : QAt w v N) : ∃ a c, v = .slice a (digQ N).length c := by
  obtain ⟨a, c, e, _⟩ := h
  exact ⟨a, c, e⟩

set_option maxRecDepth 100000 in
set_option maxHeartbeats 600000 in
theorem refPow2_any (v : Value) (N n : Nat) (w : World) (h : QAt w v N) (hn : n ≤ 100000) (hl : (digQ (N * 2 ^ n)).length ≤ 40000) :
    Calls Tryd.prog 69 #[v, .int .i64 2, .int .i64 n] w fun e w' => ∃ v', e = .returned v' ∧ QAt w' v' (N * 2 ^ n) ∧ Below w.heap.size w w' := by
  obtain ⟨R, hR⟩ : ∃ R, R = N * 2 ^ n := ⟨_, rfl⟩
  rw [← hR] at hl ⊢
  have HLR : Hid ((digQ R).length ≤ 40000) := hl
  have HR : Hid (R = N * 2 ^ n) := hR
  have HQ0 : Hid (QAt w v N) := h
  obtain ⟨a0, c0, rfl⟩ := h.form
  clear hl hR h
  go_enter Tryd.func69, Tryd.ntmps69
  go_wp2
  go_loopw [0, 2] (fun av nv wr => ∃ (M m l : Nat) (a : Option Addr) (c : Nat), av = .slice a l c ∧ nv = .int .i64 m ∧ m ≤ 100000 ∧ Hid (l = (digQ M).length ∧ QAt wr (.slice a l c) M ∧ M * 2 ^ m = R ∧ Below w.heap.size w wr)) (fun _ nv _ => (intOf nv).toNat)
  case atStart => exact ⟨N, n, _, a0, c0, rfl, rfl, hn, rfl, HQ0.out, HR.out.symm, Below.refl _ _⟩
  case round =>
    clear HQ0
    obtain ⟨M, m, l, a, c, rfl, rfl, hm, HI⟩ := hrel
    have HBL : Hid (Below w.heap.size w wr) := HI.out.2.2.2
    by_cases h13 : 13 ≤ m
    · have h13i : (13 : Int) ≤ m := by omega
      have hMR : M ≤ R := by rw [← HI.out.2.2.1]; exact Nat.le_mul_of_pos_right _ (Nat.pow_pos (by decide))
      have ht := refTimes_nat (.slice a l c) M 8192 0 wr HI.out.2.1 (by decide) (by decide) (by decide) (Nat.le_trans (digQ_mono hMR) (Nat.le_trans HLR.out (by decide)))
      have ht : Calls Tryd.prog 27 #[.slice a l c, .int .i64 8192, .int .i64 0] wr fun e w' => ∃ v', e = .returned v' ∧ QAt w' v' (M * 8192 + 0) ∧ (∃ a c, v' = .slice a (digQ (M * 8192 + 0)).length c) ∧ DRow w' wr.heap.size v' (digQ (M * 8192 + 0)) ∧ Below wr.heap.size wr w' := ht
      have HE : Hid ((M * 8192 + 0) * 2 ^ (m - 13) = R) := by
        show _ = _
        rw [← HI.out.2.2.1, Nat.add_zero, Nat.mul_assoc]
        congr 1
        rw [show (8192 : Nat) = 2 ^ 13 from rfl, ← Nat.pow_add]
        congr 1
        omega
      clear HI hMR
      generalize M * 8192 + 0 = M2 at *
      go_wp2_with (go_at_call 27; refine ht.mono ?_; clear ht; rintro e w1 ⟨v1, rfl, hq1, ⟨a1, c1, rfl⟩, -, hb1⟩; have HQ1 : Hid (QAt w1 (.slice a1 (digQ M2).length c1) M2) := hq1; have HB1 : Hid (Below w.heap.size w w1) := HBL.out.trans (hb1.mono HBL.out.size); clear hq1 hb1; obtain ⟨l1, hl1⟩ : ∃ l1, l1 = (digQ M2).length := ⟨_, rfl⟩; rw [← hl1] at HQ1 ⊢; have HL1 : Hid (l1 = (digQ M2).length) := hl1; clear hl1)
      go_roundw
      case rel => exact ⟨M2, m - 13, l1, a1, c1, rfl, by congr 1; omega, by omega, HL1.out, HQ1.out, HE.out, HB1.out⟩
      case measure => simp [intOf]; omega
    · have h13i : ¬ (13 : Int) ≤ m := by omega
      go_wp2
      go_loopw [0, 7] (fun av iv wu => ∃ (M i l : Nat) (a : Option Addr) (c : Nat), av = .slice a l c ∧ iv = .int .i64 i ∧ i ≤ m ∧ l ≤ 40000 ∧ Hid (l = (digQ M).length ∧ QAt wu (.slice a l c) M ∧ M * 2 ^ (m - i) = R ∧ Below w.heap.size w wu)) (fun _ iv _ => m - (intOf iv).toNat)
      case atStart => exact ⟨M, 0, l, a, c, rfl, rfl, Nat.zero_le _, by rw [HI.out.1]; exact Nat.le_trans (digQ_mono (by rw [← HI.out.2.2.1]; exact Nat.le_mul_of_pos_right _ (Nat.pow_pos (by decide)))) HLR.out, HI.out.1, HI.out.2.1, HI.out.2.2.1, HI.out.2.2.2⟩
      case round =>
        clear HI HBL
        obtain ⟨M, i, l, a, c, rfl, rfl, hi, hl4, HI⟩ := hrel
        have HBL : Hid (Below w.heap.size w wr) := HI.out.2.2.2
        by_cases hlt : i < m
        · have hlti : (i : Int) < m := by omega
          by_cases h0 : l = 0
          · have hM : M = 0 := digQ_nil.1 (by rw [← HI.out.1]; exact h0)
            have HRR : Hid (R = M) := by show _ = _; rw [← HI.out.2.2.1, hM]; simp
            have HQ : Hid (QAt wr (.slice a l c) M) := HI.out.2.1
            have h0i : ¬ (0 : Int) < l := by omega
            clear HI hM h0
            go_wp2
            go_ret
            exact ⟨_, rfl, by rw [HRR.out]; exact HQ.out, HBL.out⟩
          · have h0i : (0 : Int) < l := by omega
            have hMR : M ≤ R := by rw [← HI.out.2.2.1]; exact Nat.le_mul_of_pos_right _ (Nat.pow_pos (by decide))
            have ht := refTimes_nat (.slice a l c) M 2 0 wr HI.out.2.1 (by decide) (by decide) (by decide) (Nat.le_trans (digQ_mono hMR) (Nat.le_trans HLR.out (by decide)))
            have ht : Calls Tryd.prog 27 #[.slice a l c, .int .i64 2, .int .i64 0] wr fun e w' => ∃ v', e = .returned v' ∧ QAt w' v' (M * 2 + 0) ∧ (∃ a c, v' = .slice a (digQ (M * 2 + 0)).length c) ∧ DRow w' wr.heap.size v' (digQ (M * 2 + 0)) ∧ Below wr.heap.size wr w' := ht
            have HE : Hid ((M * 2 + 0) * 2 ^ (m - (i + 1)) = R) := by
              show _ = _
              rw [← HI.out.2.2.1, Nat.add_zero, Nat.mul_assoc]
              congr 1
              rw [show m - i = (m - (i + 1)) + 1 by omega, Nat.pow_succ, Nat.mul_comm]
            have HM2 : Hid ((digQ (M * 2 + 0)).length ≤ 40000) := Nat.le_trans (digQ_mono (by rw [← HE.out]; exact Nat.le_mul_of_pos_right _ (Nat.pow_pos (by decide)))) HLR.out
            clear HI hMR
            generalize M * 2 + 0 = M2 at *
            go_wp2_with (go_at_call 27; refine ht.mono ?_; clear ht; rintro e w1 ⟨v1, rfl, hq1, ⟨a1, c1, rfl⟩, -, hb1⟩; have HQ1 : Hid (QAt w1 (.slice a1 (digQ M2).length c1) M2) := hq1; have HB1 : Hid (Below w.heap.size w w1) := HBL.out.trans (hb1.mono HBL.out.size); clear hq1 hb1; obtain ⟨l1, hl1⟩ : ∃ l1, l1 = (digQ M2).length := ⟨_, rfl⟩; rw [← hl1] at HQ1 ⊢; have HL1 : Hid (l1 = (digQ M2).length) := hl1; clear hl1)
            go_roundw
            case rel => exact ⟨M2, i + 1, l1, a1, c1, rfl, by go_num, by omega, by rw [HL1.out]; exact HM2.out, HL1.out, HQ1.out, HE.out, HB1.out⟩
            case measure => simp [intOf]; omega
        · have hlti : ¬ (i : Int) < m := by omega
          have HRR : Hid (R = M) := by show _ = _; rw [← HI.out.2.2.1, show m - i = 0 by omega]; simp
          have HQ : Hid (QAt wr (.slice a l c) M) := HI.out.2.1
          clear HI
          go_wp2
          go_ret
          exact ⟨_, rfl, by rw [HRR.out]; exact HQ.out, HBL.out⟩
end Go.Proofs.YtinfnkhghmcelaaDoor
