/- How the document writes a duration. -/
import Derived.Test.YtmlcilalmhpmiaaDoorMGi
namespace Go.Proofs.YtmlcilalmhpmiaaDoor
open Go.RowKit Go.Maps

set_option maxRecDepth 100000 in
set_option maxHeartbeats 2000000 in
theorem refDur_pos (ms : Int) (n : Nat) (w : World) (hms : 0 < ms) (_hr1 : -9223372036854775808 ≤ ms) (hr2 : ms ≤ 9223372036854775807) (hna : n = ms.natAbs) :
    Calls Tryd.prog 28 #[.int .i64 ms] w fun e w' => e = .returned (.string ⟨([] ++ (durK n 7).1).toArray⟩) ∧ Below w.heap.size w w' := by
  have h0 : (ms == 0) = false := by rw [beq_eq_false_iff_ne]; omega
  have hmn : ms = (n : Int) := by omega
  have HNB : Hid (n ≤ 9223372036854775807) := by show n ≤ _; omega
  have HMN : Hid (ms = (n : Int)) := hmn
  clear hna hmn
  go_enter Tryd.func28, Tryd.ntmps28
  go_wp2
  go_loopw [0, 3, 5] (fun mv sv iv wr => ∃ k : Nat, k ≤ 7 ∧ iv = .int .i64 k ∧ mv = .int .i64 (((durK n k).2 : Int)) ∧ sv = .string ⟨([] ++ (durK n k).1).toArray⟩ ∧ Hid ((durK n k).1.length ≤ 22 * k ∧ (durK n k).2 ≤ n ∧ (0 < k → (durK n k).2 < 31536000000)) ∧ Hid (Below w.heap.size w wr)) (fun _ _ iv _ => 7 - (intOf iv).toNat)
  case atStart => exact ⟨0, by decide, rfl, by rw [HMN.out]; rfl, rfl, ⟨by simp [durK], Nat.le_refl _, fun h => absurd h (Nat.lt_irrefl 0)⟩, Below.refl _ _⟩
  case round =>
    clear h0 HMN hms hr2
    obtain ⟨k, hk, rfl, rfl, rfl, HI, HBL⟩ := hrel
    rcases (show k = 0 ∨ k = 1 ∨ k = 2 ∨ k = 3 ∨ k = 4 ∨ k = 5 ∨ k = 6 ∨ k = 7 by omega) with rfl | rfl | rfl | rfl | rfl | rfl | rfl | rfl
    · have hst := durK_succ n 0 (by decide) ([121], 31536000000) rfl
      obtain ⟨L, hL⟩ : ∃ L, L = (durK n 0).2 := ⟨_, rfl⟩
      obtain ⟨D, hD⟩ : ∃ D, D = (durK n 0).1 := ⟨_, rfl⟩
      have hI := HI.out
      rw [← hL, ← hD] at hI
      rw [← hL, ← hD]
      obtain ⟨hI1, hI2, hI3⟩ := hI
      have hNB := HNB.out
      obtain ⟨Q, R, hQ, hR, hQ1, hR1, q1, q2, q3, q4⟩ := step_facts L 31536000000 (by omega)
      have hst2 : durK n (0 + 1) = (D ++ (if 0 < Q then Lib.decDigits Q ++ [121] else []), R) := by rw [hst, hQ, hR, hL, hD]; rfl
      have HUN : Hid (Calls Tryd.prog 61 #[.int .i64 0] wr fun e w' => e = .returned (.tuple #[.string ⟨#[121]⟩, .int .i64 31536000000]) ∧ Below wr.heap.size wr w') := refUnit_0 wr
      have hq : ((L : Int)).tdiv 31536000000 = (Q : Int) := q1
      have hr : ((L : Int)).tmod 31536000000 = (R : Int) := q2
      have hR3 : R < 31536000000 := by rw [hR]; exact Nat.mod_lt _ (by decide)
      have HR3 : Hid (R < 31536000000) := hR3
      have hQb : (Q : Int) ≤ 9223372036854775807 := by
        rw [hQ]
        have h8 : L / 31536000000 ≤ L := Nat.div_le_self _ _
        omega
      have hRb : (R : Int) ≤ 9223372036854775807 := by omega
      have hw1 : wrap64 ((Q : Int)) = (Q : Int) := by unfold wrap64; omega
      have hw2 : wrap64 ((R : Int)) = (R : Int) := by unfold wrap64; omega
      have HRL : Hid (R ≤ n) := Nat.le_trans hR1 hI2
      clear hR3 hst hL hD q1 q2 q3 q4 hQ hR HI hI2 hI3 hNB hQ1 hR1
      have HDL : Hid (D.length ≤ 22 * 0) := hI1
      have hds : (⟨([] ++ D).toArray⟩ : ByteArray).size ≤ 200 := by simp [ByteArray.size]; omega
      by_cases hpos : 0 < Q
      · rw [if_pos hpos] at hst2
        have HST : Hid (durK n (0 + 1) = (D ++ (Lib.decDigits Q ++ [121]), R)) := hst2
        have hpl : ∀ W : World, Calls Tryd.prog 45 #[.int .i64 (Q : Int)] W fun e w' => e = .returned (.string ⟨(Lib.decDigits Q).toArray⟩) ∧ Below W.heap.size W w' := fun W => plainRef_any Q (Q : Int) (by omega) (by omega) (by omega) W
        have HPL : Hid (∀ W : World, Calls Tryd.prog 45 #[.int .i64 (Q : Int)] W fun e w' => e = .returned (.string ⟨(Lib.decDigits Q).toArray⟩) ∧ Below W.heap.size W w') := hpl
        have hdd : (Lib.decDigits Q).length ≤ 20 := dec_len _ (by omega)
        have HDD : Hid ((Lib.decDigits Q).length ≤ 20) := hdd
        have hps : (⟨(Lib.decDigits Q).toArray⟩ : ByteArray).size ≤ 20 := by simp [ByteArray.size]; omega
        have HJ : Hid ((⟨([] ++ D).toArray⟩ : ByteArray) ++ ⟨(Lib.decDigits Q).toArray⟩ ++ ⟨#[121]⟩ = ⟨([] ++ (D ++ (Lib.decDigits Q ++ [121]))).toArray⟩) := by
          show _ = _
          refine (ba_join3 _ (Lib.decDigits Q) [121]).trans ?_
          congr 2
          simp
        have hq0 : ((Q : Int) == 0) = false := by rw [beq_eq_false_iff_ne]; omega
        have hq1 : ¬ (Q : Int) = 0 := by omega
        clear hst2 hpl hdd hI1
        generalize (⟨([] ++ D).toArray⟩ : ByteArray) = DS at *
        generalize (⟨(Lib.decDigits Q).toArray⟩ : ByteArray) = PS at *
        go_wp2_with (first
          | (go_at_call 61; refine HUN.out.mono ?_; clear HUN; rintro e w2 ⟨rfl, hb2⟩; have HW2 : Hid (Below w.heap.size w w2) := HBL.out.trans (hb2.mono HBL.out.size); clear hb2)
          | (go_at_call 45; refine (HPL.out _).mono ?_; clear HPL; rintro e w3 ⟨rfl, hb3⟩; have HW3 : Hid (Below w.heap.size w w3) := HW2.out.trans (hb3.mono HW2.out.size); clear hb3))
        go_roundw
        case rel => exact ⟨1, by decide, rfl, by rw [HST.out], by rw [HST.out, ← HJ.out], ⟨by rw [HST.out]; have := HDL.out; have := HDD.out; simp; omega, by rw [HST.out]; exact HRL.out, fun _ => by rw [HST.out]; exact HR3.out⟩, HW3.out⟩
        case measure => simp [intOf]
      · rw [if_neg hpos, List.append_nil] at hst2
        have HST : Hid (durK n (0 + 1) = (D, R)) := hst2
        obtain rfl : Q = 0 := by omega
        clear hst2 hI1 hpos
        generalize hDS : (⟨([] ++ D).toArray⟩ : ByteArray) = DS at *
        have HDS : Hid ((⟨([] ++ D).toArray⟩ : ByteArray) = DS) := hDS
        clear hDS
        go_wp2_with (go_at_call 61; refine HUN.out.mono ?_; clear HUN; rintro e w2 ⟨rfl, hb2⟩; have HW2 : Hid (Below w.heap.size w w2) := HBL.out.trans (hb2.mono HBL.out.size); clear hb2)
        go_roundw
        case rel => exact ⟨1, by decide, rfl, by rw [HST.out], by rw [HST.out, ← HDS.out], ⟨by rw [HST.out]; have := HDL.out; show D.length ≤ _; omega, by rw [HST.out]; exact HRL.out, fun _ => by rw [HST.out]; exact HR3.out⟩, HW2.out⟩
        case measure => simp [intOf]
    · have hst := durK_succ n 1 (by decide) ([119], 604800000) rfl
      obtain ⟨L, hL⟩ : ∃ L, L = (durK n 1).2 := ⟨_, rfl⟩
      obtain ⟨D, hD⟩ : ∃ D, D = (durK n 1).1 := ⟨_, rfl⟩
      have hI := HI.out
      rw [← hL, ← hD] at hI
      rw [← hL, ← hD]
      obtain ⟨hI1, hI2, hI3⟩ := hI
      have hNB := HNB.out
      obtain ⟨Q, R, hQ, hR, hQ1, hR1, q1, q2, q3, q4⟩ := step_facts L 604800000 (by omega)
      have hst2 : durK n (1 + 1) = (D ++ (if 0 < Q then Lib.decDigits Q ++ [119] else []), R) := by rw [hst, hQ, hR, hL, hD]; rfl
      have HUN : Hid (Calls Tryd.prog 61 #[.int .i64 1] wr fun e w' => e = .returned (.tuple #[.string ⟨#[119]⟩, .int .i64 604800000]) ∧ Below wr.heap.size wr w') := refUnit_1 wr
      have hq : ((L : Int)).tdiv 604800000 = (Q : Int) := q1
      have hr : ((L : Int)).tmod 604800000 = (R : Int) := q2
      have hL3 : L < 31536000000 := hI3 (by decide)
      have hR3 : R < 31536000000 := Nat.lt_of_le_of_lt hR1 hL3
      have HR3 : Hid (R < 31536000000) := hR3
      have hQb : (Q : Int) ≤ 9223372036854775807 := by
        rw [hQ]
        have h8 : L / 604800000 ≤ L := Nat.div_le_self _ _
        omega
      have hRb : (R : Int) ≤ 9223372036854775807 := by omega
      have hw1 : wrap64 ((Q : Int)) = (Q : Int) := by unfold wrap64; omega
      have hw2 : wrap64 ((R : Int)) = (R : Int) := by unfold wrap64; omega
      have HRL : Hid (R ≤ n) := Nat.le_trans hR1 hI2
      clear hL3 hR3 hst hL hD q1 q2 q3 q4 hQ hR HI hI2 hI3 hNB hQ1 hR1
      have HDL : Hid (D.length ≤ 22 * 1) := hI1
      have hds : (⟨([] ++ D).toArray⟩ : ByteArray).size ≤ 200 := by simp [ByteArray.size]; omega
      by_cases hpos : 0 < Q
      · rw [if_pos hpos] at hst2
        have HST : Hid (durK n (1 + 1) = (D ++ (Lib.decDigits Q ++ [119]), R)) := hst2
        have hpl : ∀ W : World, Calls Tryd.prog 45 #[.int .i64 (Q : Int)] W fun e w' => e = .returned (.string ⟨(Lib.decDigits Q).toArray⟩) ∧ Below W.heap.size W w' := fun W => plainRef_any Q (Q : Int) (by omega) (by omega) (by omega) W
        have HPL : Hid (∀ W : World, Calls Tryd.prog 45 #[.int .i64 (Q : Int)] W fun e w' => e = .returned (.string ⟨(Lib.decDigits Q).toArray⟩) ∧ Below W.heap.size W w') := hpl
        have hdd : (Lib.decDigits Q).length ≤ 20 := dec_len _ (by omega)
        have HDD : Hid ((Lib.decDigits Q).length ≤ 20) := hdd
        have hps : (⟨(Lib.decDigits Q).toArray⟩ : ByteArray).size ≤ 20 := by simp [ByteArray.size]; omega
        have HJ : Hid ((⟨([] ++ D).toArray⟩ : ByteArray) ++ ⟨(Lib.decDigits Q).toArray⟩ ++ ⟨#[119]⟩ = ⟨([] ++ (D ++ (Lib.decDigits Q ++ [119]))).toArray⟩) := by
          show _ = _
          refine (ba_join3 _ (Lib.decDigits Q) [119]).trans ?_
          congr 2
          simp
        have hq0 : ((Q : Int) == 0) = false := by rw [beq_eq_false_iff_ne]; omega
        have hq1 : ¬ (Q : Int) = 0 := by omega
        clear hst2 hpl hdd hI1
        generalize (⟨([] ++ D).toArray⟩ : ByteArray) = DS at *
        generalize (⟨(Lib.decDigits Q).toArray⟩ : ByteArray) = PS at *
        go_wp2_with (first
          | (go_at_call 61; refine HUN.out.mono ?_; clear HUN; rintro e w2 ⟨rfl, hb2⟩; have HW2 : Hid (Below w.heap.size w w2) := HBL.out.trans (hb2.mono HBL.out.size); clear hb2)
          | (go_at_call 45; refine (HPL.out _).mono ?_; clear HPL; rintro e w3 ⟨rfl, hb3⟩; have HW3 : Hid (Below w.heap.size w w3) := HW2.out.trans (hb3.mono HW2.out.size); clear hb3))
        go_roundw
        case rel => exact ⟨2, by decide, rfl, by rw [HST.out], by rw [HST.out, ← HJ.out], ⟨by rw [HST.out]; have := HDL.out; have := HDD.out; simp; omega, by rw [HST.out]; exact HRL.out, fun _ => by rw [HST.out]; exact HR3.out⟩, HW3.out⟩
        case measure => simp [intOf]
      · rw [if_neg hpos, List.append_nil] at hst2
        have HST : Hid (durK n (1 + 1) = (D, R)) := hst2
        obtain rfl : Q = 0 := by omega
        clear hst2 hI1 hpos
        generalize hDS : (⟨([] ++ D).toArray⟩ : ByteArray) = DS at *
        have HDS : Hid ((⟨([] ++ D).toArray⟩ : ByteArray) = DS) := hDS
        clear hDS
        go_wp2_with (go_at_call 61; refine HUN.out.mono ?_; clear HUN; rintro e w2 ⟨rfl, hb2⟩; have HW2 : Hid (Below w.heap.size w w2) := HBL.out.trans (hb2.mono HBL.out.size); clear hb2)
        go_roundw
        case rel => exact ⟨2, by decide, rfl, by rw [HST.out], by rw [HST.out, ← HDS.out], ⟨by rw [HST.out]; have := HDL.out; show D.length ≤ _; omega, by rw [HST.out]; exact HRL.out, fun _ => by rw [HST.out]; exact HR3.out⟩, HW2.out⟩
        case measure => simp [intOf]
    · have hst := durK_succ n 2 (by decide) ([100], 86400000) rfl
      obtain ⟨L, hL⟩ : ∃ L, L = (durK n 2).2 := ⟨_, rfl⟩
      obtain ⟨D, hD⟩ : ∃ D, D = (durK n 2).1 := ⟨_, rfl⟩
      have hI := HI.out
      rw [← hL, ← hD] at hI
      rw [← hL, ← hD]
      obtain ⟨hI1, hI2, hI3⟩ := hI
      have hNB := HNB.out
      obtain ⟨Q, R, hQ, hR, hQ1, hR1, q1, q2, q3, q4⟩ := step_facts L 86400000 (by omega)
      have hst2 : durK n (2 + 1) = (D ++ (if 0 < Q then Lib.decDigits Q ++ [100] else []), R) := by rw [hst, hQ, hR, hL, hD]; rfl
      have HUN : Hid (Calls Tryd.prog 61 #[.int .i64 2] wr fun e w' => e = .returned (.tuple #[.string ⟨#[100]⟩, .int .i64 86400000]) ∧ Below wr.heap.size wr w') := refUnit_2 wr
      have hq : ((L : Int)).tdiv 86400000 = (Q : Int) := q1
      have hr : ((L : Int)).tmod 86400000 = (R : Int) := q2
      have hL3 : L < 31536000000 := hI3 (by decide)
      have hR3 : R < 31536000000 := Nat.lt_of_le_of_lt hR1 hL3
      have HR3 : Hid (R < 31536000000) := hR3
      have hQb : (Q : Int) ≤ 9223372036854775807 := by
        rw [hQ]
        have h8 : L / 86400000 ≤ L := Nat.div_le_self _ _
        omega
      have hRb : (R : Int) ≤ 9223372036854775807 := by omega
      have hw1 : wrap64 ((Q : Int)) = (Q : Int) := by unfold wrap64; omega
      have hw2 : wrap64 ((R : Int)) = (R : Int) := by unfold wrap64; omega
      have HRL : Hid (R ≤ n) := Nat.le_trans hR1 hI2
      clear hL3 hR3 hst hL hD q1 q2 q3 q4 hQ hR HI hI2 hI3 hNB hQ1 hR1
      have HDL : Hid (D.length ≤ 22 * 2) := hI1
      have hds : (⟨([] ++ D).toArray⟩ : ByteArray).size ≤ 200 := by simp [ByteArray.size]; omega
      by_cases hpos : 0 < Q
      · rw [if_pos hpos] at hst2
        have HST : Hid (durK n (2 + 1) = (D ++ (Lib.decDigits Q ++ [100]), R)) := hst2
        have hpl : ∀ W : World, Calls Tryd.prog 45 #[.int .i64 (Q : Int)] W fun e w' => e = .returned (.string ⟨(Lib.decDigits Q).toArray⟩) ∧ Below W.heap.size W w' := fun W => plainRef_any Q (Q : Int) (by omega) (by omega) (by omega) W
        have HPL : Hid (∀ W : World, Calls Tryd.prog 45 #[.int .i64 (Q : Int)] W fun e w' => e = .returned (.string ⟨(Lib.decDigits Q).toArray⟩) ∧ Below W.heap.size W w') := hpl
        have hdd : (Lib.decDigits Q).length ≤ 20 := dec_len _ (by omega)
        have HDD : Hid ((Lib.decDigits Q).length ≤ 20) := hdd
        have hps : (⟨(Lib.decDigits Q).toArray⟩ : ByteArray).size ≤ 20 := by simp [ByteArray.size]; omega
        have HJ : Hid ((⟨([] ++ D).toArray⟩ : ByteArray) ++ ⟨(Lib.decDigits Q).toArray⟩ ++ ⟨#[100]⟩ = ⟨([] ++ (D ++ (Lib.decDigits Q ++ [100]))).toArray⟩) := by
          show _ = _
          refine (ba_join3 _ (Lib.decDigits Q) [100]).trans ?_
          congr 2
          simp
        have hq0 : ((Q : Int) == 0) = false := by rw [beq_eq_false_iff_ne]; omega
        have hq1 : ¬ (Q : Int) = 0 := by omega
        clear hst2 hpl hdd hI1
        generalize (⟨([] ++ D).toArray⟩ : ByteArray) = DS at *
        generalize (⟨(Lib.decDigits Q).toArray⟩ : ByteArray) = PS at *
        go_wp2_with (first
          | (go_at_call 61; refine HUN.out.mono ?_; clear HUN; rintro e w2 ⟨rfl, hb2⟩; have HW2 : Hid (Below w.heap.size w w2) := HBL.out.trans (hb2.mono HBL.out.size); clear hb2)
          | (go_at_call 45; refine (HPL.out _).mono ?_; clear HPL; rintro e w3 ⟨rfl, hb3⟩; have HW3 : Hid (Below w.heap.size w w3) := HW2.out.trans (hb3.mono HW2.out.size); clear hb3))
        go_roundw
        case rel => exact ⟨3, by decide, rfl, by rw [HST.out], by rw [HST.out, ← HJ.out], ⟨by rw [HST.out]; have := HDL.out; have := HDD.out; simp; omega, by rw [HST.out]; exact HRL.out, fun _ => by rw [HST.out]; exact HR3.out⟩, HW3.out⟩
        case measure => simp [intOf]
      · rw [if_neg hpos, List.append_nil] at hst2
        have HST : Hid (durK n (2 + 1) = (D, R)) := hst2
        obtain rfl : Q = 0 := by omega
        clear hst2 hI1 hpos
        generalize hDS : (⟨([] ++ D).toArray⟩ : ByteArray) = DS at *
        have HDS : Hid ((⟨([] ++ D).toArray⟩ : ByteArray) = DS) := hDS
        clear hDS
        go_wp2_with (go_at_call 61; refine HUN.out.mono ?_; clear HUN; rintro e w2 ⟨rfl, hb2⟩; have HW2 : Hid (Below w.heap.size w w2) := HBL.out.trans (hb2.mono HBL.out.size); clear hb2)
        go_roundw
        case rel => exact ⟨3, by decide, rfl, by rw [HST.out], by rw [HST.out, ← HDS.out], ⟨by rw [HST.out]; have := HDL.out; show D.length ≤ _; omega, by rw [HST.out]; exact HRL.out, fun _ => by rw [HST.out]; exact HR3.out⟩, HW2.out⟩
        case measure => simp [intOf]
    · have hst := durK_succ n 3 (by decide) ([104], 3600000) rfl
      obtain ⟨L, hL⟩ : ∃ L, L = (durK n 3).2 := ⟨_, rfl⟩
      obtain ⟨D, hD⟩ : ∃ D, D = (durK n 3).1 := ⟨_, rfl⟩
      have hI := HI.out
      rw [← hL, ← hD] at hI
      rw [← hL, ← hD]
      obtain ⟨hI1, hI2, hI3⟩ := hI
      have hNB := HNB.out
      obtain ⟨Q, R, hQ, hR, hQ1, hR1, q1, q2, q3, q4⟩ := step_facts L 3600000 (by omega)
      have hst2 : durK n (3 + 1) = (D ++ (if 0 < Q then Lib.decDigits Q ++ [104] else []), R) := by rw [hst, hQ, hR, hL, hD]; rfl
      have HUN : Hid (Calls Tryd.prog 61 #[.int .i64 3] wr fun e w' => e = .returned (.tuple #[.string ⟨#[104]⟩, .int .i64 3600000]) ∧ Below wr.heap.size wr w') := refUnit_3 wr
      have hq : ((L : Int)).tdiv 3600000 = (Q : Int) := q1
      have hr : ((L : Int)).tmod 3600000 = (R : Int) := q2
      have hL3 : L < 31536000000 := hI3 (by decide)
      have hR3 : R < 31536000000 := Nat.lt_of_le_of_lt hR1 hL3
      have HR3 : Hid (R < 31536000000) := hR3
      have hQb : (Q : Int) ≤ 9223372036854775807 := by
        rw [hQ]
        have h8 : L / 3600000 ≤ L := Nat.div_le_self _ _
        omega
      have hRb : (R : Int) ≤ 9223372036854775807 := by omega
      have hw1 : wrap64 ((Q : Int)) = (Q : Int) := by unfold wrap64; omega
      have hw2 : wrap64 ((R : Int)) = (R : Int) := by unfold wrap64; omega
      have HRL : Hid (R ≤ n) := Nat.le_trans hR1 hI2
      clear hL3 hR3 hst hL hD q1 q2 q3 q4 hQ hR HI hI2 hI3 hNB hQ1 hR1
      have HDL : Hid (D.length ≤ 22 * 3) := hI1
      have hds : (⟨([] ++ D).toArray⟩ : ByteArray).size ≤ 200 := by simp [ByteArray.size]; omega
      by_cases hpos : 0 < Q
      · rw [if_pos hpos] at hst2
        have HST : Hid (durK n (3 + 1) = (D ++ (Lib.decDigits Q ++ [104]), R)) := hst2
        have hpl : ∀ W : World, Calls Tryd.prog 45 #[.int .i64 (Q : Int)] W fun e w' => e = .returned (.string ⟨(Lib.decDigits Q).toArray⟩) ∧ Below W.heap.size W w' := fun W => plainRef_any Q (Q : Int) (by omega) (by omega) (by omega) W
        have HPL : Hid (∀ W : World, Calls Tryd.prog 45 #[.int .i64 (Q : Int)] W fun e w' => e = .returned (.string ⟨(Lib.decDigits Q).toArray⟩) ∧ Below W.heap.size W w') := hpl
        have hdd : (Lib.decDigits Q).length ≤ 20 := dec_len _ (by omega)
        have HDD : Hid ((Lib.decDigits Q).length ≤ 20) := hdd
        have hps : (⟨(Lib.decDigits Q).toArray⟩ : ByteArray).size ≤ 20 := by simp [ByteArray.size]; omega
        have HJ : Hid ((⟨([] ++ D).toArray⟩ : ByteArray) ++ ⟨(Lib.decDigits Q).toArray⟩ ++ ⟨#[104]⟩ = ⟨([] ++ (D ++ (Lib.decDigits Q ++ [104]))).toArray⟩) := by
          show _ = _
          refine (ba_join3 _ (Lib.decDigits Q) [104]).trans ?_
          congr 2
          simp
        have hq0 : ((Q : Int) == 0) = false := by rw [beq_eq_false_iff_ne]; omega
        have hq1 : ¬ (Q : Int) = 0 := by omega
        clear hst2 hpl hdd hI1
        generalize (⟨([] ++ D).toArray⟩ : ByteArray) = DS at *
        generalize (⟨(Lib.decDigits Q).toArray⟩ : ByteArray) = PS at *
        go_wp2_with (first
          | (go_at_call 61; refine HUN.out.mono ?_; clear HUN; rintro e w2 ⟨rfl, hb2⟩; have HW2 : Hid (Below w.heap.size w w2) := HBL.out.trans (hb2.mono HBL.out.size); clear hb2)
          | (go_at_call 45; refine (HPL.out _).mono ?_; clear HPL; rintro e w3 ⟨rfl, hb3⟩; have HW3 : Hid (Below w.heap.size w w3) := HW2.out.trans (hb3.mono HW2.out.size); clear hb3))
        go_roundw
        case rel => exact ⟨4, by decide, rfl, by rw [HST.out], by rw [HST.out, ← HJ.out], ⟨by rw [HST.out]; have := HDL.out; have := HDD.out; simp; omega, by rw [HST.out]; exact HRL.out, fun _ => by rw [HST.out]; exact HR3.out⟩, HW3.out⟩
        case measure => simp [intOf]
      · rw [if_neg hpos, List.append_nil] at hst2
        have HST : Hid (durK n (3 + 1) = (D, R)) := hst2
        obtain rfl : Q = 0 := by omega
        clear hst2 hI1 hpos
        generalize hDS : (⟨([] ++ D).toArray⟩ : ByteArray) = DS at *
        have HDS : Hid ((⟨([] ++ D).toArray⟩ : ByteArray) = DS) := hDS
        clear hDS
        go_wp2_with (go_at_call 61; refine HUN.out.mono ?_; clear HUN; rintro e w2 ⟨rfl, hb2⟩; have HW2 : Hid (Below w.heap.size w w2) := HBL.out.trans (hb2.mono HBL.out.size); clear hb2)
        go_roundw
        case rel => exact ⟨4, by decide, rfl, by rw [HST.out], by rw [HST.out, ← HDS.out], ⟨by rw [HST.out]; have := HDL.out; show D.length ≤ _; omega, by rw [HST.out]; exact HRL.out, fun _ => by rw [HST.out]; exact HR3.out⟩, HW2.out⟩
        case measure => simp [intOf]
    · have hst := durK_succ n 4 (by decide) ([109], 60000) rfl
      obtain ⟨L, hL⟩ : ∃ L, L = (durK n 4).2 := ⟨_, rfl⟩
      obtain ⟨D, hD⟩ : ∃ D, D = (durK n 4).1 := ⟨_, rfl⟩
      have hI := HI.out
      rw [← hL, ← hD] at hI
      rw [← hL, ← hD]
      obtain ⟨hI1, hI2, hI3⟩ := hI
      have hNB := HNB.out
      obtain ⟨Q, R, hQ, hR, hQ1, hR1, q1, q2, q3, q4⟩ := step_facts L 60000 (by omega)
      have hst2 : durK n (4 + 1) = (D ++ (if 0 < Q then Lib.decDigits Q ++ [109] else []), R) := by rw [hst, hQ, hR, hL, hD]; rfl
      have HUN : Hid (Calls Tryd.prog 61 #[.int .i64 4] wr fun e w' => e = .returned (.tuple #[.string ⟨#[109]⟩, .int .i64 60000]) ∧ Below wr.heap.size wr w') := refUnit_4 wr
      have hq : ((L : Int)).tdiv 60000 = (Q : Int) := q1
      have hr : ((L : Int)).tmod 60000 = (R : Int) := q2
      have hL3 : L < 31536000000 := hI3 (by decide)
      have hR3 : R < 31536000000 := Nat.lt_of_le_of_lt hR1 hL3
      have HR3 : Hid (R < 31536000000) := hR3
      have hQb : (Q : Int) ≤ 9223372036854775807 := by
        rw [hQ]
        have h8 : L / 60000 ≤ L := Nat.div_le_self _ _
        omega
      have hRb : (R : Int) ≤ 9223372036854775807 := by omega
      have hw1 : wrap64 ((Q : Int)) = (Q : Int) := by unfold wrap64; omega
      have hw2 : wrap64 ((R : Int)) = (R : Int) := by unfold wrap64; omega
      have HRL : Hid (R ≤ n) := Nat.le_trans hR1 hI2
      clear hL3 hR3 hst hL hD q1 q2 q3 q4 hQ hR HI hI2 hI3 hNB hQ1 hR1
      have HDL : Hid (D.length ≤ 22 * 4) := hI1
      have hds : (⟨([] ++ D).toArray⟩ : ByteArray).size ≤ 200 := by simp [ByteArray.size]; omega
      by_cases hpos : 0 < Q
      · rw [if_pos hpos] at hst2
        have HST : Hid (durK n (4 + 1) = (D ++ (Lib.decDigits Q ++ [109]), R)) := hst2
        have hpl : ∀ W : World, Calls Tryd.prog 45 #[.int .i64 (Q : Int)] W fun e w' => e = .returned (.string ⟨(Lib.decDigits Q).toArray⟩) ∧ Below W.heap.size W w' := fun W => plainRef_any Q (Q : Int) (by omega) (by omega) (by omega) W
        have HPL : Hid (∀ W : World, Calls Tryd.prog 45 #[.int .i64 (Q : Int)] W fun e w' => e = .returned (.string ⟨(Lib.decDigits Q).toArray⟩) ∧ Below W.heap.size W w') := hpl
        have hdd : (Lib.decDigits Q).length ≤ 20 := dec_len _ (by omega)
        have HDD : Hid ((Lib.decDigits Q).length ≤ 20) := hdd
        have hps : (⟨(Lib.decDigits Q).toArray⟩ : ByteArray).size ≤ 20 := by simp [ByteArray.size]; omega
        have HJ : Hid ((⟨([] ++ D).toArray⟩ : ByteArray) ++ ⟨(Lib.decDigits Q).toArray⟩ ++ ⟨#[109]⟩ = ⟨([] ++ (D ++ (Lib.decDigits Q ++ [109]))).toArray⟩) := by
          show _ = _
          refine (ba_join3 _ (Lib.decDigits Q) [109]).trans ?_
          congr 2
          simp
        have hq0 : ((Q : Int) == 0) = false := by rw [beq_eq_false_iff_ne]; omega
        have hq1 : ¬ (Q : Int) = 0 := by omega
        clear hst2 hpl hdd hI1
        generalize (⟨([] ++ D).toArray⟩ : ByteArray) = DS at *
        generalize (⟨(Lib.decDigits Q).toArray⟩ : ByteArray) = PS at *
        go_wp2_with (first
          | (go_at_call 61; refine HUN.out.mono ?_; clear HUN; rintro e w2 ⟨rfl, hb2⟩; have HW2 : Hid (Below w.heap.size w w2) := HBL.out.trans (hb2.mono HBL.out.size); clear hb2)
          | (go_at_call 45; refine (HPL.out _).mono ?_; clear HPL; rintro e w3 ⟨rfl, hb3⟩; have HW3 : Hid (Below w.heap.size w w3) := HW2.out.trans (hb3.mono HW2.out.size); clear hb3))
        go_roundw
        case rel => exact ⟨5, by decide, rfl, by rw [HST.out], by rw [HST.out, ← HJ.out], ⟨by rw [HST.out]; have := HDL.out; have := HDD.out; simp; omega, by rw [HST.out]; exact HRL.out, fun _ => by rw [HST.out]; exact HR3.out⟩, HW3.out⟩
        case measure => simp [intOf]
      · rw [if_neg hpos, List.append_nil] at hst2
        have HST : Hid (durK n (4 + 1) = (D, R)) := hst2
        obtain rfl : Q = 0 := by omega
        clear hst2 hI1 hpos
        generalize hDS : (⟨([] ++ D).toArray⟩ : ByteArray) = DS at *
        have HDS : Hid ((⟨([] ++ D).toArray⟩ : ByteArray) = DS) := hDS
        clear hDS
        go_wp2_with (go_at_call 61; refine HUN.out.mono ?_; clear HUN; rintro e w2 ⟨rfl, hb2⟩; have HW2 : Hid (Below w.heap.size w w2) := HBL.out.trans (hb2.mono HBL.out.size); clear hb2)
        go_roundw
        case rel => exact ⟨5, by decide, rfl, by rw [HST.out], by rw [HST.out, ← HDS.out], ⟨by rw [HST.out]; have := HDL.out; show D.length ≤ _; omega, by rw [HST.out]; exact HRL.out, fun _ => by rw [HST.out]; exact HR3.out⟩, HW2.out⟩
        case measure => simp [intOf]
    · have hst := durK_succ n 5 (by decide) ([115], 1000) rfl
      obtain ⟨L, hL⟩ : ∃ L, L = (durK n 5).2 := ⟨_, rfl⟩
      obtain ⟨D, hD⟩ : ∃ D, D = (durK n 5).1 := ⟨_, rfl⟩
      have hI := HI.out
      rw [← hL, ← hD] at hI
      rw [← hL, ← hD]
      obtain ⟨hI1, hI2, hI3⟩ := hI
      have hNB := HNB.out
      obtain ⟨Q, R, hQ, hR, hQ1, hR1, q1, q2, q3, q4⟩ := step_facts L 1000 (by omega)
      have hst2 : durK n (5 + 1) = (D ++ (if 0 < Q then Lib.decDigits Q ++ [115] else []), R) := by rw [hst, hQ, hR, hL, hD]; rfl
      have HUN : Hid (Calls Tryd.prog 61 #[.int .i64 5] wr fun e w' => e = .returned (.tuple #[.string ⟨#[115]⟩, .int .i64 1000]) ∧ Below wr.heap.size wr w') := refUnit_5 wr
      have hq : ((L : Int)).tdiv 1000 = (Q : Int) := q1
      have hr : ((L : Int)).tmod 1000 = (R : Int) := q2
      have hL3 : L < 31536000000 := hI3 (by decide)
      have hR3 : R < 31536000000 := Nat.lt_of_le_of_lt hR1 hL3
      have HR3 : Hid (R < 31536000000) := hR3
      have hQb : (Q : Int) ≤ 9223372036854775807 := by
        rw [hQ]
        have h8 : L / 1000 ≤ L := Nat.div_le_self _ _
        omega
      have hRb : (R : Int) ≤ 9223372036854775807 := by omega
      have hw1 : wrap64 ((Q : Int)) = (Q : Int) := by unfold wrap64; omega
      have hw2 : wrap64 ((R : Int)) = (R : Int) := by unfold wrap64; omega
      have HRL : Hid (R ≤ n) := Nat.le_trans hR1 hI2
      clear hL3 hR3 hst hL hD q1 q2 q3 q4 hQ hR HI hI2 hI3 hNB hQ1 hR1
      have HDL : Hid (D.length ≤ 22 * 5) := hI1
      have hds : (⟨([] ++ D).toArray⟩ : ByteArray).size ≤ 200 := by simp [ByteArray.size]; omega
      by_cases hpos : 0 < Q
      · rw [if_pos hpos] at hst2
        have HST : Hid (durK n (5 + 1) = (D ++ (Lib.decDigits Q ++ [115]), R)) := hst2
        have hpl : ∀ W : World, Calls Tryd.prog 45 #[.int .i64 (Q : Int)] W fun e w' => e = .returned (.string ⟨(Lib.decDigits Q).toArray⟩) ∧ Below W.heap.size W w' := fun W => plainRef_any Q (Q : Int) (by omega) (by omega) (by omega) W
        have HPL : Hid (∀ W : World, Calls Tryd.prog 45 #[.int .i64 (Q : Int)] W fun e w' => e = .returned (.string ⟨(Lib.decDigits Q).toArray⟩) ∧ Below W.heap.size W w') := hpl
        have hdd : (Lib.decDigits Q).length ≤ 20 := dec_len _ (by omega)
        have HDD : Hid ((Lib.decDigits Q).length ≤ 20) := hdd
        have hps : (⟨(Lib.decDigits Q).toArray⟩ : ByteArray).size ≤ 20 := by simp [ByteArray.size]; omega
        have HJ : Hid ((⟨([] ++ D).toArray⟩ : ByteArray) ++ ⟨(Lib.decDigits Q).toArray⟩ ++ ⟨#[115]⟩ = ⟨([] ++ (D ++ (Lib.decDigits Q ++ [115]))).toArray⟩) := by
          show _ = _
          refine (ba_join3 _ (Lib.decDigits Q) [115]).trans ?_
          congr 2
          simp
        have hq0 : ((Q : Int) == 0) = false := by rw [beq_eq_false_iff_ne]; omega
        have hq1 : ¬ (Q : Int) = 0 := by omega
        clear hst2 hpl hdd hI1
        generalize (⟨([] ++ D).toArray⟩ : ByteArray) = DS at *
        generalize (⟨(Lib.decDigits Q).toArray⟩ : ByteArray) = PS at *
        go_wp2_with (first
          | (go_at_call 61; refine HUN.out.mono ?_; clear HUN; rintro e w2 ⟨rfl, hb2⟩; have HW2 : Hid (Below w.heap.size w w2) := HBL.out.trans (hb2.mono HBL.out.size); clear hb2)
          | (go_at_call 45; refine (HPL.out _).mono ?_; clear HPL; rintro e w3 ⟨rfl, hb3⟩; have HW3 : Hid (Below w.heap.size w w3) := HW2.out.trans (hb3.mono HW2.out.size); clear hb3))
        go_roundw
        case rel => exact ⟨6, by decide, rfl, by rw [HST.out], by rw [HST.out, ← HJ.out], ⟨by rw [HST.out]; have := HDL.out; have := HDD.out; simp; omega, by rw [HST.out]; exact HRL.out, fun _ => by rw [HST.out]; exact HR3.out⟩, HW3.out⟩
        case measure => simp [intOf]
      · rw [if_neg hpos, List.append_nil] at hst2
        have HST : Hid (durK n (5 + 1) = (D, R)) := hst2
        obtain rfl : Q = 0 := by omega
        clear hst2 hI1 hpos
        generalize hDS : (⟨([] ++ D).toArray⟩ : ByteArray) = DS at *
        have HDS : Hid ((⟨([] ++ D).toArray⟩ : ByteArray) = DS) := hDS
        clear hDS
        go_wp2_with (go_at_call 61; refine HUN.out.mono ?_; clear HUN; rintro e w2 ⟨rfl, hb2⟩; have HW2 : Hid (Below w.heap.size w w2) := HBL.out.trans (hb2.mono HBL.out.size); clear hb2)
        go_roundw
        case rel => exact ⟨6, by decide, rfl, by rw [HST.out], by rw [HST.out, ← HDS.out], ⟨by rw [HST.out]; have := HDL.out; show D.length ≤ _; omega, by rw [HST.out]; exact HRL.out, fun _ => by rw [HST.out]; exact HR3.out⟩, HW2.out⟩
        case measure => simp [intOf]
    · have hst := durK_succ n 6 (by decide) ([109, 115], 1) rfl
      obtain ⟨L, hL⟩ : ∃ L, L = (durK n 6).2 := ⟨_, rfl⟩
      obtain ⟨D, hD⟩ : ∃ D, D = (durK n 6).1 := ⟨_, rfl⟩
      have hI := HI.out
      rw [← hL, ← hD] at hI
      rw [← hL, ← hD]
      obtain ⟨hI1, hI2, hI3⟩ := hI
      have hNB := HNB.out
      obtain ⟨Q, R, hQ, hR, hQ1, hR1, q1, q2, q3, q4⟩ := step_facts L 1 (by omega)
      have hst2 : durK n (6 + 1) = (D ++ (if 0 < Q then Lib.decDigits Q ++ [109, 115] else []), R) := by rw [hst, hQ, hR, hL, hD]; rfl
      have HUN : Hid (Calls Tryd.prog 61 #[.int .i64 6] wr fun e w' => e = .returned (.tuple #[.string ⟨#[109, 115]⟩, .int .i64 1]) ∧ Below wr.heap.size wr w') := refUnit_6 wr
      have hq : ((L : Int)).tdiv 1 = (Q : Int) := q1
      have hr : ((L : Int)).tmod 1 = (R : Int) := q2
      have hL3 : L < 31536000000 := hI3 (by decide)
      have hR3 : R < 31536000000 := Nat.lt_of_le_of_lt hR1 hL3
      have HR3 : Hid (R < 31536000000) := hR3
      have hQb : (Q : Int) ≤ 9223372036854775807 := by
        rw [hQ]
        have h8 : L / 1 ≤ L := Nat.div_le_self _ _
        omega
      have hRb : (R : Int) ≤ 9223372036854775807 := by omega
      have hw1 : wrap64 ((Q : Int)) = (Q : Int) := by unfold wrap64; omega
      have hw2 : wrap64 ((R : Int)) = (R : Int) := by unfold wrap64; omega
      have HRL : Hid (R ≤ n) := Nat.le_trans hR1 hI2
      clear hL3 hR3 hst hL hD q1 q2 q3 q4 hQ hR HI hI2 hI3 hNB hQ1 hR1
      have HDL : Hid (D.length ≤ 22 * 6) := hI1
      have hds : (⟨([] ++ D).toArray⟩ : ByteArray).size ≤ 200 := by simp [ByteArray.size]; omega
      by_cases hpos : 0 < Q
      · rw [if_pos hpos] at hst2
        have HST : Hid (durK n (6 + 1) = (D ++ (Lib.decDigits Q ++ [109, 115]), R)) := hst2
        have hpl : ∀ W : World, Calls Tryd.prog 45 #[.int .i64 (Q : Int)] W fun e w' => e = .returned (.string ⟨(Lib.decDigits Q).toArray⟩) ∧ Below W.heap.size W w' := fun W => plainRef_any Q (Q : Int) (by omega) (by omega) (by omega) W
        have HPL : Hid (∀ W : World, Calls Tryd.prog 45 #[.int .i64 (Q : Int)] W fun e w' => e = .returned (.string ⟨(Lib.decDigits Q).toArray⟩) ∧ Below W.heap.size W w') := hpl
        have hdd : (Lib.decDigits Q).length ≤ 20 := dec_len _ (by omega)
        have HDD : Hid ((Lib.decDigits Q).length ≤ 20) := hdd
        have hps : (⟨(Lib.decDigits Q).toArray⟩ : ByteArray).size ≤ 20 := by simp [ByteArray.size]; omega
        have HJ : Hid ((⟨([] ++ D).toArray⟩ : ByteArray) ++ ⟨(Lib.decDigits Q).toArray⟩ ++ ⟨#[109, 115]⟩ = ⟨([] ++ (D ++ (Lib.decDigits Q ++ [109, 115]))).toArray⟩) := by
          show _ = _
          refine (ba_join3 _ (Lib.decDigits Q) [109, 115]).trans ?_
          congr 2
          simp
        have hq0 : ((Q : Int) == 0) = false := by rw [beq_eq_false_iff_ne]; omega
        have hq1 : ¬ (Q : Int) = 0 := by omega
        clear hst2 hpl hdd hI1
        generalize (⟨([] ++ D).toArray⟩ : ByteArray) = DS at *
        generalize (⟨(Lib.decDigits Q).toArray⟩ : ByteArray) = PS at *
        go_wp2_with (first
          | (go_at_call 61; refine HUN.out.mono ?_; clear HUN; rintro e w2 ⟨rfl, hb2⟩; have HW2 : Hid (Below w.heap.size w w2) := HBL.out.trans (hb2.mono HBL.out.size); clear hb2)
          | (go_at_call 45; refine (HPL.out _).mono ?_; clear HPL; rintro e w3 ⟨rfl, hb3⟩; have HW3 : Hid (Below w.heap.size w w3) := HW2.out.trans (hb3.mono HW2.out.size); clear hb3))
        go_roundw
        case rel => exact ⟨7, by decide, rfl, by rw [HST.out], by rw [HST.out, ← HJ.out], ⟨by rw [HST.out]; have := HDL.out; have := HDD.out; simp; omega, by rw [HST.out]; exact HRL.out, fun _ => by rw [HST.out]; exact HR3.out⟩, HW3.out⟩
        case measure => simp [intOf]
      · rw [if_neg hpos, List.append_nil] at hst2
        have HST : Hid (durK n (6 + 1) = (D, R)) := hst2
        obtain rfl : Q = 0 := by omega
        clear hst2 hI1 hpos
        generalize hDS : (⟨([] ++ D).toArray⟩ : ByteArray) = DS at *
        have HDS : Hid ((⟨([] ++ D).toArray⟩ : ByteArray) = DS) := hDS
        clear hDS
        go_wp2_with (go_at_call 61; refine HUN.out.mono ?_; clear HUN; rintro e w2 ⟨rfl, hb2⟩; have HW2 : Hid (Below w.heap.size w w2) := HBL.out.trans (hb2.mono HBL.out.size); clear hb2)
        go_roundw
        case rel => exact ⟨7, by decide, rfl, by rw [HST.out], by rw [HST.out, ← HDS.out], ⟨by rw [HST.out]; have := HDL.out; show D.length ≤ _; omega, by rw [HST.out]; exact HRL.out, fun _ => by rw [HST.out]; exact HR3.out⟩, HW2.out⟩
        case measure => simp [intOf]
    · go_wp2
      go_ret
      exact ⟨rfl, HBL.out⟩
set_option maxRecDepth 100000 in
theorem refDur_zero (w : World) : Calls Tryd.prog 28 #[.int .i64 0] w fun e w' => e = .returned (.string ⟨([48, 115] : List UInt8).toArray⟩) ∧ Below w.heap.size w w' := by
  go_enter Tryd.func28, Tryd.ntmps28
  go_wp2
  go_ret
  exact ⟨rfl, Below.refl _ _⟩
theorem refDurText_any (ms : Int) (w : World) (h1 : -9223372036854775808 ≤ ms) (h2 : ms ≤ 9223372036854775807) : Calls Tryd.prog 28 #[.int .i64 ms] w fun e w' => e = .returned (.string ⟨(durT ms).toArray⟩) ∧ Below w.heap.size w w' := by
  unfold durT
  by_cases h0 : ms = 0
  · rw [if_pos h0, h0]
    exact refDur_zero w
  · rw [if_neg h0]
    by_cases hneg : ms < 0
    · rw [if_pos hneg]
      exact refDur_neg ms ms.natAbs w hneg h1 h2 rfl
    · rw [if_neg hneg]
      exact refDur_pos ms ms.natAbs w (by omega) h1 h2 rfl
end Go.Proofs.YtmlcilalmhpmiaaDoor
