/- NumNearest. -/
import Derived.Test.YtinfnkhghmcelaaDoorMIc
import Derived.Test.YtinfnkhghmcelaaDoorMDw
import Derived.Test.YtinfnkhghmcelaaDoorMId
import Derived.Test.YtinfnkhghmcelaaDoorMIe
import Derived.Test.YtinfnkhghmcelaaDoorMGw
namespace Go.Proofs.YtinfnkhghmcelaaDoor
open Go.RowKit Go.Maps

theorem ba_size (T : List UInt8) : (⟨T.toArray⟩ : ByteArray).size = T.length := by simp [ByteArray.size]

set_option maxRecDepth 100000 in
set_option maxHeartbeats 4000000 in
theorem nearest_core (m : Nat) (e : Int) (w : World) (hm : m < 18446744073709551616) (he1 : -9223372036854775808 ≤ e) (he2 : e ≤ 9223372036854775807) (hU : Units w) :
    Calls Tryd.prog 5 #[.int .u64 m, .int .i64 e] w fun e w' => e = .returned (.bool true) ∧ Below w.heap.size w w' := by
  have HU : Hid (Units w) := hU
  obtain ⟨M, hM⟩ : ∃ M : Nat, M = m % 4503599627370496 + 4503599627370496 := ⟨_, rfl⟩
  have hMi : (m : Int) % 4503599627370496 + 4503599627370496 = (M : Int) := by omega
  have hM1 : 4503599627370496 ≤ M := by omega
  have hM2 : M < 9007199254740992 := by omega
  obtain ⟨E, hE⟩ : ∃ E : Nat, (E : Int) = e % 40 := ⟨(e % 40).toNat, by omega⟩
  have hE2 : E ≤ 100 := by omega
  have HWI : Hid (∀ W : World, Calls Tryd.prog 15 #[.int .i64 e, .int .i64 40] W fun e w' => e = .returned (.int .i64 E) ∧ w' = W) := fun W => by
    rw [hE]
    exact keepWithin_any e 40 W (by decide) (by decide) he1 he2
  have HDG : Hid (∀ W : World, Calls Tryd.prog 16 #[.int .u64 (2 * (M : Int) + 1), .int .i64 E] W fun x w' => (∃ T : List UInt8, x = .returned (.string ⟨T.toArray⟩) ∧ (∀ b ∈ T, isD b) ∧ T ≠ [] ∧ T.length ≤ 130 ∧ valT T = (2 * M + 1) * 2 ^ E) ∧ Below W.heap.size W w') := fun W => by
    have h9 := lawDigits_any (2 * M + 1) E W (by omega) (by omega) hE2
    rw [show ((2 * M + 1 : Nat) : Int) = 2 * (M : Int) + 1 by omega] at h9
    exact h9
  obtain ⟨ra, hra⟩ : ∃ ra, ra = rawM M E := ⟨_, rfl⟩
  obtain ⟨rb, hrb⟩ : ∃ rb, rb = rawM M E + 1 := ⟨_, rfl⟩
  have HSA : Hid (∀ W : World, Calls Tryd.prog 17 #[.int .u64 M, .int .i64 E] W fun x w' => x = .returned (.float .f64 ra) ∧ w' = W) := fun W => scaled_any M E ra W hra hM1 (by omega) hE2
  have HSB : Hid (∀ W : World, Calls Tryd.prog 17 #[.int .u64 ((M : Int) + 1), .int .i64 E] W fun x w' => x = .returned (.float .f64 rb) ∧ w' = W) := fun W => by
    have h9 := scaled_any (M + 1) E rb W (by rw [hrb, raw_one]; rfl) (by omega) (by omega) hE2
    rw [show ((M + 1 : Nat) : Int) = (M : Int) + 1 by omega] at h9
    exact h9
  have HTX : Hid (∀ T T' : List UInt8, (∀ b ∈ T, isD b) → T ≠ [] → T.length ≤ 130 → valT T = (2 * M + 1) * 2 ^ E → (∀ b ∈ T', isD b) → T'.length = T.length → valT T' + 1 = valT T → parseR ⟨T.toArray⟩ = ((if M % 2 = 1 then rb else ra), 0) ∧ parseR (⟨T.toArray⟩ ++ ⟨#[46, 49]⟩) = (rb, 0) ∧ parseR (⟨T'.toArray⟩ ++ ⟨#[46, 57]⟩) = (ra, 0)) := by
    intro T T' h1 h2 h3 h4 h5 h6 h7
    have n2 : T' ≠ [] := fun e9 => by
      rw [e9] at h6
      exact h2 (List.eq_nil_of_length_eq_zero h6.symm)
    refine ⟨?_, ?_, ?_⟩
    · refine parse_int h1 h2 (by omega) ?_
      rw [hra, hrb]
      exact near_mid hM1 hM2 hE2 h4
    · have h8 := parse_frac (d := 49) h1 h2 (by omega) (by unfold isD; decide) (R := rb) (by rw [hrb]; exact near_more hM1 hM2 hE2 h4)
      have h9 := ba_join T [46, 49]
      rw [← h9] at h8
      exact h8
    · have h8 := parse_frac (x := T') (d := 57) h5 n2 (by omega) (by unfold isD; decide) (R := ra) (by
        rw [hra]
        have h10 := near_less hM1 hM2 hE2 h4
        rw [show valT T' * 10 + ((57 : UInt8).toNat - 48) = valT T * 10 - 1 by
          rw [show (57 : UInt8).toNat - 48 = 9 from rfl]
          omega]
        exact h10)
      have h9 := ba_join T' [46, 57]
      rw [← h9] at h8
      exact h8
  have HKB : Hid (∀ (W : World) (x : Nat), Calls Tryd.prog 8 #[.float .f64 x, .float .f64 x] W fun e w' => e = .returned (.bool true) ∧ w' = W) := fun W x => by
    have h := keepBits_any x x W
    rw [decide_eq_true rfl] at h
    exact h
  have HLE : Hid (∀ (T : List UInt8) (W : World), (∀ b ∈ T, isD b) → T.length ≤ 130 → valT T = (2 * M + 1) * 2 ^ E → Calls Tryd.prog 18 #[.string ⟨T.toArray⟩] W fun e w' => (∃ T' : List UInt8, e = .returned (.string ⟨T'.toArray⟩) ∧ (∀ b ∈ T', isD b) ∧ T'.length = T.length ∧ valT T' + 1 = valT T) ∧ Below W.heap.size W w') := fun T W h1 h2 h3 => less_any T W h1 (by omega) (by rw [h3]; exact Nat.mul_pos (by omega) (Nat.pow_pos (by decide)))
  clear hra hrb hM hE he1 he2 hU
  by_cases hod : M % 2 = 1
  · have hoi : (M : Int) % 2 = 1 := by omega
    simp only [if_pos hod] at HTX
    clear hod
    go_enter Tryd.func5, Tryd.ntmps5
    go_wp2_with (first
      | (go_at_call 15; refine (HWI.out _).mono ?_; clear HWI; rintro e9 w1 ⟨rfl, hw1⟩; have hw1 := hw1.symm; subst hw1)
      | (go_at_call 16; refine (HDG.out _).mono ?_; clear HDG; rintro e9 w2 ⟨⟨T, rfl, hT1, hT2, hT3, hT4⟩, hb2⟩; have HBL : Hid (Below w.heap.size w w2) := hb2; have HT : Hid ((∀ b ∈ T, isD b) ∧ T ≠ [] ∧ T.length ≤ 130 ∧ valT T = (2 * M + 1) * 2 ^ E) := ⟨hT1, hT2, hT3, hT4⟩; obtain ⟨TS, hTS⟩ : ∃ TS : ByteArray, TS = ⟨T.toArray⟩ := ⟨_, rfl⟩; have hz : TS.size ≤ 130 := (by rw [hTS, ba_size]; exact hT3); have HTS : Hid (TS = ⟨T.toArray⟩) := hTS; rw [← hTS]; have HLX : Hid (∀ W : World, Calls Tryd.prog 18 #[.string TS] W fun e w' => (∃ T' : List UInt8, e = .returned (.string ⟨T'.toArray⟩) ∧ (∀ b ∈ T', isD b) ∧ T'.length = T.length ∧ valT T' + 1 = valT T) ∧ Below W.heap.size W w') := (fun W => by rw [hTS]; exact HLE.out T W hT1 hT3 hT4); have hz1 : TS.size ≤ maxLen := (by unfold maxLen; omega); have hz2 : (TS ++ (⟨#[46, 49]⟩ : ByteArray)).size ≤ maxLen := (by rw [ByteArray.size_append]; unfold maxLen; show TS.size + 2 ≤ _; omega); clear hTS hT1 hT2 hT3 hT4 hb2)
      | (go_at_call 17; (first | (refine (HSA.out _).mono ?_; clear HSA) | (refine (HSB.out _).mono ?_; clear HSB)); rintro e9 w3 ⟨rfl, hw3⟩; have hw3 := hw3.symm; subst hw3)
      | (go_at_call 6; refine (parse_any _ _ (by assumption)).mono ?_; rintro e9 w4 ⟨rfl, hb4⟩; have HB4 : Hid (Below w.heap.size w w4) := HBL.out.trans (hb4.mono HBL.out.size); clear HBL hb4; have HBL : Hid (Below w.heap.size w w4) := HB4.out; clear HB4)
      | (go_at_call 18; refine (HLX.out _).mono ?_; clear HLX; rintro e9 w5 ⟨⟨T', rfl, hS1, hS2, hS3⟩, hb5⟩; have HB5 : Hid (Below w.heap.size w w5) := HBL.out.trans (hb5.mono HBL.out.size); clear HBL hb5; have HBL : Hid (Below w.heap.size w w5) := HB5.out; clear HB5; obtain ⟨pr1, pr2, pr3⟩ := HTX.out T T' HT.out.1 HT.out.2.1 HT.out.2.2.1 HT.out.2.2.2 hS1 hS2 hS3; obtain ⟨TL, hTL⟩ : ∃ TL : ByteArray, TL = ⟨T'.toArray⟩ := ⟨_, rfl⟩; have hzl : TL.size ≤ 130 := (by rw [hTL, ba_size, hS2]; exact HT.out.2.2.1); rw [← hTL] at pr3 ⊢; rw [← HTS.out] at pr1 pr2; have hz3 : (TL ++ (⟨#[46, 57]⟩ : ByteArray)).size ≤ maxLen := (by rw [ByteArray.size_append]; unfold maxLen; show TL.size + 2 ≤ _; omega); clear hTL hS1 hS2 hS3)
      | (go_at_call 8; refine (HKB.out _ _).mono ?_; rintro e9 w6 ⟨rfl, hw6⟩; have hw6 := hw6.symm; subst hw6)
      | (go_at_call 9; refine (wakes_any _ (HU.out.below HBL.out)).mono ?_; rintro e9 w7 ⟨rfl, hb7⟩; have HB7 : Hid (Below w.heap.size w w7) := HBL.out.trans (hb7.mono HBL.out.size); clear hb7))
    go_ret
    exact ⟨rfl, HB7.out⟩
  · have hoi : (M : Int) % 2 = 0 := by omega
    simp only [if_neg hod] at HTX
    clear hod
    go_enter Tryd.func5, Tryd.ntmps5
    go_wp2_with (first
      | (go_at_call 15; refine (HWI.out _).mono ?_; clear HWI; rintro e9 w1 ⟨rfl, hw1⟩; have hw1 := hw1.symm; subst hw1)
      | (go_at_call 16; refine (HDG.out _).mono ?_; clear HDG; rintro e9 w2 ⟨⟨T, rfl, hT1, hT2, hT3, hT4⟩, hb2⟩; have HBL : Hid (Below w.heap.size w w2) := hb2; have HT : Hid ((∀ b ∈ T, isD b) ∧ T ≠ [] ∧ T.length ≤ 130 ∧ valT T = (2 * M + 1) * 2 ^ E) := ⟨hT1, hT2, hT3, hT4⟩; obtain ⟨TS, hTS⟩ : ∃ TS : ByteArray, TS = ⟨T.toArray⟩ := ⟨_, rfl⟩; have hz : TS.size ≤ 130 := (by rw [hTS, ba_size]; exact hT3); have HTS : Hid (TS = ⟨T.toArray⟩) := hTS; rw [← hTS]; have HLX : Hid (∀ W : World, Calls Tryd.prog 18 #[.string TS] W fun e w' => (∃ T' : List UInt8, e = .returned (.string ⟨T'.toArray⟩) ∧ (∀ b ∈ T', isD b) ∧ T'.length = T.length ∧ valT T' + 1 = valT T) ∧ Below W.heap.size W w') := (fun W => by rw [hTS]; exact HLE.out T W hT1 hT3 hT4); have hz1 : TS.size ≤ maxLen := (by unfold maxLen; omega); have hz2 : (TS ++ (⟨#[46, 49]⟩ : ByteArray)).size ≤ maxLen := (by rw [ByteArray.size_append]; unfold maxLen; show TS.size + 2 ≤ _; omega); clear hTS hT1 hT2 hT3 hT4 hb2)
      | (go_at_call 17; (first | (refine (HSA.out _).mono ?_; clear HSA) | (refine (HSB.out _).mono ?_; clear HSB)); rintro e9 w3 ⟨rfl, hw3⟩; have hw3 := hw3.symm; subst hw3)
      | (go_at_call 6; refine (parse_any _ _ (by assumption)).mono ?_; rintro e9 w4 ⟨rfl, hb4⟩; have HB4 : Hid (Below w.heap.size w w4) := HBL.out.trans (hb4.mono HBL.out.size); clear HBL hb4; have HBL : Hid (Below w.heap.size w w4) := HB4.out; clear HB4)
      | (go_at_call 18; refine (HLX.out _).mono ?_; clear HLX; rintro e9 w5 ⟨⟨T', rfl, hS1, hS2, hS3⟩, hb5⟩; have HB5 : Hid (Below w.heap.size w w5) := HBL.out.trans (hb5.mono HBL.out.size); clear HBL hb5; have HBL : Hid (Below w.heap.size w w5) := HB5.out; clear HB5; obtain ⟨pr1, pr2, pr3⟩ := HTX.out T T' HT.out.1 HT.out.2.1 HT.out.2.2.1 HT.out.2.2.2 hS1 hS2 hS3; obtain ⟨TL, hTL⟩ : ∃ TL : ByteArray, TL = ⟨T'.toArray⟩ := ⟨_, rfl⟩; have hzl : TL.size ≤ 130 := (by rw [hTL, ba_size, hS2]; exact HT.out.2.2.1); rw [← hTL] at pr3 ⊢; rw [← HTS.out] at pr1 pr2; have hz3 : (TL ++ (⟨#[46, 57]⟩ : ByteArray)).size ≤ maxLen := (by rw [ByteArray.size_append]; unfold maxLen; show TL.size + 2 ≤ _; omega); clear hTL hS1 hS2 hS3)
      | (go_at_call 8; refine (HKB.out _ _).mono ?_; rintro e9 w6 ⟨rfl, hw6⟩; have hw6 := hw6.symm; subst hw6)
      | (go_at_call 9; refine (wakes_any _ (HU.out.below HBL.out)).mono ?_; rintro e9 w7 ⟨rfl, hb7⟩; have HB7 : Hid (Below w.heap.size w w7) := HBL.out.trans (hb7.mono HBL.out.size); clear hb7))
    go_ret
    exact ⟨rfl, HB7.out⟩
theorem nearest_w (m e : Int) (W : World) (hm : 0 ≤ m ∧ m ≤ 18446744073709551615) (he : -9223372036854775808 ≤ e ∧ e ≤ 9223372036854775807) (h : Units W ∧ Pow W) :
    Calls Tryd.prog 5 #[.int .u64 m, .int .i64 e] W fun e w' => e = .returned (.bool true) ∧ Below W.heap.size W w' := by
  obtain ⟨n, rfl⟩ : ∃ n : Nat, m = n := ⟨m.toNat, by omega⟩
  exact nearest_core n e W (by omega) he.1 he.2 h.1
end Go.Proofs.YtinfnkhghmcelaaDoor
