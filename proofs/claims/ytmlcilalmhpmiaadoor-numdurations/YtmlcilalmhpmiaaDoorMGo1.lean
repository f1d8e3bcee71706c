/- Seconds, both ways. -/
import Derived.Test.YtmlcilalmhpmiaaDoorMGh
import Derived.Test.YtmlcilalmhpmiaaDoorSu
namespace Go.Proofs.YtmlcilalmhpmiaaDoor
open Go.RowKit Go.Maps

theorem dg_nat {n : Nat} (h : n < 10) : (dg n).toNat = 48 + n := by
  unfold dg
  rw [UInt8.toNat_ofNat']
  omega
theorem tail_list (x : UInt8) (l : List UInt8) : (⟨(x :: l).toArray⟩ : ByteArray).extract 1 (⟨(x :: l).toArray⟩ : ByteArray).size = ⟨l.toArray⟩ := by
  rw [ext_list]
  congr 2
  simp [ByteArray.size]
theorem trimR_any (r : Nat) (h0 : 0 < r) (h : r < 1000) (w : World) : Calls Tryd.prog 67 #[.string ⟨(pad3 r).toArray⟩, .string ⟨#[48]⟩] w fun e w' => e = .returned (.string ⟨(trim3 r).toArray⟩) ∧ w' = w := by
  have h1 := Any.strings_TrimRight_one Tryd.lays162 ⟨(pad3 r).toArray⟩ 48 (by decide) w (by simp [ByteArray.size, pad3])
  rw [← trim_pad h0 h]
  exact h1
def sgnT (ms : Int) : List UInt8 := if ms < 0 then [45] else []

set_option maxRecDepth 100000 in
set_option maxHeartbeats 1000000 in
theorem seconds_any (ms : Int) (w : World) (h1 : -9223372036854775808 ≤ ms) (h2 : ms ≤ 9223372036854775807) (hP : Pow w) : Calls Tryd.prog 29 #[.int .i64 ms] w fun e w' => e = .returned (.string ⟨(secT ms).toArray⟩) ∧ Below w.heap.size w w' := by
  obtain ⟨n, hn⟩ : ∃ n, n = ms.natAbs := ⟨_, rfl⟩
  have HSZ : Hid (∀ W : World, Calls Tryd.prog 63 #[.int .i64 ms] W fun e w' => e = .returned (.int .u64 (n : Nat)) ∧ w' = W) := fun W => by rw [hn]; exact size_any ms W h1 h2
  have hn2 : n ≤ 9223372036854775808 := by omega
  obtain ⟨Q, hQ⟩ : ∃ Q, Q = n / 1000 := ⟨_, rfl⟩
  obtain ⟨r, hr⟩ : ∃ r, r = n % 1000 := ⟨_, rfl⟩
  have hr3 : r < 1000 := by omega
  have hQ1 : (n : Int) / 1000 = (Q : Int) := by omega
  have hR1 : (n : Int) % 1000 = (r : Int) := by omega
  have HSEC : Hid (secT ms = sgnT ms ++ Lib.decDigits Q ++ (if r = 0 then [] else 46 :: trim3 r)) := by
    show _ = _
    unfold secT sgnT
    rw [← hn, ← hQ, ← hr]
  have HFU : Hid (∀ i : Nat, i < 18446744073709551616 → ∀ W : World, Below w.heap.size w W → Calls Tryd.prog 65 #[.int .u64 i, .int .i64 10] W fun e w' => e = .returned (.string ⟨(Lib.decDigits i).toArray⟩) ∧ Below W.heap.size W w') := fun i hi W hb => fu_any i hi W (hP.below hb)
  have hfq := fun W hb => HFU.out Q (by omega) W hb
  have HFQ : Hid (∀ W : World, Below w.heap.size w W → Calls Tryd.prog 65 #[.int .u64 (Q : Nat), .int .i64 10] W fun e w' => e = .returned (.string ⟨(Lib.decDigits Q).toArray⟩) ∧ Below W.heap.size W w') := hfq
  have hdl : (Lib.decDigits Q).length ≤ 20 := dec_len _ (by omega)
  have hqs : (⟨(Lib.decDigits Q).toArray⟩ : ByteArray).size ≤ 20 := by simp [ByteArray.size]; omega
  clear hfq hQ hr hn hP hdl
  by_cases hneg : ms < 0
  · by_cases hr0 : r = 0
    · subst hr0
      have HJ : Hid ((⟨#[45]⟩ : ByteArray) ++ ⟨(Lib.decDigits Q).toArray⟩ = ⟨(secT ms).toArray⟩) := by
        show _ = _
        rw [HSEC.out]
        unfold sgnT
        rw [if_pos hneg, if_pos rfl, List.append_nil]
        exact ba_join [45] _
      clear HSEC HFU
      generalize (⟨(Lib.decDigits Q).toArray⟩ : ByteArray) = QS at *
      go_enter Tryd.func29, Tryd.ntmps29
      go_wp2_with (first
        | (go_at_call 63; refine (HSZ.out _).mono ?_; rintro e w2 ⟨rfl, hw2⟩; have hw2 := hw2.symm; subst hw2)
        | (go_at_call 65; refine (HFQ.out _ (Below.refl _ _)).mono ?_; clear HFQ; rintro e w3 ⟨rfl, hb3⟩; have HB3 : Hid (Below _ _ w3) := hb3; clear hb3))
      go_ret
      exact ⟨by rw [← HJ.out]; first | rfl | simp, HB3.out⟩
    · have HJ : Hid ((⟨#[45]⟩ : ByteArray) ++ ⟨(Lib.decDigits Q).toArray⟩ ++ ⟨#[46]⟩ ++ ⟨(trim3 r).toArray⟩ = ⟨(secT ms).toArray⟩) := by
        show _ = _
        rw [HSEC.out]
        unfold sgnT
        rw [if_pos hneg, if_neg hr0]
        refine (congrArg (· ++ (⟨(trim3 r).toArray⟩ : ByteArray)) (ba_join3 [45] (Lib.decDigits Q) [46])).trans ?_
        refine (ba_join _ (trim3 r)).trans ?_
        congr 2
        simp
      have htr := trimR_any r (by omega) hr3
      have hf4 := fun W hb => HFU.out (1000 + r) (by omega) W hb
      have hext := tail_list 49 (pad3 r)
      have hts : (⟨(trim3 r).toArray⟩ : ByteArray).size ≤ 3 := by
        rw [sizeL]
        unfold trim3 pad3
        split
        · simp
        · split <;> simp
      have hps : 1 ≤ (⟨(49 :: pad3 r).toArray⟩ : ByteArray).size := by rw [sizeL]; simp
      have hps2 : (⟨(49 :: pad3 r).toArray⟩ : ByteArray).size ≤ 4 := by rw [sizeL]; exact Nat.le_refl 4
      rw [dec_1000 hr3] at hf4
      have hr0i : ((r : Int) == 0) = false := by rw [beq_eq_false_iff_ne]; omega
      obtain ⟨fz, hfz1, hfz2⟩ : ∃ fz : Int → ByteArray, fz (Q : Int) = ⟨(Lib.decDigits Q).toArray⟩ ∧ fz (1000 + (r : Int)) = ⟨(Lib.decDigits (1000 + r)).toArray⟩ := ⟨fun z => ⟨(Lib.decDigits z.toNat).toArray⟩, by simp, by show (⟨(Lib.decDigits (1000 + (r : Int)).toNat).toArray⟩ : ByteArray) = _; rw [show (1000 + (r : Int)).toNat = 1000 + r by omega]⟩
      have HFX : Hid (∀ z : Int, (z = Q ∨ z = 1000 + (r : Int)) → ∀ W : World, Below w.heap.size w W → Calls Tryd.prog 65 #[.int .u64 z, .int .i64 10] W fun e w' => e = .returned (.string (fz z)) ∧ Below W.heap.size W w') := fun z hz W hb => by
        rcases hz with rfl | rfl
        · rw [hfz1]
          exact HFQ.out W hb
        · rw [hfz2]
          have h9 := HFU.out (1000 + r) (by omega) W hb
          rw [show (((1000 + r : Nat)) : Int) = 1000 + (r : Int) by omega] at h9
          exact h9
      rw [dec_1000 hr3] at hfz2
      have HTR : Hid (∀ W : World, Calls Tryd.prog 67 #[.string ⟨(pad3 r).toArray⟩, .string ⟨#[48]⟩] W fun e w' => e = .returned (.string ⟨(trim3 r).toArray⟩) ∧ w' = W) := htr
      have HBL : Hid (Below w.heap.size w w) := Below.refl _ _
      clear HSEC HFU HFQ hf4 htr
      generalize (⟨(Lib.decDigits Q).toArray⟩ : ByteArray) = QS at *
      generalize (⟨(trim3 r).toArray⟩ : ByteArray) = XS at *
      generalize (⟨(49 :: pad3 r).toArray⟩ : ByteArray) = PS at *
      generalize (⟨(pad3 r).toArray⟩ : ByteArray) = TS at *
      go_enter Tryd.func29, Tryd.ntmps29
      go_wp2_with (first
        | (go_at_call 63; refine (HSZ.out _).mono ?_; rintro e w2 ⟨rfl, hw2⟩; have hw2 := hw2.symm; subst hw2)
        | (go_at_call 65; refine (HFX.out _ (by first | exact Or.inl rfl | exact Or.inr rfl) _ HBL.out).mono ?_; rintro e w3 ⟨rfl, hb3⟩; have HB3 : Hid (Below w.heap.size w w3) := HBL.out.trans (hb3.mono HBL.out.size); clear hb3 HBL; have HBL : Hid (Below w.heap.size w w3) := HB3.out; clear HB3)
        | (go_at_call 67; refine (HTR.out _).mono ?_; clear HTR; rintro e w2 ⟨rfl, hw2⟩; have hw2 := hw2.symm; subst hw2))
      go_ret
      exact ⟨by rw [← HJ.out]; first | rfl | simp, HBL.out⟩
  · by_cases hr0 : r = 0
    · subst hr0
      have HJ : Hid ((⟨#[]⟩ : ByteArray) ++ ⟨(Lib.decDigits Q).toArray⟩ = ⟨(secT ms).toArray⟩) := by
        show _ = _
        rw [HSEC.out]
        unfold sgnT
        rw [if_neg hneg, if_pos rfl, List.append_nil]
        exact ba_join [] _
      clear HSEC HFU
      generalize (⟨(Lib.decDigits Q).toArray⟩ : ByteArray) = QS at *
      go_enter Tryd.func29, Tryd.ntmps29
      go_wp2_with (first
        | (go_at_call 63; refine (HSZ.out _).mono ?_; rintro e w2 ⟨rfl, hw2⟩; have hw2 := hw2.symm; subst hw2)
        | (go_at_call 65; refine (HFQ.out _ (Below.refl _ _)).mono ?_; clear HFQ; rintro e w3 ⟨rfl, hb3⟩; have HB3 : Hid (Below _ _ w3) := hb3; clear hb3))
      go_ret
      exact ⟨by rw [← HJ.out]; first | rfl | simp, HB3.out⟩
    · have HJ : Hid ((⟨#[]⟩ : ByteArray) ++ ⟨(Lib.decDigits Q).toArray⟩ ++ ⟨#[46]⟩ ++ ⟨(trim3 r).toArray⟩ = ⟨(secT ms).toArray⟩) := by
        show _ = _
        rw [HSEC.out]
        unfold sgnT
        rw [if_neg hneg, if_neg hr0]
        refine (congrArg (· ++ (⟨(trim3 r).toArray⟩ : ByteArray)) (ba_join3 [] (Lib.decDigits Q) [46])).trans ?_
        refine (ba_join _ (trim3 r)).trans ?_
        congr 2
        simp
      have htr := trimR_any r (by omega) hr3
      have hf4 := fun W hb => HFU.out (1000 + r) (by omega) W hb
      have hext := tail_list 49 (pad3 r)
      have hts : (⟨(trim3 r).toArray⟩ : ByteArray).size ≤ 3 := by
        rw [sizeL]
        unfold trim3 pad3
        split
        · simp
        · split <;> simp
      have hps : 1 ≤ (⟨(49 :: pad3 r).toArray⟩ : ByteArray).size := by rw [sizeL]; simp
      have hps2 : (⟨(49 :: pad3 r).toArray⟩ : ByteArray).size ≤ 4 := by rw [sizeL]; exact Nat.le_refl 4
      rw [dec_1000 hr3] at hf4
      have hr0i : ((r : Int) == 0) = false := by rw [beq_eq_false_iff_ne]; omega
      obtain ⟨fz, hfz1, hfz2⟩ : ∃ fz : Int → ByteArray, fz (Q : Int) = ⟨(Lib.decDigits Q).toArray⟩ ∧ fz (1000 + (r : Int)) = ⟨(Lib.decDigits (1000 + r)).toArray⟩ := ⟨fun z => ⟨(Lib.decDigits z.toNat).toArray⟩, by simp, by show (⟨(Lib.decDigits (1000 + (r : Int)).toNat).toArray⟩ : ByteArray) = _; rw [show (1000 + (r : Int)).toNat = 1000 + r by omega]⟩
      have HFX : Hid (∀ z : Int, (z = Q ∨ z = 1000 + (r : Int)) → ∀ W : World, Below w.heap.size w W → Calls Tryd.prog 65 #[.int .u64 z, .int .i64 10] W fun e w' => e = .returned (.string (fz z)) ∧ Below W.heap.size W w') := fun z hz W hb => by
        rcases hz with rfl | rfl
        · rw [hfz1]
          exact HFQ.out W hb
        · rw [hfz2]
          have h9 := HFU.out (1000 + r) (by omega) W hb
          rw [show (((1000 + r : Nat)) : Int) = 1000 + (r : Int) by omega] at h9
          exact h9
      rw [dec_1000 hr3] at hfz2
      have HTR : Hid (∀ W : World, Calls Tryd.prog 67 #[.string ⟨(pad3 r).toArray⟩, .string ⟨#[48]⟩] W fun e w' => e = .returned (.string ⟨(trim3 r).toArray⟩) ∧ w' = W) := htr
      have HBL : Hid (Below w.heap.size w w) := Below.refl _ _
      clear HSEC HFU HFQ hf4 htr
      generalize (⟨(Lib.decDigits Q).toArray⟩ : ByteArray) = QS at *
      generalize (⟨(trim3 r).toArray⟩ : ByteArray) = XS at *
      generalize (⟨(49 :: pad3 r).toArray⟩ : ByteArray) = PS at *
      generalize (⟨(pad3 r).toArray⟩ : ByteArray) = TS at *
      go_enter Tryd.func29, Tryd.ntmps29
      go_wp2_with (first
        | (go_at_call 63; refine (HSZ.out _).mono ?_; rintro e w2 ⟨rfl, hw2⟩; have hw2 := hw2.symm; subst hw2)
        | (go_at_call 65; refine (HFX.out _ (by first | exact Or.inl rfl | exact Or.inr rfl) _ HBL.out).mono ?_; rintro e w3 ⟨rfl, hb3⟩; have HB3 : Hid (Below w.heap.size w w3) := HBL.out.trans (hb3.mono HBL.out.size); clear hb3 HBL; have HBL : Hid (Below w.heap.size w w3) := HB3.out; clear HB3)
        | (go_at_call 67; refine (HTR.out _).mono ?_; clear HTR; rintro e w2 ⟨rfl, hw2⟩; have hw2 := hw2.symm; subst hw2))
      go_ret
      exact ⟨by rw [← HJ.out]; first | rfl | simp, HBL.out⟩
end Go.Proofs.YtmlcilalmhpmiaaDoor
