/- The document's Text. -/
import Derived.Test.YtinfnkhghmcelaaDoorMFe
namespace Go.Proofs.YtinfnkhghmcelaaDoor
open Go.RowKit Go.Maps

set_option maxRecDepth 100000 in
theorem rtext_nan (x : Nat) (w : World) (h : 9218868437227405312 < x % 9223372036854775808) : Calls Tryd.prog 14 #[.float .f64 x] w fun e w' => e = .returned (.string ⟨(textR x).toArray⟩) ∧ Below w.heap.size w w' := by
  have hse : FloatKind.f64.format.order x x = none := order_nan_left h
  have HT : Hid (textR x = [78, 97, 78]) := by show _ = _; unfold textR; rw [if_pos h]
  clear h
  go_enter Tryd.func14, Tryd.ntmps14
  go_wp2
  go_ret
  exact ⟨by rw [HT.out]; rfl, Below.refl _ _⟩

set_option maxRecDepth 100000 in
set_option maxHeartbeats 1000000 in
theorem rtext_inf_p (x raw : Nat) (w : World) (hx : x < 18446744073709551616) (hraw : raw = x % 9223372036854775808) (hn : ¬ 9223372036854775808 ≤ x) (hk : raw = 9218868437227405312) : Calls Tryd.prog 14 #[.float .f64 x] w fun e w' => e = .returned (.string ⟨(textR x).toArray⟩) ∧ Below w.heap.size w w' := by
  have hfb := floatbits_run
  have hand := andnot_sign hx
  have hd := refDigits_any x w hx
  rw [← hraw] at hand hd
  rw [decide_eq_false hn] at hd
  have hse : FloatKind.f64.format.order x x = some .eq := order_self (by rw [← hraw]; omega)
  have HT : Hid (textR x = [43, 73, 110, 102]) := by
    show _ = _
    unfold textR
    rw [← hraw, if_neg (by omega), if_pos hk, if_neg hn]
  have hi2 : ((raw : Int) == 9218868437227405312) = true := by rw [beq_iff_eq]; omega
  generalize (⟨(dgR raw).1.toArray⟩ : ByteArray) = DS at *
  generalize (dgR raw).2 = E at *
  clear hraw hk
  go_enter Tryd.func14, Tryd.ntmps14
  go_wp2_with (go_at_call 12; refine hd.mono ?_; clear hd; rintro e9 w1 ⟨rfl, hb1⟩; have HB1 : Hid (Below w.heap.size w w1) := hb1; clear hb1)
  go_ret
  exact ⟨by rw [HT.out]; rfl, HB1.out⟩

set_option maxRecDepth 100000 in
set_option maxHeartbeats 1000000 in
theorem rtext_zero_p (x raw : Nat) (w : World) (hx : x < 18446744073709551616) (hraw : raw = x % 9223372036854775808) (hn : ¬ 9223372036854775808 ≤ x) (hk : raw = 0) : Calls Tryd.prog 14 #[.float .f64 x] w fun e w' => e = .returned (.string ⟨(textR x).toArray⟩) ∧ Below w.heap.size w w' := by
  have hfb := floatbits_run
  have hand := andnot_sign hx
  have hd := refDigits_any x w hx
  rw [← hraw] at hand hd
  rw [decide_eq_false hn] at hd
  have hse : FloatKind.f64.format.order x x = some .eq := order_self (by rw [← hraw]; omega)
  have HT : Hid (textR x = [] ++ [48]) := by
    show _ = _
    unfold textR bodyR
    rw [← hraw, if_neg (by omega), if_neg (by omega), if_neg hn, if_pos hk]
  have hdg : dgR raw = ([], 0) := by unfold dgR; rw [if_pos (Or.inl hk)]
  have hi2 : ((raw : Int) == 9218868437227405312) = false := by rw [beq_eq_false_iff_ne]; omega
  rw [hdg] at hd
  clear hraw hk hdg
  go_enter Tryd.func14, Tryd.ntmps14
  go_wp2_with (go_at_call 12; refine hd.mono ?_; clear hd; rintro e9 w1 ⟨rfl, hb1⟩; have HB1 : Hid (Below w.heap.size w w1) := hb1; clear hb1)
  go_ret
  exact ⟨by rw [HT.out]; rfl, HB1.out⟩

set_option maxRecDepth 100000 in
set_option maxHeartbeats 1000000 in
theorem rtext_low_p (x raw : Nat) (w : World) (hx : x < 18446744073709551616) (hraw : raw = x % 9223372036854775808) (hn : ¬ 9223372036854775808 ≤ x) (h0 : 0 < raw) (h1 : raw < 9218868437227405312) (hk : -5 ≤ (dgR raw).2 ∧ (dgR raw).2 ≤ 21) (he : (dgR raw).2 ≤ 0) : Calls Tryd.prog 14 #[.float .f64 x] w fun e w' => e = .returned (.string ⟨(textR x).toArray⟩) ∧ Below w.heap.size w w' := by
  have hfb := floatbits_run
  have hand := andnot_sign hx
  have hd := refDigits_any x w hx
  rw [← hraw] at hand hd
  rw [decide_eq_false hn] at hd
  have hse : FloatKind.f64.format.order x x = some .eq := order_self (by rw [← hraw]; omega)
  have hT0 : textR x = [] ++ plainR (dgR raw).1 (dgR raw).2 := by
    unfold textR bodyR
    rw [← hraw, if_neg (by omega), if_neg (by omega), if_neg hn, if_neg (by omega), if_pos hk]
  obtain ⟨l1, l2, l3, l4⟩ := dg_len h0 h1
  have hi2 : ((raw : Int) == 9218868437227405312) = false := by rw [beq_eq_false_iff_ne]; omega
  generalize (dgR raw).1 = d at *
  generalize (dgR raw).2 = E at *
  have hsz : (⟨d.toArray⟩ : ByteArray).size = d.length := by simp [ByteArray.size]
  have hne1 := not_nil (s := ⟨d.toArray⟩) (by rw [hsz]; exact l1)
  have hne2 := not_empty (s := ⟨d.toArray⟩) (by rw [hsz]; exact l1)
  have HR : Hid ((⟨#[]⟩ : ByteArray) ++ ⟨#[48, 46]⟩ ++ ⟨(List.replicate (-E).toNat (48 : UInt8)).toArray⟩ ++ ⟨d.toArray⟩ = ⟨(textR x).toArray⟩) := by
    show _ = _
    rw [hT0]
    unfold plainR
    rw [if_pos he]
    apply ByteArray.ext
    simp
  have HZR : Hid (∀ W : World, Calls Tryd.prog 45 #[.int .i64 (-E)] W fun e w' => e = .returned (.string ⟨(List.replicate (-E).toNat (48 : UInt8)).toArray⟩) ∧ w' = W) := fun W => by
    have h9 := refZeros_any (-E).toNat W (by omega)
    rwa [show (((-E).toNat : Nat) : Int) = -E by omega] at h9
  have hsr : (⟨(List.replicate (-E).toNat (48 : UInt8)).toArray⟩ : ByteArray).size ≤ 5 := by simp [ByteArray.size]; omega
  generalize (⟨(List.replicate (-E).toNat (48 : UInt8)).toArray⟩ : ByteArray) = ZS at *
  generalize (⟨d.toArray⟩ : ByteArray) = DS at *
  have hDz : DS.size ≤ 30 := by omega
  obtain ⟨hk1, hk2⟩ := hk
  clear hraw hsz hT0 h0 h1
  have h5a : ¬ E < -5 := by omega
  have h5b : ¬ (21 : Int) < E := by omega
  go_enter Tryd.func14, Tryd.ntmps14
  go_wp2_with (first
    | (go_at_call 12; refine hd.mono ?_; clear hd; rintro e9 w1 ⟨rfl, hb1⟩; have HB1 : Hid (Below w.heap.size w w1) := hb1; clear hb1)
    | (go_at_call 45; refine (HZR.out _).mono ?_; clear HZR; rintro e9 w2 ⟨rfl, hw2⟩; have hw2 := hw2.symm; subst hw2))
  go_ret
  exact ⟨by rw [← HR.out]; rfl, HB1.out⟩

set_option maxRecDepth 100000 in
set_option maxHeartbeats 1000000 in
theorem rtext_whole_p (x raw : Nat) (w : World) (hx : x < 18446744073709551616) (hraw : raw = x % 9223372036854775808) (hn : ¬ 9223372036854775808 ≤ x) (h0 : 0 < raw) (h1 : raw < 9218868437227405312) (hk : -5 ≤ (dgR raw).2 ∧ (dgR raw).2 ≤ 21) (he : ¬ (dgR raw).2 ≤ 0) (hl : ((dgR raw).1.length : Int) ≤ (dgR raw).2) : Calls Tryd.prog 14 #[.float .f64 x] w fun e w' => e = .returned (.string ⟨(textR x).toArray⟩) ∧ Below w.heap.size w w' := by
  have hfb := floatbits_run
  have hand := andnot_sign hx
  have hd := refDigits_any x w hx
  rw [← hraw] at hand hd
  rw [decide_eq_false hn] at hd
  have hse : FloatKind.f64.format.order x x = some .eq := order_self (by rw [← hraw]; omega)
  have hT0 : textR x = [] ++ plainR (dgR raw).1 (dgR raw).2 := by
    unfold textR bodyR
    rw [← hraw, if_neg (by omega), if_neg (by omega), if_neg hn, if_neg (by omega), if_pos hk]
  obtain ⟨l1, l2, l3, l4⟩ := dg_len h0 h1
  have hi2 : ((raw : Int) == 9218868437227405312) = false := by rw [beq_eq_false_iff_ne]; omega
  generalize (dgR raw).1 = d at *
  generalize (dgR raw).2 = E at *
  have hsz : (⟨d.toArray⟩ : ByteArray).size = d.length := by simp [ByteArray.size]
  have hne1 := not_nil (s := ⟨d.toArray⟩) (by rw [hsz]; exact l1)
  have hne2 := not_empty (s := ⟨d.toArray⟩) (by rw [hsz]; exact l1)
  have HR : Hid ((⟨#[]⟩ : ByteArray) ++ ⟨d.toArray⟩ ++ ⟨(List.replicate (E - d.length).toNat (48 : UInt8)).toArray⟩ = ⟨(textR x).toArray⟩) := by
    show _ = _
    rw [hT0]
    unfold plainR
    rw [if_neg he, if_pos hl]
    apply ByteArray.ext
    simp
  have HZR : Hid (∀ W : World, Calls Tryd.prog 45 #[.int .i64 (E - d.length)] W fun e w' => e = .returned (.string ⟨(List.replicate (E - d.length).toNat (48 : UInt8)).toArray⟩) ∧ w' = W) := fun W => by
    have h9 := refZeros_any (E - d.length).toNat W (by omega)
    rwa [show (((E - d.length).toNat : Nat) : Int) = E - d.length by omega] at h9
  have hsr : (⟨(List.replicate (E - d.length).toNat (48 : UInt8)).toArray⟩ : ByteArray).size ≤ 30 := by simp [ByteArray.size]; omega
  generalize (⟨(List.replicate (E - d.length).toNat (48 : UInt8)).toArray⟩ : ByteArray) = ZS at *
  generalize (⟨d.toArray⟩ : ByteArray) = DS at *
  generalize d.length = n at *
  obtain ⟨hk1, hk2⟩ := hk
  clear hraw hT0 h0 h1
  have h5a : ¬ E < -5 := by omega
  have h5b : ¬ (21 : Int) < E := by omega
  go_enter Tryd.func14, Tryd.ntmps14
  go_wp2_with (first
    | (go_at_call 12; refine hd.mono ?_; clear hd; rintro e9 w1 ⟨rfl, hb1⟩; have HB1 : Hid (Below w.heap.size w w1) := hb1; clear hb1)
    | (go_at_call 45; refine (HZR.out _).mono ?_; clear HZR; rintro e9 w2 ⟨rfl, hw2⟩; have hw2 := hw2.symm; subst hw2))
  go_ret
  exact ⟨by rw [← HR.out]; rfl, HB1.out⟩

set_option maxRecDepth 100000 in
set_option maxHeartbeats 1000000 in
theorem rtext_mid_p (x raw : Nat) (w : World) (hx : x < 18446744073709551616) (hraw : raw = x % 9223372036854775808) (hn : ¬ 9223372036854775808 ≤ x) (h0 : 0 < raw) (h1 : raw < 9218868437227405312) (hk : -5 ≤ (dgR raw).2 ∧ (dgR raw).2 ≤ 21) (he : ¬ (dgR raw).2 ≤ 0) (hl : ¬ ((dgR raw).1.length : Int) ≤ (dgR raw).2) : Calls Tryd.prog 14 #[.float .f64 x] w fun e w' => e = .returned (.string ⟨(textR x).toArray⟩) ∧ Below w.heap.size w w' := by
  have hfb := floatbits_run
  have hand := andnot_sign hx
  have hd := refDigits_any x w hx
  rw [← hraw] at hand hd
  rw [decide_eq_false hn] at hd
  have hse : FloatKind.f64.format.order x x = some .eq := order_self (by rw [← hraw]; omega)
  have hT0 : textR x = [] ++ plainR (dgR raw).1 (dgR raw).2 := by
    unfold textR bodyR
    rw [← hraw, if_neg (by omega), if_neg (by omega), if_neg hn, if_neg (by omega), if_pos hk]
  obtain ⟨l1, l2, l3, l4⟩ := dg_len h0 h1
  have hi2 : ((raw : Int) == 9218868437227405312) = false := by rw [beq_eq_false_iff_ne]; omega
  generalize (dgR raw).1 = d at *
  generalize (dgR raw).2 = E at *
  have hsz : (⟨d.toArray⟩ : ByteArray).size = d.length := by simp [ByteArray.size]
  have hne1 := not_nil (s := ⟨d.toArray⟩) (by rw [hsz]; exact l1)
  have hne2 := not_empty (s := ⟨d.toArray⟩) (by rw [hsz]; exact l1)
  obtain ⟨k, rfl⟩ : ∃ k : Nat, E = k := ⟨E.toNat, by omega⟩
  have hkl : k < d.length := by omega
  have hx1 : (⟨d.toArray⟩ : ByteArray).extract 0 k = ⟨(d.take k).toArray⟩ := by
    apply ByteArray.ext
    simp
  have hx2 : (⟨d.toArray⟩ : ByteArray).extract k d.length = ⟨(d.drop k).toArray⟩ := by
    apply ByteArray.ext
    simp
    exact List.take_of_length_le (by simp)
  have HR : Hid ((⟨#[]⟩ : ByteArray) ++ ⟨(d.take k).toArray⟩ ++ ⟨#[46]⟩ ++ ⟨(d.drop k).toArray⟩ = ⟨(textR x).toArray⟩) := by
    show _ = _
    rw [hT0]
    unfold plainR
    rw [if_neg he, if_neg hl, Int.toNat_natCast]
    apply ByteArray.ext
    simp
  have hs1 : (⟨(d.take k).toArray⟩ : ByteArray).size ≤ 30 := by simp [ByteArray.size]; omega
  have hs2 : (⟨(d.drop k).toArray⟩ : ByteArray).size ≤ 30 := by simp [ByteArray.size]; omega
  generalize (⟨(d.take k).toArray⟩ : ByteArray) = S1 at *
  generalize (⟨(d.drop k).toArray⟩ : ByteArray) = S2 at *
  generalize (⟨d.toArray⟩ : ByteArray) = DS at *
  generalize d.length = n at *
  obtain ⟨hk1, hk2⟩ := hk
  clear hraw hT0 h0 h1
  have h5a : ¬ (k : Int) < -5 := by omega
  have h5b : ¬ (21 : Int) < (k : Int) := by omega
  go_enter Tryd.func14, Tryd.ntmps14
  go_wp2_with (go_at_call 12; refine hd.mono ?_; clear hd; rintro e9 w1 ⟨rfl, hb1⟩; have HB1 : Hid (Below w.heap.size w w1) := hb1; clear hb1)
  go_region
  go_wp2
  go_ret
  exact ⟨by rw [← HR.out]; rfl, HB1.out.drew⟩

set_option maxRecDepth 100000 in
set_option maxHeartbeats 1000000 in
theorem rtext_pow_p000 (x raw : Nat) (w : World) (hx : x < 18446744073709551616) (hraw : raw = x % 9223372036854775808) (hn : ¬ 9223372036854775808 ≤ x) (h0 : 0 < raw) (h1 : raw < 9218868437227405312) (hk : ¬ (-5 ≤ (dgR raw).2 ∧ (dgR raw).2 ≤ 21)) (hm : ¬ 1 < (dgR raw).1.length) (hkn : ¬ (dgR raw).2 - 1 < 0) (ho : ¬ (-10 < (dgR raw).2 - 1 ∧ (dgR raw).2 - 1 < 10)) : Calls Tryd.prog 14 #[.float .f64 x] w fun e w' => e = .returned (.string ⟨(textR x).toArray⟩) ∧ Below w.heap.size w w' := by
  have hfb := floatbits_run
  have hand := andnot_sign hx
  have hd := refDigits_any x w hx
  rw [← hraw] at hand hd
  rw [decide_eq_false hn] at hd
  have hse : FloatKind.f64.format.order x x = some .eq := order_self (by rw [← hraw]; omega)
  have hT0 : textR x = [] ++ powR (dgR raw).1 (dgR raw).2 := by
    unfold textR bodyR
    rw [← hraw, if_neg (by omega), if_neg (by omega), if_neg hn, if_neg (by omega), if_neg hk]
  obtain ⟨l1, l2, l3, l4⟩ := dg_len h0 h1
  have hi2 : ((raw : Int) == 9218868437227405312) = false := by rw [beq_eq_false_iff_ne]; omega
  generalize (dgR raw).1 = d at *
  generalize (dgR raw).2 = E at *
  have hsz : (⟨d.toArray⟩ : ByteArray).size = d.length := by simp [ByteArray.size]
  have hne1 := not_nil (s := ⟨d.toArray⟩) (by rw [hsz]; exact l1)
  have hne2 := not_empty (s := ⟨d.toArray⟩) (by rw [hsz]; exact l1)
  have hx1 : (⟨d.toArray⟩ : ByteArray).extract 0 1 = ⟨(d.take 1).toArray⟩ := by
    apply ByteArray.ext
    simp
  have hx2 : (⟨d.toArray⟩ : ByteArray).extract 1 d.length = ⟨(d.drop 1).toArray⟩ := by
    apply ByteArray.ext
    simp
    exact List.take_of_length_le (by simp)
  have hs1 : (⟨(d.take 1).toArray⟩ : ByteArray).size ≤ 30 := by simp [ByteArray.size]; omega
  have hs2 : (⟨(d.drop 1).toArray⟩ : ByteArray).size ≤ 30 := by simp [ByteArray.size]; omega
  obtain ⟨PS, hPS⟩ : ∃ PS : ByteArray, PS = ⟨(Lib.decDigits (E - 1).natAbs).toArray⟩ := ⟨_, rfl⟩
  have hPl : PS.size = (Lib.decDigits (E - 1).natAbs).length := by rw [hPS, baz]
  have hPb : PS.size ≤ 4 := by rw [hPl]; exact dec_four (by omega)
  have hP2 : ¬ PS.size < 2 := by
    rw [hPl]
    have h9 := List.length_pos_iff.2 (dec_val _ ((E - 1).natAbs / 10) (Nat.le_refl _)).2.1; rw [Lib.decDigits, dif_neg (by omega), List.length_append, List.length_singleton]; omega
  have hP2i : ¬ (PS.size : Int) < 2 := by omega
  have HR : Hid ((⟨#[]⟩ : ByteArray) ++ ⟨(d.take 1).toArray⟩ ++ ⟨#[101]⟩ ++ ⟨#[43]⟩ ++ PS = ⟨(textR x).toArray⟩) := by
    show _ = _
    rw [hT0]
    unfold powR
    rw [if_neg hm, if_neg hkn, if_neg ho, hPS]
    apply ByteArray.ext
    simp
  have HPL : Hid (∀ W : World, Calls Tryd.prog 44 #[.int .i64 (E - 1)] W fun e w' => e = .returned (.string PS) ∧ Below W.heap.size W w') := fun W => by
    have h9 := plainRef_any (E - 1).natAbs (E - 1) (Nat.le_refl _) (by omega) (by omega) W
    rw [← hPS] at h9
    exact h9
  generalize (⟨(d.take 1).toArray⟩ : ByteArray) = S1 at *
  generalize (⟨(d.drop 1).toArray⟩ : ByteArray) = S2 at *
  generalize (⟨d.toArray⟩ : ByteArray) = DS at *
  generalize d.length = n at *
  have hmi : ¬ (1 : Int) < n := by omega
  have hn1 : (1 : Int) ≤ n := by omega
  have HKK : Hid (¬ (-5 ≤ E ∧ E ≤ 21)) := hk
  have hout : E < -5 ∨ 21 < E := by omega
  clear hraw hT0 h0 h1 hk ho hPl hP2 hPS hm
  have hw5 : 21 < E := by omega
  have hw6 : ¬ E < -5 := by omega
  clear hout
  go_enter Tryd.func14, Tryd.ntmps14
  go_wp2_with (first
    | (go_at_call 12; refine hd.mono ?_; clear hd; rintro e9 w1 ⟨rfl, hb1⟩; have HB1 : Hid (Below w.heap.size w w1) := hb1; clear hb1)
    | (go_at_call 44; refine (HPL.out _).mono ?_; clear HPL; rintro e9 w2 ⟨rfl, hb2⟩; have HB2 : Hid (Below w.heap.size w w2) := HB1.out.trans (hb2.mono HB1.out.size); clear hb2))
  go_ret
  exact ⟨by rw [← HR.out]; rfl, HB2.out⟩

set_option maxRecDepth 100000 in
set_option maxHeartbeats 1000000 in
theorem rtext_pow_p010 (x raw : Nat) (w : World) (hx : x < 18446744073709551616) (hraw : raw = x % 9223372036854775808) (hn : ¬ 9223372036854775808 ≤ x) (h0 : 0 < raw) (h1 : raw < 9218868437227405312) (hk : ¬ (-5 ≤ (dgR raw).2 ∧ (dgR raw).2 ≤ 21)) (hm : ¬ 1 < (dgR raw).1.length) (hkn : (dgR raw).2 - 1 < 0) (ho : ¬ (-10 < (dgR raw).2 - 1 ∧ (dgR raw).2 - 1 < 10)) : Calls Tryd.prog 14 #[.float .f64 x] w fun e w' => e = .returned (.string ⟨(textR x).toArray⟩) ∧ Below w.heap.size w w' := by
  have hfb := floatbits_run
  have hand := andnot_sign hx
  have hd := refDigits_any x w hx
  rw [← hraw] at hand hd
  rw [decide_eq_false hn] at hd
  have hse : FloatKind.f64.format.order x x = some .eq := order_self (by rw [← hraw]; omega)
  have hT0 : textR x = [] ++ powR (dgR raw).1 (dgR raw).2 := by
    unfold textR bodyR
    rw [← hraw, if_neg (by omega), if_neg (by omega), if_neg hn, if_neg (by omega), if_neg hk]
  obtain ⟨l1, l2, l3, l4⟩ := dg_len h0 h1
  have hi2 : ((raw : Int) == 9218868437227405312) = false := by rw [beq_eq_false_iff_ne]; omega
  generalize (dgR raw).1 = d at *
  generalize (dgR raw).2 = E at *
  have hsz : (⟨d.toArray⟩ : ByteArray).size = d.length := by simp [ByteArray.size]
  have hne1 := not_nil (s := ⟨d.toArray⟩) (by rw [hsz]; exact l1)
  have hne2 := not_empty (s := ⟨d.toArray⟩) (by rw [hsz]; exact l1)
  have hx1 : (⟨d.toArray⟩ : ByteArray).extract 0 1 = ⟨(d.take 1).toArray⟩ := by
    apply ByteArray.ext
    simp
  have hx2 : (⟨d.toArray⟩ : ByteArray).extract 1 d.length = ⟨(d.drop 1).toArray⟩ := by
    apply ByteArray.ext
    simp
    exact List.take_of_length_le (by simp)
  have hs1 : (⟨(d.take 1).toArray⟩ : ByteArray).size ≤ 30 := by simp [ByteArray.size]; omega
  have hs2 : (⟨(d.drop 1).toArray⟩ : ByteArray).size ≤ 30 := by simp [ByteArray.size]; omega
  obtain ⟨PS, hPS⟩ : ∃ PS : ByteArray, PS = ⟨(Lib.decDigits (E - 1).natAbs).toArray⟩ := ⟨_, rfl⟩
  have hPl : PS.size = (Lib.decDigits (E - 1).natAbs).length := by rw [hPS, baz]
  have hPb : PS.size ≤ 4 := by rw [hPl]; exact dec_four (by omega)
  have hP2 : ¬ PS.size < 2 := by
    rw [hPl]
    have h9 := List.length_pos_iff.2 (dec_val _ ((E - 1).natAbs / 10) (Nat.le_refl _)).2.1; rw [Lib.decDigits, dif_neg (by omega), List.length_append, List.length_singleton]; omega
  have hP2i : ¬ (PS.size : Int) < 2 := by omega
  have HR : Hid ((⟨#[]⟩ : ByteArray) ++ ⟨(d.take 1).toArray⟩ ++ ⟨#[101]⟩ ++ ⟨#[45]⟩ ++ PS = ⟨(textR x).toArray⟩) := by
    show _ = _
    rw [hT0]
    unfold powR
    rw [if_neg hm, if_pos hkn, if_neg ho, hPS]
    apply ByteArray.ext
    simp
  have HPL : Hid (∀ W : World, Calls Tryd.prog 44 #[.int .i64 (-(E - 1))] W fun e w' => e = .returned (.string PS) ∧ Below W.heap.size W w') := fun W => by
    have h9 := plainRef_any (-(E - 1)).natAbs (-(E - 1)) (Nat.le_refl _) (by omega) (by omega) W
    rw [Int.natAbs_neg, ← hPS] at h9
    exact h9
  generalize (⟨(d.take 1).toArray⟩ : ByteArray) = S1 at *
  generalize (⟨(d.drop 1).toArray⟩ : ByteArray) = S2 at *
  generalize (⟨d.toArray⟩ : ByteArray) = DS at *
  generalize d.length = n at *
  have hmi : ¬ (1 : Int) < n := by omega
  have hn1 : (1 : Int) ≤ n := by omega
  have HKK : Hid (¬ (-5 ≤ E ∧ E ≤ 21)) := hk
  have hout : E < -5 ∨ 21 < E := by omega
  clear hraw hT0 h0 h1 hk ho hPl hP2 hPS hm
  have hw5 : E < -5 := by omega
  skip
  clear hout
  go_enter Tryd.func14, Tryd.ntmps14
  go_wp2_with (first
    | (go_at_call 12; refine hd.mono ?_; clear hd; rintro e9 w1 ⟨rfl, hb1⟩; have HB1 : Hid (Below w.heap.size w w1) := hb1; clear hb1)
    | (go_at_call 44; refine (HPL.out _).mono ?_; clear HPL; rintro e9 w2 ⟨rfl, hb2⟩; have HB2 : Hid (Below w.heap.size w w2) := HB1.out.trans (hb2.mono HB1.out.size); clear hb2))
  go_ret
  exact ⟨by rw [← HR.out]; rfl, HB2.out⟩

set_option maxRecDepth 100000 in
set_option maxHeartbeats 1000000 in
theorem rtext_pow_p011 (x raw : Nat) (w : World) (hx : x < 18446744073709551616) (hraw : raw = x % 9223372036854775808) (hn : ¬ 9223372036854775808 ≤ x) (h0 : 0 < raw) (h1 : raw < 9218868437227405312) (hk : ¬ (-5 ≤ (dgR raw).2 ∧ (dgR raw).2 ≤ 21)) (hm : ¬ 1 < (dgR raw).1.length) (hkn : (dgR raw).2 - 1 < 0) (ho : (-10 < (dgR raw).2 - 1 ∧ (dgR raw).2 - 1 < 10)) : Calls Tryd.prog 14 #[.float .f64 x] w fun e w' => e = .returned (.string ⟨(textR x).toArray⟩) ∧ Below w.heap.size w w' := by
  have hfb := floatbits_run
  have hand := andnot_sign hx
  have hd := refDigits_any x w hx
  rw [← hraw] at hand hd
  rw [decide_eq_false hn] at hd
  have hse : FloatKind.f64.format.order x x = some .eq := order_self (by rw [← hraw]; omega)
  have hT0 : textR x = [] ++ powR (dgR raw).1 (dgR raw).2 := by
    unfold textR bodyR
    rw [← hraw, if_neg (by omega), if_neg (by omega), if_neg hn, if_neg (by omega), if_neg hk]
  obtain ⟨l1, l2, l3, l4⟩ := dg_len h0 h1
  have hi2 : ((raw : Int) == 9218868437227405312) = false := by rw [beq_eq_false_iff_ne]; omega
  generalize (dgR raw).1 = d at *
  generalize (dgR raw).2 = E at *
  have hsz : (⟨d.toArray⟩ : ByteArray).size = d.length := by simp [ByteArray.size]
  have hne1 := not_nil (s := ⟨d.toArray⟩) (by rw [hsz]; exact l1)
  have hne2 := not_empty (s := ⟨d.toArray⟩) (by rw [hsz]; exact l1)
  have hx1 : (⟨d.toArray⟩ : ByteArray).extract 0 1 = ⟨(d.take 1).toArray⟩ := by
    apply ByteArray.ext
    simp
  have hx2 : (⟨d.toArray⟩ : ByteArray).extract 1 d.length = ⟨(d.drop 1).toArray⟩ := by
    apply ByteArray.ext
    simp
    exact List.take_of_length_le (by simp)
  have hs1 : (⟨(d.take 1).toArray⟩ : ByteArray).size ≤ 30 := by simp [ByteArray.size]; omega
  have hs2 : (⟨(d.drop 1).toArray⟩ : ByteArray).size ≤ 30 := by simp [ByteArray.size]; omega
  obtain ⟨PS, hPS⟩ : ∃ PS : ByteArray, PS = ⟨(Lib.decDigits (E - 1).natAbs).toArray⟩ := ⟨_, rfl⟩
  have hPl : PS.size = (Lib.decDigits (E - 1).natAbs).length := by rw [hPS, baz]
  have hPb : PS.size ≤ 4 := by rw [hPl]; exact dec_four (by omega)
  have hP2 : PS.size < 2 := by
    rw [hPl]
    rw [Lib.decDigits_one (by omega)]; exact (by decide : 1 < 2)
  have hP2i : (PS.size : Int) < 2 := by omega
  have HR : Hid ((⟨#[]⟩ : ByteArray) ++ ⟨(d.take 1).toArray⟩ ++ ⟨#[101]⟩ ++ ⟨#[45]⟩ ++ (⟨#[48]⟩ ++ PS) = ⟨(textR x).toArray⟩) := by
    show _ = _
    rw [hT0]
    unfold powR
    rw [if_neg hm, if_pos hkn, if_pos ho, hPS]
    apply ByteArray.ext
    simp
  have HPL : Hid (∀ W : World, Calls Tryd.prog 44 #[.int .i64 (-(E - 1))] W fun e w' => e = .returned (.string PS) ∧ Below W.heap.size W w') := fun W => by
    have h9 := plainRef_any (-(E - 1)).natAbs (-(E - 1)) (Nat.le_refl _) (by omega) (by omega) W
    rw [Int.natAbs_neg, ← hPS] at h9
    exact h9
  generalize (⟨(d.take 1).toArray⟩ : ByteArray) = S1 at *
  generalize (⟨(d.drop 1).toArray⟩ : ByteArray) = S2 at *
  generalize (⟨d.toArray⟩ : ByteArray) = DS at *
  generalize d.length = n at *
  have hmi : ¬ (1 : Int) < n := by omega
  have hn1 : (1 : Int) ≤ n := by omega
  have HKK : Hid (¬ (-5 ≤ E ∧ E ≤ 21)) := hk
  have hout : E < -5 ∨ 21 < E := by omega
  clear hraw hT0 h0 h1 hk ho hPl hP2 hPS hm
  have hw5 : E < -5 := by omega
  skip
  clear hout
  go_enter Tryd.func14, Tryd.ntmps14
  go_wp2_with (first
    | (go_at_call 12; refine hd.mono ?_; clear hd; rintro e9 w1 ⟨rfl, hb1⟩; have HB1 : Hid (Below w.heap.size w w1) := hb1; clear hb1)
    | (go_at_call 44; refine (HPL.out _).mono ?_; clear HPL; rintro e9 w2 ⟨rfl, hb2⟩; have HB2 : Hid (Below w.heap.size w w2) := HB1.out.trans (hb2.mono HB1.out.size); clear hb2))
  go_ret
  exact ⟨by rw [← HR.out]; rfl, HB2.out⟩

set_option maxRecDepth 100000 in
set_option maxHeartbeats 1000000 in
theorem rtext_pow_p100 (x raw : Nat) (w : World) (hx : x < 18446744073709551616) (hraw : raw = x % 9223372036854775808) (hn : ¬ 9223372036854775808 ≤ x) (h0 : 0 < raw) (h1 : raw < 9218868437227405312) (hk : ¬ (-5 ≤ (dgR raw).2 ∧ (dgR raw).2 ≤ 21)) (hm : 1 < (dgR raw).1.length) (hkn : ¬ (dgR raw).2 - 1 < 0) (ho : ¬ (-10 < (dgR raw).2 - 1 ∧ (dgR raw).2 - 1 < 10)) : Calls Tryd.prog 14 #[.float .f64 x] w fun e w' => e = .returned (.string ⟨(textR x).toArray⟩) ∧ Below w.heap.size w w' := by
  have hfb := floatbits_run
  have hand := andnot_sign hx
  have hd := refDigits_any x w hx
  rw [← hraw] at hand hd
  rw [decide_eq_false hn] at hd
  have hse : FloatKind.f64.format.order x x = some .eq := order_self (by rw [← hraw]; omega)
  have hT0 : textR x = [] ++ powR (dgR raw).1 (dgR raw).2 := by
    unfold textR bodyR
    rw [← hraw, if_neg (by omega), if_neg (by omega), if_neg hn, if_neg (by omega), if_neg hk]
  obtain ⟨l1, l2, l3, l4⟩ := dg_len h0 h1
  have hi2 : ((raw : Int) == 9218868437227405312) = false := by rw [beq_eq_false_iff_ne]; omega
  generalize (dgR raw).1 = d at *
  generalize (dgR raw).2 = E at *
  have hsz : (⟨d.toArray⟩ : ByteArray).size = d.length := by simp [ByteArray.size]
  have hne1 := not_nil (s := ⟨d.toArray⟩) (by rw [hsz]; exact l1)
  have hne2 := not_empty (s := ⟨d.toArray⟩) (by rw [hsz]; exact l1)
  have hx1 : (⟨d.toArray⟩ : ByteArray).extract 0 1 = ⟨(d.take 1).toArray⟩ := by
    apply ByteArray.ext
    simp
  have hx2 : (⟨d.toArray⟩ : ByteArray).extract 1 d.length = ⟨(d.drop 1).toArray⟩ := by
    apply ByteArray.ext
    simp
    exact List.take_of_length_le (by simp)
  have hs1 : (⟨(d.take 1).toArray⟩ : ByteArray).size ≤ 30 := by simp [ByteArray.size]; omega
  have hs2 : (⟨(d.drop 1).toArray⟩ : ByteArray).size ≤ 30 := by simp [ByteArray.size]; omega
  obtain ⟨PS, hPS⟩ : ∃ PS : ByteArray, PS = ⟨(Lib.decDigits (E - 1).natAbs).toArray⟩ := ⟨_, rfl⟩
  have hPl : PS.size = (Lib.decDigits (E - 1).natAbs).length := by rw [hPS, baz]
  have hPb : PS.size ≤ 4 := by rw [hPl]; exact dec_four (by omega)
  have hP2 : ¬ PS.size < 2 := by
    rw [hPl]
    have h9 := List.length_pos_iff.2 (dec_val _ ((E - 1).natAbs / 10) (Nat.le_refl _)).2.1; rw [Lib.decDigits, dif_neg (by omega), List.length_append, List.length_singleton]; omega
  have hP2i : ¬ (PS.size : Int) < 2 := by omega
  have HR : Hid ((⟨#[]⟩ : ByteArray) ++ ⟨(d.take 1).toArray⟩ ++ ⟨#[46]⟩ ++ ⟨(d.drop 1).toArray⟩ ++ ⟨#[101]⟩ ++ ⟨#[43]⟩ ++ PS = ⟨(textR x).toArray⟩) := by
    show _ = _
    rw [hT0]
    unfold powR
    rw [if_pos hm, if_neg hkn, if_neg ho, hPS]
    apply ByteArray.ext
    simp
  have HPL : Hid (∀ W : World, Calls Tryd.prog 44 #[.int .i64 (E - 1)] W fun e w' => e = .returned (.string PS) ∧ Below W.heap.size W w') := fun W => by
    have h9 := plainRef_any (E - 1).natAbs (E - 1) (Nat.le_refl _) (by omega) (by omega) W
    rw [← hPS] at h9
    exact h9
  generalize (⟨(d.take 1).toArray⟩ : ByteArray) = S1 at *
  generalize (⟨(d.drop 1).toArray⟩ : ByteArray) = S2 at *
  generalize (⟨d.toArray⟩ : ByteArray) = DS at *
  generalize d.length = n at *
  have hmi : (1 : Int) < n := by omega
  have hn1 : (1 : Int) ≤ n := by omega
  have HKK : Hid (¬ (-5 ≤ E ∧ E ≤ 21)) := hk
  have hout : E < -5 ∨ 21 < E := by omega
  clear hraw hT0 h0 h1 hk ho hPl hP2 hPS hm
  have hw5 : 21 < E := by omega
  have hw6 : ¬ E < -5 := by omega
  clear hout
  go_enter Tryd.func14, Tryd.ntmps14
  go_wp2_with (first
    | (go_at_call 12; refine hd.mono ?_; clear hd; rintro e9 w1 ⟨rfl, hb1⟩; have HB1 : Hid (Below w.heap.size w w1) := hb1; clear hb1)
    | (go_at_call 44; refine (HPL.out _).mono ?_; clear HPL; rintro e9 w2 ⟨rfl, hb2⟩; have HB2 : Hid (Below w.heap.size w w2) := HB1.out.trans (hb2.mono HB1.out.size); clear hb2))
  go_ret
  exact ⟨by rw [← HR.out]; rfl, HB2.out⟩

set_option maxRecDepth 100000 in
set_option maxHeartbeats 1000000 in
theorem rtext_pow_p110 (x raw : Nat) (w : World) (hx : x < 18446744073709551616) (hraw : raw = x % 9223372036854775808) (hn : ¬ 9223372036854775808 ≤ x) (h0 : 0 < raw) (h1 : raw < 9218868437227405312) (hk : ¬ (-5 ≤ (dgR raw).2 ∧ (dgR raw).2 ≤ 21)) (hm : 1 < (dgR raw).1.length) (hkn : (dgR raw).2 - 1 < 0) (ho : ¬ (-10 < (dgR raw).2 - 1 ∧ (dgR raw).2 - 1 < 10)) : Calls Tryd.prog 14 #[.float .f64 x] w fun e w' => e = .returned (.string ⟨(textR x).toArray⟩) ∧ Below w.heap.size w w' := by
  have hfb := floatbits_run
  have hand := andnot_sign hx
  have hd := refDigits_any x w hx
  rw [← hraw] at hand hd
  rw [decide_eq_false hn] at hd
  have hse : FloatKind.f64.format.order x x = some .eq := order_self (by rw [← hraw]; omega)
  have hT0 : textR x = [] ++ powR (dgR raw).1 (dgR raw).2 := by
    unfold textR bodyR
    rw [← hraw, if_neg (by omega), if_neg (by omega), if_neg hn, if_neg (by omega), if_neg hk]
  obtain ⟨l1, l2, l3, l4⟩ := dg_len h0 h1
  have hi2 : ((raw : Int) == 9218868437227405312) = false := by rw [beq_eq_false_iff_ne]; omega
  generalize (dgR raw).1 = d at *
  generalize (dgR raw).2 = E at *
  have hsz : (⟨d.toArray⟩ : ByteArray).size = d.length := by simp [ByteArray.size]
  have hne1 := not_nil (s := ⟨d.toArray⟩) (by rw [hsz]; exact l1)
  have hne2 := not_empty (s := ⟨d.toArray⟩) (by rw [hsz]; exact l1)
  have hx1 : (⟨d.toArray⟩ : ByteArray).extract 0 1 = ⟨(d.take 1).toArray⟩ := by
    apply ByteArray.ext
    simp
  have hx2 : (⟨d.toArray⟩ : ByteArray).extract 1 d.length = ⟨(d.drop 1).toArray⟩ := by
    apply ByteArray.ext
    simp
    exact List.take_of_length_le (by simp)
  have hs1 : (⟨(d.take 1).toArray⟩ : ByteArray).size ≤ 30 := by simp [ByteArray.size]; omega
  have hs2 : (⟨(d.drop 1).toArray⟩ : ByteArray).size ≤ 30 := by simp [ByteArray.size]; omega
  obtain ⟨PS, hPS⟩ : ∃ PS : ByteArray, PS = ⟨(Lib.decDigits (E - 1).natAbs).toArray⟩ := ⟨_, rfl⟩
  have hPl : PS.size = (Lib.decDigits (E - 1).natAbs).length := by rw [hPS, baz]
  have hPb : PS.size ≤ 4 := by rw [hPl]; exact dec_four (by omega)
  have hP2 : ¬ PS.size < 2 := by
    rw [hPl]
    have h9 := List.length_pos_iff.2 (dec_val _ ((E - 1).natAbs / 10) (Nat.le_refl _)).2.1; rw [Lib.decDigits, dif_neg (by omega), List.length_append, List.length_singleton]; omega
  have hP2i : ¬ (PS.size : Int) < 2 := by omega
  have HR : Hid ((⟨#[]⟩ : ByteArray) ++ ⟨(d.take 1).toArray⟩ ++ ⟨#[46]⟩ ++ ⟨(d.drop 1).toArray⟩ ++ ⟨#[101]⟩ ++ ⟨#[45]⟩ ++ PS = ⟨(textR x).toArray⟩) := by
    show _ = _
    rw [hT0]
    unfold powR
    rw [if_pos hm, if_pos hkn, if_neg ho, hPS]
    apply ByteArray.ext
    simp
  have HPL : Hid (∀ W : World, Calls Tryd.prog 44 #[.int .i64 (-(E - 1))] W fun e w' => e = .returned (.string PS) ∧ Below W.heap.size W w') := fun W => by
    have h9 := plainRef_any (-(E - 1)).natAbs (-(E - 1)) (Nat.le_refl _) (by omega) (by omega) W
    rw [Int.natAbs_neg, ← hPS] at h9
    exact h9
  generalize (⟨(d.take 1).toArray⟩ : ByteArray) = S1 at *
  generalize (⟨(d.drop 1).toArray⟩ : ByteArray) = S2 at *
  generalize (⟨d.toArray⟩ : ByteArray) = DS at *
  generalize d.length = n at *
  have hmi : (1 : Int) < n := by omega
  have hn1 : (1 : Int) ≤ n := by omega
  have HKK : Hid (¬ (-5 ≤ E ∧ E ≤ 21)) := hk
  have hout : E < -5 ∨ 21 < E := by omega
  clear hraw hT0 h0 h1 hk ho hPl hP2 hPS hm
  have hw5 : E < -5 := by omega
  skip
  clear hout
  go_enter Tryd.func14, Tryd.ntmps14
  go_wp2_with (first
    | (go_at_call 12; refine hd.mono ?_; clear hd; rintro e9 w1 ⟨rfl, hb1⟩; have HB1 : Hid (Below w.heap.size w w1) := hb1; clear hb1)
    | (go_at_call 44; refine (HPL.out _).mono ?_; clear HPL; rintro e9 w2 ⟨rfl, hb2⟩; have HB2 : Hid (Below w.heap.size w w2) := HB1.out.trans (hb2.mono HB1.out.size); clear hb2))
  go_ret
  exact ⟨by rw [← HR.out]; rfl, HB2.out⟩

set_option maxRecDepth 100000 in
set_option maxHeartbeats 1000000 in
theorem rtext_pow_p111 (x raw : Nat) (w : World) (hx : x < 18446744073709551616) (hraw : raw = x % 9223372036854775808) (hn : ¬ 9223372036854775808 ≤ x) (h0 : 0 < raw) (h1 : raw < 9218868437227405312) (hk : ¬ (-5 ≤ (dgR raw).2 ∧ (dgR raw).2 ≤ 21)) (hm : 1 < (dgR raw).1.length) (hkn : (dgR raw).2 - 1 < 0) (ho : (-10 < (dgR raw).2 - 1 ∧ (dgR raw).2 - 1 < 10)) : Calls Tryd.prog 14 #[.float .f64 x] w fun e w' => e = .returned (.string ⟨(textR x).toArray⟩) ∧ Below w.heap.size w w' := by
  have hfb := floatbits_run
  have hand := andnot_sign hx
  have hd := refDigits_any x w hx
  rw [← hraw] at hand hd
  rw [decide_eq_false hn] at hd
  have hse : FloatKind.f64.format.order x x = some .eq := order_self (by rw [← hraw]; omega)
  have hT0 : textR x = [] ++ powR (dgR raw).1 (dgR raw).2 := by
    unfold textR bodyR
    rw [← hraw, if_neg (by omega), if_neg (by omega), if_neg hn, if_neg (by omega), if_neg hk]
  obtain ⟨l1, l2, l3, l4⟩ := dg_len h0 h1
  have hi2 : ((raw : Int) == 9218868437227405312) = false := by rw [beq_eq_false_iff_ne]; omega
  generalize (dgR raw).1 = d at *
  generalize (dgR raw).2 = E at *
  have hsz : (⟨d.toArray⟩ : ByteArray).size = d.length := by simp [ByteArray.size]
  have hne1 := not_nil (s := ⟨d.toArray⟩) (by rw [hsz]; exact l1)
  have hne2 := not_empty (s := ⟨d.toArray⟩) (by rw [hsz]; exact l1)
  have hx1 : (⟨d.toArray⟩ : ByteArray).extract 0 1 = ⟨(d.take 1).toArray⟩ := by
    apply ByteArray.ext
    simp
  have hx2 : (⟨d.toArray⟩ : ByteArray).extract 1 d.length = ⟨(d.drop 1).toArray⟩ := by
    apply ByteArray.ext
    simp
    exact List.take_of_length_le (by simp)
  have hs1 : (⟨(d.take 1).toArray⟩ : ByteArray).size ≤ 30 := by simp [ByteArray.size]; omega
  have hs2 : (⟨(d.drop 1).toArray⟩ : ByteArray).size ≤ 30 := by simp [ByteArray.size]; omega
  obtain ⟨PS, hPS⟩ : ∃ PS : ByteArray, PS = ⟨(Lib.decDigits (E - 1).natAbs).toArray⟩ := ⟨_, rfl⟩
  have hPl : PS.size = (Lib.decDigits (E - 1).natAbs).length := by rw [hPS, baz]
  have hPb : PS.size ≤ 4 := by rw [hPl]; exact dec_four (by omega)
  have hP2 : PS.size < 2 := by
    rw [hPl]
    rw [Lib.decDigits_one (by omega)]; exact (by decide : 1 < 2)
  have hP2i : (PS.size : Int) < 2 := by omega
  have HR : Hid ((⟨#[]⟩ : ByteArray) ++ ⟨(d.take 1).toArray⟩ ++ ⟨#[46]⟩ ++ ⟨(d.drop 1).toArray⟩ ++ ⟨#[101]⟩ ++ ⟨#[45]⟩ ++ (⟨#[48]⟩ ++ PS) = ⟨(textR x).toArray⟩) := by
    show _ = _
    rw [hT0]
    unfold powR
    rw [if_pos hm, if_pos hkn, if_pos ho, hPS]
    apply ByteArray.ext
    simp
  have HPL : Hid (∀ W : World, Calls Tryd.prog 44 #[.int .i64 (-(E - 1))] W fun e w' => e = .returned (.string PS) ∧ Below W.heap.size W w') := fun W => by
    have h9 := plainRef_any (-(E - 1)).natAbs (-(E - 1)) (Nat.le_refl _) (by omega) (by omega) W
    rw [Int.natAbs_neg, ← hPS] at h9
    exact h9
  generalize (⟨(d.take 1).toArray⟩ : ByteArray) = S1 at *
  generalize (⟨(d.drop 1).toArray⟩ : ByteArray) = S2 at *
  generalize (⟨d.toArray⟩ : ByteArray) = DS at *
  generalize d.length = n at *
  have hmi : (1 : Int) < n := by omega
  have hn1 : (1 : Int) ≤ n := by omega
  have HKK : Hid (¬ (-5 ≤ E ∧ E ≤ 21)) := hk
  have hout : E < -5 ∨ 21 < E := by omega
  clear hraw hT0 h0 h1 hk ho hPl hP2 hPS hm
  have hw5 : E < -5 := by omega
  skip
  clear hout
  go_enter Tryd.func14, Tryd.ntmps14
  go_wp2_with (first
    | (go_at_call 12; refine hd.mono ?_; clear hd; rintro e9 w1 ⟨rfl, hb1⟩; have HB1 : Hid (Below w.heap.size w w1) := hb1; clear hb1)
    | (go_at_call 44; refine (HPL.out _).mono ?_; clear HPL; rintro e9 w2 ⟨rfl, hb2⟩; have HB2 : Hid (Below w.heap.size w w2) := HB1.out.trans (hb2.mono HB1.out.size); clear hb2))
  go_ret
  exact ⟨by rw [← HR.out]; rfl, HB2.out⟩

set_option maxRecDepth 100000 in
set_option maxHeartbeats 1000000 in
theorem rtext_inf_n (x raw : Nat) (w : World) (hx : x < 18446744073709551616) (hraw : raw = x % 9223372036854775808) (hn : 9223372036854775808 ≤ x) (hk : raw = 9218868437227405312) : Calls Tryd.prog 14 #[.float .f64 x] w fun e w' => e = .returned (.string ⟨(textR x).toArray⟩) ∧ Below w.heap.size w w' := by
  have hfb := floatbits_run
  have hand := andnot_sign hx
  have hd := refDigits_any x w hx
  rw [← hraw] at hand hd
  rw [decide_eq_true hn] at hd
  have hse : FloatKind.f64.format.order x x = some .eq := order_self (by rw [← hraw]; omega)
  have HT : Hid (textR x = [45, 73, 110, 102]) := by
    show _ = _
    unfold textR
    rw [← hraw, if_neg (by omega), if_pos hk, if_pos hn]
  have hi2 : ((raw : Int) == 9218868437227405312) = true := by rw [beq_iff_eq]; omega
  generalize (⟨(dgR raw).1.toArray⟩ : ByteArray) = DS at *
  generalize (dgR raw).2 = E at *
  clear hraw hk
  go_enter Tryd.func14, Tryd.ntmps14
  go_wp2_with (go_at_call 12; refine hd.mono ?_; clear hd; rintro e9 w1 ⟨rfl, hb1⟩; have HB1 : Hid (Below w.heap.size w w1) := hb1; clear hb1)
  go_ret
  exact ⟨by rw [HT.out]; rfl, HB1.out⟩

set_option maxRecDepth 100000 in
set_option maxHeartbeats 1000000 in
theorem rtext_zero_n (x raw : Nat) (w : World) (hx : x < 18446744073709551616) (hraw : raw = x % 9223372036854775808) (hn : 9223372036854775808 ≤ x) (hk : raw = 0) : Calls Tryd.prog 14 #[.float .f64 x] w fun e w' => e = .returned (.string ⟨(textR x).toArray⟩) ∧ Below w.heap.size w w' := by
  have hfb := floatbits_run
  have hand := andnot_sign hx
  have hd := refDigits_any x w hx
  rw [← hraw] at hand hd
  rw [decide_eq_true hn] at hd
  have hse : FloatKind.f64.format.order x x = some .eq := order_self (by rw [← hraw]; omega)
  have HT : Hid (textR x = [45] ++ [48]) := by
    show _ = _
    unfold textR bodyR
    rw [← hraw, if_neg (by omega), if_neg (by omega), if_pos hn, if_pos hk]
  have hdg : dgR raw = ([], 0) := by unfold dgR; rw [if_pos (Or.inl hk)]
  have hi2 : ((raw : Int) == 9218868437227405312) = false := by rw [beq_eq_false_iff_ne]; omega
  rw [hdg] at hd
  clear hraw hk hdg
  go_enter Tryd.func14, Tryd.ntmps14
  go_wp2_with (go_at_call 12; refine hd.mono ?_; clear hd; rintro e9 w1 ⟨rfl, hb1⟩; have HB1 : Hid (Below w.heap.size w w1) := hb1; clear hb1)
  go_ret
  exact ⟨by rw [HT.out]; rfl, HB1.out⟩

set_option maxRecDepth 100000 in
set_option maxHeartbeats 1000000 in
theorem rtext_low_n (x raw : Nat) (w : World) (hx : x < 18446744073709551616) (hraw : raw = x % 9223372036854775808) (hn : 9223372036854775808 ≤ x) (h0 : 0 < raw) (h1 : raw < 9218868437227405312) (hk : -5 ≤ (dgR raw).2 ∧ (dgR raw).2 ≤ 21) (he : (dgR raw).2 ≤ 0) : Calls Tryd.prog 14 #[.float .f64 x] w fun e w' => e = .returned (.string ⟨(textR x).toArray⟩) ∧ Below w.heap.size w w' := by
  have hfb := floatbits_run
  have hand := andnot_sign hx
  have hd := refDigits_any x w hx
  rw [← hraw] at hand hd
  rw [decide_eq_true hn] at hd
  have hse : FloatKind.f64.format.order x x = some .eq := order_self (by rw [← hraw]; omega)
  have hT0 : textR x = [45] ++ plainR (dgR raw).1 (dgR raw).2 := by
    unfold textR bodyR
    rw [← hraw, if_neg (by omega), if_neg (by omega), if_pos hn, if_neg (by omega), if_pos hk]
  obtain ⟨l1, l2, l3, l4⟩ := dg_len h0 h1
  have hi2 : ((raw : Int) == 9218868437227405312) = false := by rw [beq_eq_false_iff_ne]; omega
  generalize (dgR raw).1 = d at *
  generalize (dgR raw).2 = E at *
  have hsz : (⟨d.toArray⟩ : ByteArray).size = d.length := by simp [ByteArray.size]
  have hne1 := not_nil (s := ⟨d.toArray⟩) (by rw [hsz]; exact l1)
  have hne2 := not_empty (s := ⟨d.toArray⟩) (by rw [hsz]; exact l1)
  have HR : Hid ((⟨#[45]⟩ : ByteArray) ++ ⟨#[48, 46]⟩ ++ ⟨(List.replicate (-E).toNat (48 : UInt8)).toArray⟩ ++ ⟨d.toArray⟩ = ⟨(textR x).toArray⟩) := by
    show _ = _
    rw [hT0]
    unfold plainR
    rw [if_pos he]
    apply ByteArray.ext
    simp
  have HZR : Hid (∀ W : World, Calls Tryd.prog 45 #[.int .i64 (-E)] W fun e w' => e = .returned (.string ⟨(List.replicate (-E).toNat (48 : UInt8)).toArray⟩) ∧ w' = W) := fun W => by
    have h9 := refZeros_any (-E).toNat W (by omega)
    rwa [show (((-E).toNat : Nat) : Int) = -E by omega] at h9
  have hsr : (⟨(List.replicate (-E).toNat (48 : UInt8)).toArray⟩ : ByteArray).size ≤ 5 := by simp [ByteArray.size]; omega
  generalize (⟨(List.replicate (-E).toNat (48 : UInt8)).toArray⟩ : ByteArray) = ZS at *
  generalize (⟨d.toArray⟩ : ByteArray) = DS at *
  have hDz : DS.size ≤ 30 := by omega
  obtain ⟨hk1, hk2⟩ := hk
  clear hraw hsz hT0 h0 h1
  have h5a : ¬ E < -5 := by omega
  have h5b : ¬ (21 : Int) < E := by omega
  go_enter Tryd.func14, Tryd.ntmps14
  go_wp2_with (first
    | (go_at_call 12; refine hd.mono ?_; clear hd; rintro e9 w1 ⟨rfl, hb1⟩; have HB1 : Hid (Below w.heap.size w w1) := hb1; clear hb1)
    | (go_at_call 45; refine (HZR.out _).mono ?_; clear HZR; rintro e9 w2 ⟨rfl, hw2⟩; have hw2 := hw2.symm; subst hw2))
  go_ret
  exact ⟨by rw [← HR.out]; rfl, HB1.out⟩

set_option maxRecDepth 100000 in
set_option maxHeartbeats 1000000 in
theorem rtext_whole_n (x raw : Nat) (w : World) (hx : x < 18446744073709551616) (hraw : raw = x % 9223372036854775808) (hn : 9223372036854775808 ≤ x) (h0 : 0 < raw) (h1 : raw < 9218868437227405312) (hk : -5 ≤ (dgR raw).2 ∧ (dgR raw).2 ≤ 21) (he : ¬ (dgR raw).2 ≤ 0) (hl : ((dgR raw).1.length : Int) ≤ (dgR raw).2) : Calls Tryd.prog 14 #[.float .f64 x] w fun e w' => e = .returned (.string ⟨(textR x).toArray⟩) ∧ Below w.heap.size w w' := by
  have hfb := floatbits_run
  have hand := andnot_sign hx
  have hd := refDigits_any x w hx
  rw [← hraw] at hand hd
  rw [decide_eq_true hn] at hd
  have hse : FloatKind.f64.format.order x x = some .eq := order_self (by rw [← hraw]; omega)
  have hT0 : textR x = [45] ++ plainR (dgR raw).1 (dgR raw).2 := by
    unfold textR bodyR
    rw [← hraw, if_neg (by omega), if_neg (by omega), if_pos hn, if_neg (by omega), if_pos hk]
  obtain ⟨l1, l2, l3, l4⟩ := dg_len h0 h1
  have hi2 : ((raw : Int) == 9218868437227405312) = false := by rw [beq_eq_false_iff_ne]; omega
  generalize (dgR raw).1 = d at *
  generalize (dgR raw).2 = E at *
  have hsz : (⟨d.toArray⟩ : ByteArray).size = d.length := by simp [ByteArray.size]
  have hne1 := not_nil (s := ⟨d.toArray⟩) (by rw [hsz]; exact l1)
  have hne2 := not_empty (s := ⟨d.toArray⟩) (by rw [hsz]; exact l1)
  have HR : Hid ((⟨#[45]⟩ : ByteArray) ++ ⟨d.toArray⟩ ++ ⟨(List.replicate (E - d.length).toNat (48 : UInt8)).toArray⟩ = ⟨(textR x).toArray⟩) := by
    show _ = _
    rw [hT0]
    unfold plainR
    rw [if_neg he, if_pos hl]
    apply ByteArray.ext
    simp
  have HZR : Hid (∀ W : World, Calls Tryd.prog 45 #[.int .i64 (E - d.length)] W fun e w' => e = .returned (.string ⟨(List.replicate (E - d.length).toNat (48 : UInt8)).toArray⟩) ∧ w' = W) := fun W => by
    have h9 := refZeros_any (E - d.length).toNat W (by omega)
    rwa [show (((E - d.length).toNat : Nat) : Int) = E - d.length by omega] at h9
  have hsr : (⟨(List.replicate (E - d.length).toNat (48 : UInt8)).toArray⟩ : ByteArray).size ≤ 30 := by simp [ByteArray.size]; omega
  generalize (⟨(List.replicate (E - d.length).toNat (48 : UInt8)).toArray⟩ : ByteArray) = ZS at *
  generalize (⟨d.toArray⟩ : ByteArray) = DS at *
  generalize d.length = n at *
  obtain ⟨hk1, hk2⟩ := hk
  clear hraw hT0 h0 h1
  have h5a : ¬ E < -5 := by omega
  have h5b : ¬ (21 : Int) < E := by omega
  go_enter Tryd.func14, Tryd.ntmps14
  go_wp2_with (first
    | (go_at_call 12; refine hd.mono ?_; clear hd; rintro e9 w1 ⟨rfl, hb1⟩; have HB1 : Hid (Below w.heap.size w w1) := hb1; clear hb1)
    | (go_at_call 45; refine (HZR.out _).mono ?_; clear HZR; rintro e9 w2 ⟨rfl, hw2⟩; have hw2 := hw2.symm; subst hw2))
  go_ret
  exact ⟨by rw [← HR.out]; rfl, HB1.out⟩

set_option maxRecDepth 100000 in
set_option maxHeartbeats 1000000 in
theorem rtext_mid_n (x raw : Nat) (w : World) (hx : x < 18446744073709551616) (hraw : raw = x % 9223372036854775808) (hn : 9223372036854775808 ≤ x) (h0 : 0 < raw) (h1 : raw < 9218868437227405312) (hk : -5 ≤ (dgR raw).2 ∧ (dgR raw).2 ≤ 21) (he : ¬ (dgR raw).2 ≤ 0) (hl : ¬ ((dgR raw).1.length : Int) ≤ (dgR raw).2) : Calls Tryd.prog 14 #[.float .f64 x] w fun e w' => e = .returned (.string ⟨(textR x).toArray⟩) ∧ Below w.heap.size w w' := by
  have hfb := floatbits_run
  have hand := andnot_sign hx
  have hd := refDigits_any x w hx
  rw [← hraw] at hand hd
  rw [decide_eq_true hn] at hd
  have hse : FloatKind.f64.format.order x x = some .eq := order_self (by rw [← hraw]; omega)
  have hT0 : textR x = [45] ++ plainR (dgR raw).1 (dgR raw).2 := by
    unfold textR bodyR
    rw [← hraw, if_neg (by omega), if_neg (by omega), if_pos hn, if_neg (by omega), if_pos hk]
  obtain ⟨l1, l2, l3, l4⟩ := dg_len h0 h1
  have hi2 : ((raw : Int) == 9218868437227405312) = false := by rw [beq_eq_false_iff_ne]; omega
  generalize (dgR raw).1 = d at *
  generalize (dgR raw).2 = E at *
  have hsz : (⟨d.toArray⟩ : ByteArray).size = d.length := by simp [ByteArray.size]
  have hne1 := not_nil (s := ⟨d.toArray⟩) (by rw [hsz]; exact l1)
  have hne2 := not_empty (s := ⟨d.toArray⟩) (by rw [hsz]; exact l1)
  obtain ⟨k, rfl⟩ : ∃ k : Nat, E = k := ⟨E.toNat, by omega⟩
  have hkl : k < d.length := by omega
  have hx1 : (⟨d.toArray⟩ : ByteArray).extract 0 k = ⟨(d.take k).toArray⟩ := by
    apply ByteArray.ext
    simp
  have hx2 : (⟨d.toArray⟩ : ByteArray).extract k d.length = ⟨(d.drop k).toArray⟩ := by
    apply ByteArray.ext
    simp
    exact List.take_of_length_le (by simp)
  have HR : Hid ((⟨#[45]⟩ : ByteArray) ++ ⟨(d.take k).toArray⟩ ++ ⟨#[46]⟩ ++ ⟨(d.drop k).toArray⟩ = ⟨(textR x).toArray⟩) := by
    show _ = _
    rw [hT0]
    unfold plainR
    rw [if_neg he, if_neg hl, Int.toNat_natCast]
    apply ByteArray.ext
    simp
  have hs1 : (⟨(d.take k).toArray⟩ : ByteArray).size ≤ 30 := by simp [ByteArray.size]; omega
  have hs2 : (⟨(d.drop k).toArray⟩ : ByteArray).size ≤ 30 := by simp [ByteArray.size]; omega
  generalize (⟨(d.take k).toArray⟩ : ByteArray) = S1 at *
  generalize (⟨(d.drop k).toArray⟩ : ByteArray) = S2 at *
  generalize (⟨d.toArray⟩ : ByteArray) = DS at *
  generalize d.length = n at *
  obtain ⟨hk1, hk2⟩ := hk
  clear hraw hT0 h0 h1
  have h5a : ¬ (k : Int) < -5 := by omega
  have h5b : ¬ (21 : Int) < (k : Int) := by omega
  go_enter Tryd.func14, Tryd.ntmps14
  go_wp2_with (go_at_call 12; refine hd.mono ?_; clear hd; rintro e9 w1 ⟨rfl, hb1⟩; have HB1 : Hid (Below w.heap.size w w1) := hb1; clear hb1)
  go_region
  go_wp2
  go_ret
  exact ⟨by rw [← HR.out]; rfl, HB1.out.drew⟩

set_option maxRecDepth 100000 in
set_option maxHeartbeats 1000000 in
theorem rtext_pow_n000 (x raw : Nat) (w : World) (hx : x < 18446744073709551616) (hraw : raw = x % 9223372036854775808) (hn : 9223372036854775808 ≤ x) (h0 : 0 < raw) (h1 : raw < 9218868437227405312) (hk : ¬ (-5 ≤ (dgR raw).2 ∧ (dgR raw).2 ≤ 21)) (hm : ¬ 1 < (dgR raw).1.length) (hkn : ¬ (dgR raw).2 - 1 < 0) (ho : ¬ (-10 < (dgR raw).2 - 1 ∧ (dgR raw).2 - 1 < 10)) : Calls Tryd.prog 14 #[.float .f64 x] w fun e w' => e = .returned (.string ⟨(textR x).toArray⟩) ∧ Below w.heap.size w w' := by
  have hfb := floatbits_run
  have hand := andnot_sign hx
  have hd := refDigits_any x w hx
  rw [← hraw] at hand hd
  rw [decide_eq_true hn] at hd
  have hse : FloatKind.f64.format.order x x = some .eq := order_self (by rw [← hraw]; omega)
  have hT0 : textR x = [45] ++ powR (dgR raw).1 (dgR raw).2 := by
    unfold textR bodyR
    rw [← hraw, if_neg (by omega), if_neg (by omega), if_pos hn, if_neg (by omega), if_neg hk]
  obtain ⟨l1, l2, l3, l4⟩ := dg_len h0 h1
  have hi2 : ((raw : Int) == 9218868437227405312) = false := by rw [beq_eq_false_iff_ne]; omega
  generalize (dgR raw).1 = d at *
  generalize (dgR raw).2 = E at *
  have hsz : (⟨d.toArray⟩ : ByteArray).size = d.length := by simp [ByteArray.size]
  have hne1 := not_nil (s := ⟨d.toArray⟩) (by rw [hsz]; exact l1)
  have hne2 := not_empty (s := ⟨d.toArray⟩) (by rw [hsz]; exact l1)
  have hx1 : (⟨d.toArray⟩ : ByteArray).extract 0 1 = ⟨(d.take 1).toArray⟩ := by
    apply ByteArray.ext
    simp
  have hx2 : (⟨d.toArray⟩ : ByteArray).extract 1 d.length = ⟨(d.drop 1).toArray⟩ := by
    apply ByteArray.ext
    simp
    exact List.take_of_length_le (by simp)
  have hs1 : (⟨(d.take 1).toArray⟩ : ByteArray).size ≤ 30 := by simp [ByteArray.size]; omega
  have hs2 : (⟨(d.drop 1).toArray⟩ : ByteArray).size ≤ 30 := by simp [ByteArray.size]; omega
  obtain ⟨PS, hPS⟩ : ∃ PS : ByteArray, PS = ⟨(Lib.decDigits (E - 1).natAbs).toArray⟩ := ⟨_, rfl⟩
  have hPl : PS.size = (Lib.decDigits (E - 1).natAbs).length := by rw [hPS, baz]
  have hPb : PS.size ≤ 4 := by rw [hPl]; exact dec_four (by omega)
  have hP2 : ¬ PS.size < 2 := by
    rw [hPl]
    have h9 := List.length_pos_iff.2 (dec_val _ ((E - 1).natAbs / 10) (Nat.le_refl _)).2.1; rw [Lib.decDigits, dif_neg (by omega), List.length_append, List.length_singleton]; omega
  have hP2i : ¬ (PS.size : Int) < 2 := by omega
  have HR : Hid ((⟨#[45]⟩ : ByteArray) ++ ⟨(d.take 1).toArray⟩ ++ ⟨#[101]⟩ ++ ⟨#[43]⟩ ++ PS = ⟨(textR x).toArray⟩) := by
    show _ = _
    rw [hT0]
    unfold powR
    rw [if_neg hm, if_neg hkn, if_neg ho, hPS]
    apply ByteArray.ext
    simp
  have HPL : Hid (∀ W : World, Calls Tryd.prog 44 #[.int .i64 (E - 1)] W fun e w' => e = .returned (.string PS) ∧ Below W.heap.size W w') := fun W => by
    have h9 := plainRef_any (E - 1).natAbs (E - 1) (Nat.le_refl _) (by omega) (by omega) W
    rw [← hPS] at h9
    exact h9
  generalize (⟨(d.take 1).toArray⟩ : ByteArray) = S1 at *
  generalize (⟨(d.drop 1).toArray⟩ : ByteArray) = S2 at *
  generalize (⟨d.toArray⟩ : ByteArray) = DS at *
  generalize d.length = n at *
  have hmi : ¬ (1 : Int) < n := by omega
  have hn1 : (1 : Int) ≤ n := by omega
  have HKK : Hid (¬ (-5 ≤ E ∧ E ≤ 21)) := hk
  have hout : E < -5 ∨ 21 < E := by omega
  clear hraw hT0 h0 h1 hk ho hPl hP2 hPS hm
  have hw5 : 21 < E := by omega
  have hw6 : ¬ E < -5 := by omega
  clear hout
  go_enter Tryd.func14, Tryd.ntmps14
  go_wp2_with (first
    | (go_at_call 12; refine hd.mono ?_; clear hd; rintro e9 w1 ⟨rfl, hb1⟩; have HB1 : Hid (Below w.heap.size w w1) := hb1; clear hb1)
    | (go_at_call 44; refine (HPL.out _).mono ?_; clear HPL; rintro e9 w2 ⟨rfl, hb2⟩; have HB2 : Hid (Below w.heap.size w w2) := HB1.out.trans (hb2.mono HB1.out.size); clear hb2))
  go_ret
  exact ⟨by rw [← HR.out]; rfl, HB2.out⟩

set_option maxRecDepth 100000 in
set_option maxHeartbeats 1000000 in
theorem rtext_pow_n010 (x raw : Nat) (w : World) (hx : x < 18446744073709551616) (hraw : raw = x % 9223372036854775808) (hn : 9223372036854775808 ≤ x) (h0 : 0 < raw) (h1 : raw < 9218868437227405312) (hk : ¬ (-5 ≤ (dgR raw).2 ∧ (dgR raw).2 ≤ 21)) (hm : ¬ 1 < (dgR raw).1.length) (hkn : (dgR raw).2 - 1 < 0) (ho : ¬ (-10 < (dgR raw).2 - 1 ∧ (dgR raw).2 - 1 < 10)) : Calls Tryd.prog 14 #[.float .f64 x] w fun e w' => e = .returned (.string ⟨(textR x).toArray⟩) ∧ Below w.heap.size w w' := by
  have hfb := floatbits_run
  have hand := andnot_sign hx
  have hd := refDigits_any x w hx
  rw [← hraw] at hand hd
  rw [decide_eq_true hn] at hd
  have hse : FloatKind.f64.format.order x x = some .eq := order_self (by rw [← hraw]; omega)
  have hT0 : textR x = [45] ++ powR (dgR raw).1 (dgR raw).2 := by
    unfold textR bodyR
    rw [← hraw, if_neg (by omega), if_neg (by omega), if_pos hn, if_neg (by omega), if_neg hk]
  obtain ⟨l1, l2, l3, l4⟩ := dg_len h0 h1
  have hi2 : ((raw : Int) == 9218868437227405312) = false := by rw [beq_eq_false_iff_ne]; omega
  generalize (dgR raw).1 = d at *
  generalize (dgR raw).2 = E at *
  have hsz : (⟨d.toArray⟩ : ByteArray).size = d.length := by simp [ByteArray.size]
  have hne1 := not_nil (s := ⟨d.toArray⟩) (by rw [hsz]; exact l1)
  have hne2 := not_empty (s := ⟨d.toArray⟩) (by rw [hsz]; exact l1)
  have hx1 : (⟨d.toArray⟩ : ByteArray).extract 0 1 = ⟨(d.take 1).toArray⟩ := by
    apply ByteArray.ext
    simp
  have hx2 : (⟨d.toArray⟩ : ByteArray).extract 1 d.length = ⟨(d.drop 1).toArray⟩ := by
    apply ByteArray.ext
    simp
    exact List.take_of_length_le (by simp)
  have hs1 : (⟨(d.take 1).toArray⟩ : ByteArray).size ≤ 30 := by simp [ByteArray.size]; omega
  have hs2 : (⟨(d.drop 1).toArray⟩ : ByteArray).size ≤ 30 := by simp [ByteArray.size]; omega
  obtain ⟨PS, hPS⟩ : ∃ PS : ByteArray, PS = ⟨(Lib.decDigits (E - 1).natAbs).toArray⟩ := ⟨_, rfl⟩
  have hPl : PS.size = (Lib.decDigits (E - 1).natAbs).length := by rw [hPS, baz]
  have hPb : PS.size ≤ 4 := by rw [hPl]; exact dec_four (by omega)
  have hP2 : ¬ PS.size < 2 := by
    rw [hPl]
    have h9 := List.length_pos_iff.2 (dec_val _ ((E - 1).natAbs / 10) (Nat.le_refl _)).2.1; rw [Lib.decDigits, dif_neg (by omega), List.length_append, List.length_singleton]; omega
  have hP2i : ¬ (PS.size : Int) < 2 := by omega
  have HR : Hid ((⟨#[45]⟩ : ByteArray) ++ ⟨(d.take 1).toArray⟩ ++ ⟨#[101]⟩ ++ ⟨#[45]⟩ ++ PS = ⟨(textR x).toArray⟩) := by
    show _ = _
    rw [hT0]
    unfold powR
    rw [if_neg hm, if_pos hkn, if_neg ho, hPS]
    apply ByteArray.ext
    simp
  have HPL : Hid (∀ W : World, Calls Tryd.prog 44 #[.int .i64 (-(E - 1))] W fun e w' => e = .returned (.string PS) ∧ Below W.heap.size W w') := fun W => by
    have h9 := plainRef_any (-(E - 1)).natAbs (-(E - 1)) (Nat.le_refl _) (by omega) (by omega) W
    rw [Int.natAbs_neg, ← hPS] at h9
    exact h9
  generalize (⟨(d.take 1).toArray⟩ : ByteArray) = S1 at *
  generalize (⟨(d.drop 1).toArray⟩ : ByteArray) = S2 at *
  generalize (⟨d.toArray⟩ : ByteArray) = DS at *
  generalize d.length = n at *
  have hmi : ¬ (1 : Int) < n := by omega
  have hn1 : (1 : Int) ≤ n := by omega
  have HKK : Hid (¬ (-5 ≤ E ∧ E ≤ 21)) := hk
  have hout : E < -5 ∨ 21 < E := by omega
  clear hraw hT0 h0 h1 hk ho hPl hP2 hPS hm
  have hw5 : E < -5 := by omega
  skip
  clear hout
  go_enter Tryd.func14, Tryd.ntmps14
  go_wp2_with (first
    | (go_at_call 12; refine hd.mono ?_; clear hd; rintro e9 w1 ⟨rfl, hb1⟩; have HB1 : Hid (Below w.heap.size w w1) := hb1; clear hb1)
    | (go_at_call 44; refine (HPL.out _).mono ?_; clear HPL; rintro e9 w2 ⟨rfl, hb2⟩; have HB2 : Hid (Below w.heap.size w w2) := HB1.out.trans (hb2.mono HB1.out.size); clear hb2))
  go_ret
  exact ⟨by rw [← HR.out]; rfl, HB2.out⟩

set_option maxRecDepth 100000 in
set_option maxHeartbeats 1000000 in
theorem rtext_pow_n011 (x raw : Nat) (w : World) (hx : x < 18446744073709551616) (hraw : raw = x % 9223372036854775808) (hn : 9223372036854775808 ≤ x) (h0 : 0 < raw) (h1 : raw < 9218868437227405312) (hk : ¬ (-5 ≤ (dgR raw).2 ∧ (dgR raw).2 ≤ 21)) (hm : ¬ 1 < (dgR raw).1.length) (hkn : (dgR raw).2 - 1 < 0) (ho : (-10 < (dgR raw).2 - 1 ∧ (dgR raw).2 - 1 < 10)) : Calls Tryd.prog 14 #[.float .f64 x] w fun e w' => e = .returned (.string ⟨(textR x).toArray⟩) ∧ Below w.heap.size w w' := by
  have hfb := floatbits_run
  have hand := andnot_sign hx
  have hd := refDigits_any x w hx
  rw [← hraw] at hand hd
  rw [decide_eq_true hn] at hd
  have hse : FloatKind.f64.format.order x x = some .eq := order_self (by rw [← hraw]; omega)
  have hT0 : textR x = [45] ++ powR (dgR raw).1 (dgR raw).2 := by
    unfold textR bodyR
    rw [← hraw, if_neg (by omega), if_neg (by omega), if_pos hn, if_neg (by omega), if_neg hk]
  obtain ⟨l1, l2, l3, l4⟩ := dg_len h0 h1
  have hi2 : ((raw : Int) == 9218868437227405312) = false := by rw [beq_eq_false_iff_ne]; omega
  generalize (dgR raw).1 = d at *
  generalize (dgR raw).2 = E at *
  have hsz : (⟨d.toArray⟩ : ByteArray).size = d.length := by simp [ByteArray.size]
  have hne1 := not_nil (s := ⟨d.toArray⟩) (by rw [hsz]; exact l1)
  have hne2 := not_empty (s := ⟨d.toArray⟩) (by rw [hsz]; exact l1)
  have hx1 : (⟨d.toArray⟩ : ByteArray).extract 0 1 = ⟨(d.take 1).toArray⟩ := by
    apply ByteArray.ext
    simp
  have hx2 : (⟨d.toArray⟩ : ByteArray).extract 1 d.length = ⟨(d.drop 1).toArray⟩ := by
    apply ByteArray.ext
    simp
    exact List.take_of_length_le (by simp)
  have hs1 : (⟨(d.take 1).toArray⟩ : ByteArray).size ≤ 30 := by simp [ByteArray.size]; omega
  have hs2 : (⟨(d.drop 1).toArray⟩ : ByteArray).size ≤ 30 := by simp [ByteArray.size]; omega
  obtain ⟨PS, hPS⟩ : ∃ PS : ByteArray, PS = ⟨(Lib.decDigits (E - 1).natAbs).toArray⟩ := ⟨_, rfl⟩
  have hPl : PS.size = (Lib.decDigits (E - 1).natAbs).length := by rw [hPS, baz]
  have hPb : PS.size ≤ 4 := by rw [hPl]; exact dec_four (by omega)
  have hP2 : PS.size < 2 := by
    rw [hPl]
    rw [Lib.decDigits_one (by omega)]; exact (by decide : 1 < 2)
  have hP2i : (PS.size : Int) < 2 := by omega
  have HR : Hid ((⟨#[45]⟩ : ByteArray) ++ ⟨(d.take 1).toArray⟩ ++ ⟨#[101]⟩ ++ ⟨#[45]⟩ ++ (⟨#[48]⟩ ++ PS) = ⟨(textR x).toArray⟩) := by
    show _ = _
    rw [hT0]
    unfold powR
    rw [if_neg hm, if_pos hkn, if_pos ho, hPS]
    apply ByteArray.ext
    simp
  have HPL : Hid (∀ W : World, Calls Tryd.prog 44 #[.int .i64 (-(E - 1))] W fun e w' => e = .returned (.string PS) ∧ Below W.heap.size W w') := fun W => by
    have h9 := plainRef_any (-(E - 1)).natAbs (-(E - 1)) (Nat.le_refl _) (by omega) (by omega) W
    rw [Int.natAbs_neg, ← hPS] at h9
    exact h9
  generalize (⟨(d.take 1).toArray⟩ : ByteArray) = S1 at *
  generalize (⟨(d.drop 1).toArray⟩ : ByteArray) = S2 at *
  generalize (⟨d.toArray⟩ : ByteArray) = DS at *
  generalize d.length = n at *
  have hmi : ¬ (1 : Int) < n := by omega
  have hn1 : (1 : Int) ≤ n := by omega
  have HKK : Hid (¬ (-5 ≤ E ∧ E ≤ 21)) := hk
  have hout : E < -5 ∨ 21 < E := by omega
  clear hraw hT0 h0 h1 hk ho hPl hP2 hPS hm
  have hw5 : E < -5 := by omega
  skip
  clear hout
  go_enter Tryd.func14, Tryd.ntmps14
  go_wp2_with (first
    | (go_at_call 12; refine hd.mono ?_; clear hd; rintro e9 w1 ⟨rfl, hb1⟩; have HB1 : Hid (Below w.heap.size w w1) := hb1; clear hb1)
    | (go_at_call 44; refine (HPL.out _).mono ?_; clear HPL; rintro e9 w2 ⟨rfl, hb2⟩; have HB2 : Hid (Below w.heap.size w w2) := HB1.out.trans (hb2.mono HB1.out.size); clear hb2))
  go_ret
  exact ⟨by rw [← HR.out]; rfl, HB2.out⟩

set_option maxRecDepth 100000 in
set_option maxHeartbeats 1000000 in
theorem rtext_pow_n100 (x raw : Nat) (w : World) (hx : x < 18446744073709551616) (hraw : raw = x % 9223372036854775808) (hn : 9223372036854775808 ≤ x) (h0 : 0 < raw) (h1 : raw < 9218868437227405312) (hk : ¬ (-5 ≤ (dgR raw).2 ∧ (dgR raw).2 ≤ 21)) (hm : 1 < (dgR raw).1.length) (hkn : ¬ (dgR raw).2 - 1 < 0) (ho : ¬ (-10 < (dgR raw).2 - 1 ∧ (dgR raw).2 - 1 < 10)) : Calls Tryd.prog 14 #[.float .f64 x] w fun e w' => e = .returned (.string ⟨(textR x).toArray⟩) ∧ Below w.heap.size w w' := by
  have hfb := floatbits_run
  have hand := andnot_sign hx
  have hd := refDigits_any x w hx
  rw [← hraw] at hand hd
  rw [decide_eq_true hn] at hd
  have hse : FloatKind.f64.format.order x x = some .eq := order_self (by rw [← hraw]; omega)
  have hT0 : textR x = [45] ++ powR (dgR raw).1 (dgR raw).2 := by
    unfold textR bodyR
    rw [← hraw, if_neg (by omega), if_neg (by omega), if_pos hn, if_neg (by omega), if_neg hk]
  obtain ⟨l1, l2, l3, l4⟩ := dg_len h0 h1
  have hi2 : ((raw : Int) == 9218868437227405312) = false := by rw [beq_eq_false_iff_ne]; omega
  generalize (dgR raw).1 = d at *
  generalize (dgR raw).2 = E at *
  have hsz : (⟨d.toArray⟩ : ByteArray).size = d.length := by simp [ByteArray.size]
  have hne1 := not_nil (s := ⟨d.toArray⟩) (by rw [hsz]; exact l1)
  have hne2 := not_empty (s := ⟨d.toArray⟩) (by rw [hsz]; exact l1)
  have hx1 : (⟨d.toArray⟩ : ByteArray).extract 0 1 = ⟨(d.take 1).toArray⟩ := by
    apply ByteArray.ext
    simp
  have hx2 : (⟨d.toArray⟩ : ByteArray).extract 1 d.length = ⟨(d.drop 1).toArray⟩ := by
    apply ByteArray.ext
    simp
    exact List.take_of_length_le (by simp)
  have hs1 : (⟨(d.take 1).toArray⟩ : ByteArray).size ≤ 30 := by simp [ByteArray.size]; omega
  have hs2 : (⟨(d.drop 1).toArray⟩ : ByteArray).size ≤ 30 := by simp [ByteArray.size]; omega
  obtain ⟨PS, hPS⟩ : ∃ PS : ByteArray, PS = ⟨(Lib.decDigits (E - 1).natAbs).toArray⟩ := ⟨_, rfl⟩
  have hPl : PS.size = (Lib.decDigits (E - 1).natAbs).length := by rw [hPS, baz]
  have hPb : PS.size ≤ 4 := by rw [hPl]; exact dec_four (by omega)
  have hP2 : ¬ PS.size < 2 := by
    rw [hPl]
    have h9 := List.length_pos_iff.2 (dec_val _ ((E - 1).natAbs / 10) (Nat.le_refl _)).2.1; rw [Lib.decDigits, dif_neg (by omega), List.length_append, List.length_singleton]; omega
  have hP2i : ¬ (PS.size : Int) < 2 := by omega
  have HR : Hid ((⟨#[45]⟩ : ByteArray) ++ ⟨(d.take 1).toArray⟩ ++ ⟨#[46]⟩ ++ ⟨(d.drop 1).toArray⟩ ++ ⟨#[101]⟩ ++ ⟨#[43]⟩ ++ PS = ⟨(textR x).toArray⟩) := by
    show _ = _
    rw [hT0]
    unfold powR
    rw [if_pos hm, if_neg hkn, if_neg ho, hPS]
    apply ByteArray.ext
    simp
  have HPL : Hid (∀ W : World, Calls Tryd.prog 44 #[.int .i64 (E - 1)] W fun e w' => e = .returned (.string PS) ∧ Below W.heap.size W w') := fun W => by
    have h9 := plainRef_any (E - 1).natAbs (E - 1) (Nat.le_refl _) (by omega) (by omega) W
    rw [← hPS] at h9
    exact h9
  generalize (⟨(d.take 1).toArray⟩ : ByteArray) = S1 at *
  generalize (⟨(d.drop 1).toArray⟩ : ByteArray) = S2 at *
  generalize (⟨d.toArray⟩ : ByteArray) = DS at *
  generalize d.length = n at *
  have hmi : (1 : Int) < n := by omega
  have hn1 : (1 : Int) ≤ n := by omega
  have HKK : Hid (¬ (-5 ≤ E ∧ E ≤ 21)) := hk
  have hout : E < -5 ∨ 21 < E := by omega
  clear hraw hT0 h0 h1 hk ho hPl hP2 hPS hm
  have hw5 : 21 < E := by omega
  have hw6 : ¬ E < -5 := by omega
  clear hout
  go_enter Tryd.func14, Tryd.ntmps14
  go_wp2_with (first
    | (go_at_call 12; refine hd.mono ?_; clear hd; rintro e9 w1 ⟨rfl, hb1⟩; have HB1 : Hid (Below w.heap.size w w1) := hb1; clear hb1)
    | (go_at_call 44; refine (HPL.out _).mono ?_; clear HPL; rintro e9 w2 ⟨rfl, hb2⟩; have HB2 : Hid (Below w.heap.size w w2) := HB1.out.trans (hb2.mono HB1.out.size); clear hb2))
  go_ret
  exact ⟨by rw [← HR.out]; rfl, HB2.out⟩

set_option maxRecDepth 100000 in
set_option maxHeartbeats 1000000 in
theorem rtext_pow_n110 (x raw : Nat) (w : World) (hx : x < 18446744073709551616) (hraw : raw = x % 9223372036854775808) (hn : 9223372036854775808 ≤ x) (h0 : 0 < raw) (h1 : raw < 9218868437227405312) (hk : ¬ (-5 ≤ (dgR raw).2 ∧ (dgR raw).2 ≤ 21)) (hm : 1 < (dgR raw).1.length) (hkn : (dgR raw).2 - 1 < 0) (ho : ¬ (-10 < (dgR raw).2 - 1 ∧ (dgR raw).2 - 1 < 10)) : Calls Tryd.prog 14 #[.float .f64 x] w fun e w' => e = .returned (.string ⟨(textR x).toArray⟩) ∧ Below w.heap.size w w' := by
  have hfb := floatbits_run
  have hand := andnot_sign hx
  have hd := refDigits_any x w hx
  rw [← hraw] at hand hd
  rw [decide_eq_true hn] at hd
  have hse : FloatKind.f64.format.order x x = some .eq := order_self (by rw [← hraw]; omega)
  have hT0 : textR x = [45] ++ powR (dgR raw).1 (dgR raw).2 := by
    unfold textR bodyR
    rw [← hraw, if_neg (by omega), if_neg (by omega), if_pos hn, if_neg (by omega), if_neg hk]
  obtain ⟨l1, l2, l3, l4⟩ := dg_len h0 h1
  have hi2 : ((raw : Int) == 9218868437227405312) = false := by rw [beq_eq_false_iff_ne]; omega
  generalize (dgR raw).1 = d at *
  generalize (dgR raw).2 = E at *
  have hsz : (⟨d.toArray⟩ : ByteArray).size = d.length := by simp [ByteArray.size]
  have hne1 := not_nil (s := ⟨d.toArray⟩) (by rw [hsz]; exact l1)
  have hne2 := not_empty (s := ⟨d.toArray⟩) (by rw [hsz]; exact l1)
  have hx1 : (⟨d.toArray⟩ : ByteArray).extract 0 1 = ⟨(d.take 1).toArray⟩ := by
    apply ByteArray.ext
    simp
  have hx2 : (⟨d.toArray⟩ : ByteArray).extract 1 d.length = ⟨(d.drop 1).toArray⟩ := by
    apply ByteArray.ext
    simp
    exact List.take_of_length_le (by simp)
  have hs1 : (⟨(d.take 1).toArray⟩ : ByteArray).size ≤ 30 := by simp [ByteArray.size]; omega
  have hs2 : (⟨(d.drop 1).toArray⟩ : ByteArray).size ≤ 30 := by simp [ByteArray.size]; omega
  obtain ⟨PS, hPS⟩ : ∃ PS : ByteArray, PS = ⟨(Lib.decDigits (E - 1).natAbs).toArray⟩ := ⟨_, rfl⟩
  have hPl : PS.size = (Lib.decDigits (E - 1).natAbs).length := by rw [hPS, baz]
  have hPb : PS.size ≤ 4 := by rw [hPl]; exact dec_four (by omega)
  have hP2 : ¬ PS.size < 2 := by
    rw [hPl]
    have h9 := List.length_pos_iff.2 (dec_val _ ((E - 1).natAbs / 10) (Nat.le_refl _)).2.1; rw [Lib.decDigits, dif_neg (by omega), List.length_append, List.length_singleton]; omega
  have hP2i : ¬ (PS.size : Int) < 2 := by omega
  have HR : Hid ((⟨#[45]⟩ : ByteArray) ++ ⟨(d.take 1).toArray⟩ ++ ⟨#[46]⟩ ++ ⟨(d.drop 1).toArray⟩ ++ ⟨#[101]⟩ ++ ⟨#[45]⟩ ++ PS = ⟨(textR x).toArray⟩) := by
    show _ = _
    rw [hT0]
    unfold powR
    rw [if_pos hm, if_pos hkn, if_neg ho, hPS]
    apply ByteArray.ext
    simp
  have HPL : Hid (∀ W : World, Calls Tryd.prog 44 #[.int .i64 (-(E - 1))] W fun e w' => e = .returned (.string PS) ∧ Below W.heap.size W w') := fun W => by
    have h9 := plainRef_any (-(E - 1)).natAbs (-(E - 1)) (Nat.le_refl _) (by omega) (by omega) W
    rw [Int.natAbs_neg, ← hPS] at h9
    exact h9
  generalize (⟨(d.take 1).toArray⟩ : ByteArray) = S1 at *
  generalize (⟨(d.drop 1).toArray⟩ : ByteArray) = S2 at *
  generalize (⟨d.toArray⟩ : ByteArray) = DS at *
  generalize d.length = n at *
  have hmi : (1 : Int) < n := by omega
  have hn1 : (1 : Int) ≤ n := by omega
  have HKK : Hid (¬ (-5 ≤ E ∧ E ≤ 21)) := hk
  have hout : E < -5 ∨ 21 < E := by omega
  clear hraw hT0 h0 h1 hk ho hPl hP2 hPS hm
  have hw5 : E < -5 := by omega
  skip
  clear hout
  go_enter Tryd.func14, Tryd.ntmps14
  go_wp2_with (first
    | (go_at_call 12; refine hd.mono ?_; clear hd; rintro e9 w1 ⟨rfl, hb1⟩; have HB1 : Hid (Below w.heap.size w w1) := hb1; clear hb1)
    | (go_at_call 44; refine (HPL.out _).mono ?_; clear HPL; rintro e9 w2 ⟨rfl, hb2⟩; have HB2 : Hid (Below w.heap.size w w2) := HB1.out.trans (hb2.mono HB1.out.size); clear hb2))
  go_ret
  exact ⟨by rw [← HR.out]; rfl, HB2.out⟩

set_option maxRecDepth 100000 in
set_option maxHeartbeats 1000000 in
theorem rtext_pow_n111 (x raw : Nat) (w : World) (hx : x < 18446744073709551616) (hraw : raw = x % 9223372036854775808) (hn : 9223372036854775808 ≤ x) (h0 : 0 < raw) (h1 : raw < 9218868437227405312) (hk : ¬ (-5 ≤ (dgR raw).2 ∧ (dgR raw).2 ≤ 21)) (hm : 1 < (dgR raw).1.length) (hkn : (dgR raw).2 - 1 < 0) (ho : (-10 < (dgR raw).2 - 1 ∧ (dgR raw).2 - 1 < 10)) : Calls Tryd.prog 14 #[.float .f64 x] w fun e w' => e = .returned (.string ⟨(textR x).toArray⟩) ∧ Below w.heap.size w w' := by
  have hfb := floatbits_run
  have hand := andnot_sign hx
  have hd := refDigits_any x w hx
  rw [← hraw] at hand hd
  rw [decide_eq_true hn] at hd
  have hse : FloatKind.f64.format.order x x = some .eq := order_self (by rw [← hraw]; omega)
  have hT0 : textR x = [45] ++ powR (dgR raw).1 (dgR raw).2 := by
    unfold textR bodyR
    rw [← hraw, if_neg (by omega), if_neg (by omega), if_pos hn, if_neg (by omega), if_neg hk]
  obtain ⟨l1, l2, l3, l4⟩ := dg_len h0 h1
  have hi2 : ((raw : Int) == 9218868437227405312) = false := by rw [beq_eq_false_iff_ne]; omega
  generalize (dgR raw).1 = d at *
  generalize (dgR raw).2 = E at *
  have hsz : (⟨d.toArray⟩ : ByteArray).size = d.length := by simp [ByteArray.size]
  have hne1 := not_nil (s := ⟨d.toArray⟩) (by rw [hsz]; exact l1)
  have hne2 := not_empty (s := ⟨d.toArray⟩) (by rw [hsz]; exact l1)
  have hx1 : (⟨d.toArray⟩ : ByteArray).extract 0 1 = ⟨(d.take 1).toArray⟩ := by
    apply ByteArray.ext
    simp
  have hx2 : (⟨d.toArray⟩ : ByteArray).extract 1 d.length = ⟨(d.drop 1).toArray⟩ := by
    apply ByteArray.ext
    simp
    exact List.take_of_length_le (by simp)
  have hs1 : (⟨(d.take 1).toArray⟩ : ByteArray).size ≤ 30 := by simp [ByteArray.size]; omega
  have hs2 : (⟨(d.drop 1).toArray⟩ : ByteArray).size ≤ 30 := by simp [ByteArray.size]; omega
  obtain ⟨PS, hPS⟩ : ∃ PS : ByteArray, PS = ⟨(Lib.decDigits (E - 1).natAbs).toArray⟩ := ⟨_, rfl⟩
  have hPl : PS.size = (Lib.decDigits (E - 1).natAbs).length := by rw [hPS, baz]
  have hPb : PS.size ≤ 4 := by rw [hPl]; exact dec_four (by omega)
  have hP2 : PS.size < 2 := by
    rw [hPl]
    rw [Lib.decDigits_one (by omega)]; exact (by decide : 1 < 2)
  have hP2i : (PS.size : Int) < 2 := by omega
  have HR : Hid ((⟨#[45]⟩ : ByteArray) ++ ⟨(d.take 1).toArray⟩ ++ ⟨#[46]⟩ ++ ⟨(d.drop 1).toArray⟩ ++ ⟨#[101]⟩ ++ ⟨#[45]⟩ ++ (⟨#[48]⟩ ++ PS) = ⟨(textR x).toArray⟩) := by
    show _ = _
    rw [hT0]
    unfold powR
    rw [if_pos hm, if_pos hkn, if_pos ho, hPS]
    apply ByteArray.ext
    simp
  have HPL : Hid (∀ W : World, Calls Tryd.prog 44 #[.int .i64 (-(E - 1))] W fun e w' => e = .returned (.string PS) ∧ Below W.heap.size W w') := fun W => by
    have h9 := plainRef_any (-(E - 1)).natAbs (-(E - 1)) (Nat.le_refl _) (by omega) (by omega) W
    rw [Int.natAbs_neg, ← hPS] at h9
    exact h9
  generalize (⟨(d.take 1).toArray⟩ : ByteArray) = S1 at *
  generalize (⟨(d.drop 1).toArray⟩ : ByteArray) = S2 at *
  generalize (⟨d.toArray⟩ : ByteArray) = DS at *
  generalize d.length = n at *
  have hmi : (1 : Int) < n := by omega
  have hn1 : (1 : Int) ≤ n := by omega
  have HKK : Hid (¬ (-5 ≤ E ∧ E ≤ 21)) := hk
  have hout : E < -5 ∨ 21 < E := by omega
  clear hraw hT0 h0 h1 hk ho hPl hP2 hPS hm
  have hw5 : E < -5 := by omega
  skip
  clear hout
  go_enter Tryd.func14, Tryd.ntmps14
  go_wp2_with (first
    | (go_at_call 12; refine hd.mono ?_; clear hd; rintro e9 w1 ⟨rfl, hb1⟩; have HB1 : Hid (Below w.heap.size w w1) := hb1; clear hb1)
    | (go_at_call 44; refine (HPL.out _).mono ?_; clear HPL; rintro e9 w2 ⟨rfl, hb2⟩; have HB2 : Hid (Below w.heap.size w w2) := HB1.out.trans (hb2.mono HB1.out.size); clear hb2))
  go_ret
  exact ⟨by rw [← HR.out]; rfl, HB2.out⟩
theorem refText_any (x : Nat) (w : World) (hx : x < 18446744073709551616) : Calls Tryd.prog 14 #[.float .f64 x] w fun e w' => e = .returned (.string ⟨(textR x).toArray⟩) ∧ Below w.heap.size w w' := by
  by_cases hnan : 9218868437227405312 < x % 9223372036854775808
  · exact rtext_nan x w hnan
  obtain ⟨raw, hraw⟩ : ∃ raw, raw = x % 9223372036854775808 := ⟨_, rfl⟩
  rw [← hraw] at hnan
  by_cases hn : 9223372036854775808 ≤ x
  · by_cases hk : raw = 9218868437227405312
    · exact rtext_inf_n x raw w hx hraw hn hk
    by_cases h0 : raw = 0
    · exact rtext_zero_n x raw w hx hraw hn h0
    have h0' : 0 < raw := by omega
    have h1 : raw < 9218868437227405312 := by omega
    by_cases hk5 : -5 ≤ (dgR raw).2 ∧ (dgR raw).2 ≤ 21
    · by_cases he : (dgR raw).2 ≤ 0
      · exact rtext_low_n x raw w hx hraw hn h0' h1 hk5 he
      · by_cases hl : ((dgR raw).1.length : Int) ≤ (dgR raw).2
        · exact rtext_whole_n x raw w hx hraw hn h0' h1 hk5 he hl
        · exact rtext_mid_n x raw w hx hraw hn h0' h1 hk5 he hl
    · by_cases hm : 1 < (dgR raw).1.length <;> by_cases hkn : (dgR raw).2 - 1 < 0 <;> by_cases ho : (-10 < (dgR raw).2 - 1 ∧ (dgR raw).2 - 1 < 10)
      · exact rtext_pow_n111 x raw w hx hraw hn h0' h1 hk5 hm hkn ho
      · exact rtext_pow_n110 x raw w hx hraw hn h0' h1 hk5 hm hkn ho
      · exfalso
        omega
      · exact rtext_pow_n100 x raw w hx hraw hn h0' h1 hk5 hm hkn ho
      · exact rtext_pow_n011 x raw w hx hraw hn h0' h1 hk5 hm hkn ho
      · exact rtext_pow_n010 x raw w hx hraw hn h0' h1 hk5 hm hkn ho
      · exfalso
        omega
      · exact rtext_pow_n000 x raw w hx hraw hn h0' h1 hk5 hm hkn ho
  · by_cases hk : raw = 9218868437227405312
    · exact rtext_inf_p x raw w hx hraw hn hk
    by_cases h0 : raw = 0
    · exact rtext_zero_p x raw w hx hraw hn h0
    have h0' : 0 < raw := by omega
    have h1 : raw < 9218868437227405312 := by omega
    by_cases hk5 : -5 ≤ (dgR raw).2 ∧ (dgR raw).2 ≤ 21
    · by_cases he : (dgR raw).2 ≤ 0
      · exact rtext_low_p x raw w hx hraw hn h0' h1 hk5 he
      · by_cases hl : ((dgR raw).1.length : Int) ≤ (dgR raw).2
        · exact rtext_whole_p x raw w hx hraw hn h0' h1 hk5 he hl
        · exact rtext_mid_p x raw w hx hraw hn h0' h1 hk5 he hl
    · by_cases hm : 1 < (dgR raw).1.length <;> by_cases hkn : (dgR raw).2 - 1 < 0 <;> by_cases ho : (-10 < (dgR raw).2 - 1 ∧ (dgR raw).2 - 1 < 10)
      · exact rtext_pow_p111 x raw w hx hraw hn h0' h1 hk5 hm hkn ho
      · exact rtext_pow_p110 x raw w hx hraw hn h0' h1 hk5 hm hkn ho
      · exfalso
        omega
      · exact rtext_pow_p100 x raw w hx hraw hn h0' h1 hk5 hm hkn ho
      · exact rtext_pow_p011 x raw w hx hraw hn h0' h1 hk5 hm hkn ho
      · exact rtext_pow_p010 x raw w hx hraw hn h0' h1 hk5 hm hkn ho
      · exfalso
        omega
      · exact rtext_pow_p000 x raw w hx hraw hn h0' h1 hk5 hm hkn ho
end Go.Proofs.YtinfnkhghmcelaaDoor
