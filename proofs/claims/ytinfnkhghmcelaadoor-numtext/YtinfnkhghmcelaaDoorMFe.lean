/- Texts that belong together. -/
import Derived.Test.YtinfnkhghmcelaaDoorMFd
import Derived.Test.YtinfnkhghmcelaaDoorMQy
import Derived.Test.YtinfnkhghmcelaaDoorMDw
import Derived.Test.YtinfnkhghmcelaaDoorMJn
/- A float's text. -/
namespace Go.Proofs.YtinfnkhghmcelaaDoor
open Go.RowKit Go.Maps

theorem dg_len {raw : Nat} (h0 : 0 < raw) (h1 : raw < 9218868437227405312) : 1 ≤ (dgR raw).1.length ∧ (dgR raw).1.length ≤ 18 ∧ -500 ≤ (dgR raw).2 ∧ (dgR raw).2 ≤ 500 := by
  unfold dgR
  rw [if_neg (by omega)]
  have hf := dig_facts h0 h1
  obtain ⟨l, hl⟩ := dig_18 hf
  have hll := shortF_len _ _ _ _ _ _ _ hl
  have hg := (shortF_good _ _ _ _ _ _ _ (dig_bounds hf).1 hl).1
  have hE : -400 ≤ EX raw ∧ EX raw ≤ 401 := by
    have := hf.e1
    have := hf.e2
    unfold EX scaleE
    split <;> omega
  rw [dig_short hf hl]
  have := List.length_pos_iff.2 hg
  unfold upR
  split
  · refine ⟨by simp, by simp, ?_, ?_⟩
    · show -500 ≤ EX raw + 1; omega
    · show EX raw + 1 ≤ 500; omega
  · refine ⟨this, hll, ?_, ?_⟩
    · show -500 ≤ EX raw; omega
    · show EX raw ≤ 500; omega
/-- A float's text by its bits without the sign, and the sign. -/
def bodyR (raw : Nat) : List UInt8 := if raw = 0 then [48] else if -5 ≤ (dgR raw).2 ∧ (dgR raw).2 ≤ 21 then plainR (dgR raw).1 (dgR raw).2 else powR (dgR raw).1 (dgR raw).2
def textR (x : Nat) : List UInt8 :=
  if 9218868437227405312 < x % 9223372036854775808 then [78, 97, 78]
  else if x % 9223372036854775808 = 9218868437227405312 then (if 9223372036854775808 ≤ x then [45, 73, 110, 102] else [43, 73, 110, 102])
  else (if 9223372036854775808 ≤ x then [45] else []) ++ bodyR (x % 9223372036854775808)
theorem plain_len (d : List UInt8) (e : Int) (hd : d.length ≤ 30) (h1 : -5 ≤ e) (h2 : e ≤ 21) : (plainR d e).length ≤ 100 := by
  unfold plainR
  split
  · simp; omega
  · split
    · simp; omega
    · simp; omega
theorem pow_len (d : List UInt8) (e : Int) (hd : d.length ≤ 30) (h1 : -1000 ≤ e) (h2 : e ≤ 1000) : (powR d e).length ≤ 200 := by
  have hdl : (Lib.decDigits (e - 1).natAbs).length ≤ 20 := dec_len _ (by omega)
  unfold powR
  simp only [List.length_append]
  have q1 : (d.take 1).length ≤ 1 := by simp; omega
  have q2 : (if 1 < d.length then 46 :: d.drop 1 else []).length ≤ 31 := by split <;> simp; omega
  have q3 : (if e - 1 < 0 then ([101, 45] : List UInt8) else [101, 43]).length ≤ 2 := by split <;> simp
  have q4 : (if -10 < e - 1 ∧ e - 1 < 10 then ([48] : List UInt8) else []).length ≤ 1 := by split <;> simp
  omega

set_option maxRecDepth 100000 in
theorem text_inf_p (x raw : Nat) (w : World) (hx : x < 18446744073709551616) (hraw : raw = x % 9223372036854775808) (hn : ¬ 9223372036854775808 ≤ x) (hk : raw = 9218868437227405312) : Calls Tryd.prog 13 #[.float .f64 x] w fun e w' => e = .returned (.string ⟨[43, 73, 110, 102].toArray⟩) ∧ Below w.heap.size w w' := by
  have hfb := floatbits_run
  have hand := andnot_sign hx
  have hd := digits_any x w hx
  rw [← hraw] at hand hd
  rw [decide_eq_false hn] at hd
  have hdg : dgR raw = ([], 0) := by unfold dgR; rw [if_pos (by omega)]
  rw [hdg] at hd
  clear hdg hraw hn
  subst hk
  go_enter Tryd.func13, Tryd.ntmps13
  go_wp2_with (go_at_call 11; refine hd.mono ?_; clear hd; rintro e w1 ⟨rfl, hb1⟩; have HB1 : Hid (Below w.heap.size w w1) := hb1; clear hb1)
  go_ret
  exact ⟨rfl, HB1.out⟩

set_option maxRecDepth 100000 in
theorem text_inf_n (x raw : Nat) (w : World) (hx : x < 18446744073709551616) (hraw : raw = x % 9223372036854775808) (hn : 9223372036854775808 ≤ x) (hk : raw = 9218868437227405312) : Calls Tryd.prog 13 #[.float .f64 x] w fun e w' => e = .returned (.string ⟨[45, 73, 110, 102].toArray⟩) ∧ Below w.heap.size w w' := by
  have hfb := floatbits_run
  have hand := andnot_sign hx
  have hd := digits_any x w hx
  rw [← hraw] at hand hd
  rw [decide_eq_true hn] at hd
  have hdg : dgR raw = ([], 0) := by unfold dgR; rw [if_pos (by omega)]
  rw [hdg] at hd
  clear hdg hraw hn
  subst hk
  go_enter Tryd.func13, Tryd.ntmps13
  go_wp2_with (go_at_call 11; refine hd.mono ?_; clear hd; rintro e w1 ⟨rfl, hb1⟩; have HB1 : Hid (Below w.heap.size w w1) := hb1; clear hb1)
  go_ret
  exact ⟨rfl, HB1.out⟩

set_option maxRecDepth 100000 in
theorem text_zero_p (x raw : Nat) (w : World) (hx : x < 18446744073709551616) (hraw : raw = x % 9223372036854775808) (hn : ¬ 9223372036854775808 ≤ x) (hk : raw = 0) : Calls Tryd.prog 13 #[.float .f64 x] w fun e w' => e = .returned (.string ⟨[48].toArray⟩) ∧ Below w.heap.size w w' := by
  have hfb := floatbits_run
  have hand := andnot_sign hx
  have hd := digits_any x w hx
  rw [← hraw] at hand hd
  rw [decide_eq_false hn] at hd
  have hdg : dgR raw = ([], 0) := by unfold dgR; rw [if_pos (by omega)]
  rw [hdg] at hd
  clear hdg hraw hn
  subst hk
  go_enter Tryd.func13, Tryd.ntmps13
  go_wp2_with (go_at_call 11; refine hd.mono ?_; clear hd; rintro e w1 ⟨rfl, hb1⟩; have HB1 : Hid (Below w.heap.size w w1) := hb1; clear hb1)
  go_ret
  exact ⟨rfl, HB1.out⟩

set_option maxRecDepth 100000 in
theorem text_zero_n (x raw : Nat) (w : World) (hx : x < 18446744073709551616) (hraw : raw = x % 9223372036854775808) (hn : 9223372036854775808 ≤ x) (hk : raw = 0) : Calls Tryd.prog 13 #[.float .f64 x] w fun e w' => e = .returned (.string ⟨[45, 48].toArray⟩) ∧ Below w.heap.size w w' := by
  have hfb := floatbits_run
  have hand := andnot_sign hx
  have hd := digits_any x w hx
  rw [← hraw] at hand hd
  rw [decide_eq_true hn] at hd
  have hdg : dgR raw = ([], 0) := by unfold dgR; rw [if_pos (by omega)]
  rw [hdg] at hd
  clear hdg hraw hn
  subst hk
  go_enter Tryd.func13, Tryd.ntmps13
  go_wp2_with (go_at_call 11; refine hd.mono ?_; clear hd; rintro e w1 ⟨rfl, hb1⟩; have HB1 : Hid (Below w.heap.size w w1) := hb1; clear hb1)
  go_ret
  exact ⟨rfl, HB1.out⟩

set_option maxRecDepth 100000 in
theorem text_plain_p (x raw : Nat) (w : World) (hx : x < 18446744073709551616) (hraw : raw = x % 9223372036854775808) (hn : ¬ 9223372036854775808 ≤ x) (h0 : 0 < raw) (h1 : raw < 9218868437227405312) (hk : -5 ≤ (dgR raw).2 ∧ (dgR raw).2 ≤ 21) : Calls Tryd.prog 13 #[.float .f64 x] w fun e w' => e = .returned (.string ⟨(plainR (dgR raw).1 (dgR raw).2).toArray⟩) ∧ Below w.heap.size w w' := by
  have hfb := floatbits_run
  have hand := andnot_sign hx
  have hd := digits_any x w hx
  rw [← hraw] at hand hd
  rw [decide_eq_false hn] at hd
  obtain ⟨l1, l2, l3, l4⟩ := dg_len h0 h1
  have HC : Hid (∀ W : World, Below w.heap.size w W → Calls Tryd.prog 42 #[.string ⟨(dgR raw).1.toArray⟩, .int .i64 (dgR raw).2] W fun r w' => r = .returned (.string ⟨(plainR (dgR raw).1 (dgR raw).2).toArray⟩) ∧ Below W.heap.size W w') := fun W _ => plain_any _ _ W (by omega) hk.1 hk.2
  have hpl := plain_len (dgR raw).1 (dgR raw).2 (by omega) hk.1 hk.2
  obtain ⟨hk1, hk2⟩ := hk
  have hs : (⟨(plainR (dgR raw).1 (dgR raw).2).toArray⟩ : ByteArray).size ≤ 200 := by simp [ByteArray.size]; omega
  have HR : Hid ((⟨#[]⟩ : ByteArray) ++ ⟨(plainR (dgR raw).1 (dgR raw).2).toArray⟩ = ⟨(plainR (dgR raw).1 (dgR raw).2).toArray⟩) := by
    show _ = _
    apply ByteArray.ext
    simp
  generalize (plainR (dgR raw).1 (dgR raw).2) = TR at *
  have hi1 : ¬ (9218868437227405312 : Int) < (raw : Int) := by omega
  have hi2 : ((raw : Int) == 9218868437227405312) = false := by rw [beq_eq_false_iff_ne]; omega
  have hi3 : ((raw : Int) == 0) = false := by rw [beq_eq_false_iff_ne]; omega
  generalize (⟨(dgR raw).1.toArray⟩ : ByteArray) = DS at *
  generalize (dgR raw).2 = E at *
  generalize (⟨TR.toArray⟩ : ByteArray) = TS at *
  clear hraw hpl l1 l2
  go_enter Tryd.func13, Tryd.ntmps13
  go_wp2_with (first
    | (go_at_call 11; refine hd.mono ?_; clear hd; rintro e w1 ⟨rfl, hb1⟩; have HB1 : Hid (Below w.heap.size w w1) := hb1; clear hb1)
    | (go_at_call 42; refine (HC.out _ HB1.out).mono ?_; clear HC; rintro e w2 ⟨rfl, hb2⟩; have HB2 : Hid (Below w.heap.size w w2) := HB1.out.trans (hb2.mono HB1.out.size); clear hb2))
  go_ret
  exact ⟨by rw [← HR.out]; rfl, HB2.out⟩

set_option maxRecDepth 100000 in
theorem text_plain_n (x raw : Nat) (w : World) (hx : x < 18446744073709551616) (hraw : raw = x % 9223372036854775808) (hn : 9223372036854775808 ≤ x) (h0 : 0 < raw) (h1 : raw < 9218868437227405312) (hk : -5 ≤ (dgR raw).2 ∧ (dgR raw).2 ≤ 21) : Calls Tryd.prog 13 #[.float .f64 x] w fun e w' => e = .returned (.string ⟨(45 :: plainR (dgR raw).1 (dgR raw).2).toArray⟩) ∧ Below w.heap.size w w' := by
  have hfb := floatbits_run
  have hand := andnot_sign hx
  have hd := digits_any x w hx
  rw [← hraw] at hand hd
  rw [decide_eq_true hn] at hd
  obtain ⟨l1, l2, l3, l4⟩ := dg_len h0 h1
  have HC : Hid (∀ W : World, Below w.heap.size w W → Calls Tryd.prog 42 #[.string ⟨(dgR raw).1.toArray⟩, .int .i64 (dgR raw).2] W fun r w' => r = .returned (.string ⟨(plainR (dgR raw).1 (dgR raw).2).toArray⟩) ∧ Below W.heap.size W w') := fun W _ => plain_any _ _ W (by omega) hk.1 hk.2
  have hpl := plain_len (dgR raw).1 (dgR raw).2 (by omega) hk.1 hk.2
  obtain ⟨hk1, hk2⟩ := hk
  have hs : (⟨(plainR (dgR raw).1 (dgR raw).2).toArray⟩ : ByteArray).size ≤ 200 := by simp [ByteArray.size]; omega
  have HR : Hid ((⟨#[45]⟩ : ByteArray) ++ ⟨(plainR (dgR raw).1 (dgR raw).2).toArray⟩ = ⟨(45 :: plainR (dgR raw).1 (dgR raw).2).toArray⟩) := by
    show _ = _
    apply ByteArray.ext
    simp
  generalize plainR (dgR raw).1 (dgR raw).2 = TR at *
  have hi1 : ¬ (9218868437227405312 : Int) < (raw : Int) := by omega
  have hi2 : ((raw : Int) == 9218868437227405312) = false := by rw [beq_eq_false_iff_ne]; omega
  have hi3 : ((raw : Int) == 0) = false := by rw [beq_eq_false_iff_ne]; omega
  generalize (⟨(dgR raw).1.toArray⟩ : ByteArray) = DS at *
  generalize (dgR raw).2 = E at *
  generalize (⟨TR.toArray⟩ : ByteArray) = TS at *
  clear hraw hpl l1 l2
  go_enter Tryd.func13, Tryd.ntmps13
  go_wp2_with (first
    | (go_at_call 11; refine hd.mono ?_; clear hd; rintro e w1 ⟨rfl, hb1⟩; have HB1 : Hid (Below w.heap.size w w1) := hb1; clear hb1)
    | (go_at_call 42; refine (HC.out _ HB1.out).mono ?_; clear HC; rintro e w2 ⟨rfl, hb2⟩; have HB2 : Hid (Below w.heap.size w w2) := HB1.out.trans (hb2.mono HB1.out.size); clear hb2))
  go_ret
  exact ⟨by rw [← HR.out]; rfl, HB2.out⟩

set_option maxRecDepth 100000 in
theorem text_pow_p (x raw : Nat) (w : World) (hx : x < 18446744073709551616) (hraw : raw = x % 9223372036854775808) (hn : ¬ 9223372036854775808 ≤ x) (h0 : 0 < raw) (h1 : raw < 9218868437227405312) (hk : ¬ (-5 ≤ (dgR raw).2 ∧ (dgR raw).2 ≤ 21)) (hp : Pow w) : Calls Tryd.prog 13 #[.float .f64 x] w fun e w' => e = .returned (.string ⟨(powR (dgR raw).1 (dgR raw).2).toArray⟩) ∧ Below w.heap.size w w' := by
  have hfb := floatbits_run
  have hand := andnot_sign hx
  have hd := digits_any x w hx
  rw [← hraw] at hand hd
  rw [decide_eq_false hn] at hd
  obtain ⟨l1, l2, l3, l4⟩ := dg_len h0 h1
  have HC : Hid (∀ W : World, Below w.heap.size w W → Calls Tryd.prog 43 #[.string ⟨(dgR raw).1.toArray⟩, .int .i64 (dgR raw).2] W fun r w' => r = .returned (.string ⟨(powR (dgR raw).1 (dgR raw).2).toArray⟩) ∧ Below W.heap.size W w') := fun W h => withPower_any _ _ W (by omega) (by omega) (by omega) (by omega) (hp.below h)
  have hpl := pow_len (dgR raw).1 (dgR raw).2 (by omega) (by omega) (by omega)
  have hk1 : (dgR raw).2 < -5 ∨ 21 < (dgR raw).2 := by omega
  clear hk hp
  have hs : (⟨(powR (dgR raw).1 (dgR raw).2).toArray⟩ : ByteArray).size ≤ 200 := by simp [ByteArray.size]; omega
  have HR : Hid ((⟨#[]⟩ : ByteArray) ++ ⟨(powR (dgR raw).1 (dgR raw).2).toArray⟩ = ⟨(powR (dgR raw).1 (dgR raw).2).toArray⟩) := by
    show _ = _
    apply ByteArray.ext
    simp
  generalize (powR (dgR raw).1 (dgR raw).2) = TR at *
  have hi1 : ¬ (9218868437227405312 : Int) < (raw : Int) := by omega
  have hi2 : ((raw : Int) == 9218868437227405312) = false := by rw [beq_eq_false_iff_ne]; omega
  have hi3 : ((raw : Int) == 0) = false := by rw [beq_eq_false_iff_ne]; omega
  generalize (⟨(dgR raw).1.toArray⟩ : ByteArray) = DS at *
  generalize (dgR raw).2 = E at *
  generalize (⟨TR.toArray⟩ : ByteArray) = TS at *
  clear hraw hpl l1 l2
  rcases hk1 with hk1 | hk1
  · have hq : ¬ (-5 : Int) ≤ E := by omega
    go_enter Tryd.func13, Tryd.ntmps13
    go_wp2_with (first
      | (go_at_call 11; refine hd.mono ?_; clear hd; rintro e w1 ⟨rfl, hb1⟩; have HB1 : Hid (Below w.heap.size w w1) := hb1; clear hb1)
      | (go_at_call 43; refine (HC.out _ HB1.out).mono ?_; clear HC; rintro e w2 ⟨rfl, hb2⟩; have HB2 : Hid (Below w.heap.size w w2) := HB1.out.trans (hb2.mono HB1.out.size); clear hb2))
    go_ret
    exact ⟨by rw [← HR.out]; rfl, HB2.out⟩
  · have hq : (-5 : Int) ≤ E := by omega
    have hq2 : ¬ E ≤ 21 := by omega
    go_enter Tryd.func13, Tryd.ntmps13
    go_wp2_with (first
      | (go_at_call 11; refine hd.mono ?_; clear hd; rintro e w1 ⟨rfl, hb1⟩; have HB1 : Hid (Below w.heap.size w w1) := hb1; clear hb1)
      | (go_at_call 43; refine (HC.out _ HB1.out).mono ?_; clear HC; rintro e w2 ⟨rfl, hb2⟩; have HB2 : Hid (Below w.heap.size w w2) := HB1.out.trans (hb2.mono HB1.out.size); clear hb2))
    go_ret
    exact ⟨by rw [← HR.out]; rfl, HB2.out⟩

set_option maxRecDepth 100000 in
theorem text_pow_n (x raw : Nat) (w : World) (hx : x < 18446744073709551616) (hraw : raw = x % 9223372036854775808) (hn : 9223372036854775808 ≤ x) (h0 : 0 < raw) (h1 : raw < 9218868437227405312) (hk : ¬ (-5 ≤ (dgR raw).2 ∧ (dgR raw).2 ≤ 21)) (hp : Pow w) : Calls Tryd.prog 13 #[.float .f64 x] w fun e w' => e = .returned (.string ⟨(45 :: powR (dgR raw).1 (dgR raw).2).toArray⟩) ∧ Below w.heap.size w w' := by
  have hfb := floatbits_run
  have hand := andnot_sign hx
  have hd := digits_any x w hx
  rw [← hraw] at hand hd
  rw [decide_eq_true hn] at hd
  obtain ⟨l1, l2, l3, l4⟩ := dg_len h0 h1
  have HC : Hid (∀ W : World, Below w.heap.size w W → Calls Tryd.prog 43 #[.string ⟨(dgR raw).1.toArray⟩, .int .i64 (dgR raw).2] W fun r w' => r = .returned (.string ⟨(powR (dgR raw).1 (dgR raw).2).toArray⟩) ∧ Below W.heap.size W w') := fun W h => withPower_any _ _ W (by omega) (by omega) (by omega) (by omega) (hp.below h)
  have hpl := pow_len (dgR raw).1 (dgR raw).2 (by omega) (by omega) (by omega)
  have hk1 : (dgR raw).2 < -5 ∨ 21 < (dgR raw).2 := by omega
  clear hk hp
  have hs : (⟨(powR (dgR raw).1 (dgR raw).2).toArray⟩ : ByteArray).size ≤ 200 := by simp [ByteArray.size]; omega
  have HR : Hid ((⟨#[45]⟩ : ByteArray) ++ ⟨(powR (dgR raw).1 (dgR raw).2).toArray⟩ = ⟨(45 :: powR (dgR raw).1 (dgR raw).2).toArray⟩) := by
    show _ = _
    apply ByteArray.ext
    simp
  generalize powR (dgR raw).1 (dgR raw).2 = TR at *
  have hi1 : ¬ (9218868437227405312 : Int) < (raw : Int) := by omega
  have hi2 : ((raw : Int) == 9218868437227405312) = false := by rw [beq_eq_false_iff_ne]; omega
  have hi3 : ((raw : Int) == 0) = false := by rw [beq_eq_false_iff_ne]; omega
  generalize (⟨(dgR raw).1.toArray⟩ : ByteArray) = DS at *
  generalize (dgR raw).2 = E at *
  generalize (⟨TR.toArray⟩ : ByteArray) = TS at *
  clear hraw hpl l1 l2
  rcases hk1 with hk1 | hk1
  · have hq : ¬ (-5 : Int) ≤ E := by omega
    go_enter Tryd.func13, Tryd.ntmps13
    go_wp2_with (first
      | (go_at_call 11; refine hd.mono ?_; clear hd; rintro e w1 ⟨rfl, hb1⟩; have HB1 : Hid (Below w.heap.size w w1) := hb1; clear hb1)
      | (go_at_call 43; refine (HC.out _ HB1.out).mono ?_; clear HC; rintro e w2 ⟨rfl, hb2⟩; have HB2 : Hid (Below w.heap.size w w2) := HB1.out.trans (hb2.mono HB1.out.size); clear hb2))
    go_ret
    exact ⟨by rw [← HR.out]; rfl, HB2.out⟩
  · have hq : (-5 : Int) ≤ E := by omega
    have hq2 : ¬ E ≤ 21 := by omega
    go_enter Tryd.func13, Tryd.ntmps13
    go_wp2_with (first
      | (go_at_call 11; refine hd.mono ?_; clear hd; rintro e w1 ⟨rfl, hb1⟩; have HB1 : Hid (Below w.heap.size w w1) := hb1; clear hb1)
      | (go_at_call 43; refine (HC.out _ HB1.out).mono ?_; clear HC; rintro e w2 ⟨rfl, hb2⟩; have HB2 : Hid (Below w.heap.size w w2) := HB1.out.trans (hb2.mono HB1.out.size); clear hb2))
    go_ret
    exact ⟨by rw [← HR.out]; rfl, HB2.out⟩

set_option maxRecDepth 100000 in
theorem text_nan (x raw : Nat) (w : World) (hx : x < 18446744073709551616) (hraw : raw = x % 9223372036854775808) (hk : 9218868437227405312 < raw) : Calls Tryd.prog 13 #[.float .f64 x] w fun e w' => e = .returned (.string ⟨([78, 97, 78] : List UInt8).toArray⟩) ∧ Below w.heap.size w w' := by
  have hfb := floatbits_run
  have hand := andnot_sign hx
  rw [← hraw] at hand
  have hi1 : (9218868437227405312 : Int) < (raw : Int) := by omega
  clear hraw
  go_enter Tryd.func13, Tryd.ntmps13
  go_wp2
  go_ret
  exact ⟨rfl, Below.refl _ _⟩
end Go.Proofs.YtinfnkhghmcelaaDoor

/- Bits, and a float beside itself. -/
namespace Go.Proofs.YtinfnkhghmcelaaDoor
open Go.RowKit Go.Maps

theorem keepBits_any (x y : Nat) (w : World) :
    Calls Tryd.prog 8 #[.float .f64 x, .float .f64 y] w fun e w' => e = .returned (.bool (decide (x = y))) ∧ w' = w := by
  have hfb := floatbits_run
  have HE : Hid (((x : Int) == (y : Int)) = decide (x = y)) := by
    show _ = _
    by_cases h : x = y
    · subst h; simp
    · simp [h]; omega
  go_enter Tryd.func8, Tryd.ntmps8
  go_wp2
  go_ret
  exact ⟨by rw [← HE.out]; rfl, rfl⟩
theorem order_self {x : Nat} (h : x % 9223372036854775808 ≤ 9218868437227405312) : FloatKind.f64.format.order x x = some .eq := by
  have h1 := order_key h h
  have h2 : compare (keyF x) (keyF x) = Ordering.eq := by
    show compareOfLessAndEq _ _ = _
    unfold compareOfLessAndEq
    simp
  rw [h2] at h1
  exact h1

end Go.Proofs.YtinfnkhghmcelaaDoor

/- The document's Digits of any bits; noughts. -/
namespace Go.Proofs.YtinfnkhghmcelaaDoor
open Go.RowKit Go.Maps

set_option maxRecDepth 100000 in
set_option maxHeartbeats 1000000 in
theorem refDigits_none (x raw : Nat) (neg : Bool) (w : World) (hx : x < 18446744073709551616) (hraw : raw = x % 9223372036854775808) (hneg : neg = decide (9223372036854775808 ≤ x)) (h : raw = 0 ∨ 9218868437227405312 ≤ raw) :
    Calls Tryd.prog 12 #[.float .f64 x] w fun e w' => e = .returned (.tuple #[.string ⟨(dgR raw).1.toArray⟩, .int .i64 (dgR raw).2, .bool neg]) ∧ Below w.heap.size w w' := by
  have hfb := floatbits_run
  have han := andnot_sign hx
  rw [← hraw] at han
  have hsh : ((x : Int) / 9223372036854775808 == 1) = neg := by
    rw [hneg]
    by_cases h9 : 9223372036854775808 ≤ x
    · rw [decide_eq_true h9, beq_iff_eq]; omega
    · rw [decide_eq_false h9, beq_eq_false_iff_ne]; omega
  have HDG : Hid (dgR raw = ([], 0)) := by show _ = _; unfold dgR; rw [if_pos h]
  clear hraw hneg
  by_cases h0 : raw = 0
  · have h0b : ((raw : Int) == 0) = true := by rw [beq_iff_eq]; omega
    clear h h0
    go_enter Tryd.func12, Tryd.ntmps12
    go_wp2
    go_ret3
    exact ⟨by rw [HDG.out]; rfl, Below.refl _ _⟩
  · have h0b : ((raw : Int) == 0) = false := by rw [beq_eq_false_iff_ne]; omega
    have h1i : (9218868437227405312 : Int) ≤ raw := by omega
    clear h h0
    go_enter Tryd.func12, Tryd.ntmps12
    go_wp2
    go_ret3
    exact ⟨by rw [HDG.out]; rfl, Below.refl _ _⟩
theorem refDigits_any (x : Nat) (w : World) (hx : x < 18446744073709551616) :
    Calls Tryd.prog 12 #[.float .f64 x] w fun e w' => e = .returned (.tuple #[.string ⟨(dgR (x % 9223372036854775808)).1.toArray⟩, .int .i64 (dgR (x % 9223372036854775808)).2, .bool (decide (9223372036854775808 ≤ x))]) ∧ Below w.heap.size w w' := by
  by_cases h : x % 9223372036854775808 = 0 ∨ 9218868437227405312 ≤ x % 9223372036854775808
  · exact refDigits_none x _ _ w hx rfl rfl h
  · exact refDigits_main x _ _ w hx rfl rfl (by omega) (by omega)

set_option maxRecDepth 100000 in
set_option maxHeartbeats 1000000 in
theorem refZeros_any (n : Nat) (w : World) (hn : n ≤ 100) : Calls Tryd.prog 45 #[.int .i64 n] w fun e w' => e = .returned (.string ⟨(List.replicate n (48 : UInt8)).toArray⟩) ∧ w' = w := by
  go_enter Tryd.func45, Tryd.ntmps45
  go_wp2
  go_loop [3, 4] (fun sv iv => ∃ (k : Nat) (S : ByteArray), iv = .int .i64 k ∧ k ≤ n ∧ sv = .string S ∧ S.size ≤ 100 ∧ Hid (S = ⟨(List.replicate k (48 : UInt8)).toArray⟩)) (fun _ iv => n - (intOf iv).toNat)
  case atStart => exact ⟨0, ⟨#[]⟩, rfl, Nat.zero_le _, rfl, by decide, rfl⟩
  case round =>
    obtain ⟨k, S, rfl, hk, rfl, hS, HS⟩ := hrel
    by_cases hlt : k < n
    · have hki : (k : Int) < n := by omega
      have HN : Hid (S ++ (⟨#[48]⟩ : ByteArray) = ⟨(List.replicate (k + 1) (48 : UInt8)).toArray⟩) := by
        show _ = _
        rw [HS.out, List.replicate_succ']
        exact ba_join _ [48]
      have HZ : Hid ((S ++ (⟨#[48]⟩ : ByteArray)).size ≤ 100) := by
        show _ ≤ _
        rw [HN.out, baz, List.length_replicate]
        omega
      clear HS
      go_wp2
      go_round
      case rel => exact ⟨k + 1, _, by go_num, by omega, rfl, HZ.out, HN.out⟩
      case measure => simp [intOf]; omega
    · have hki : ¬ (k : Int) < n := by omega
      have HF : Hid (S = ⟨(List.replicate n (48 : UInt8)).toArray⟩) := by
        rw [show n = k by omega]
        exact HS.out
      clear HS
      go_wp2
      go_ret
      exact ⟨by rw [HF.out]; rfl, rfl⟩
end Go.Proofs.YtinfnkhghmcelaaDoor
