/- NumShortest. -/
import Derived.Test.YtfnciidhifencaaDoorMEf
import Derived.Test.YtfnciidhifencaaDoorMEm
import Derived.Test.YtfnciidhifencaaDoorMQz
namespace Go.Proofs.YtfnciidhifencaaDoor
open Go.RowKit Go.Maps

theorem fromBits_any (x : Nat) (w : World) : Calls Tryd.prog 13 #[.int .u64 x] w fun e w' => e = .returned (.float .f64 x) ∧ w' = w := by
  have hff := frombits_run
  go_enter Tryd.func13, Tryd.ntmps13
  go_wp2
  go_ret
  exact ⟨rfl, rfl⟩
theorem ba_point (y k : List UInt8) : ((⟨#[48, 46]⟩ : ByteArray) ++ ⟨y.toArray⟩ ++ ⟨#[101]⟩ ++ ⟨k.toArray⟩) = ⟨(48 :: 46 :: (y ++ 101 :: k)).toArray⟩ := by
  apply ByteArray.ext
  simp
/-- A text 0.digits with an exponent is read so. -/
theorem point_any (y : List UInt8) (k : Int) (R : Nat) (W : World) (hl : y.length ≤ 300) (h1 : -1000000 ≤ k) (h2 : k ≤ 1000000) (hp : parseR ⟨(48 :: 46 :: (y ++ 101 :: Lib.itoa k)).toArray⟩ = (R, 0)) :
    Calls Tryd.prog 15 #[.string ((⟨#[48, 46]⟩ : ByteArray) ++ ⟨y.toArray⟩ ++ ⟨#[101]⟩ ++ ⟨(Lib.itoa k).toArray⟩)] W fun e w' => e = .returned (.tuple #[.float .f64 R, .int .i64 0]) ∧ Below W.heap.size W w' := by
  rw [ba_point]
  have hil : (Lib.itoa k).length ≤ 21 := Lib.itoa_length_le k (by omega) (by omega)
  have h9 := parse_any ⟨(48 :: 46 :: (y ++ 101 :: Lib.itoa k)).toArray⟩ W (by unfold maxLen; simp [ByteArray.size]; omega)
  rw [hp] at h9
  exact h9

set_option maxRecDepth 100000 in
set_option maxHeartbeats 4000000 in
theorem short_core (v : Value) (xs : List Nat) (w : World) (ha : UAt w v xs) (hU : Units w) (hP : Pow w) :
    Calls Tryd.prog 4 #[v] w fun e w' => e = .returned (.bool true) ∧ Below w.heap.size w w' := by
  obtain ⟨a, c, rfl, hlc, -⟩ := id ha
  have HA : Hid (UAt w (.slice a xs.length c) xs) := ha
  have HU : Hid (Units w) := hU
  have HPW : Hid (Pow w) := hP
  unfold maxLen at hlc
  clear ha hU hP
  go_enter Tryd.func4, Tryd.ntmps4
  go_wp2
  go_loopw [3] (fun i wr => ∃ k : Nat, k ≤ 60 ∧ k ≤ xs.length ∧ i = .int .i64 k ∧ Hid (Below w.heap.size w wr)) (fun i _ => 60 - (intOf i).toNat)
  case atStart => exact ⟨0, by omega, by omega, rfl, Below.refl _ _⟩
  case round =>
    obtain ⟨k, hk, hkl, rfl, HBL⟩ := hrel
    have HWK : Hid (Calls Tryd.prog 12 #[] wr fun e w' => e = .returned (.bool true) ∧ Below wr.heap.size wr w') := wakes_any wr (HU.out.below HBL.out)
    by_cases hlt : k < xs.length
    · by_cases h60 : k < 60
      · obtain ⟨a', c', e, -, hc⟩ := HA.out.below (HBL.out)
        cases e
        obtain ⟨hx, b, o, rfl, hbl, hcell⟩ := hc k hlt
        generalize xs[k] = x at *
        have han := andnot_sign hx
        obtain ⟨raw, hraw⟩ : ∃ raw, raw = x % 9223372036854775808 := ⟨_, rfl⟩
        rw [← hraw] at han
        have hrl : raw < 9223372036854775808 := by omega
        have hfr := fromBits_any raw wr
        have hdg := digits_any raw wr (by omega)
        rw [Nat.mod_eq_of_lt hrl, decide_eq_false (by omega)] at hdg
        have hlti : (k : Int) < (xs.length : Int) := by omega
        have h60i : (k : Int) < 60 := by omega
        by_cases h2 : (dgR raw).1.length < 2
        · have hs : (⟨(dgR raw).1.toArray⟩ : ByteArray).size = (dgR raw).1.length := by simp [ByteArray.size]
          generalize (dgR raw).2 = E at *
          generalize (⟨(dgR raw).1.toArray⟩ : ByteArray) = S at *
          have hs2 : (S.size : Int) < 2 := by omega
          clear hraw hrl h2 hs hc
          go_wp2_with (first
            | (go_at_call 13; refine hfr.mono ?_; clear hfr; rintro e w1 ⟨rfl, hw1⟩; have hw1 := hw1.symm; subst hw1)
            | (go_at_call 14; refine hdg.mono ?_; clear hdg; rintro e w2 ⟨rfl, hb2⟩; have HB2 : Hid (Below w.heap.size w w2) := HBL.out.trans (hb2.mono HBL.out.size); clear hb2))
          go_roundw
          case rel => exact ⟨k + 1, by omega, by omega, by go_num, HB2.out⟩
          case measure => simp [intOf]; omega
        · obtain ⟨r0, r1, pre, hD⟩ := digs_of (raw := raw) (by omega)
          generalize (dgR raw).2 = E at *
          generalize (dgR raw).1 = d at *
          obtain ⟨m, hm⟩ : ∃ m, m = pre.length := ⟨_, rfl⟩
          have hm1 : 1 ≤ m := by have := hD.one; omega
          have hm2 : m ≤ 17 := by have := hD.few; omega
          have hE1 := hD.e1
          have hE2 := hD.e2
          have hpd : ∀ b ∈ pre, isD b := fun b hb => hD.isd b (by rw [← hD.cut] at hb; exact List.mem_of_mem_take hb)
          obtain ⟨RA, pA, nA⟩ := parse_point (y := pre) (k := E) hpd (by omega) (by omega) (by omega)
          obtain ⟨RX, pX, nX⟩ := parse_point (y := d) (k := E) hD.isd (by have := hD.len; omega) (by omega) (by omega)
          obtain rfl := hD.same _ nX
          have lA := hD.low _ nA
          have HPA : Hid (∀ (S : ByteArray) (W : World), S = ⟨(Lib.itoa E).toArray⟩ → Calls Tryd.prog 15 #[.string ((⟨#[48, 46]⟩ : ByteArray) ++ ⟨pre.toArray⟩ ++ ⟨#[101]⟩ ++ S)] W fun e w' => e = .returned (.tuple #[.float .f64 RA, .int .i64 0]) ∧ Below W.heap.size W w') := fun S W hS => by rw [hS]; exact point_any pre E RA W (by omega) (by omega) (by omega) pA
          have HPX : Hid (∀ (S : ByteArray) (W : World), S = ⟨(Lib.itoa E).toArray⟩ → Calls Tryd.prog 15 #[.string ((⟨#[48, 46]⟩ : ByteArray) ++ ⟨d.toArray⟩ ++ ⟨#[101]⟩ ++ S)] W fun e w' => e = .returned (.tuple #[.float .f64 RX, .int .i64 0]) ∧ Below W.heap.size W w') := fun S W hS => by rw [hS]; exact point_any d E RX W (by have := hD.len; omega) (by omega) (by omega) pX
          have HPB : Hid (∀ u : List UInt8, UpT pre u → ∃ RB, RX < RB ∧ RB ≤ 9218868437227405312 ∧ ∀ (z : Int) (S : ByteArray) (W : World), z = E + u.length - m → S = ⟨(Lib.itoa z).toArray⟩ → Calls Tryd.prog 15 #[.string ((⟨#[48, 46]⟩ : ByteArray) ++ ⟨u.toArray⟩ ++ ⟨#[101]⟩ ++ S)] W fun e w' => e = .returned (.tuple #[.float .f64 RB, .int .i64 0]) ∧ Below W.heap.size W w') := fun u hu => by
            obtain ⟨RB, pB, nB⟩ := parse_point (y := u) (k := E + u.length - m) hu.1 (by have := hu.2.2.2; omega) (by have := hu.2.2; omega) (by have := hu.2.2; omega)
            have e : E + u.length - m - u.length = E - pre.length := by omega
            rw [e, hu.2.1] at nB
            refine ⟨RB, hD.up _ nB, nB.top, fun z S W hz hS => ?_⟩
            rw [hS, hz]
            exact point_any u _ RB W (by have := hu.2.2.2; omega) (by have := hu.2.2; omega) (by have := hu.2.2; omega) pB
          have htm := fun W => times_any pre W hpd (by omega)
          have HTM : Hid (∀ W : World, _) := htm
          have HIT : Hid (∀ (z : Int) (W : World), -1000 ≤ z → z ≤ 1000 → Below w.heap.size w W → Calls Tryd.prog 16 #[.int .i64 z] W fun e w' => ∃ S : ByteArray, e = .returned (.string S) ∧ Hid (S = ⟨(Lib.itoa z).toArray⟩) ∧ S.size ≤ 21 ∧ Below W.heap.size W w') := fun z W h1 h2 h3 => (intText_any z W (by omega) (by omega) (HPW.out.below h3)).mono (by
            rintro e w' ⟨rfl, hb⟩
            have := Lib.itoa_length_le z (by omega) (by omega)
            exact ⟨_, rfl, rfl, by simpa [ByteArray.size] using this, hb⟩)
          have HKF : Hid (∀ (R : Nat) (W : World), R ≠ RX → Calls Tryd.prog 8 #[.float .f64 R, .float .f64 RX] W fun e w' => e = .returned (.bool false) ∧ w' = W) := fun R W h => by
            have h9 := keepBits_any R RX W
            rw [decide_eq_false h] at h9
            exact h9
          have HKT : Hid (∀ W : World, Calls Tryd.prog 8 #[.float .f64 RX, .float .f64 RX] W fun e w' => e = .returned (.bool true) ∧ w' = W) := fun W => by
            have h9 := keepBits_any RX RX W
            rw [decide_eq_true rfl] at h9
            exact h9
          have hoA := (order_small (x := RA) (y := RX) nA.top (by omega)).1 lA
          have hlenD : d.length = m + 1 := by rw [hD.len, hm]
          have hex : (⟨d.toArray⟩ : ByteArray).extract 0 m = ⟨pre.toArray⟩ := by
            apply ByteArray.ext
            rw [hm]
            have := hD.cut
            simp [this]
          have hsD : (⟨d.toArray⟩ : ByteArray).size = m + 1 := by simp [ByteArray.size, hlenD]
          have hsP : (⟨pre.toArray⟩ : ByteArray).size = m := by simp [ByteArray.size, hm]
          have HM : Hid (m = pre.length) := hm
          clear hraw hrl h2 hc hD pA pX nA nX htm hpd hlenD
          clear hm
          generalize (⟨d.toArray⟩ : ByteArray) = SD at *
          generalize (⟨pre.toArray⟩ : ByteArray) = SP at *
          have hlAX : RA ≠ RX := by omega
          go_wp2_with (first
            | (go_at_call 13; refine hfr.mono ?_; clear hfr; rintro e w1 ⟨rfl, hw1⟩; have hw1 := hw1.symm; subst hw1)
            | (go_at_call 14; refine hdg.mono ?_; clear hdg; rintro e w2 ⟨rfl, hb2⟩; have HB2 : Hid (Below w.heap.size w w2) := HBL.out.trans (hb2.mono HBL.out.size); clear hb2)
            | (go_at_call 16; refine (HIT.out _ _ (by omega) (by omega) HB7.out).mono ?_; rintro e w8 ⟨S8, rfl, HS8, hs8, hb8⟩; have HB8 : Hid (Below w.heap.size w w8) := HB7.out.trans (hb8.mono HB7.out.size); clear hb8)
            | (go_at_call 16; refine (HIT.out _ _ (by omega) (by omega) HB5.out).mono ?_; rintro e w6 ⟨S6, rfl, HS6, hs6, hb6⟩; have HB6 : Hid (Below w.heap.size w w6) := HB5.out.trans (hb6.mono HB5.out.size); clear hb6)
            | (go_at_call 16; refine (HIT.out _ _ (by omega) (by omega) HB2.out).mono ?_; rintro e w3 ⟨S3, rfl, HS3, hs3, hb3⟩; have HB3 : Hid (Below w.heap.size w w3) := HB2.out.trans (hb3.mono HB2.out.size); clear hb3)
            | (go_at_call 15; refine (HPX.out _ _ HS8.out).mono ?_; clear HPX; rintro e w9 ⟨rfl, hb9⟩; have HB9 : Hid (Below w.heap.size w w9) := HB8.out.trans (hb9.mono HB8.out.size); clear hb9)
            | (go_at_call 15; refine (HPU.out _ _ _ (by omega) HS6.out).mono ?_; clear HPU; rintro e w7 ⟨rfl, hb7⟩; have HB7 : Hid (Below w.heap.size w w7) := HB6.out.trans (hb7.mono HB6.out.size); clear hb7)
            | (go_at_call 15; refine (HPA.out _ _ HS3.out).mono ?_; clear HPA; rintro e w4 ⟨rfl, hb4⟩; have HB4 : Hid (Below w.heap.size w w4) := HB3.out.trans (hb4.mono HB3.out.size); clear hb4)
            | (go_at_call 17; refine (HTM.out _).mono ?_; clear HTM; rintro e w5 ⟨u, rfl, hu, hb5⟩; have HB5 : Hid (Below w.heap.size w w5) := HB4.out.trans (hb5.mono HB4.out.size); clear hb5; obtain ⟨RB, lB, tB, hPU⟩ := HPB.out u hu; have HPU : Hid _ := hPU; clear HPB hPU; have hoB := (order_small (x := RB) (y := RX) tB (by omega)).2.2 lB; have hul1 := hu.2.2.1; have hul2 := hu.2.2.2; rw [← HM.out] at hul1 hul2; have hsU : (⟨u.toArray⟩ : ByteArray).size = u.length := (by simp [ByteArray.size]); generalize (⟨u.toArray⟩ : ByteArray) = SU at *; generalize u.length = lu at *; clear hu; have hlBX : RB ≠ RX := (by omega))
            | (go_at_call 8; refine (HKT.out _).mono ?_; clear HKT; rintro e wa ⟨rfl, hwa⟩; have hwa := hwa.symm; subst hwa)
            | (go_at_call 8; refine (HKF.out _ _ hlAX).mono ?_; rintro e wa ⟨rfl, hwa⟩; have hwa := hwa.symm; subst hwa)
            | (go_at_call 8; refine (HKF.out _ _ hlBX).mono ?_; rintro e wa ⟨rfl, hwa⟩; have hwa := hwa.symm; subst hwa))
          go_roundw
          case rel => exact ⟨k + 1, by omega, by omega, by go_num, HB9.out⟩
          case measure => simp [intOf]; omega
      · have h60i : ¬ (k : Int) < 60 := by omega
        have hlti : (k : Int) < (xs.length : Int) := by omega
        go_wp2_with (go_at_call 12; refine HWK.out.mono ?_; clear HWK; rintro e w7 ⟨rfl, hb7⟩; have HB7 : Hid (Below w.heap.size w w7) := HBL.out.trans (hb7.mono HBL.out.size); clear hb7)
        go_ret
        exact ⟨rfl, HB7.out⟩
    · have hki : ¬ (k : Int) < (xs.length : Int) := by omega
      go_wp2_with (go_at_call 12; refine HWK.out.mono ?_; clear HWK; rintro e w7 ⟨rfl, hb7⟩; have HB7 : Hid (Below w.heap.size w w7) := HBL.out.trans (hb7.mono HBL.out.size); clear hb7)
      go_ret
      exact ⟨rfl, HB7.out⟩
end Go.Proofs.YtfnciidhifencaaDoor
