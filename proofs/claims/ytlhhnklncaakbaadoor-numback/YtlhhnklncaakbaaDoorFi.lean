/- NumBack. -/
import Derived.Test.YtlhhnklncaakbaaDoorFh
import Derived.Test.YtlhhnklncaakbaaDoorEm
import Derived.Test.YtlhhnklncaakbaaDoorEo
namespace Go.Proofs.YtlhhnklncaakbaaDoor
open Go.RowKit Go.Maps

set_option maxRecDepth 100000 in
set_option maxHeartbeats 4000000 in
theorem back_core (v : Value) (xs : List Nat) (w : World) (ha : UAt w v xs) (hU : Units w) (hP : Pow w) :
    Calls Tryd.prog 5 #[v] w fun e w' => e = .returned (.bool true) ∧ Below w.heap.size w w' := by
  obtain ⟨a, c, rfl, hlc, -⟩ := id ha
  have HA : Hid (UAt w (.slice a xs.length c) xs) := ha
  have HU : Hid (Units w) := hU
  have HPW : Hid (Pow w) := hP
  unfold maxLen at hlc
  clear ha hU hP
  go_enter Tryd.func5, Tryd.ntmps5
  go_wp2
  go_loopw [3] (fun i wr => ∃ k : Nat, k ≤ 300 ∧ k ≤ xs.length ∧ i = .int .i64 k ∧ Hid (Below w.heap.size w wr)) (fun i _ => 300 - (intOf i).toNat)
  case atStart => exact ⟨0, by omega, by omega, rfl, Below.refl _ _⟩
  case round =>
    obtain ⟨k, hk, hkl, rfl, HBL⟩ := hrel
    by_cases hlt : k < xs.length
    · by_cases h60 : k < 300
      · obtain ⟨a', c', e, -, hc⟩ := HA.out.below (HBL.out)
        cases e
        obtain ⟨hx, b, o, rfl, hbl, hcell⟩ := hc k hlt
        generalize xs[k] = x at *
        have hff := frombits_run
        have hlti : (k : Int) < (xs.length : Int) := by omega
        have h60i : (k : Int) < 300 := by omega
        by_cases hnan : x % 9223372036854775808 ≤ 9218868437227405312
        · obtain ⟨T, ⟨hTl, hT⟩, hpr⟩ := text_of x hx hnan
          have HT : Hid (∀ W : World, Pow W → Calls Tryd.prog 12 #[.float .f64 x] W fun e w' => e = .returned (.string ⟨T.toArray⟩) ∧ Below W.heap.size W w') := hT
          have HPA : Hid (∀ W : World, Calls Tryd.prog 15 #[.string ⟨T.toArray⟩] W fun e w' => e = .returned (.tuple #[.float .f64 x, .int .i64 0]) ∧ Below W.heap.size W w') := fun W => by
            have h9 := parse_any ⟨T.toArray⟩ W (by unfold maxLen; simp [ByteArray.size]; omega)
            rw [hpr] at h9
            exact h9
          have HKB : Hid (∀ W : World, Calls Tryd.prog 17 #[.float .f64 x, .float .f64 x] W fun e w' => e = .returned (.bool true) ∧ w' = W) := fun W => by
            have h := keepBits_any x x W
            rw [decide_eq_true rfl] at h
            exact h
          have hse := order_self hnan
          clear hc hT hpr hnan
          generalize (⟨T.toArray⟩ : ByteArray) = TS at *
          go_wp2_with (first
            | (go_at_call 12; refine (HT.out _ (HPW.out.below HBL.out)).mono ?_; clear HT; rintro e w1 ⟨rfl, hb1⟩; have HB1 : Hid (Below w.heap.size w w1) := HBL.out.trans (hb1.mono HBL.out.size); clear hb1)
            | (go_at_call 15; refine (HPA.out _).mono ?_; clear HPA; rintro e w2 ⟨rfl, hb2⟩; have HB2 : Hid (Below w.heap.size w w2) := HB1.out.trans (hb2.mono HB1.out.size); clear hb2)
            | (go_at_call 17; refine (HKB.out _).mono ?_; clear HKB; rintro e w3 ⟨rfl, hw3⟩; have hw3 := hw3.symm; subst hw3))
          go_roundw
          case rel => exact ⟨k + 1, by omega, by omega, by go_num, HB2.out⟩
          case measure => simp [intOf]; omega
        · have HT : Hid (∀ W : World, Calls Tryd.prog 12 #[.float .f64 x] W fun e w' => e = .returned (.string ⟨#[78, 97, 78]⟩) ∧ Below W.heap.size W w') := fun W => text_nan x _ W hx rfl (by omega)
          have HPA : Hid (∀ W : World, Calls Tryd.prog 15 #[.string ⟨#[78, 97, 78]⟩] W fun e w' => e = .returned (.tuple #[.float .f64 9221120237041090561, .int .i64 0]) ∧ Below W.heap.size W w') := fun W => by
            have h9 := parse_any ⟨([78, 97, 78] : List UInt8).toArray⟩ W (by unfold maxLen; simp [ByteArray.size])
            rw [nan_read] at h9
            exact h9
          have hse : FloatKind.f64.format.order x x = none := order_nan_left (by omega)
          have hsn : FloatKind.f64.format.order 9221120237041090561 9221120237041090561 = none := order_nan_left (by decide)
          clear hc hnan
          go_wp2_with (first
            | (go_at_call 12; refine (HT.out _).mono ?_; rintro e w1 ⟨rfl, hb1⟩; have HB1 : Hid (Below w.heap.size w w1) := HBL.out.trans (hb1.mono HBL.out.size); clear HBL hb1; have HBL : Hid (Below w.heap.size w w1) := HB1.out; clear HB1)
            | (go_at_call 15; refine (HPA.out _).mono ?_; clear HPA; rintro e w1 ⟨rfl, hb1⟩; have HB1 : Hid (Below w.heap.size w w1) := HBL.out.trans (hb1.mono HBL.out.size); clear HBL hb1; have HBL : Hid (Below w.heap.size w w1) := HB1.out; clear HB1))
          go_roundw
          case rel => exact ⟨k + 1, by omega, by omega, by go_num, HBL.out⟩
          case measure => simp [intOf]; omega
      · have HWK : Hid (Calls Tryd.prog 14 #[] wr fun e w' => e = .returned (.bool true) ∧ Below wr.heap.size wr w') := wakes_any wr (HU.out.below HBL.out)
        have h60i : ¬ (k : Int) < 300 := by omega
        have hlti : (k : Int) < (xs.length : Int) := by omega
        go_wp2_with (go_at_call 14; refine HWK.out.mono ?_; clear HWK; rintro e w7 ⟨rfl, hb7⟩; have HB7 : Hid (Below w.heap.size w w7) := HBL.out.trans (hb7.mono HBL.out.size); clear hb7)
        go_ret
        exact ⟨rfl, HB7.out⟩
    · have HWK : Hid (Calls Tryd.prog 14 #[] wr fun e w' => e = .returned (.bool true) ∧ Below wr.heap.size wr w') := wakes_any wr (HU.out.below HBL.out)
      have hki : ¬ (k : Int) < (xs.length : Int) := by omega
      go_wp2_with (go_at_call 14; refine HWK.out.mono ?_; clear HWK; rintro e w7 ⟨rfl, hb7⟩; have HB7 : Hid (Below w.heap.size w w7) := HBL.out.trans (hb7.mono HBL.out.size); clear hb7)
      go_ret
      exact ⟨rfl, HB7.out⟩
theorem back_w (v : Value) (xs : List Nat) (W : World) (ha : UAt W v xs) (h : Units W ∧ Pow W) :
    Calls Tryd.prog 5 #[v] W fun e w' => e = .returned (.bool true) ∧ Below W.heap.size W w' := back_core v xs W ha h.1 h.2
end Go.Proofs.YtlhhnklncaakbaaDoor
