/- NumNext. -/
import Derived.Test.YtfnciidhifencaaDoorMEg
namespace Go.Proofs.YtfnciidhifencaaDoor
open Go.RowKit Go.Maps

theorem same_int (x y : Nat) (w : World) :
    Calls Tryd.prog 10 #[.float .f64 x, .float .f64 y] w fun e w' => e = .returned (.bool ((x : Int) == (y : Int))) ∧ w' = w := by
  have h := same_any x y w
  have HE : ((x : Int) == (y : Int)) = decide (x = y) := by
    by_cases h : x = y
    · subst h; simp
    · simp [h]; omega
  rw [← HE] at h
  exact h
theorem isInf_any (x : Nat) (R : Bool) (w : World) (h : (FloatKind.f64.format.order x 9218868437227405311 == some .gt) = R) : Calls Tryd.prog 11 #[.float .f64 x, .int .i64 1] w fun e w' => e = .returned (.bool R) ∧ w' = w := by
  have HR : Hid _ := h
  clear h
  go_enter Tryd.func11, Tryd.ntmps11
  go_wp2
  go_ret
  exact ⟨by rw [← HR.out]; rfl, rfl⟩
theorem order_of {x y : Nat} (hx : x % 9223372036854775808 ≤ 9218868437227405312) (hy : y % 9223372036854775808 ≤ 9218868437227405312) : (keyF x < keyF y → FloatKind.f64.format.order x y = some .lt) ∧ (keyF x = keyF y → FloatKind.f64.format.order x y = some .eq) ∧ (keyF y < keyF x → FloatKind.f64.format.order x y = some .gt) := by
  have h1 := order_key hx hy
  have h2 : FloatKind.f64.format.order x y = some (compareOfLessAndEq (keyF x) (keyF y)) := h1
  unfold compareOfLessAndEq at h2
  refine ⟨fun h => ?_, fun h => ?_, fun h => ?_⟩
  · rw [h2, if_pos h]
  · rw [h2, if_neg (by omega), if_pos h]
  · rw [h2, if_neg (by omega), if_neg (by omega)]
theorem key_next {x : Nat} (hx : x < 18446744073709551616) (h1 : x % 9223372036854775808 ≤ 9218868437227405312) (h2 : x ≠ 9218868437227405312) : keyF (nextN x) = keyF x + 1 ∧ nextN x % 9223372036854775808 ≤ 9218868437227405312 := by
  unfold nextN
  rw [if_neg (by omega)]
  by_cases h3 : x % 9223372036854775808 = 0
  · rw [if_pos h3]
    refine ⟨?_, by decide⟩
    have e1 : keyF 1 = 1 := by decide
    rw [e1]
    unfold keyF
    rw [h3]
    split <;> simp
  · rw [if_neg h3]
    by_cases h4 : 9223372036854775808 ≤ x
    · rw [if_pos h4]
      refine ⟨?_, by omega⟩
      unfold keyF
      rw [if_pos (show x / 9223372036854775808 % 2 = 1 by omega), if_pos (show (x - 1) / 9223372036854775808 % 2 = 1 by omega)]
      omega
    · rw [if_neg h4]
      refine ⟨?_, by omega⟩
      unfold keyF
      rw [if_neg (show ¬ x / 9223372036854775808 % 2 = 1 by omega), if_neg (show ¬ (x + 1) / 9223372036854775808 % 2 = 1 by omega)]
      omega

set_option maxRecDepth 100000 in
set_option maxHeartbeats 1000000 in
theorem numNext_core (x y : Nat) (w : World) (hU : Units w) (hx : x < 18446744073709551616)
    (hc : FloatKind.f64.format.order x x = none ∨ (FloatKind.f64.format.order x x = some .eq ∧ (FloatKind.f64.format.order x 9218868437227405311 == some .gt) = true) ∨ (FloatKind.f64.format.order x x = some .eq ∧ (FloatKind.f64.format.order x 9218868437227405311 == some .gt) = false ∧ FloatKind.f64.format.order (nextN x) x = some .gt ∧ ((FloatKind.f64.format.order y x == some .gt) = false ∨ ((FloatKind.f64.format.order y x == some .gt) = true ∧ (FloatKind.f64.format.order y (nextN x) == some .lt) = false)))) :
    Calls Tryd.prog 3 #[.int .u64 x, .int .u64 y] w fun e w' => e = .returned (.bool true) ∧ Below w.heap.size w w' := by
  have hff := frombits_run
  have hnx := next_any x w hx
  have hrn := refNext_any x w hx
  have hsm := same_int x y w
  have hsx : Calls Tryd.prog 10 #[.float .f64 x, .float .f64 x] w fun e w' => e = .returned (.bool true) ∧ w' = w := by
    have h := same_any x x w
    rw [decide_eq_true rfl] at h
    exact h
  have hkb : Calls Tryd.prog 8 #[.float .f64 (nextN x), .float .f64 (nextN x)] w fun e w' => e = .returned (.bool true) ∧ w' = w := by
    have h := keepBits_any (nextN x) (nextN x) w
    rw [decide_eq_true rfl] at h
    exact h
  have hwk := wakes_any w hU
  generalize nextN x = m at *
  clear hU
  rcases hc with h1 | ⟨h1, h2⟩ | ⟨h1, h2, h3, h4⟩
  · go_enter Tryd.func3, Tryd.ntmps3
    go_wp2_with (first
      | (go_at_call 7; refine hnx.mono ?_; clear hnx; rintro e w1 ⟨rfl, hw1⟩; have hw1 := hw1.symm; subst hw1)
      | (go_at_call 9; refine hrn.mono ?_; clear hrn; rintro e w1 ⟨rfl, hw1⟩; have hw1 := hw1.symm; subst hw1)
      | (go_at_call 8; refine hkb.mono ?_; clear hkb; rintro e w1 ⟨rfl, hw1⟩; have hw1 := hw1.symm; subst hw1)
      | (go_at_call 10; refine hsm.mono ?_; clear hsm; rintro e w1 ⟨rfl, hw1⟩; have hw1 := hw1.symm; subst hw1)
      | (go_at_call 10; refine hsx.mono ?_; clear hsx; rintro e w1 ⟨rfl, hw1⟩; have hw1 := hw1.symm; subst hw1)
      | (go_at_call 11; refine hin.mono ?_; clear hin; rintro e w1 ⟨rfl, hw1⟩; have hw1 := hw1.symm; subst hw1)
      | (go_at_call 12; refine hwk.mono ?_; clear hwk; rintro e w9 ⟨rfl, hbw⟩))
    go_ret
    exact ⟨rfl, hbw⟩
  · have hin := isInf_any x true w h2
    go_enter Tryd.func3, Tryd.ntmps3
    go_wp2_with (first
      | (go_at_call 7; refine hnx.mono ?_; clear hnx; rintro e w1 ⟨rfl, hw1⟩; have hw1 := hw1.symm; subst hw1)
      | (go_at_call 9; refine hrn.mono ?_; clear hrn; rintro e w1 ⟨rfl, hw1⟩; have hw1 := hw1.symm; subst hw1)
      | (go_at_call 8; refine hkb.mono ?_; clear hkb; rintro e w1 ⟨rfl, hw1⟩; have hw1 := hw1.symm; subst hw1)
      | (go_at_call 10; refine hsm.mono ?_; clear hsm; rintro e w1 ⟨rfl, hw1⟩; have hw1 := hw1.symm; subst hw1)
      | (go_at_call 10; refine hsx.mono ?_; clear hsx; rintro e w1 ⟨rfl, hw1⟩; have hw1 := hw1.symm; subst hw1)
      | (go_at_call 11; refine hin.mono ?_; clear hin; rintro e w1 ⟨rfl, hw1⟩; have hw1 := hw1.symm; subst hw1)
      | (go_at_call 12; refine hwk.mono ?_; clear hwk; rintro e w9 ⟨rfl, hbw⟩))
    go_ret
    exact ⟨rfl, hbw⟩
  · have hin := isInf_any x false w h2
    rcases h4 with h4 | ⟨h4, h5⟩
    · go_enter Tryd.func3, Tryd.ntmps3
      go_wp2_with (first
      | (go_at_call 7; refine hnx.mono ?_; clear hnx; rintro e w1 ⟨rfl, hw1⟩; have hw1 := hw1.symm; subst hw1)
      | (go_at_call 9; refine hrn.mono ?_; clear hrn; rintro e w1 ⟨rfl, hw1⟩; have hw1 := hw1.symm; subst hw1)
      | (go_at_call 8; refine hkb.mono ?_; clear hkb; rintro e w1 ⟨rfl, hw1⟩; have hw1 := hw1.symm; subst hw1)
      | (go_at_call 10; refine hsm.mono ?_; clear hsm; rintro e w1 ⟨rfl, hw1⟩; have hw1 := hw1.symm; subst hw1)
      | (go_at_call 10; refine hsx.mono ?_; clear hsx; rintro e w1 ⟨rfl, hw1⟩; have hw1 := hw1.symm; subst hw1)
      | (go_at_call 11; refine hin.mono ?_; clear hin; rintro e w1 ⟨rfl, hw1⟩; have hw1 := hw1.symm; subst hw1)
      | (go_at_call 12; refine hwk.mono ?_; clear hwk; rintro e w9 ⟨rfl, hbw⟩))
      go_ret
      exact ⟨rfl, hbw⟩
    · go_enter Tryd.func3, Tryd.ntmps3
      go_wp2_with (first
      | (go_at_call 7; refine hnx.mono ?_; clear hnx; rintro e w1 ⟨rfl, hw1⟩; have hw1 := hw1.symm; subst hw1)
      | (go_at_call 9; refine hrn.mono ?_; clear hrn; rintro e w1 ⟨rfl, hw1⟩; have hw1 := hw1.symm; subst hw1)
      | (go_at_call 8; refine hkb.mono ?_; clear hkb; rintro e w1 ⟨rfl, hw1⟩; have hw1 := hw1.symm; subst hw1)
      | (go_at_call 10; refine hsm.mono ?_; clear hsm; rintro e w1 ⟨rfl, hw1⟩; have hw1 := hw1.symm; subst hw1)
      | (go_at_call 10; refine hsx.mono ?_; clear hsx; rintro e w1 ⟨rfl, hw1⟩; have hw1 := hw1.symm; subst hw1)
      | (go_at_call 11; refine hin.mono ?_; clear hin; rintro e w1 ⟨rfl, hw1⟩; have hw1 := hw1.symm; subst hw1)
      | (go_at_call 12; refine hwk.mono ?_; clear hwk; rintro e w9 ⟨rfl, hbw⟩))
      go_ret
      exact ⟨rfl, hbw⟩
theorem numNext_any (x y : Nat) (w : World) (hU : Units w) (hx : x < 18446744073709551616) :
    Calls Tryd.prog 3 #[.int .u64 x, .int .u64 y] w fun e w' => e = .returned (.bool true) ∧ Below w.heap.size w w' := by
  refine numNext_core x y w hU hx ?_
  by_cases h1 : x % 9223372036854775808 ≤ 9218868437227405312
  · refine Or.inr ?_
    have hse := order_self h1
    have hmx := order_of h1 (show 9218868437227405311 % 9223372036854775808 ≤ 9218868437227405312 by decide)
    have hkm : keyF 9218868437227405311 = 9218868437227405311 := by decide
    rw [hkm] at hmx
    by_cases h2 : x = 9218868437227405312
    · refine Or.inl ⟨hse, ?_⟩
      rw [hmx.2.2 (by rw [h2]; decide)]
      rfl
    · refine Or.inr ⟨hse, ?_, ?_, ?_⟩
      · have hk : keyF x ≤ 9218868437227405311 := by
          unfold keyF
          split <;> omega
        rcases Int.lt_or_eq_of_le hk with h3 | h3
        · rw [hmx.1 h3]; rfl
        · rw [hmx.2.1 h3]; rfl
      · have hkn := key_next hx h1 h2
        exact (order_of hkn.2 h1).2.2 (by omega)
      · have hkn := key_next hx h1 h2
        by_cases h3 : y % 9223372036854775808 ≤ 9218868437227405312
        · have ha := order_of h3 h1
          have hb := order_of h3 hkn.2
          rcases (show keyF x < keyF y ∨ keyF y ≤ keyF x by omega) with h4 | h4
          · refine Or.inr ⟨by rw [ha.2.2 h4]; rfl, ?_⟩
            rcases (show keyF (nextN x) < keyF y ∨ keyF y ≤ keyF (nextN x) by omega) with h5 | h5
            · rw [hb.2.2 h5]; rfl
            · rw [hb.2.1 (by omega)]; rfl
          · refine Or.inl ?_
            rcases Int.lt_or_eq_of_le h4 with h5 | h5
            · rw [ha.1 h5]; rfl
            · rw [ha.2.1 h5]; rfl
        · refine Or.inl ?_
          have hn : FloatKind.f64.format.order y x = none := order_nan_left (by omega)
          rw [hn]; rfl
  · exact Or.inl (order_nan_left (by omega))
theorem numNext_w (n m : Int) (W : World) (h1 : 0 ≤ n ∧ n ≤ 18446744073709551615) (h2 : 0 ≤ m ∧ m ≤ 18446744073709551615) (hU : Units W) :
    Calls Tryd.prog 3 #[.int .u64 n, .int .u64 m] W fun e w' => e = .returned (.bool true) ∧ Below W.heap.size W w' := by
  obtain ⟨x, rfl⟩ : ∃ x : Nat, n = x := ⟨n.toNat, by omega⟩
  obtain ⟨y, rfl⟩ : ∃ y : Nat, m = y := ⟨m.toNat, by omega⟩
  exact numNext_any x y W hU (by omega)
end Go.Proofs.YtfnciidhifencaaDoor
