/- The document's bits of a change of the step; the noughts at a number's ends. -/
import Derived.Test.YtkmclgbiedbfpaaDoorVa
namespace Go.Proofs.YtkmclgbiedbfpaaDoor
open Go.RowKit Go.Maps

theorem rput_two (base P : Nat) (cs : List Bool) (x n y k : Nat) (w : World) (h : Bt w base P cs) (hn : n ≤ 64) (hx : x < 18446744073709551616) (hk : k ≤ 64) (hy : y < 18446744073709551616) (hl : cs.length + 128 ≤ 10000000) :
    Hid (Calls Tryd.prog 31 #[.pointer (some ⟨P, 0, none⟩), .int .u64 x, .int .i64 n] w fun e w' => e = .returned (.tuple #[]) ∧ Bt w' base P (cs ++ wb n x) ∧ Below base w w') ∧
    Hid (∀ W, Bt W base P (cs ++ wb n x) → Calls Tryd.prog 31 #[.pointer (some ⟨P, 0, none⟩), .int .u64 y, .int .i64 k] W fun e w' => e = .returned (.tuple #[]) ∧ Bt w' base P (cs ++ (wb n x ++ wb k y)) ∧ Below base W w') :=
  ⟨rput_any base P cs x n w h hn hx (by omega), fun W hW => by
    have := rput_any base P (cs ++ wb n x) y k W hW hk hy (by simp [wb_length]; omega)
    rw [List.append_assoc] at this
    exact this⟩

set_option maxRecDepth 100000 in
set_option maxHeartbeats 2000000 in
theorem rdod_any (base P : Nat) (cs : List Bool) (d : Int) (c : Nat) (w : World) (h : Bt w base P cs) (hd : -9223372036854775808 ≤ d ∧ d ≤ 9223372036854775807) (hc : (c : Int) = d % 18446744073709551616) (hl : cs.length + 128 ≤ 10000000) :
    Calls Tryd.prog 33 #[.pointer (some ⟨P, 0, none⟩), .int .i64 d] w fun e w' => e = .returned (.tuple #[]) ∧ Bt w' base P (cs ++ timeB c) ∧ Below base w w' := by
  have hc2 : c < 18446744073709551616 := by omega
  by_cases h0 : d = 0
  · subst h0
    have hp := rput_any base P cs 0 1 w h (by decide) (by decide) (by omega)
    have ec : timeB c = wb 1 0 := by
      have : c = 0 := by omega
      subst this
      rfl
    rw [ec]
    clear h
    go_enter Tryd.func33, Tryd.ntmps33
    go_wp2_with (go_at_call 31; refine hp.mono ?_; clear hp; rintro e w1 ⟨rfl, hw1, hb1⟩)
    go_end0
    exact ⟨rfl, hw1, hb1⟩
  · have hz : (d == 0) = false := by simpa using h0
    by_cases hB : -63 ≤ d ∧ d ≤ 64
    · obtain ⟨y, hy⟩ : ∃ y : Nat, (y : Int) = d + 63 := ⟨(d + 63).toNat, by omega⟩
      obtain ⟨hp1, HP2⟩ := rput_two base P cs 2 2 y 7 w h (by decide) (by decide) (by decide) (by omega) hl
      have ec : timeB c = wb 2 2 ++ wb 7 y := by
        unfold timeB
        rw [if_neg (by omega), if_pos (by omega), show (c + 63) % 18446744073709551616 = y by omega]
      rw [ec]
      obtain ⟨g1, g2⟩ := hB
      have hw : IntKind.u64.wrap (d + 63) = (y : Int) := by rw [IntKind.wrap_u64]; omega
      clear h hc
      go_enter Tryd.func33, Tryd.ntmps33
      go_wp2_with (first
        | (go_at_call 31; refine hp1.out.mono ?_; clear hp1; rintro e w1 ⟨rfl, hw1, hb1⟩; have hp2 := HP2.out w1 hw1; clear HP2 hw1; rw [hy] at hp2)
        | (go_at_call 31; refine hp2.mono ?_; clear hp2; rintro e w2 ⟨rfl, hw2, hb2⟩))
      go_end0
      exact ⟨rfl, hw2, hb1.trans hb2⟩
    · by_cases hC : -255 ≤ d ∧ d ≤ 256
      · obtain ⟨y, hy⟩ : ∃ y : Nat, (y : Int) = d + 255 := ⟨(d + 255).toNat, by omega⟩
        obtain ⟨hp1, HP2⟩ := rput_two base P cs 6 3 y 9 w h (by decide) (by decide) (by decide) (by omega) hl
        have ec : timeB c = wb 3 6 ++ wb 9 y := by
          unfold timeB
          rw [if_neg (by omega), if_neg (by omega), if_pos (by omega), show (c + 255) % 18446744073709551616 = y by omega]
        rw [ec]
        obtain ⟨g1, g2⟩ := hC
        have hB' : (d < -63) ∨ (-63 ≤ d ∧ 64 < d) := by omega
        clear h hc hB
        rcases hB' with g3 | ⟨g3, g4⟩
        all_goals
          go_enter Tryd.func33, Tryd.ntmps33
          go_wp2_with (first
            | (go_at_call 31; refine hp1.out.mono ?_; clear hp1; rintro e w1 ⟨rfl, hw1, hb1⟩; have hp2 := HP2.out w1 hw1; clear HP2 hw1; rw [hy] at hp2)
            | (go_at_call 31; refine hp2.mono ?_; clear hp2; rintro e w2 ⟨rfl, hw2, hb2⟩))
          go_end0
          exact ⟨rfl, hw2, hb1.trans hb2⟩
      · by_cases hD : -2047 ≤ d ∧ d ≤ 2048
        · obtain ⟨y, hy⟩ : ∃ y : Nat, (y : Int) = d + 2047 := ⟨(d + 2047).toNat, by omega⟩
          obtain ⟨hp1, HP2⟩ := rput_two base P cs 14 4 y 12 w h (by decide) (by decide) (by decide) (by omega) hl
          have ec : timeB c = wb 4 14 ++ wb 12 y := by
            unfold timeB
            rw [if_neg (by omega), if_neg (by omega), if_neg (by omega), if_pos (by omega), show (c + 2047) % 18446744073709551616 = y by omega]
          rw [ec]
          obtain ⟨g1, g2⟩ := hD
          have hB' : (d < -255 ∧ d < -63) ∨ (-255 ≤ d ∧ 256 < d ∧ -63 ≤ d ∧ 64 < d) := by omega
          clear h hc hB hC
          rcases hB' with ⟨g3, g4⟩ | ⟨g3, g4, g5, g6⟩
          all_goals
            go_enter Tryd.func33, Tryd.ntmps33
            go_wp2_with (first
              | (go_at_call 31; refine hp1.out.mono ?_; clear hp1; rintro e w1 ⟨rfl, hw1, hb1⟩; have hp2 := HP2.out w1 hw1; clear HP2 hw1; rw [hy] at hp2)
              | (go_at_call 31; refine hp2.mono ?_; clear hp2; rintro e w2 ⟨rfl, hw2, hb2⟩))
            go_end0
            exact ⟨rfl, hw2, hb1.trans hb2⟩
        · obtain ⟨hp1, HP2⟩ := rput_two base P cs 15 4 c 64 w h (by decide) (by decide) (by decide) (by omega) hl
          have ec : timeB c = wb 4 15 ++ wb 64 c := by
            unfold timeB
            rw [if_neg (by omega), if_neg (by omega), if_neg (by omega), if_neg (by omega)]
          rw [ec]
          have hB' : (d < -2047 ∧ d < -255 ∧ d < -63) ∨ (-2047 ≤ d ∧ 2048 < d ∧ -255 ≤ d ∧ 256 < d ∧ -63 ≤ d ∧ 64 < d) := by omega
          have hw : IntKind.u64.wrap d = (c : Int) := by rw [IntKind.wrap_u64]; omega
          clear h hB hC hD
          rcases hB' with ⟨g3, g4, g5⟩ | ⟨g1, g2, g3, g4, g5, g6⟩
          all_goals
            go_enter Tryd.func33, Tryd.ntmps33
            go_wp2_with (first
              | (go_at_call 31; refine hp1.out.mono ?_; clear hp1; rintro e w1 ⟨rfl, hw1, hb1⟩; have hp2 := HP2.out w1 hw1; clear HP2 hw1; rw [hc] at hp2)
              | (go_at_call 31; refine hp2.mono ?_; clear hp2; rintro e w2 ⟨rfl, hw2, hb2⟩))
            go_end0
            exact ⟨rfl, hw2, hb1.trans hb2⟩

end Go.Proofs.YtkmclgbiedbfpaaDoor
