/- The text of 0.1. -/
import Derived.Test.YtlhhnklncaakbaaDoorDr
namespace Go.Proofs.YtlhhnklncaakbaaDoor
open Go.RowKit Go.Maps

theorem dig_tenth : dgR 4591870180066957722 = ([49], 0) := by kernel_rfl

set_option maxRecDepth 100000 in
theorem repeat_zero (s : ByteArray) (w : World) : Calls Tryd.prog 88 #[.string s, .int .i64 0] w fun e w' => e = .returned (.string ⟨#[]⟩) ∧ w' = w := by
  go_enter Tryd.func88, Tryd.ntmps88
  go_wp2
  go_ret
  exact ⟨rfl, rfl⟩

set_option maxRecDepth 100000 in
theorem plain_tenth (w : World) : Calls Tryd.prog 44 #[.string ⟨#[49]⟩, .int .i64 0] w fun e w' => e = .returned (.string ⟨#[48, 46, 49]⟩) ∧ w' = w := by
  have hr := repeat_zero ⟨#[48]⟩ w
  go_enter Tryd.func44, Tryd.ntmps44
  go_wp2_with (go_at_call 88; refine hr.mono ?_; clear hr; rintro e w1 ⟨rfl, hw1⟩; have hw1 := hw1.symm; subst hw1)
  go_ret
  exact ⟨rfl, rfl⟩

set_option maxRecDepth 100000 in
theorem text_tenth (w : World) : Calls Tryd.prog 12 #[.float .f64 4591870180066957722] w fun e w' => e = .returned (.string ⟨#[48, 46, 49]⟩) ∧ Below w.heap.size w w' := by
  have hd := digits_any 4591870180066957722 w (by decide)
  rw [show 4591870180066957722 % 9223372036854775808 = 4591870180066957722 from rfl, dig_tenth, show decide (9223372036854775808 ≤ 4591870180066957722) = false from rfl] at hd
  have hfb := floatbits_run
  have hp := plain_tenth
  have hand := andnot_sign (x := 4591870180066957722) (by decide)
  have hand2 : bits .andNot .u64 4591870180066957722 9223372036854775808 = 4591870180066957722 := hand
  clear hand
  go_enter Tryd.func12, Tryd.ntmps12
  go_wp2_with (first
    | (go_at_call 10; refine hd.mono ?_; clear hd; rintro e w1 ⟨rfl, hb1⟩; have HB1 : Hid (Below w.heap.size w w1) := hb1; clear hb1)
    | (go_at_call 44; refine (hp _).mono ?_; clear hp; rintro e w2 ⟨rfl, hw2⟩; have hw2 := hw2.symm; subst hw2))
  go_ret
  exact ⟨rfl, HB1.out⟩
end Go.Proofs.YtlhhnklncaakbaaDoor
