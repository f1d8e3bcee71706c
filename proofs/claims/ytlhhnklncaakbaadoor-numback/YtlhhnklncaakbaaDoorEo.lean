/- Bits, and a float beside itself. -/
import Derived.Test.YtlhhnklncaakbaaDoorDw
namespace Go.Proofs.YtlhhnklncaakbaaDoor
open Go.RowKit Go.Maps

theorem keepBits_any (x y : Nat) (w : World) :
    Calls Tryd.prog 17 #[.float .f64 x, .float .f64 y] w fun e w' => e = .returned (.bool (decide (x = y))) ∧ w' = w := by
  have hfb := floatbits_run
  have HE : Hid (((x : Int) == (y : Int)) = decide (x = y)) := by
    show _ = _
    by_cases h : x = y
    · subst h; simp
    · simp [h]; omega
  go_enter Tryd.func17, Tryd.ntmps17
  go_wp2
  go_ret
  exact ⟨by rw [← HE.out]; rfl, rfl⟩
theorem order_self {x : Nat} (h : x % 9223372036854775808 ≤ 9218868437227405312) : FloatKind.f64.format.order x x = some .eq := by
  have h1 := order_key h h
  have h2 : compare (keyF x) (keyF x) = Ordering.eq := by
    show compareOfLessAndEq _ _ = _
    unfold compareOfLessAndEq
    simp
  rw [h2] at h1
  exact h1

end Go.Proofs.YtlhhnklncaakbaaDoor
