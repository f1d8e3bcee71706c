/- The document's digits. -/
import Derived.Test.YtinfnkhghmcelaaDoorMPp
namespace Go.Proofs.YtinfnkhghmcelaaDoor
open Go.RowKit Go.Maps

theorem refDigit_any (b : Int) (w : World) : Calls Tryd.prog 26 #[.int .u8 b] w fun e w' => e = .returned (.bool (decide (48 ≤ b ∧ b ≤ 57))) ∧ w' = w := by
  have key : ∀ R : Bool, R = decide (48 ≤ b ∧ b ≤ 57) → Calls Tryd.prog 26 #[.int .u8 b] w fun e w' => e = .returned (.bool R) ∧ w' = w := fun R hR => by
    have HR : Hid (R = decide (48 ≤ b ∧ b ≤ 57)) := hR
    clear hR
    by_cases h1 : 48 ≤ b
    · by_cases h2 : b ≤ 57
      · have e : R = true := by rw [HR.out]; simp; omega
        subst e
        clear HR
        go_enter Tryd.func26, Tryd.ntmps26
        go_wp2
        go_ret
        exact ⟨rfl, rfl⟩
      · have e : R = false := by rw [HR.out]; simp; omega
        subst e
        clear HR
        go_enter Tryd.func26, Tryd.ntmps26
        go_wp2
        go_ret
        exact ⟨rfl, rfl⟩
    · have e : R = false := by rw [HR.out]; simp; omega
      subst e
      clear HR
      go_enter Tryd.func26, Tryd.ntmps26
      go_wp2
      go_ret
      exact ⟨rfl, rfl⟩
  exact key _ rfl
theorem refDigit_yes {b : Int} (w : World) (h1 : 48 ≤ b) (h2 : b ≤ 57) : Calls Tryd.prog 26 #[.int .u8 b] w fun e w' => e = .returned (.bool true) ∧ w' = w := by
  have := refDigit_any b w
  rw [show decide (48 ≤ b ∧ b ≤ 57) = true by simp; omega] at this
  exact this
theorem refDigit_no {b : Int} (w : World) (h : ¬ (48 ≤ b ∧ b ≤ 57)) : Calls Tryd.prog 26 #[.int .u8 b] w fun e w' => e = .returned (.bool false) ∧ w' = w := by
  have := refDigit_any b w
  rw [show decide (48 ≤ b ∧ b ≤ 57) = false by simp; omega] at this
  exact this

theorem ne_list {a b : ByteArray} (h : a ≠ b) : (a.toList == b.toList) = false := by
  rw [beq_eq_false_iff_ne, ByteArray.toList_eq, ByteArray.toList_eq]
  intro e
  exact h (ByteArray.ext (Array.ext' e))

end Go.Proofs.YtinfnkhghmcelaaDoor
