/- wakes. -/
import Derived.Test.YtlhhnklncaakbaaDoorDv
import Derived.Test.YtlhhnklncaakbaaDoorFo
import Derived.Test.YtlhhnklncaakbaaDoorDg
namespace Go.Proofs.YtlhhnklncaakbaaDoor
open Go.RowKit Go.Maps

theorem dur_left (k : Nat) (u : List UInt8 × Nat) (h : unitsL[k]? = some u) : (durK 90000 k).2 / u.2 < 100 := by
  have hk : k < 7 := by
    have := (List.getElem?_eq_some_iff.1 h).1
    exact this
  rcases (show k = 0 ∨ k = 1 ∨ k = 2 ∨ k = 3 ∨ k = 4 ∨ k = 5 ∨ k = 6 by omega) with rfl | rfl | rfl | rfl | rfl | rfl | rfl <;> (simp [unitsL] at h; subst h; simp [durK, unitsL, durS])
theorem dur_wakes : (durK 90000 7).1 = [49, 109, 51, 48, 115] := by
  simp [durK, unitsL, durS, Lib.decDigits_one (show 1 < 10 by decide), Lib.decDigits_two (show ¬ 30 < 10 by decide) (show 30 < 100 by decide)]

set_option maxRecDepth 100000 in
theorem wakes_any (w : World) (hU : Units w) : Calls Tryd.prog 14 #[] w fun e w' => e = .returned (.bool true) ∧ Below w.heap.size w w' := by
  have hp := parse_any ⟨#[50, 46, 53, 101, 45, 49]⟩ w (by decide)
  rw [parse_wakes] at hp
  have HT : Hid (∀ W : World, Calls Tryd.prog 12 #[.float .f64 4591870180066957722] W fun e w' => e = .returned (.string ⟨#[48, 46, 49]⟩) ∧ Below W.heap.size W w') := fun W => text_tenth W
  have HD : Hid (∀ W : World, Units W → Calls Tryd.prog 28 #[.int .i64 90000] W fun e w' => e = .returned (.string ⟨#[49, 109, 51, 48, 115]⟩) ∧ Below W.heap.size W w') := fun W h => by
    have h9 := dur_pos 90000 90000 100 W (by decide) h (fun i hi W => fu_small i hi W) dur_left (by decide) rfl (by decide) (by decide)
    rw [dur_wakes] at h9
    exact h9
  have heq : FloatKind.f64.format.order 4598175219545276416 4598175219545276416 = some .eq := by kernel_rfl
  have HU : Hid (Units w) := hU
  clear hU
  go_enter Tryd.func14, Tryd.ntmps14
  go_wp2_with (first
    | (go_at_call 15; refine hp.mono ?_; clear hp; rintro e w1 ⟨rfl, hb1⟩; have HB1 : Hid (Below w.heap.size w w1) := hb1; clear hb1)
    | (go_at_call 12; refine (HT.out _).mono ?_; clear HT; rintro e w2 ⟨rfl, hb2⟩; have HB2 : Hid (Below w.heap.size w w2) := HB1.out.trans (hb2.mono HB1.out.size); clear hb2)
    | (go_at_call 28; refine (HD.out _ (HU.out.below HB2.out)).mono ?_; clear HD; rintro e w3 ⟨rfl, hb3⟩; have HB3 : Hid (Below w.heap.size w w3) := HB2.out.trans (hb3.mono HB2.out.size); clear hb3))
  go_ret
  exact ⟨rfl, HB3.out⟩
end Go.Proofs.YtlhhnklncaakbaaDoor
