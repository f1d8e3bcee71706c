/- The document's units; how the document writes a duration. -/
import Derived.Test.YtmlcilalmhpmiaaDoorMGg
import Derived.Test.YtmlcilalmhpmiaaDoorMGb
namespace Go.Proofs.YtmlcilalmhpmiaaDoor
open Go.RowKit Go.Maps

set_option maxRecDepth 100000 in
set_option maxHeartbeats 400000 in
theorem refUnit_0 (w : World) : Calls Tryd.prog 61 #[.int .i64 0] w fun e w' => e = .returned (.tuple #[.string ⟨#[121]⟩, .int .i64 31536000000]) ∧ Below w.heap.size w w' := by
  go_enter Tryd.func61, Tryd.ntmps61
  go_wp2
  go_quiet (fail)
  go_wp2
  go_ret2
  exact ⟨rfl, below_drewN (((Below.refl _ _).alloc (Nat.le_refl _) _).alloc (by simp) _) _⟩
set_option maxRecDepth 100000 in
set_option maxHeartbeats 400000 in
theorem refUnit_1 (w : World) : Calls Tryd.prog 61 #[.int .i64 1] w fun e w' => e = .returned (.tuple #[.string ⟨#[119]⟩, .int .i64 604800000]) ∧ Below w.heap.size w w' := by
  go_enter Tryd.func61, Tryd.ntmps61
  go_wp2
  go_quiet (fail)
  go_wp2
  go_ret2
  exact ⟨rfl, below_drewN (((Below.refl _ _).alloc (Nat.le_refl _) _).alloc (by simp) _) _⟩
set_option maxRecDepth 100000 in
set_option maxHeartbeats 400000 in
theorem refUnit_2 (w : World) : Calls Tryd.prog 61 #[.int .i64 2] w fun e w' => e = .returned (.tuple #[.string ⟨#[100]⟩, .int .i64 86400000]) ∧ Below w.heap.size w w' := by
  go_enter Tryd.func61, Tryd.ntmps61
  go_wp2
  go_quiet (fail)
  go_wp2
  go_ret2
  exact ⟨rfl, below_drewN (((Below.refl _ _).alloc (Nat.le_refl _) _).alloc (by simp) _) _⟩
set_option maxRecDepth 100000 in
set_option maxHeartbeats 400000 in
theorem refUnit_3 (w : World) : Calls Tryd.prog 61 #[.int .i64 3] w fun e w' => e = .returned (.tuple #[.string ⟨#[104]⟩, .int .i64 3600000]) ∧ Below w.heap.size w w' := by
  go_enter Tryd.func61, Tryd.ntmps61
  go_wp2
  go_quiet (fail)
  go_wp2
  go_ret2
  exact ⟨rfl, below_drewN (((Below.refl _ _).alloc (Nat.le_refl _) _).alloc (by simp) _) _⟩
set_option maxRecDepth 100000 in
set_option maxHeartbeats 400000 in
theorem refUnit_4 (w : World) : Calls Tryd.prog 61 #[.int .i64 4] w fun e w' => e = .returned (.tuple #[.string ⟨#[109]⟩, .int .i64 60000]) ∧ Below w.heap.size w w' := by
  go_enter Tryd.func61, Tryd.ntmps61
  go_wp2
  go_quiet (fail)
  go_wp2
  go_ret2
  exact ⟨rfl, below_drewN (((Below.refl _ _).alloc (Nat.le_refl _) _).alloc (by simp) _) _⟩
set_option maxRecDepth 100000 in
set_option maxHeartbeats 400000 in
theorem refUnit_5 (w : World) : Calls Tryd.prog 61 #[.int .i64 5] w fun e w' => e = .returned (.tuple #[.string ⟨#[115]⟩, .int .i64 1000]) ∧ Below w.heap.size w w' := by
  go_enter Tryd.func61, Tryd.ntmps61
  go_wp2
  go_quiet (fail)
  go_wp2
  go_ret2
  exact ⟨rfl, below_drewN (((Below.refl _ _).alloc (Nat.le_refl _) _).alloc (by simp) _) _⟩
set_option maxRecDepth 100000 in
set_option maxHeartbeats 400000 in
theorem refUnit_6 (w : World) : Calls Tryd.prog 61 #[.int .i64 6] w fun e w' => e = .returned (.tuple #[.string ⟨#[109, 115]⟩, .int .i64 1]) ∧ Below w.heap.size w w' := by
  go_enter Tryd.func61, Tryd.ntmps61
  go_wp2
  go_quiet (fail)
  go_wp2
  go_ret2
  exact ⟨rfl, below_drewN (((Below.refl _ _).alloc (Nat.le_refl _) _).alloc (by simp) _) _⟩
theorem refUnit_any (j : Nat) (hj : j < 7) (w : World) : Calls Tryd.prog 61 #[.int .i64 j] w fun e w' => e = .returned (.tuple #[.string ⟨(nameU j).toArray⟩, .int .i64 (sizeU j : Nat)]) ∧ Below w.heap.size w w' := by
  rcases (show j = 0 ∨ j = 1 ∨ j = 2 ∨ j = 3 ∨ j = 4 ∨ j = 5 ∨ j = 6 by omega) with rfl | rfl | rfl | rfl | rfl | rfl | rfl
  · exact refUnit_0 w
  · exact refUnit_1 w
  · exact refUnit_2 w
  · exact refUnit_3 w
  · exact refUnit_4 w
  · exact refUnit_5 w
  · exact refUnit_6 w
theorem ba_join3 (a b c : List UInt8) : ((⟨a.toArray⟩ : ByteArray) ++ ⟨b.toArray⟩ ++ ⟨c.toArray⟩) = ⟨(a ++ b ++ c).toArray⟩ := by rw [ba_join a b, ba_join (a ++ b) c]
/-- What a step of the document reckons, of a number not below 0 and of one not above it. -/
theorem step_facts (L m : Nat) (hL : L ≤ 9223372036854775808) : ∃ Q R : Nat, Q = L / m ∧ R = L % m ∧ Q ≤ 9223372036854775808 ∧ R ≤ L ∧ (L : Int).tdiv m = (Q : Int) ∧ (L : Int).tmod m = (R : Int) ∧ (-(L : Int)).tdiv m = -(Q : Int) ∧ (-(L : Int)).tmod m = -(R : Int) := by
  refine ⟨L / m, L % m, rfl, rfl, Nat.le_trans (Nat.div_le_self _ _) hL, Nat.mod_le _ _, (Int.ofNat_tdiv _ _).symm, (Int.ofNat_tmod _ _).symm, ?_, ?_⟩
  · rw [Int.neg_tdiv, ← Int.ofNat_tdiv]
  · rw [Int.neg_tmod, ← Int.ofNat_tmod]
end Go.Proofs.YtmlcilalmhpmiaaDoor
