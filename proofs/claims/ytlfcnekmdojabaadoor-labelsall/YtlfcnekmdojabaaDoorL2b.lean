/- A character of three bytes. -/
import Derived.Test.YtlfcnekmdojabaaDoorL2
namespace Go.Proofs.YtlfcnekmdojabaaDoor
open Go.RowKit

set_option maxRecDepth 100000 in
set_option maxHeartbeats 4000000 in
theorem utf8_full3 (s : ByteArray) (i : Nat) (w : World) (hs : s.size ≤ 1024) (hi : i < s.size) (h0 : 224 ≤ bAt s i) (h0b : bAt s i < 240) (hm : i + 3 ≤ s.size) (r : Nat) (HR : Hid ((if (3 ≤ s.size - i ∧ 128 ≤ bAt s (i + 1) ∧ bAt s (i + 1) < 192 ∧ 128 ≤ bAt s (i + 2) ∧ bAt s (i + 2) < 192 ∧ 2048 ≤ 64 * (64 * (bAt s i - 224) + (bAt s (i + 1) - 128)) + (bAt s (i + 2) - 128) ∧ ¬ (55296 ≤ 64 * (64 * (bAt s i - 224) + (bAt s (i + 1) - 128)) + (bAt s (i + 2) - 128) ∧ 64 * (64 * (bAt s i - 224) + (bAt s (i + 1) - 128)) + (bAt s (i + 2) - 128) ≤ 57343)) then 3 else 0) = r)) :
    Calls Tryd.prog 53 #[.string s, .int .i64 i] w fun e w' => e = .returned (.int .i64 r) ∧ w' = w := by
  have e0 := bAt_eq hi
  have m1 : i + 1 < s.size := by omega
  have e1 := bAt_eq m1
  have l1 := bAt_lt s (i + 1)
  have m2 : i + 2 < s.size := by omega
  have e2 := bAt_eq m2
  have l2 := bAt_lt s (i + 2)
  generalize bAt s i = b0 at *
  generalize bAt s (i + 1) = b1 at *
  generalize bAt s (i + 2) = b2 at *
  go_enter Tryd.func53, Tryd.ntmps53
  go_wp2
  go_rounds 3
  all_goals (go_ret; refine ⟨ret_int ?_, rfl⟩; go_light; have h := HR.out; first | (rw [if_pos (by omega)] at h; omega) | (rw [if_neg (by omega)] at h; omega))


end Go.Proofs.YtlfcnekmdojabaaDoor
