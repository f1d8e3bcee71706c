/- A character of four bytes. -/
import Derived.Test.YtlfcnekmdojabaaDoorL2
namespace Go.Proofs.YtlfcnekmdojabaaDoor
open Go.RowKit

set_option maxRecDepth 100000 in
set_option maxHeartbeats 4000000 in
theorem utf8_full4 (s : ByteArray) (i : Nat) (w : World) (hs : s.size ≤ 1024) (hi : i < s.size) (h0 : 240 ≤ bAt s i) (h0b : bAt s i < 248) (hm : i + 4 ≤ s.size) (r : Nat) (HR : Hid ((if (4 ≤ s.size - i ∧ 128 ≤ bAt s (i + 1) ∧ bAt s (i + 1) < 192 ∧ 128 ≤ bAt s (i + 2) ∧ bAt s (i + 2) < 192 ∧ 128 ≤ bAt s (i + 3) ∧ bAt s (i + 3) < 192 ∧ 65536 ≤ 64 * (64 * (64 * (bAt s i - 240) + (bAt s (i + 1) - 128)) + (bAt s (i + 2) - 128)) + (bAt s (i + 3) - 128) ∧ 64 * (64 * (64 * (bAt s i - 240) + (bAt s (i + 1) - 128)) + (bAt s (i + 2) - 128)) + (bAt s (i + 3) - 128) ≤ 1114111) then 4 else 0) = r)) :
    Calls Tryd.prog 53 #[.string s, .int .i64 i] w fun e w' => e = .returned (.int .i64 r) ∧ w' = w := by
  have e0 := bAt_eq hi
  have m1 : i + 1 < s.size := by omega
  have e1 := bAt_eq m1
  have l1 := bAt_lt s (i + 1)
  have m2 : i + 2 < s.size := by omega
  have e2 := bAt_eq m2
  have l2 := bAt_lt s (i + 2)
  have m3 : i + 3 < s.size := by omega
  have e3 := bAt_eq m3
  have l3 := bAt_lt s (i + 3)
  generalize bAt s i = b0 at *
  generalize bAt s (i + 1) = b1 at *
  generalize bAt s (i + 2) = b2 at *
  generalize bAt s (i + 3) = b3 at *
  go_enter Tryd.func53, Tryd.ntmps53
  go_wp2
  go_rounds 4
  all_goals (go_ret; refine ⟨ret_int ?_, rfl⟩; go_light; have h := HR.out; first | (rw [if_pos (by omega)] at h; omega) | (rw [if_neg (by omega)] at h; omega))


end Go.Proofs.YtlfcnekmdojabaaDoor
