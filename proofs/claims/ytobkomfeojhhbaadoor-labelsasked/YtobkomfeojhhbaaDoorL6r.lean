/- The document's Get. -/
import Derived.Test.YtobkomfeojhhbaaDoorL6
namespace Go.Proofs.YtobkomfeojhhbaaDoor
open Go.RowKit

set_option maxRecDepth 100000 in
set_option maxHeartbeats 1000000 in
theorem refGet_any (v : Value) (ls : List Lb) (n : ByteArray) (w : World) (h : LabsAt w v ls) (hl : ls.length ≤ 1000000) :
    Calls Tryd.prog 28 #[v, .string n] w fun e w' => e = .returned (.string (getL ls n)) ∧ w' = w := by
  obtain ⟨a, c, rfl, -⟩ := id h
  have HC : Hid (LabsAt w (.slice a ls.length c) ls) := h
  clear h
  go_enter Tryd.func28, Tryd.ntmps28
  go_wp2
  go_loop [5] (fun i => ∃ k : Nat, k ≤ ls.length ∧ i = .int .i64 k ∧ Hid (Not ls n k)) (fun i => ls.length - (intOf i).toNat)
  case atStart => exact ⟨0, Nat.zero_le _, rfl, Not.zero⟩
  case round =>
    obtain ⟨k, hk, rfl, hall⟩ := hrel
    by_cases hlt : k < ls.length
    · obtain ⟨b, o, rfl, hone⟩ := HC.out.one k hlt
      obtain ⟨h0, h1⟩ := hone w (Below.refl _ _)
      clear hone HC
      obtain ⟨x, hx⟩ : ∃ x, x = ls[k].1 := ⟨_, rfl⟩
      obtain ⟨y, hy⟩ : ∃ y, y = ls[k].2 := ⟨_, rfl⟩
      rw [← hx] at h0
      rw [← hy] at h1
      have HX : Hid (x = ls[k].1 ∧ y = ls[k].2) := ⟨hx, hy⟩
      clear hx hy
      cases hxn : x.toList == n.toList
      · have HN : Hid (Not ls n (k + 1)) := hall.out.succ hlt (by rw [← HX.out.1]; exact hxn)
        clear hall HX
        go_wp2
        go_round
        case rel => exact ⟨k + 1, by omega, by go_num, HN⟩
        case measure => simp [intOf]; omega
      · have HN : Hid (getL ls n = y) := by
          show _ = _
          rw [getL_find, hall.out.find hlt (by rw [← HX.out.1]; exact hxn), HX.out.2]
          rfl
        clear hall HX
        go_wp2
        go_ret
        exact ⟨ret_str HN.out.symm, rfl⟩
    · have HN : Hid (getL ls n = ⟨#[]⟩) := by
        have e : k = ls.length := by omega
        subst e
        show _ = _
        rw [getL_find, hall.out.none]
        rfl
      clear hall HC
      go_wp2
      go_ret
      exact ⟨ret_str HN.out.symm, rfl⟩


end Go.Proofs.YtobkomfeojhhbaaDoor
