/- risenSamples; slices.SortStableFunc of one series. -/
import Derived.Test.YtfkahbgphoonaaaYf
import Derived.Test.YtfkahbgphoonaaaYd
namespace Go.Proofs.Ytfkahbgphoonaaa
open Go.RowKit Go.Sort Go.Shelf Go.Lib

set_option maxRecDepth 100000 in
set_option maxHeartbeats 1000000 in
theorem risenSm (n : Nat) (g c : Nat) (xs : List Sm) (w : World) (base : Nat) (hn : xs.length = n) (hin : (insS xs).length = n) (h : w.ownsRow base 53 2 (.slice (some ⟨g, 0, none⟩) n c) n (smC xs)) (hl : n < 20) (hd : ∀ i (h : i + 1 < (insS xs).length), (insS xs)[i + 1].1 ≠ (insS xs)[i].1) :
    Calls Try.prog 47 #[.slice (some ⟨g, 0, none⟩) n c] w fun e w' => e = .returned (.slice (some ⟨g, 0, none⟩) n c) ∧ w'.ownsRow base 53 2 (.slice (some ⟨g, 0, none⟩) n c) n (smC (insS xs)) ∧ Kept (fun i => i = g) w w' := by
  have hs := sortStSm n g c xs w base hn h hl
  have HC : Hid (∀ W, W.ownsRow base 53 2 (.slice (some ⟨g, 0, none⟩) n c) n (smC (insS xs)) → Calls Try.prog 66 #[.slice (some ⟨g, 0, none⟩) n c, .func (.func 67) #[] #[]] W fun e w' => e = .returned (.slice (some ⟨g, 0, none⟩) n c) ∧ Below W.heap.size W w') := fun W hW => compactSm n g c (insS xs) W hin (by
    have h9 := RowAt.of_row hW
    unfold SmAt
    rw [hin]
    exact h9) (by omega) hd
  clear h hd hin hn
  go_enter Try.func47, Try.ntmps47
  go_wp2_with (first
    | (go_at_call 64; refine hs.mono ?_; clear hs; rintro e w1 ⟨rfl, hr1, hk1⟩; have hc := HC.out w1 hr1; have HR1 : Hid _ := hr1; have HK1 : Hid _ := hk1; clear hr1 hk1)
    | (go_at_call 66; refine hc.mono ?_; clear hc; rintro e w2 ⟨rfl, hb2⟩))
  go_ret
  exact ⟨rfl, row_below HR1.out hb2, HK1.out.below hb2⟩

set_option maxRecDepth 100000 in
set_option maxHeartbeats 1000000 in
theorem insSr1 (a : Option Addr) (c : Nat) (f : Value) (w : World) :
    Calls Try.prog 76 #[.slice a 1 c, .int .i64 0, .int .i64 1, f] w fun e w' => e = .returned (.tuple #[]) ∧ w' = w := by
  go_enter Try.func76, Try.ntmps76
  go_wp2
  go_loopw [8] (fun x wr => x = .int .i64 1 ∧ wr = w) (fun _ _ => 0)
  case atStart => exact ⟨rfl, rfl⟩
  case round =>
    obtain ⟨rfl, rfl⟩ := hrel
    go_wp2
    go_end0
    exact ⟨rfl, rfl⟩
set_option maxRecDepth 100000 in
set_option maxHeartbeats 1000000 in
theorem stableSr1 (a : Option Addr) (c : Nat) (f : Value) (w : World) :
    Calls Try.prog 61 #[.slice a 1 c, .int .i64 1, f] w fun e w' => e = .returned (.tuple #[]) ∧ w' = w := by
  have hins := insSr1 a c f w
  go_enter Try.func61, Try.ntmps61
  go_wp2
  go_loopw [7, 8] (fun x y wr => x = .int .i64 0 ∧ y = .int .i64 20 ∧ wr = w) (fun _ _ _ => 0)
  case atStart => exact ⟨rfl, rfl, rfl⟩
  case round =>
    obtain ⟨rfl, rfl, rfl⟩ := hrel
    go_wp2_with (go_at_call 76; refine hins.mono ?_; clear hins; rintro e w1 ⟨rfl, rfl⟩)
    go_loopw [6, 7, 8] (fun x _ _ wr => x = .int .i64 20 ∧ wr = w1) (fun _ _ _ _ => 0)
    case atStart => exact ⟨rfl, rfl⟩
    case round =>
      obtain ⟨rfl, rfl⟩ := hrel
      go_wp2
      go_end0
      exact ⟨rfl, rfl⟩
set_option maxRecDepth 100000 in
set_option maxHeartbeats 1000000 in
theorem sortStSr1 (a : Option Addr) (c : Nat) (f : Value) (w : World) :
    Calls Try.prog 44 #[.slice a 1 c, f] w fun e w' => e = .returned (.tuple #[]) ∧ w' = w := by
  have hins := stableSr1 a c f w
  go_enter Try.func44, Try.ntmps44
  go_wp2_with (go_at_call 61; refine hins.mono ?_; clear hins; rintro e w1 ⟨rfl, rfl⟩)
  go_end0
  exact ⟨rfl, rfl⟩

end Go.Proofs.Ytfkahbgphoonaaa
