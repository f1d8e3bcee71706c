/- What is packed is unpacked. -/
import Derived.Test.YtkmclgbiedbfpaaDoorKl
namespace Go.Proofs.YtkmclgbiedbfpaaDoor
open Go.RowKit Go.Shelf Go.Maps

set_option maxRecDepth 100000 in
set_option maxHeartbeats 1000000 in
theorem keepBits_any (x y : Nat) (w : World) :
    Calls Tryd.prog 27 #[.float .f64 x, .float .f64 y] w fun e w' => e = .returned (.bool (decide (x = y))) ∧ w' = w := by
  have h1 := floatbits_run x w
  have h2 := floatbits_run y w
  go_enter Tryd.func27, Tryd.ntmps27
  go_wp2
  go_ret
  exact ⟨ret_b (by rw [Bool.eq_iff_iff]; simp; omega), rfl⟩

set_option maxRecDepth 100000 in
set_option maxHeartbeats 1000000 in
theorem samples_same (v u : Value) (l : List Sm) (w : World) (h1 : SmpAt w v l) (h2 : SmpAt w u l) (hl : l.length ≤ 1000) :
    Calls Tryd.prog 21 #[v, u] w fun e w' => e = .returned (.bool true) ∧ Below w.heap.size w w' := by
  obtain ⟨a, c, rfl, -, -, -⟩ := id h1
  obtain ⟨a2, c2, rfl, -, -, -⟩ := id h2
  have H1 : Hid (SmpAt w (.slice a l.length c) l) := h1
  have H2 : Hid (SmpAt w (.slice a2 l.length c2) l) := h2
  clear h1 h2
  go_enter Tryd.func21, Tryd.ntmps21
  go_wp2
  go_loopw [5] (fun i wr => ∃ k : Nat, k ≤ l.length ∧ i = .int .i64 k ∧ Hid (Below w.heap.size w wr)) (fun i _ => l.length - (intOf i).toNat)
  case atStart => exact ⟨0, Nat.zero_le _, rfl, Below.refl _ _⟩
  case round =>
    obtain ⟨k, hk, rfl, hb⟩ := hrel
    by_cases hlt : k < l.length
    · obtain ⟨b, o, rfl, hone⟩ := H1.out.one k hlt
      obtain ⟨b2, o2, rfl, hone2⟩ := H2.out.one k hlt
      obtain ⟨g0, g1⟩ := hone wr hb.out
      obtain ⟨f0, f1⟩ := hone2 wr hb.out
      clear hone hone2
      have hsi := sg_in l[k].1
      generalize sg l[k].1 = A at *
      generalize l[k].2.toNat = B at *
      have hkb : ∀ W, Calls Tryd.prog 27 #[.float .f64 B, .float .f64 B] W fun e w' => e = .returned (.bool true) ∧ w' = W := fun W => by
        have := keepBits_any B B W
        rw [decide_eq_true rfl] at this
        exact this
      have HKB : Hid (∀ W, Calls Tryd.prog 27 #[.float .f64 B, .float .f64 B] W fun e w' => e = .returned (.bool true) ∧ w' = W) := hkb
      have hki : (k : Int) < (l.length : Int) := by omega
      clear hkb
      go_wp2_with fail
      go_quiet (first | (go_at_call 27; exact Calls.quiet_of_same (HKB.out _)))
      go_wp2
      go_roundw
      case rel => exact ⟨k + 1, by omega, by go_num, below_drewN hb.out nq⟩
      case measure => simp [intOf]; omega
    · have HBB : Hid (Below w.heap.size w wr) := hb
      clear hb
      go_wp2
      go_ret
      exact ⟨rfl, HBB.out⟩

set_option maxRecDepth 100000 in
set_option maxHeartbeats 2000000 in
theorem back_any (v : Value) (l : List Sm) (w : World) (h : SmpAt w v l) (hL : Laid w w.heap.size) :
    Calls Tryd.prog 4 #[v] w fun e w' => e = .returned (.bool true) ∧ Below w.heap.size w w' := by
  obtain ⟨a, c, rfl, hlc, hnn, -⟩ := id h
  have hmx : c ≤ 9223372036854775807 := by have h1 := hlc; unfold maxLen at h1; omega
  -- the samples that are taken
  have key : ∀ (n : Nat) (hn : n ≤ 120), SmpAt w (.slice a n c) (l.take n) → n = (l.take n).length →
      Hid (Calls Tryd.prog 11 #[.slice a n c] w (fun e w' => ∃ v', e = .returned (.tuple #[v', .int .i64 0]) ∧ w'.ownsRow w.heap.size 5 1 v' (encR (l.take n)).length (byteVals (encR (l.take n))) ∧ Below w.heap.size w w')) ∧
      Hid (∀ W v', BytesAt W v' (encR (l.take n)) → Below w.heap.size w W → Calls Tryd.prog 20 #[v'] W fun e w' => ∃ u, e = .returned (.tuple #[u, .int .i64 0]) ∧ w'.ownsRow W.heap.size 35 2 u n (smCells (l.take n)) ∧ Below W.heap.size W w') ∧
      Hid (∀ W u, SmpAt W u (l.take n) → Below w.heap.size w W → Calls Tryd.prog 21 #[.slice a n c, u] W fun e w' => e = .returned (.bool true) ∧ Below W.heap.size W w') ∧
      Hid (∀ W, Below w.heap.size w W → Calls Tryd.prog 19 #[] W fun e w' => e = .returned (.bool true) ∧ Below W.heap.size W w') := fun n hn hs hln => by
    refine ⟨encode_any _ _ w hs (by omega) hL, fun W v' h1 h2 => ?_, fun W u h1 h2 => samples_same _ _ (l.take n) W (hs.below h2) h1 (by omega), fun W h2 => wakes_any W ((hL.below h2).mono h2.size)⟩
    have := decode_enc v' (l.take n) W h1 (by omega) ((hL.below h2).mono h2.size)
    rw [← hln] at this
    exact this
  by_cases h120 : 120 < l.length
  · have hS := h.take 120 (by omega)
    have hlt : (120 : Nat) = (l.take 120).length := by simp; omega
    obtain ⟨K1, K2, K3, K4⟩ := key 120 (by omega) hS hlt
    have h120i : (120 : Int) < (l.length : Int) := by omega
    have hci : (120 : Int) ≤ (c : Int) := by omega
    have hS2 : Hid (∀ W u, W.ownsRow w.heap.size 35 2 u 120 (smCells (l.take 120)) → SmpAt W u (l.take 120)) := fun W u h1 => SmpAt.of_row (base := w.heap.size) (by rw [← hlt]; exact h1)
    obtain ⟨b, o, rfl, -⟩ := h.one 0 (by omega)
    clear key h hS hlt
    generalize encR (l.take 120) = raw at *
    go_enter Tryd.func4, Tryd.ntmps4
    go_wp2_with (first
      | (go_at_call 11; refine K1.out.mono ?_; clear K1; rintro e w1 ⟨v1, rfl, hr1, hb1⟩; obtain ⟨a1, c1, hv1⟩ := slice_of_row hr1; subst hv1; have hk2 := K2.out w1 _ (BytesAt.of_row hr1) hb1; have HB1 : Hid (Below w.heap.size w w1) := hb1; clear hr1 hb1)
      | (go_at_call 20; refine hk2.mono ?_; clear hk2; rintro e w2 ⟨v2, rfl, hr2, hb2⟩; obtain ⟨a2, c2, hv2⟩ := slice_of_row hr2; subst hv2; have hbw2 : Below w.heap.size w w2 := HB1.out.trans (hb2.mono HB1.out.size); have hk3 := K3.out w2 _ (hS2.out w2 _ (row_mono hr2 HB1.out.size)) hbw2; have HB2 : Hid (Below w.heap.size w w2) := hbw2; clear hr2 hb2 hbw2)
      | (go_at_call 21; refine hk3.mono ?_; clear hk3; rintro e w3 ⟨rfl, hb3⟩; have hbw3 : Below w.heap.size w w3 := HB2.out.trans (hb3.mono HB2.out.size); have hk4 := K4.out w3 hbw3; have HB3 : Hid (Below w.heap.size w w3) := hbw3; clear hb3 hbw3)
      | (go_at_call 19; refine hk4.mono ?_; clear hk4; rintro e w4 ⟨rfl, hb4⟩))
    go_ret
    exact ⟨rfl, HB3.out.trans (hb4.mono HB3.out.size)⟩
  · have e : l.take l.length = l := List.take_length
    have hS := h.take l.length (Nat.le_refl _)
    have hlt : l.length = (l.take l.length).length := by simp
    obtain ⟨K1, K2, K3, K4⟩ := key l.length (by omega) hS hlt
    have h120i : (l.length : Int) ≤ 120 := by omega
    have hS2 : Hid (∀ W u, W.ownsRow w.heap.size 35 2 u l.length (smCells (l.take l.length)) → SmpAt W u (l.take l.length)) := fun W u h1 => SmpAt.of_row (base := w.heap.size) (by rw [← hlt]; exact h1)
    clear key h hS hlt e
    generalize encR (l.take l.length) = raw at *
    generalize smCells (l.take l.length) = cs at *
    generalize l.take l.length = l' at *
    generalize l.length = n at *
    go_enter Tryd.func4, Tryd.ntmps4
    go_wp2_with (first
      | (go_at_call 11; refine K1.out.mono ?_; clear K1; rintro e w1 ⟨v1, rfl, hr1, hb1⟩; obtain ⟨a1, c1, hv1⟩ := slice_of_row hr1; subst hv1; have hk2 := K2.out w1 _ (BytesAt.of_row hr1) hb1; have HB1 : Hid (Below w.heap.size w w1) := hb1; clear hr1 hb1)
      | (go_at_call 20; refine hk2.mono ?_; clear hk2; rintro e w2 ⟨v2, rfl, hr2, hb2⟩; obtain ⟨a2, c2, hv2⟩ := slice_of_row hr2; subst hv2; have hbw2 : Below w.heap.size w w2 := HB1.out.trans (hb2.mono HB1.out.size); have hk3 := K3.out w2 _ (hS2.out w2 _ (row_mono hr2 HB1.out.size)) hbw2; have HB2 : Hid (Below w.heap.size w w2) := hbw2; clear hr2 hb2 hbw2)
      | (go_at_call 21; refine hk3.mono ?_; clear hk3; rintro e w3 ⟨rfl, hb3⟩; have hbw3 : Below w.heap.size w w3 := HB2.out.trans (hb3.mono HB2.out.size); have hk4 := K4.out w3 hbw3; have HB3 : Hid (Below w.heap.size w w3) := hbw3; clear hb3 hbw3)
      | (go_at_call 19; refine hk4.mono ?_; clear hk4; rintro e w4 ⟨rfl, hb4⟩))
    go_ret
    exact ⟨rfl, HB3.out.trans (hb4.mono HB3.out.size)⟩

end Go.Proofs.YtkmclgbiedbfpaaDoor
