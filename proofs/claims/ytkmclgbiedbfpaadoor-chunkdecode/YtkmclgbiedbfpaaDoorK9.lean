/- packed, Encode, Bits. -/
import Derived.Test.YtkmclgbiedbfpaaDoorK8
namespace Go.Proofs.YtkmclgbiedbfpaaDoor
open Go.RowKit Go.Maps Go.Shelf
attribute [local go_sem] run_store_float

set_option maxRecDepth 100000 in
set_option maxHeartbeats 2000000 in
theorem packed_any (v : Value) (l : List Sm) (w : World) (h : SmpAt w v l) (hl : l.length ≤ 120) (hL : Laid w w.heap.size) :
    Calls Tryd.prog 30 #[v] w fun e w' => ∃ P, e = .returned (.tuple #[.pointer (some ⟨P, 0, none⟩), .int .i64 0]) ∧ WrL w' w.heap.size P l ∧ Below w.heap.size w w' := by
  obtain ⟨a, c, rfl, -, -, -⟩ := id h
  have hnew := new_any w
  have HS : Hid (SmpAt w (.slice a l.length c) l) := h
  have HL : Hid (Laid w w.heap.size) := hL
  have HA : Hid (∀ W pre x, WrL W w.heap.size w.heap.size pre → pre.length < 120 → Below w.heap.size w W → Calls Tryd.prog 15 #[.pointer (some ⟨w.heap.size, 0, none⟩), .int .i64 (sg x.1), .float .f64 x.2.toNat] W fun e w' => e = .returned (.int .i64 0) ∧ WrL w' w.heap.size w.heap.size (pre ++ [x]) ∧ Below w.heap.size w w') := fun W pre x h1 h2 h3 =>
    (append_any w.heap.size w.heap.size pre x W h1 h2 (hL.below h3)).mono (fun e w' h => ⟨h.1, h.2.1, h3.trans h.2.2⟩)
  clear h hL
  go_enter Tryd.func30, Tryd.ntmps30
  go_wp2_with (go_at_call 12; refine hnew.mono ?_; clear hnew; rintro e w1 ⟨rfl, hw1, hb1⟩; have HW1 : Hid (WrL w1 w.heap.size w.heap.size []) := hw1; have HB1 : Hid (Below w.heap.size w w1) := hb1; clear hw1 hb1)
  go_loopw [13] (fun i wr => ∃ k : Nat, k ≤ l.length ∧ i = .int .i64 k ∧ Hid (WrL wr w.heap.size w.heap.size (l.take k) ∧ Below w.heap.size w wr)) (fun i _ => l.length - (intOf i).toNat)
  case atStart => exact ⟨0, Nat.zero_le _, rfl, HW1.out, HB1.out⟩
  case round =>
    obtain ⟨k, hk, rfl, hI⟩ := hrel
    clear HW1 HB1
    by_cases hlt : k < l.length
    · obtain ⟨b, o, rfl, hone⟩ := HS.out.one k hlt
      obtain ⟨g0, g1⟩ := hone wr hI.out.2
      clear hone
      obtain ⟨x, hx⟩ : ∃ x, x = l[k] := ⟨_, rfl⟩
      rw [← hx] at g0 g1
      have HT : Hid (l.take (k + 1) = l.take k ++ [x]) := by show _ = _; rw [List.take_succ_eq_append_getElem hlt, hx]
      have hpl : (l.take k).length < 120 := by simp; omega
      have hbA : Below w.heap.size w (wr.alloc (.cells #[.int .i64 (sg x.1), .float .f64 x.2.toNat] 35)) := hI.out.2.alloc hI.out.2.size _
      have hwA : WrL (wr.alloc (.cells #[.int .i64 (sg x.1), .float .f64 x.2.toNat] 35)) w.heap.size w.heap.size (l.take k) := Wr.below hI.out.1 ((Below.refl _ _).alloc (Nat.le_refl _) _)
      have happ := HA.out _ (l.take k) x hwA hpl hbA
      rw [← HT.out] at happ
      have hsi := sg_in x.1
      clear hx HT hwA hbA hI hpl
      generalize sg x.1 = A at *
      generalize x.2.toNat = B at *
      go_wp2_with (go_at_call 15; refine happ.mono ?_; clear happ; rintro e w2 ⟨rfl, hw2, hb2⟩)
      go_roundw
      case rel => exact ⟨k + 1, by omega, by go_num, hw2, hb2⟩
      case measure => simp [intOf]; omega
    · have hE : Hid (WrL wr w.heap.size w.heap.size l ∧ Below w.heap.size w wr) := by
        have := hI.out
        rw [List.take_of_length_le (by omega)] at this
        exact this
      clear hI
      go_wp2
      go_ret2
      exact ⟨_, rfl, hE.out.1, hE.out.2⟩

set_option maxRecDepth 100000 in
set_option maxHeartbeats 1000000 in
theorem packed_many (v : Value) (l : List Sm) (w : World) (h : SmpAt w v l) (hl : 120 < l.length) :
    Calls Tryd.prog 30 #[v] w fun e w' => e = .returned (.tuple #[.pointer none, .int .i64 15]) ∧ w' = w := by
  obtain ⟨a, c, rfl, -, -, -⟩ := id h
  have hli : (120 : Int) < (l.length : Int) := by omega
  go_enter Tryd.func30, Tryd.ntmps30
  go_wp2
  go_ret2
  exact ⟨rfl, rfl⟩

set_option maxRecDepth 100000 in
set_option maxHeartbeats 1000000 in
theorem encode_any (v : Value) (l : List Sm) (w : World) (h : SmpAt w v l) (hl : l.length ≤ 120) (hL : Laid w w.heap.size) :
    Calls Tryd.prog 11 #[v] w fun e w' => ∃ v', e = .returned (.tuple #[v', .int .i64 0]) ∧ w'.ownsRow w.heap.size 5 1 v' (encR l).length (byteVals (encR l)) ∧ Below w.heap.size w w' := by
  obtain ⟨a, c, rfl, -, -, -⟩ := id h
  have hp := packed_any _ l w h hl hL
  clear h hL
  go_enter Tryd.func11, Tryd.ntmps11
  go_wp2_with (first
    | (go_at_call 30; refine hp.mono ?_; clear hp; rintro e w1 ⟨P, rfl, hw1, hb1⟩; have hby := bytes_any w.heap.size P l w1 hw1 hl; have HB1 : Hid (Below w.heap.size w w1) := hb1; clear hw1 hb1)
    | (go_at_call 17; refine hby.mono ?_; clear hby; rintro e w2 ⟨v2, rfl, hr2, hb2⟩; obtain ⟨a2, c2, hv2⟩ := slice_of_row hr2; subst hv2))
  go_ret2
  exact ⟨_, rfl, row_mono hr2 HB1.out.size, HB1.out.trans (hb2.mono HB1.out.size)⟩

set_option maxRecDepth 100000 in
set_option maxHeartbeats 1000000 in
theorem encode_many (v : Value) (l : List Sm) (w : World) (h : SmpAt w v l) (hl : 120 < l.length) :
    Calls Tryd.prog 11 #[v] w fun e w' => e = .returned (.tuple #[.slice none 0 0, .int .i64 15]) ∧ w' = w := by
  have hp := packed_many _ l w h hl
  obtain ⟨a, c, rfl, -, -, -⟩ := id h
  clear h
  go_enter Tryd.func11, Tryd.ntmps11
  go_wp2_with (go_at_call 30; refine hp.mono ?_; clear hp; rintro e w1 ⟨rfl, hw1⟩; have hw1 := hw1.symm; subst hw1)
  go_ret2
  exact ⟨rfl, rfl⟩

set_option maxRecDepth 100000 in
set_option maxHeartbeats 1000000 in
theorem bits_any (v : Value) (l : List Sm) (w : World) (h : SmpAt w v l) (hl : l.length ≤ 120) (hL : Laid w w.heap.size) :
    Calls Tryd.prog 14 #[v] w fun e w' => e = .returned (.int .i64 ((16 + (encB l).length : Nat) : Int)) ∧ Below w.heap.size w w' := by
  obtain ⟨a, c, rfl, -, -, -⟩ := id h
  have hp := packed_any _ l w h hl hL
  have hbl := encB_length l
  clear h hL
  go_enter Tryd.func14, Tryd.ntmps14
  go_wp2_with (go_at_call 30; refine hp.mono ?_; clear hp; rintro e w1 ⟨P, rfl, hw1, hb1⟩; obtain ⟨-, c2, -⟩ := Wr.cells hw1; have HB1 : Hid (Below w.heap.size w w1) := hb1; clear hw1 hb1)
  go_ret
  exact ⟨ret_i (by omega), HB1.out⟩

set_option maxRecDepth 100000 in
set_option maxHeartbeats 1000000 in
theorem bits_many (v : Value) (l : List Sm) (w : World) (h : SmpAt w v l) (hl : 120 < l.length) :
    Calls Tryd.prog 14 #[v] w fun e w' => e = .returned (.int .i64 0) ∧ w' = w := by
  have hp := packed_many _ l w h hl
  obtain ⟨a, c, rfl, -, -, -⟩ := id h
  clear h
  go_enter Tryd.func14, Tryd.ntmps14
  go_wp2_with (go_at_call 30; refine hp.mono ?_; clear hp; rintro e w1 ⟨rfl, hw1⟩; have hw1 := hw1.symm; subst hw1)
  go_ret
  exact ⟨rfl, rfl⟩

end Go.Proofs.YtkmclgbiedbfpaaDoor
