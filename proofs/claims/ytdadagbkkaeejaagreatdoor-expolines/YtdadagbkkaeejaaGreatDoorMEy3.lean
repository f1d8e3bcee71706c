/- Escape: a label's value, written so that its end can be told. -/
import Derived.Test.YtdadagbkkaeejaaGreatDoorMEx6
namespace Go.Proofs.YtdadagbkkaeejaaGreatDoor
open Go.RowKit Go.Maps

/-- How a byte is written. -/
def escX (c : UInt8) : List UInt8 := if c = 34 ∨ c = 92 then [92, c] else if c = 10 then [92, 110] else [c]
/-- A value, written. -/
def escL (l : List UInt8) : List UInt8 := l.flatMap escX
theorem escX_length (c : UInt8) : (escX c).length ≤ 2 := by
  unfold escX
  split
  · simp
  · split <;> simp
theorem escL_length (s : List UInt8) : (escL s).length ≤ 2 * s.length := by
  unfold escL
  induction s with
  | nil => simp
  | cons c t ih =>
    have := escX_length c
    rw [List.flatMap_cons, List.length_append, List.length_cons]
    omega
theorem escL_succ (s : List UInt8) (k : Nat) (hk : k < s.length) : escL (s.take (k + 1)) = escL (s.take k) ++ escX s[k] := by
  unfold escL
  rw [List.take_succ_eq_append_getElem hk, List.flatMap_append]
  simp
theorem escX_quote {c : UInt8} (h : c = 34 ∨ c = 92) : escX c = [92, c] := by unfold escX; rw [if_pos h]
theorem escX_line {c : UInt8} (h : c = 10) : escX c = [92, 110] := by subst h; decide
theorem escX_plain {c : UInt8} (h1 : ¬ (c = 34 ∨ c = 92)) (h2 : ¬ c = 10) : escX c = [c] := by unfold escX; rw [if_neg h1, if_neg h2]

set_option maxRecDepth 100000 in
set_option maxHeartbeats 4000000 in
theorem escape_any (s : ByteArray) (w : World) (hs : s.size ≤ 100000000) :
    Calls Tryz.prog 12 #[.string s] w fun e w' => e = .returned (.string ⟨(escL s.data.toList).toArray⟩) ∧ Below w.heap.size w w' := by
  have HB1 : Hid (Nu.Bd w.heap.size w.heap.size [] (w.alloc (.cells #[.pointer none, .slice none 0 0] 51 (0, 0)))) := Nu.Bd.fresh w
  have HS2 : Hid (w.heap.size ≤ (w.alloc (.cells #[.pointer none, .slice none 0 0] 51 (0, 0))).heap.size) := by show _ ≤ _; simp
  have HK2 : Hid (Below w.heap.size w (w.alloc (.cells #[.pointer none, .slice none 0 0] 51 (0, 0)))) := (Below.refl _ _).alloc (Nat.le_refl _) _
  obtain ⟨B, hBB⟩ : ∃ B, B = w.heap.size := ⟨_, rfl⟩
  go_enter Tryz.func12, Tryz.ntmps12
  go_wp2
  go_loopw [8] (fun i wr => ∃ k : Nat, k ≤ s.size ∧ i = .int .i64 k ∧ Hid (Nu.Bd w.heap.size w.heap.size (escL (s.data.toList.take k)) wr) ∧ Hid (Below w.heap.size w wr)) (fun i _ => s.size - (intOf i).toNat)
  case atStart => exact ⟨0, Nat.zero_le _, rfl, HB1, HK2⟩
  case round =>
    clear HB1 HK2 HS2
    obtain ⟨k, hk, rfl, hBd, hBK⟩ := hrel
    have hle : (escL (s.data.toList.take k)).length ≤ 1000000000 - 4 := by
      have h1 := escL_length (s.data.toList.take k)
      have h2 : (s.data.toList.take k).length = k := by rw [List.length_take, Array.length_toList]; exact Nat.min_eq_left hk
      rw [h2] at h1
      omega
    have hsz : w.heap.size ≤ wr.heap.size := hBK.out.size
    by_cases hlt : k < s.size
    · have hlt' : k < s.data.toList.length := by rw [Array.length_toList]; exact hlt
      have HE : Hid (escL (s.data.toList.take (k + 1)) = escL (s.data.toList.take k) ++ escX s[k]) := escL_succ _ k hlt'
      generalize escL (s.data.toList.take k) = bs' at *
      have hcl := s[k].toNat_lt
      obtain ⟨c, hc⟩ : ∃ c, c = s[k] := ⟨_, rfl⟩
      rw [← hc] at HE hcl
      have hcN : s[k].toNat = c.toNat := by rw [hc]
      clear hc
      have hB0 := hBd.out
      have hBK0 := hBK.out
      clear hBd hBK
      have hfin : Hid (∀ x W, escX c = x → Nu.Bd w.heap.size w.heap.size (bs' ++ x) W → Nu.Bd w.heap.size w.heap.size (escL (s.data.toList.take (k + 1))) W) := fun x W e hh => by
        rw [HE.out, e]
        exact hh
      clear HE
      by_cases hq : c = 34 ∨ c = 92
      · have HE' := escX_quote hq
        rcases hq with rfl | rfl
        · have hcN' : s[k].toNat = 34 := hcN
          clear hcN hcl
          go_wp2_with (first
            | (go_at_call 17; refine (Nu.wb_lit w.heap.size w.heap.size bs' 92 92 rfl wr hB0 (by omega) hsz).mono ?_; clear hB0; rintro e w1 ⟨rfl, hB1, hk1⟩; have hsz1 := Nat.le_trans hsz hk1.below.size)
            | (go_at_call 17; refine (Nu.wb_lit w.heap.size w.heap.size _ 34 34 rfl w1 hB1 (by simp; omega) hsz1).mono ?_; clear hB1; rintro e w2 ⟨rfl, hB2, hk2⟩))
          go_roundw
          case rel => exact ⟨k + 1, by omega, by go_num, hfin.out _ _ HE' (by rw [List.append_assoc] at hB2; exact hB2), (hBK0.trans hk1.below).trans hk2.below⟩
          case measure => simp [intOf]; omega
        · have hcN' : s[k].toNat = 92 := hcN
          clear hcN hcl
          go_wp2_with (first
            | (go_at_call 17; refine (Nu.wb_lit w.heap.size w.heap.size bs' 92 92 rfl wr hB0 (by omega) hsz).mono ?_; clear hB0; rintro e w1 ⟨rfl, hB1, hk1⟩; have hsz1 := Nat.le_trans hsz hk1.below.size)
            | (go_at_call 17; refine (Nu.wb_lit w.heap.size w.heap.size _ 92 92 rfl w1 hB1 (by simp; omega) hsz1).mono ?_; clear hB1; rintro e w2 ⟨rfl, hB2, hk2⟩))
          go_roundw
          case rel => exact ⟨k + 1, by omega, by go_num, hfin.out _ _ HE' (by rw [List.append_assoc] at hB2; exact hB2), (hBK0.trans hk1.below).trans hk2.below⟩
          case measure => simp [intOf]; omega
      · by_cases h10 : c = 10
        · have HE' := escX_line h10
          subst h10
          have hcN' : s[k].toNat = 10 := hcN
          clear hcN hcl hq
          go_wp2_with (go_at_call 18; refine (Nu.ws_any w.heap.size w.heap.size bs' ⟨#[92, 110]⟩ wr hB0 (by omega) (by decide) hsz).mono ?_; clear hB0; rintro e w1 ⟨rfl, hB1, hk1⟩)
          go_roundw
          case rel => exact ⟨k + 1, by omega, by go_num, hfin.out _ _ HE' hB1, hBK0.trans hk1.below⟩
          case measure => simp [intOf]; omega
        · have HE' : Hid (escX c = [c]) := escX_plain hq h10
          have hw := Nu.wb_any w.heap.size w.heap.size bs' c wr hB0 (by omega) hsz
          have n1 : ¬ (c.toNat : Int) = 34 := fun e => hq (Or.inl (UInt8.toNat_inj.1 (by simp; omega)))
          have n2 : ¬ (c.toNat : Int) = 92 := fun e => hq (Or.inr (UInt8.toNat_inj.1 (by simp; omega)))
          have n3 : ¬ (c.toNat : Int) = 10 := fun e => h10 (UInt8.toNat_inj.1 (by simp; omega))
          have HQ : Hid (¬ (c = 34 ∨ c = 92) ∧ ¬ c = 10) := ⟨hq, h10⟩
          clear hq h10 hB0
          generalize c.toNat = cN at *
          go_wp2_with (go_at_call 17; refine hw.mono ?_; rintro e w1 ⟨rfl, hB1, hk1⟩)
          go_roundw
          case rel => exact ⟨k + 1, by omega, by go_num, hfin.out _ _ HE'.out hB1, hBK0.trans hk1.below⟩
          case measure => simp [intOf]; omega
    · have HE : Hid (escL (s.data.toList.take k) = escL s.data.toList) := by
        show _ = _
        rw [List.take_of_length_le (by rw [Array.length_toList]; exact Nat.le_of_not_lt hlt)]
      rw [HE.out] at hBd
      have hB0 := hBd.out
      have hBK0 := hBK.out
      go_wp2_with (go_at_call 19; refine (Any.Builder_String_any_k Tryz.lays169 Tryz.Builder_Extra_169 _ _ _ _ hB0 hsz).mono ?_; rintro e w5 ⟨rfl, hB5, hk5, hk6⟩)
      go_ret
      exact ⟨rfl, hBK0.trans hk5⟩
end Go.Proofs.YtdadagbkkaeejaaGreatDoor
