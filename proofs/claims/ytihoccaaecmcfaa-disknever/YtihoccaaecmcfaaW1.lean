/- Which names are right: the program's rightByte and rightName, and the reference's Right, answer one plain function of the bytes. -/
import Derived.Test.YtihoccaaecmcfaaProg
import Derived.WalkKit
import Derived.WalkSpells
import Derived.WalkLawsBesides
namespace Go.Proofs.Ytihoccaaecmcfaa
open Go.RowKit

def rb (c : Int) : Bool := decide (97 ≤ c ∧ c ≤ 122) || decide (48 ≤ c ∧ c ≤ 57) || decide (c = 46) || decide (c = 47) || decide (c = 45) || decide (c = 95)
def allRb (l : List UInt8) : Bool := l.all fun c => rb c.toNat
def rn (s : ByteArray) : Bool := decide (1 ≤ s.size ∧ s.size ≤ 64) && allRb s.data.toList

theorem ret_bool {a b : Bool} (h : a = b) : Ending.returned (.bool a) = .returned (.bool b) := by rw [h]
theorem take_snoc (s : ByteArray) (k : Nat) (h : k < s.size) : s.data.toList.take (k + 1) = s.data.toList.take k ++ [s[k]] := by
  rw [List.take_succ_eq_append_getElem (by simpa using h)]; rfl
theorem allRb_snoc (s : ByteArray) (k : Nat) (h : k < s.size) : allRb (s.data.toList.take (k + 1)) = (allRb (s.data.toList.take k) && rb s[k].toNat) := by
  rw [take_snoc s k h]; simp [allRb]
theorem allRb_take {l : List UInt8} {k : Nat} (h : allRb (l.take k) = false) : allRb l = false := by
  unfold allRb at *
  rw [List.all_eq_false] at h ⊢
  obtain ⟨x, hx, hr⟩ := h
  exact ⟨x, List.mem_of_mem_take hx, hr⟩

set_option maxHeartbeats 400000 in
theorem rightByte_any (c : Int) (w : World) (h0 : 0 ≤ c) (h1 : c ≤ 255) :
    Calls Try.prog 75 #[.int .u8 c] w fun e w' => e = .returned (.bool (rb c)) ∧ w' = w := by
  go_enter Try.func75, Try.ntmps75
  go_wp2
  all_goals go_ret
  all_goals refine ⟨ret_bool ?_, rfl⟩
  all_goals (rw [Bool.eq_iff_iff]; simp [rb]; try omega)

theorem rightByte_u8 (c : UInt8) (w : World) :
    Calls Try.prog 75 #[.int .u8 c.toNat] w fun e w' => e = .returned (.bool (rb c.toNat)) ∧ w' = w :=
  rightByte_any _ w (by omega) (by have := c.toNat_lt; omega)

theorem rn_bad {s : ByteArray} (h : ¬ (1 ≤ s.size ∧ s.size ≤ 64)) : rn s = false := by simp [rn, h]
theorem rn_ok {s : ByteArray} (h1 : 1 ≤ s.size) (h2 : s.size ≤ 64) (h : allRb s.data.toList = true) : rn s = true := by simp [rn, h1, h2, h]
theorem rn_no {s : ByteArray} (h : allRb s.data.toList = false) : rn s = false := by simp [rn, h]

set_option maxHeartbeats 400000 in
theorem rightName_any (s : ByteArray) (w : World) (hs : s.size ≤ maxLen) :
    Calls Try.prog 69 #[.string s] w fun e w' => e = .returned (.bool (rn s)) ∧ w' = w := by
  unfold maxLen at hs
  by_cases hb : 1 ≤ s.size ∧ s.size ≤ 64
  · obtain ⟨hb1, hb2⟩ := hb
    go_enter Try.func69, Try.ntmps69
    go_wp2
    go_loop [14] (fun i => ∃ k : Nat, k ≤ s.size ∧ i = .int .i64 k ∧ allRb (s.data.toList.take k) = true) (fun i => s.size - (intOf i).toNat)
    case atStart => exact ⟨0, Nat.zero_le _, rfl, by simp [allRb]⟩
    case round =>
      obtain ⟨k, hk, rfl, hall⟩ := hrel
      by_cases hlt : k < s.size
      · have HS : Hid (allRb (s.data.toList.take (k + 1)) = rb s[k].toNat) := by
          have := allRb_snoc s k hlt
          rw [hall, Bool.true_and] at this
          exact this
        clear hall
        cases hr : rb s[k].toNat
        · have HN : Hid (rn s = false) := by
            have h1 := HS.out
            rw [hr] at h1
            exact rn_no (allRb_take h1)
          go_wp2_with (go_at_call 75; refine (rightByte_u8 _ _).mono ?_; rintro e w' ⟨rfl, rfl⟩)
          go_ret
          exact ⟨ret_bool HN.out.symm, rfl⟩
        · have HN : Hid (allRb (s.data.toList.take (k + 1)) = true) := by
            have h1 := HS.out
            rw [hr] at h1
            exact h1
          go_wp2_with (go_at_call 75; refine (rightByte_u8 _ _).mono ?_; rintro e w' ⟨rfl, rfl⟩)
          go_round
          case rel => exact ⟨k + 1, by omega, by go_num, HN.out⟩
          case measure => simp [intOf]; omega
      · have HN : Hid (rn s = true) := by
          rw [List.take_of_length_le (by simp; omega)] at hall
          exact rn_ok hb1 hb2 hall
        go_wp2
        go_ret
        exact ⟨ret_bool HN.out.symm, rfl⟩
  · have HN : Hid (rn s = false) := rn_bad hb
    go_enter Try.func69, Try.ntmps69
    go_wp2
    all_goals first | (go_ret; exact ⟨ret_bool HN.out.symm, rfl⟩) | (exfalso; omega)

set_option maxHeartbeats 400000 in
theorem refRight_any (s : ByteArray) (w : World) (hs : s.size ≤ maxLen) :
    Calls Try.prog 31 #[.string s] w fun e w' => e = .returned (.bool (rn s)) ∧ w' = w := by
  unfold maxLen at hs
  go_enter Try.func31, Try.ntmps31
  go_wp2
  go_loop [3] (fun i => ∃ k : Nat, k ≤ s.size ∧ i = .int .i64 k ∧ allRb (s.data.toList.take k) = true) (fun i => s.size - (intOf i).toNat)
  case atStart => exact ⟨0, Nat.zero_le _, rfl, by simp [allRb]⟩
  case round =>
    obtain ⟨k, hk, rfl, hall⟩ := hrel
    by_cases hlt : k < s.size
    · have HS : Hid (allRb (s.data.toList.take (k + 1)) = rb s[k].toNat) := by
        have := allRb_snoc s k hlt
        rw [hall, Bool.true_and] at this
        exact this
      clear hall
      have hc := s[k].toNat_lt
      have HF : Hid (rb s[k].toNat = false → rn s = false) := fun h1 => by
        have h2 := HS.out
        rw [h1] at h2
        exact rn_no (allRb_take h2)
      generalize hcc : s[k].toNat = c at *
      go_wp2
      all_goals first
        | (go_ret; refine ⟨ret_bool (HF.out (by simp at *; simp [rb]; omega)).symm, rfl⟩)
        | (have HT : Hid (allRb (s.data.toList.take (k + 1)) = true) := HS.out.trans (by simp at *; simp [rb]; omega)
           go_round
           case rel => exact ⟨k + 1, by omega, by go_num, HT.out⟩
           case measure => simp [intOf]; omega)
    · by_cases hb : 1 ≤ s.size ∧ s.size ≤ 64
      · have HN : Hid (rn s = true) := by
          rw [List.take_of_length_le (by simp; omega)] at hall
          exact rn_ok hb.1 hb.2 hall
        obtain ⟨hb1, hb2⟩ := hb
        go_wp2
        go_ret
        exact ⟨ret_bool (by first | (rw [HN.out]; done) | (rw [HN.out]; simp; done) | (rw [HN.out]; simp; omega)), rfl⟩
      · have HN : Hid (rn s = false) := rn_bad hb
        go_wp2
        all_goals (go_ret; exact ⟨ret_bool (by first | (rw [HN.out]; done) | (rw [HN.out]; simp; done) | (rw [HN.out]; simp; omega)), rfl⟩)

end Go.Proofs.Ytihoccaaecmcfaa
