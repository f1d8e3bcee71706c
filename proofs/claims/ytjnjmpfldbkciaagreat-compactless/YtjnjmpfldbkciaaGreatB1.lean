/- Which names are right, by the document. -/
import Derived.Test.YtjnjmpfldbkciaaGreatYa
namespace Go.Proofs.YtjnjmpfldbkciaaGreat
open Go.RowKit

def okc (colons : Bool) (i : Nat) (c : Int) : Bool := decide (97 ≤ c ∧ c ≤ 122) || decide (65 ≤ c ∧ c ≤ 90) || decide (c = 95) || (decide (48 ≤ c ∧ c ≤ 57) && decide (0 < i)) || (decide (c = 58) && colons)
def upTo (colons : Bool) (s : ByteArray) (k : Nat) : Prop := ∀ i (h : i < s.size), i < k → okc colons i s[i].toNat = true
def wd (colons : Bool) (s : ByteArray) : Bool := decide (1 ≤ s.size ∧ s.size ≤ 1024) && decide (∀ i (h : i < s.size), okc colons i s[i].toNat = true)

theorem wd_bad {b : Bool} {s : ByteArray} (h : ¬ (1 ≤ s.size ∧ s.size ≤ 1024)) : wd b s = false := by simp [wd, h]
theorem wd_no {b : Bool} {s : ByteArray} (i : Nat) (h : i < s.size) (hc : okc b i s[i].toNat = false) : wd b s = false := by
  unfold wd
  rw [Bool.and_eq_false_iff]
  right
  rw [decide_eq_false_iff_not]
  intro hall
  have := hall i h
  rw [hc] at this
  cases this
theorem wd_ok {b : Bool} {s : ByteArray} (h1 : 1 ≤ s.size) (h2 : s.size ≤ 1024) (h : upTo b s s.size) : wd b s = true := by
  unfold wd
  rw [Bool.and_eq_true]
  exact ⟨by simp [h1, h2], by rw [decide_eq_true_iff]; exact fun i hi => h i hi hi⟩
theorem upTo_succ {b : Bool} {s : ByteArray} {k : Nat} (h : upTo b s k) (hk : k < s.size) (hc : okc b k s[k].toNat = true) : upTo b s (k + 1) := fun i hi hlt => by
  rcases Nat.lt_succ_iff_lt_or_eq.1 hlt with h1 | h1
  · exact h i hi h1
  · subst h1
    exact hc
theorem size_toList (s : ByteArray) : s.toList.length = s.size := by rw [ByteArray.toList_eq]; simp
theorem not_nil {s : ByteArray} (h : 1 ≤ s.size) : ¬ s.toList = [] := fun e => by
  have := size_toList s
  rw [e] at this
  simp at this
  omega
theorem not_empty {s : ByteArray} (h : 1 ≤ s.size) : s.toList.isEmpty = false := by
  have := not_nil h
  cases hs : s.toList
  · exact absurd hs this
  · rfl
theorem is_nil {s : ByteArray} (h : s.size = 0) : s.toList = [] := List.eq_nil_of_length_eq_zero (by rw [size_toList, h])
theorem is_empty {s : ByteArray} (h : s.size = 0) : s.toList.isEmpty = true := by rw [is_nil h]; rfl
theorem upTo_zero {b : Bool} {s : ByteArray} : upTo b s 0 := fun _i _ h => absurd h (Nat.not_lt_zero _)

set_option maxHeartbeats 1000000 in
theorem refWord_any (s : ByteArray) (b : Bool) (w : World) (hs : s.size ≤ maxLen) :
    Calls Tryz.prog 77 #[.string s, .bool b] w fun e w' => e = .returned (.bool (wd b s)) ∧ w' = w := by
  unfold maxLen at hs
  go_enter Tryz.func77, Tryz.ntmps77
  go_wp2
  go_loop [5] (fun i => ∃ k : Nat, k ≤ s.size ∧ i = .int .i64 k ∧ Hid (upTo b s k)) (fun i => s.size - (intOf i).toNat)
  case atStart => exact ⟨0, Nat.zero_le _, rfl, upTo_zero⟩
  case round =>
    obtain ⟨k, hk, rfl, hall⟩ := hrel
    by_cases hlt : k < s.size
    · have hc := s[k].toNat_lt
      have HT : Hid (okc b k s[k].toNat = true → upTo b s (k + 1)) := fun h => upTo_succ hall.out hlt h
      have HF : Hid (okc b k s[k].toNat = false → wd b s = false) := fun h => wd_no k hlt h
      generalize hcc : s[k].toNat = c at *
      clear hall
      cases b
      all_goals
        go_wp2
        all_goals first
          | (go_ret; refine ⟨ret_bool (HF.out (by simp at *; simp [okc]; omega)).symm, rfl⟩)
          | (have HT' := HT.out (by simp at *; simp [okc]; omega)
             go_round
             case rel => exact ⟨k + 1, by omega, by go_num, HT'⟩
             case measure => simp [intOf]; omega)
    · by_cases hb : 1 ≤ s.size ∧ s.size ≤ 1024
      · have HN : Hid (wd b s = true) := wd_ok hb.1 hb.2 (by have : k = s.size := by omega
                                                             subst this; exact hall.out)
        obtain ⟨hb1, hb2⟩ := hb
        clear hall
        go_wp2
        go_ret
        exact ⟨ret_bool (by first | (rw [HN.out]; done) | (rw [HN.out]; simp; done) | (rw [HN.out]; simp; omega)), rfl⟩
      · have HN : Hid (wd b s = false) := wd_bad hb
        clear hall
        go_wp2
        all_goals (go_ret; exact ⟨ret_bool (by first | (rw [HN.out]; done) | (rw [HN.out]; simp; done) | (rw [HN.out]; simp; omega)), rfl⟩)

end Go.Proofs.YtjnjmpfldbkciaaGreat
