/- Texts that belong together. -/
import Derived.Test.YtfckdleahljdeaaGreatDoorProg
import Derived.WalkKit
import Derived.WalkSpells
import Derived.WalkLawsBesides
import Derived.Handy
import Derived.Deep.Light
import Derived.LoopN
import Derived.Lib.ValidLaws
import Derived.Deep.AppendLies
import Derived.Below
import Derived.Deep.QuietTactic
import Derived.BigQuiet
import Derived.Sort.Walk0
/- Which names are right: the program's rightWord and the document's word answer one plain function of the bytes. -/
namespace Go.Proofs.YtfckdleahljdeaaGreatDoor
open Go.RowKit

def okc (colons : Bool) (i : Nat) (c : Int) : Bool := decide (97 ≤ c ∧ c ≤ 122) || decide (65 ≤ c ∧ c ≤ 90) || decide (c = 95) || (decide (48 ≤ c ∧ c ≤ 57) && decide (0 < i)) || (decide (c = 58) && colons)
def upTo (colons : Bool) (s : ByteArray) (k : Nat) : Prop := ∀ i (h : i < s.size), i < k → okc colons i s[i].toNat = true
def wd (colons : Bool) (s : ByteArray) : Bool := decide (1 ≤ s.size ∧ s.size ≤ 1024) && decide (∀ i (h : i < s.size), okc colons i s[i].toNat = true)

theorem ret_bool {a b : Bool} (h : a = b) : Ending.returned (.bool a) = .returned (.bool b) := by rw [h]
theorem wd_bad {b : Bool} {s : ByteArray} (h : ¬ (1 ≤ s.size ∧ s.size ≤ 1024)) : wd b s = false := by simp [wd, h]
theorem wd_no {b : Bool} {s : ByteArray} (i : Nat) (h : i < s.size) (hc : okc b i s[i].toNat = false) : wd b s = false := by
  unfold wd
  rw [Bool.and_eq_false_iff]
  right
  rw [decide_eq_false_iff_not]
  intro hall
  have := hall i h
  rw [hc] at this
  cases this
theorem wd_ok {b : Bool} {s : ByteArray} (h1 : 1 ≤ s.size) (h2 : s.size ≤ 1024) (h : upTo b s s.size) : wd b s = true := by
  unfold wd
  rw [Bool.and_eq_true]
  exact ⟨by simp [h1, h2], by rw [decide_eq_true_iff]; exact fun i hi => h i hi hi⟩
theorem upTo_succ {b : Bool} {s : ByteArray} {k : Nat} (h : upTo b s k) (hk : k < s.size) (hc : okc b k s[k].toNat = true) : upTo b s (k + 1) := fun i hi hlt => by
  rcases Nat.lt_succ_iff_lt_or_eq.1 hlt with h1 | h1
  · exact h i hi h1
  · subst h1
    exact hc
theorem size_toList (s : ByteArray) : s.toList.length = s.size := by rw [ByteArray.toList_eq]; simp
theorem not_nil {s : ByteArray} (h : 1 ≤ s.size) : ¬ s.toList = [] := fun e => by
  have := size_toList s
  rw [e] at this
  simp at this
  omega
theorem not_empty {s : ByteArray} (h : 1 ≤ s.size) : s.toList.isEmpty = false := by
  have := not_nil h
  cases hs : s.toList
  · exact absurd hs this
  · rfl
theorem is_nil {s : ByteArray} (h : s.size = 0) : s.toList = [] := List.eq_nil_of_length_eq_zero (by rw [size_toList, h])
theorem is_empty {s : ByteArray} (h : s.size = 0) : s.toList.isEmpty = true := by rw [is_nil h]; rfl
theorem upTo_zero {b : Bool} {s : ByteArray} : upTo b s 0 := fun _i _ h => absurd h (Nat.not_lt_zero _)

set_option maxHeartbeats 1000000 in
theorem rightWord_any (s : ByteArray) (b : Bool) (w : World) :
    Calls Tryz.prog 118 #[.string s, .bool b] w fun e w' => e = .returned (.bool (wd b s)) ∧ w' = w := by
  by_cases hb : 1 ≤ s.size ∧ s.size ≤ 1024
  · obtain ⟨hb1, hb2⟩ := hb
    go_enter Tryz.func118, Tryz.ntmps118
    have hne := not_empty hb1
    have hne' := not_nil hb1
    go_wp2
    all_goals try (exfalso; simp_all; done)
    go_loop [16] (fun i => ∃ k : Nat, k ≤ s.size ∧ i = .int .i64 k ∧ Hid (upTo b s k)) (fun i => s.size - (intOf i).toNat)
    case atStart => exact ⟨0, Nat.zero_le _, rfl, upTo_zero⟩
    case round =>
      obtain ⟨k, hk, rfl, hall⟩ := hrel
      by_cases hlt : k < s.size
      · have hc := s[k].toNat_lt
        have HT : Hid (okc b k s[k].toNat = true → upTo b s (k + 1)) := fun h => upTo_succ hall.out hlt h
        have HF : Hid (okc b k s[k].toNat = false → wd b s = false) := fun h => wd_no k hlt h
        generalize hcc : s[k].toNat = c at *
        clear hall
        cases b
        all_goals
          go_wp2
          all_goals first
            | (go_ret; refine ⟨ret_bool (HF.out (by simp at *; simp [okc]; omega)).symm, rfl⟩)
            | (have HT' := HT.out (by simp at *; simp [okc]; omega)
               go_round
               case rel => exact ⟨k + 1, by omega, by go_num, HT'⟩
               case measure => simp [intOf]; omega)
      · have HN : Hid (wd b s = true) := wd_ok hb1 hb2 (by have : k = s.size := by omega
                                                           subst this; exact hall.out)
        clear hall
        go_wp2
        go_ret
        exact ⟨ret_bool HN.out.symm, rfl⟩
  · have HN : Hid (wd b s = false) := wd_bad hb
    go_enter Tryz.func118, Tryz.ntmps118
    by_cases h0 : s.size = 0
    · have hne := is_empty h0
      have hne' := is_nil h0
      go_wp2
      go_ret
      exact ⟨ret_bool HN.out.symm, rfl⟩
    · have h1 : 1024 < s.size := by omega
      have hne := not_empty (show 1 ≤ s.size by omega)
      have hne' := not_nil (show 1 ≤ s.size by omega)
      go_wp2
      all_goals try (exfalso; omega)
      go_ret
      exact ⟨ret_bool HN.out.symm, rfl⟩

theorem rightName_any (s : ByteArray) (w : World) :
    Calls Tryz.prog 95 #[.string s] w fun e w' => e = .returned (.bool (wd false s)) ∧ w' = w := by
  go_enter Tryz.func95, Tryz.ntmps95
  go_wp2_with (go_at_call 118; refine (rightWord_any _ _ _).mono ?_; rintro e w' ⟨rfl, rfl⟩)
  go_ret
  exact ⟨rfl, rfl⟩

theorem rightMetric_any (s : ByteArray) (w : World) :
    Calls Tryz.prog 96 #[.string s] w fun e w' => e = .returned (.bool (wd true s)) ∧ w' = w := by
  go_enter Tryz.func96, Tryz.ntmps96
  go_wp2_with (go_at_call 118; refine (rightWord_any _ _ _).mono ?_; rintro e w' ⟨rfl, rfl⟩)
  go_ret
  exact ⟨rfl, rfl⟩

set_option maxHeartbeats 1000000 in
theorem refWord_any (s : ByteArray) (b : Bool) (w : World) (hs : s.size ≤ maxLen) :
    Calls Tryz.prog 132 #[.string s, .bool b] w fun e w' => e = .returned (.bool (wd b s)) ∧ w' = w := by
  unfold maxLen at hs
  go_enter Tryz.func132, Tryz.ntmps132
  go_wp2
  go_loop [5] (fun i => ∃ k : Nat, k ≤ s.size ∧ i = .int .i64 k ∧ Hid (upTo b s k)) (fun i => s.size - (intOf i).toNat)
  case atStart => exact ⟨0, Nat.zero_le _, rfl, upTo_zero⟩
  case round =>
    obtain ⟨k, hk, rfl, hall⟩ := hrel
    by_cases hlt : k < s.size
    · have hc := s[k].toNat_lt
      have HT : Hid (okc b k s[k].toNat = true → upTo b s (k + 1)) := fun h => upTo_succ hall.out hlt h
      have HF : Hid (okc b k s[k].toNat = false → wd b s = false) := fun h => wd_no k hlt h
      generalize hcc : s[k].toNat = c at *
      clear hall
      cases b
      all_goals
        go_wp2
        all_goals first
          | (go_ret; refine ⟨ret_bool (HF.out (by simp at *; simp [okc]; omega)).symm, rfl⟩)
          | (have HT' := HT.out (by simp at *; simp [okc]; omega)
             go_round
             case rel => exact ⟨k + 1, by omega, by go_num, HT'⟩
             case measure => simp [intOf]; omega)
    · by_cases hb : 1 ≤ s.size ∧ s.size ≤ 1024
      · have HN : Hid (wd b s = true) := wd_ok hb.1 hb.2 (by have : k = s.size := by omega
                                                             subst this; exact hall.out)
        obtain ⟨hb1, hb2⟩ := hb
        clear hall
        go_wp2
        go_ret
        exact ⟨ret_bool (by first | (rw [HN.out]; done) | (rw [HN.out]; simp; done) | (rw [HN.out]; simp; omega)), rfl⟩
      · have HN : Hid (wd b s = false) := wd_bad hb
        clear hall
        go_wp2
        all_goals (go_ret; exact ⟨ret_bool (by first | (rw [HN.out]; done) | (rw [HN.out]; simp; done) | (rw [HN.out]; simp; omega)), rfl⟩)

end Go.Proofs.YtfckdleahljdeaaGreatDoor

/- Which texts are UTF-8, by the document. -/
namespace Go.Proofs.YtfckdleahljdeaaGreatDoor
open Go.RowKit

/-- How many bytes the character has that begins there; 0: none does. -/
def wN (n b0 b1 b2 b3 : Nat) : Nat := if b0 < 128 then 1 else (Lib.checkN n b1 b2 b3 (Lib.firstT b0 % 8) (Lib.accLo (Lib.firstT b0 / 16)) (Lib.accHi (Lib.firstT b0 / 16))).getD 0
def bAt (s : ByteArray) (i : Nat) : Nat := (s.data.toList.getD i 0).toNat
theorem bAt_eq {s : ByteArray} {i : Nat} (h : i < s.size) : s[i].toNat = bAt s i := by
  unfold bAt
  have : s.data.toList.getD i 0 = s[i] := by
    have h' : i < s.data.toList.length := by rw [Array.length_toList]; exact h
    rw [List.getD_eq_getElem?_getD, List.getElem?_eq_getElem h']
    rfl
  rw [this]
theorem bAt_lt (s : ByteArray) (i : Nat) : bAt s i < 256 := by unfold bAt; exact UInt8.toNat_lt _


theorem w1 {m b0 b1 b2 b3 : Nat} (h : b0 < 128) : wN m b0 b1 b2 b3 = 1 := by simp [wN, h]
theorem w0 {m b0 b1 b2 b3 : Nat} (h : 128 ≤ b0) (h' : b0 < 192 ∨ 248 ≤ b0) : wN m b0 b1 b2 b3 = 0 := by
  have hf : Lib.firstT b0 = 241 := by
    unfold Lib.firstT
    repeat' split
    all_goals first | rfl | omega
  simp [wN, show ¬ b0 < 128 by omega, hf, Lib.checkN]
theorem w2 {m b0 b1 b2 b3 : Nat} (h : 192 ≤ b0) (h' : b0 < 224) : wN m b0 b1 b2 b3 = if 2 ≤ m ∧ 128 ≤ b1 ∧ b1 < 192 ∧ 128 ≤ 64 * (b0 - 192) + (b1 - 128) then 2 else 0 := by
  by_cases c : b0 < 194
  · have hf : Lib.firstT b0 = 241 := by
      unfold Lib.firstT
      repeat' split
      all_goals first | rfl | omega
    simp [wN, show ¬ b0 < 128 by omega, hf, Lib.checkN]
    omega
  · have hf : Lib.firstT b0 = 2 := by
      unfold Lib.firstT
      repeat' split
      all_goals first | rfl | omega
    simp [wN, show ¬ b0 < 128 by omega, hf, Lib.checkN, Lib.accLo, Lib.accHi]
    repeat' split
    all_goals first | rfl | omega | (simp; omega)
theorem w3 {m b0 b1 b2 b3 : Nat} (h : 224 ≤ b0) (h' : b0 < 240) : wN m b0 b1 b2 b3 = if 3 ≤ m ∧ 128 ≤ b1 ∧ b1 < 192 ∧ 128 ≤ b2 ∧ b2 < 192 ∧ 2048 ≤ 64 * (64 * (b0 - 224) + (b1 - 128)) + (b2 - 128) ∧ ¬ (55296 ≤ 64 * (64 * (b0 - 224) + (b1 - 128)) + (b2 - 128) ∧ 64 * (64 * (b0 - 224) + (b1 - 128)) + (b2 - 128) ≤ 57343) then 3 else 0 := by
  have key : ∀ f lo hi : Nat, Lib.firstT b0 = f → f % 8 = 3 → Lib.accLo (f / 16) = lo → Lib.accHi (f / 16) = hi → wN m b0 b1 b2 b3 = if m < 3 ∨ b1 < lo ∨ hi < b1 ∨ b2 < 128 ∨ 191 < b2 then 0 else 3 := fun f lo hi e1 e2 e3 e4 => by
    simp only [wN, if_neg (show ¬ b0 < 128 by omega), e1, e2, e3, e4, Lib.checkN]
    simp only [show ¬ (3 = 2) by omega, if_false, if_true]
    split <;> rfl
  by_cases c : b0 = 224
  · rw [key 19 160 191 (by subst c; rfl) rfl rfl rfl]
    repeat' split
    all_goals first | rfl | (exfalso; omega)
  · by_cases c2 : b0 = 237
    · rw [key 35 128 159 (by subst c2; rfl) rfl rfl rfl]
      repeat' split
      all_goals first | rfl | (exfalso; omega)
    · have hf : Lib.firstT b0 = 3 := by
        unfold Lib.firstT
        repeat' split
        all_goals first | rfl | omega
      rw [key 3 128 191 hf rfl rfl rfl]
      repeat' split
      all_goals first | rfl | (exfalso; omega)
theorem w4 {m b0 b1 b2 b3 : Nat} (h : 240 ≤ b0) (h' : b0 < 248) : wN m b0 b1 b2 b3 = if 4 ≤ m ∧ 128 ≤ b1 ∧ b1 < 192 ∧ 128 ≤ b2 ∧ b2 < 192 ∧ 128 ≤ b3 ∧ b3 < 192 ∧ 65536 ≤ 64 * (64 * (64 * (b0 - 240) + (b1 - 128)) + (b2 - 128)) + (b3 - 128) ∧ 64 * (64 * (64 * (b0 - 240) + (b1 - 128)) + (b2 - 128)) + (b3 - 128) ≤ 1114111 then 4 else 0 := by
  have key : ∀ f lo hi : Nat, Lib.firstT b0 = f → f % 8 = 4 → Lib.accLo (f / 16) = lo → Lib.accHi (f / 16) = hi → wN m b0 b1 b2 b3 = if m < 4 ∨ b1 < lo ∨ hi < b1 ∨ b2 < 128 ∨ 191 < b2 ∨ b3 < 128 ∨ 191 < b3 then 0 else 4 := fun f lo hi e1 e2 e3 e4 => by
    simp only [wN, if_neg (show ¬ b0 < 128 by omega), e1, e2, e3, e4, Lib.checkN]
    simp only [show ¬ (4 = 2) by omega, show ¬ (4 = 3) by omega, if_false, if_true]
    split <;> rfl
  by_cases c : b0 = 240
  · rw [key 52 144 191 (by subst c; rfl) rfl rfl rfl]
    repeat' split
    all_goals first | rfl | (exfalso; omega)
  · by_cases c2 : b0 = 244
    · rw [key 68 128 143 (by subst c2; rfl) rfl rfl rfl]
      repeat' split
      all_goals first | rfl | (exfalso; omega)
    · by_cases c3 : b0 < 244
      · have hf : Lib.firstT b0 = 4 := by
          unfold Lib.firstT
          repeat' split
          all_goals first | rfl | omega
        rw [key 4 128 191 hf rfl rfl rfl]
        repeat' split
        all_goals first | rfl | (exfalso; omega)
      · have hf : Lib.firstT b0 = 241 := by
          unfold Lib.firstT
          repeat' split
          all_goals first | rfl | omega
        rw [if_neg (by omega)]
        simp [wN, show ¬ b0 < 128 by omega, hf, Lib.checkN]
theorem ret_int {a b : Int} (h : a = b) : Ending.returned (.int .i64 a) = .returned (.int .i64 b) := by rw [h]

set_option maxRecDepth 100000 in
set_option maxHeartbeats 4000000 in
theorem utf8_one (s : ByteArray) (i : Nat) (w : World) (hs : s.size ≤ 1000000) (hi : i < s.size) (h0 : bAt s i < 128) :
    Calls Tryz.prog 100 #[.string s, .int .i64 i] w fun e w' => e = .returned (.int .i64 1) ∧ w' = w := by
  have e0 := bAt_eq hi
  generalize bAt s i = b0 at *
  go_enter Tryz.func100, Tryz.ntmps100
  go_wp2
  go_rounds 1
  go_ret
  exact ⟨rfl, rfl⟩

set_option maxRecDepth 100000 in
set_option maxHeartbeats 4000000 in
theorem utf8_zero (s : ByteArray) (i : Nat) (w : World) (_hs : s.size ≤ 1000000) (hi : i < s.size) (h0 : 128 ≤ bAt s i) (c2 : bAt s i < 192 ∨ 248 ≤ bAt s i) :
    Calls Tryz.prog 100 #[.string s, .int .i64 i] w fun e w' => e = .returned (.int .i64 0) ∧ w' = w := by
  have e0 := bAt_eq hi
  have l0 := bAt_lt s i
  generalize bAt s i = b0 at *
  go_enter Tryz.func100, Tryz.ntmps100
  rcases c2 with c2 | c2
  all_goals
    go_wp2
    go_ret
    exact ⟨rfl, rfl⟩

set_option maxRecDepth 100000 in
set_option maxHeartbeats 4000000 in
theorem utf8_short2 (s : ByteArray) (i : Nat) (w : World) (hs : s.size ≤ 1000000) (hi : i < s.size) (h0 : 192 ≤ bAt s i) (h0b : bAt s i < 224) (hm : s.size < i + 2) :
    Calls Tryz.prog 100 #[.string s, .int .i64 i] w fun e w' => e = .returned (.int .i64 0) ∧ w' = w := by
  have e0 := bAt_eq hi
  generalize bAt s i = b0 at *
  go_enter Tryz.func100, Tryz.ntmps100
  go_wp2
  go_ret
  exact ⟨rfl, rfl⟩

set_option maxRecDepth 100000 in
set_option maxHeartbeats 4000000 in
theorem utf8_short3 (s : ByteArray) (i : Nat) (w : World) (hs : s.size ≤ 1000000) (hi : i < s.size) (h0 : 224 ≤ bAt s i) (h0b : bAt s i < 240) (hm : s.size < i + 3) :
    Calls Tryz.prog 100 #[.string s, .int .i64 i] w fun e w' => e = .returned (.int .i64 0) ∧ w' = w := by
  have e0 := bAt_eq hi
  generalize bAt s i = b0 at *
  go_enter Tryz.func100, Tryz.ntmps100
  go_wp2
  go_ret
  exact ⟨rfl, rfl⟩

set_option maxRecDepth 100000 in
set_option maxHeartbeats 4000000 in
theorem utf8_short4 (s : ByteArray) (i : Nat) (w : World) (hs : s.size ≤ 1000000) (hi : i < s.size) (h0 : 240 ≤ bAt s i) (h0b : bAt s i < 248) (hm : s.size < i + 4) :
    Calls Tryz.prog 100 #[.string s, .int .i64 i] w fun e w' => e = .returned (.int .i64 0) ∧ w' = w := by
  have e0 := bAt_eq hi
  generalize bAt s i = b0 at *
  go_enter Tryz.func100, Tryz.ntmps100
  go_wp2
  go_ret
  exact ⟨rfl, rfl⟩

set_option maxRecDepth 100000 in
set_option maxHeartbeats 4000000 in
theorem utf8_full2 (s : ByteArray) (i : Nat) (w : World) (hs : s.size ≤ 1000000) (hi : i < s.size) (h0 : 192 ≤ bAt s i) (h0b : bAt s i < 224) (hm : i + 2 ≤ s.size) (r : Nat) (HR : Hid ((if (2 ≤ s.size - i ∧ 128 ≤ bAt s (i + 1) ∧ bAt s (i + 1) < 192 ∧ 128 ≤ 64 * (bAt s i - 192) + (bAt s (i + 1) - 128)) then 2 else 0) = r)) :
    Calls Tryz.prog 100 #[.string s, .int .i64 i] w fun e w' => e = .returned (.int .i64 r) ∧ w' = w := by
  have e0 := bAt_eq hi
  have m1 : i + 1 < s.size := by omega
  have e1 := bAt_eq m1
  have l1 := bAt_lt s (i + 1)
  generalize bAt s i = b0 at *
  generalize bAt s (i + 1) = b1 at *
  go_enter Tryz.func100, Tryz.ntmps100
  go_wp2
  go_rounds 2
  all_goals (go_ret; refine ⟨ret_int ?_, rfl⟩; go_light; have h := HR.out; first | (rw [if_pos (by omega)] at h; omega) | (rw [if_neg (by omega)] at h; omega))


end Go.Proofs.YtfckdleahljdeaaGreatDoor

/- A character of three bytes. -/
namespace Go.Proofs.YtfckdleahljdeaaGreatDoor
open Go.RowKit

set_option maxRecDepth 100000 in
set_option maxHeartbeats 4000000 in
theorem utf8_full3 (s : ByteArray) (i : Nat) (w : World) (hs : s.size ≤ 1000000) (hi : i < s.size) (h0 : 224 ≤ bAt s i) (h0b : bAt s i < 240) (hm : i + 3 ≤ s.size) (r : Nat) (HR : Hid ((if (3 ≤ s.size - i ∧ 128 ≤ bAt s (i + 1) ∧ bAt s (i + 1) < 192 ∧ 128 ≤ bAt s (i + 2) ∧ bAt s (i + 2) < 192 ∧ 2048 ≤ 64 * (64 * (bAt s i - 224) + (bAt s (i + 1) - 128)) + (bAt s (i + 2) - 128) ∧ ¬ (55296 ≤ 64 * (64 * (bAt s i - 224) + (bAt s (i + 1) - 128)) + (bAt s (i + 2) - 128) ∧ 64 * (64 * (bAt s i - 224) + (bAt s (i + 1) - 128)) + (bAt s (i + 2) - 128) ≤ 57343)) then 3 else 0) = r)) :
    Calls Tryz.prog 100 #[.string s, .int .i64 i] w fun e w' => e = .returned (.int .i64 r) ∧ w' = w := by
  have e0 := bAt_eq hi
  have m1 : i + 1 < s.size := by omega
  have e1 := bAt_eq m1
  have l1 := bAt_lt s (i + 1)
  have m2 : i + 2 < s.size := by omega
  have e2 := bAt_eq m2
  have l2 := bAt_lt s (i + 2)
  generalize bAt s i = b0 at *
  generalize bAt s (i + 1) = b1 at *
  generalize bAt s (i + 2) = b2 at *
  go_enter Tryz.func100, Tryz.ntmps100
  go_wp2
  go_rounds 3
  all_goals (go_ret; refine ⟨ret_int ?_, rfl⟩; go_light; have h := HR.out; first | (rw [if_pos (by omega)] at h; omega) | (rw [if_neg (by omega)] at h; omega))


end Go.Proofs.YtfckdleahljdeaaGreatDoor

/- A character of four bytes. -/
namespace Go.Proofs.YtfckdleahljdeaaGreatDoor
open Go.RowKit

set_option maxRecDepth 100000 in
set_option maxHeartbeats 4000000 in
theorem utf8_full4 (s : ByteArray) (i : Nat) (w : World) (hs : s.size ≤ 1000000) (hi : i < s.size) (h0 : 240 ≤ bAt s i) (h0b : bAt s i < 248) (hm : i + 4 ≤ s.size) (r : Nat) (HR : Hid ((if (4 ≤ s.size - i ∧ 128 ≤ bAt s (i + 1) ∧ bAt s (i + 1) < 192 ∧ 128 ≤ bAt s (i + 2) ∧ bAt s (i + 2) < 192 ∧ 128 ≤ bAt s (i + 3) ∧ bAt s (i + 3) < 192 ∧ 65536 ≤ 64 * (64 * (64 * (bAt s i - 240) + (bAt s (i + 1) - 128)) + (bAt s (i + 2) - 128)) + (bAt s (i + 3) - 128) ∧ 64 * (64 * (64 * (bAt s i - 240) + (bAt s (i + 1) - 128)) + (bAt s (i + 2) - 128)) + (bAt s (i + 3) - 128) ≤ 1114111) then 4 else 0) = r)) :
    Calls Tryz.prog 100 #[.string s, .int .i64 i] w fun e w' => e = .returned (.int .i64 r) ∧ w' = w := by
  have e0 := bAt_eq hi
  have m1 : i + 1 < s.size := by omega
  have e1 := bAt_eq m1
  have l1 := bAt_lt s (i + 1)
  have m2 : i + 2 < s.size := by omega
  have e2 := bAt_eq m2
  have l2 := bAt_lt s (i + 2)
  have m3 : i + 3 < s.size := by omega
  have e3 := bAt_eq m3
  have l3 := bAt_lt s (i + 3)
  generalize bAt s i = b0 at *
  generalize bAt s (i + 1) = b1 at *
  generalize bAt s (i + 2) = b2 at *
  generalize bAt s (i + 3) = b3 at *
  go_enter Tryz.func100, Tryz.ntmps100
  go_wp2
  go_rounds 4
  all_goals (go_ret; refine ⟨ret_int ?_, rfl⟩; go_light; have h := HR.out; first | (rw [if_pos (by omega)] at h; omega) | (rw [if_neg (by omega)] at h; omega))


end Go.Proofs.YtfckdleahljdeaaGreatDoor

/- Which texts are UTF-8: the document's Valid. -/
namespace Go.Proofs.YtfckdleahljdeaaGreatDoor
open Go.RowKit

def wAt (s : ByteArray) (i : Nat) : Nat := wN (s.size - i) (bAt s i) (bAt s (i + 1)) (bAt s (i + 2)) (bAt s (i + 3))

theorem utf8_any (s : ByteArray) (i : Nat) (w : World) (hs : s.size ≤ 1000000) (hi : i < s.size) :
    Calls Tryz.prog 100 #[.string s, .int .i64 i] w fun e w' => e = .returned (.int .i64 (wAt s i)) ∧ w' = w := by
  unfold wAt
  by_cases c1 : bAt s i < 128
  · rw [w1 c1]
    exact utf8_one s i w hs hi c1
  by_cases c2 : bAt s i < 192 ∨ 248 ≤ bAt s i
  · rw [w0 (by omega) c2]
    exact utf8_zero s i w hs hi (by omega) c2
  by_cases c3 : bAt s i < 224
  · rw [w2 (by omega) c3]
    by_cases hm : i + 2 ≤ s.size
    · exact utf8_full2 s i w hs hi (by omega) c3 hm _ rfl
    · rw [if_neg (by omega)]
      exact utf8_short2 s i w hs hi (by omega) c3 (by omega)
  by_cases c4 : bAt s i < 240
  · rw [w3 (by omega) c4]
    by_cases hm : i + 3 ≤ s.size
    · exact utf8_full3 s i w hs hi (by omega) c4 hm _ rfl
    · rw [if_neg (by omega)]
      exact utf8_short3 s i w hs hi (by omega) c4 (by omega)
  · rw [w4 (by omega) (by omega)]
    by_cases hm : i + 4 ≤ s.size
    · exact utf8_full4 s i w hs hi (by omega) (by omega) hm _ rfl
    · rw [if_neg (by omega)]
      exact utf8_short4 s i w hs hi (by omega) (by omega) (by omega)

theorem size_data (s : ByteArray) : s.data.toList.length = s.size := by rw [Array.length_toList]; rfl
theorem bAt_drop (s : ByteArray) (i j : Nat) : ((s.data.toList.drop i).getD j 0).toNat = bAt s (i + j) := by
  unfold bAt
  rw [List.getD_eq_getElem?_getD, List.getD_eq_getElem?_getD, List.getElem?_drop]

theorem wN_le {m b0 b1 b2 b3 : Nat} (hm : 1 ≤ m) : wN m b0 b1 b2 b3 ≤ m := by
  unfold wN Lib.checkN
  repeat' split
  all_goals first | omega | (simp; omega) | simp

theorem valid_step (s : ByteArray) (i : Nat) (hi : i < s.size) : Lib.validD (s.data.toList.drop i) = if wAt s i = 0 then false else Lib.validD (s.data.toList.drop (i + wAt s i)) := by
  have hl : (s.data.toList.drop i).length = s.size - i := by rw [List.length_drop, size_data]
  have hne : s.data.toList.drop i ≠ [] := fun e => by rw [e] at hl; simp at hl; omega
  by_cases c1 : bAt s i < 128
  · have hw : wAt s i = 1 := w1 c1
    rw [hw, if_neg (by omega)]
    have h' : i < s.data.toList.length := by rw [size_data]; exact hi
    rw [List.drop_eq_getElem_cons h', Lib.validD_cons]
    have := bAt_eq hi
    rw [← this] at c1
    exact c1
  · have e0 : ((s.data.toList.drop i).getD 0 0).toNat = bAt s i := bAt_drop s i 0
    rw [Lib.validD_lead _ hne (by rw [e0]; omega), e0, bAt_drop, bAt_drop, bAt_drop, hl]
    have hw : wAt s i = (Lib.checkN (s.size - i) (bAt s (i + 1)) (bAt s (i + 2)) (bAt s (i + 3)) (Lib.firstT (bAt s i) % 8) (Lib.accLo (Lib.firstT (bAt s i) / 16)) (Lib.accHi (Lib.firstT (bAt s i) / 16))).getD 0 := by
      unfold wAt wN
      rw [if_neg c1]
    have hz : ∀ k, Lib.checkN (s.size - i) (bAt s (i + 1)) (bAt s (i + 2)) (bAt s (i + 3)) (Lib.firstT (bAt s i) % 8) (Lib.accLo (Lib.firstT (bAt s i) / 16)) (Lib.accHi (Lib.firstT (bAt s i) / 16)) = some k → k ≠ 0 := fun k => by
      unfold Lib.checkN
      repeat' split
      all_goals first | (intro h; cases h; omega) | (intro h; cases h)
    rw [hw]
    split
    · rename_i h
      rw [h]
      rfl
    · rename_i k h
      rw [h]
      simp [hz k h, List.drop_drop]

set_option maxRecDepth 100000 in
set_option maxHeartbeats 1000000 in
theorem valid_any (s : ByteArray) (w : World) (hs : s.size ≤ 1000000) :
    Calls Tryz.prog 69 #[.string s] w fun e w' => e = .returned (.bool (Lib.validD s.data.toList)) ∧ w' = w := by
  go_enter Tryz.func69, Tryz.ntmps69
  go_wp2
  go_loop [3] (fun i => ∃ k : Nat, k ≤ s.size ∧ i = .int .i64 k ∧ Hid (Lib.validD (s.data.toList.drop k) = Lib.validD s.data.toList)) (fun i => s.size - (intOf i).toNat)
  case atStart => exact ⟨0, Nat.zero_le _, rfl, by show _ = _; rw [List.drop_zero]⟩
  case round =>
    obtain ⟨k, hk, rfl, hall⟩ := hrel
    by_cases hlt : k < s.size
    · have HS : Hid (Lib.validD (s.data.toList.drop k) = if wAt s k = 0 then false else Lib.validD (s.data.toList.drop (k + wAt s k))) := valid_step s k hlt
      have hwl : wAt s k ≤ s.size - k := wN_le (by omega)
      have hu := utf8_any s k w hs hlt
      generalize wAt s k = n at *
      by_cases hn : n = 0
      · subst hn
        go_wp2_with (go_at_call 100; refine hu.mono ?_; rintro e w' ⟨rfl, rfl⟩)
        go_ret
        refine ⟨ret_bool ?_, rfl⟩
        rw [← hall.out, HS.out]
        rfl
      · go_wp2_with (go_at_call 100; refine hu.mono ?_; rintro e w' ⟨rfl, rfl⟩)
        go_round
        case rel =>
          refine ⟨k + n, by omega, by go_num, ?_⟩
          show _ = _
          rw [← hall.out, HS.out, if_neg hn]
        case measure => simp [intOf]; omega
    · have HN : Hid (Lib.validD s.data.toList = true) := by
        show _ = _
        rw [← hall.out, List.drop_of_length_le (by rw [size_data]; omega)]
        rfl
      clear hall
      go_wp2
      go_ret
      exact ⟨ret_bool HN.out.symm, rfl⟩

end Go.Proofs.YtfckdleahljdeaaGreatDoor

/- Lists of labels in memory. -/
namespace Go.Proofs.YtfckdleahljdeaaGreatDoor
open Go.RowKit

theorem drewN_drewN (w : World) (a b : Nat) : (w.drewN a).drewN b = w.drewN (a + b) := by
  induction b with
  | zero => rfl
  | succ b ih => show ((w.drewN a).drewN b).drew = _; rw [ih]; rfl
theorem below_drewN {B : Nat} {a w : World} (h : Below B a w) : ∀ q, Below B a (w.drewN q)
  | 0 => h
  | q + 1 => (below_drewN h q).drew
abbrev Lb := ByteArray × ByteArray
def lbCells (l : List Lb) : List Value := l.flatMap fun e => [.string e.1, .string e.2]
theorem lbCells_length (l : List Lb) : (lbCells l).length = l.length * 2 := by
  induction l with
  | nil => rfl
  | cons a r ih => simp [lbCells] at *; omega
theorem lbCells_at (l : List Lb) (k : Nat) (hk : k < l.length) : (lbCells l)[k * 2]? = some (.string l[k].1) ∧ (lbCells l)[k * 2 + 1]? = some (.string l[k].2) := by
  induction l generalizing k with
  | nil => simp at hk
  | cons c r ih =>
    have e : lbCells (c :: r) = [.string c.1, .string c.2] ++ lbCells r := by simp [lbCells]
    cases k with
    | zero => simp [e]
    | succ k =>
      have h := ih k (by simpa using hk)
      constructor
      · rw [e, List.getElem?_append_right (by simp; omega), show (k + 1) * 2 - [Value.string c.1, Value.string c.2].length = k * 2 by simp; omega]; exact h.1
      · rw [e, List.getElem?_append_right (by simp; omega), show (k + 1) * 2 + 1 - [Value.string c.1, Value.string c.2].length = k * 2 + 1 by simp; omega]; exact h.2
theorem lbCells_snoc (l : List Lb) (x : Lb) : lbCells (l ++ [x]) = lbCells l ++ [.string x.1, .string x.2] := by simp [lbCells]
theorem lbCells_append (l m : List Lb) : lbCells (l ++ m) = lbCells l ++ lbCells m := by simp [lbCells]

theorem infoLb : (Tryz.prog.info? 49).map (fun i => (i.zero, i.size, i.bytes)) = some (some (.agg #[.string ByteArray.empty, .string ByteArray.empty]), 2, 32) := by kernel_rfl

/-- A slice that reads as these labels. -/
def LabsAt (w : World) (v : Value) (ls : List Lb) : Prop :=
  ∃ a c, v = .slice a ls.length c ∧ (ls.length ≤ c ∧ c ≤ maxLen) ∧ ∀ k (hk : k < ls.length), ∃ b o, a = some ⟨b, o, none⟩ ∧ b < w.heap.size ∧ w.cell? ⟨b, o + k * 2, none⟩ = some (.string ls[k].1) ∧ w.cell? ⟨b, o + k * 2 + 1, none⟩ = some (.string ls[k].2)
theorem LabsAt.below {w w' : World} {v : Value} {ls : List Lb} (h : LabsAt w v ls) (hb : Below w.heap.size w w') : LabsAt w' v ls := by
  obtain ⟨a, c, e, hlc, hk⟩ := h
  refine ⟨a, c, e, hlc, fun k hlt => ?_⟩
  obtain ⟨b, o, ha, hl, h1, h2⟩ := hk k hlt
  have := hb.size
  exact ⟨b, o, ha, by omega, (hb.cell (p := ⟨b, o + k * 2, none⟩) hl).trans h1, (hb.cell (p := ⟨b, o + k * 2 + 1, none⟩) hl).trans h2⟩
theorem LabsAt.of_row {w : World} {base : Nat} {v : Value} {ls : List Lb} (h : w.ownsRow base 49 2 v ls.length (lbCells ls)) : LabsAt w v ls := by
  rcases h.2 with ⟨e, h0⟩ | ⟨g, cap, cur, e, hg, hcur, hc1, hc2, _⟩
  · exact ⟨none, 0, by rw [e, h0], ⟨by omega, Nat.zero_le _⟩, fun k hk => by omega⟩
  · refine ⟨some ⟨g, 0, none⟩, cap, e, ⟨hc1, hc2⟩, fun k hk => ⟨g, 0, rfl, (Array.getElem?_eq_some_iff.1 hcur).1, ?_, ?_⟩⟩
    · have := h.cells (g := g) (by rw [e]; rfl) _ _ (lbCells_at ls k hk).1
      rw [Addr.add_lit, Nat.zero_add] at this
      rw [Nat.zero_add]; exact this
    · have := h.cells (g := g) (by rw [e]; rfl) _ _ (lbCells_at ls k hk).2
      rw [Addr.add_lit, Nat.zero_add] at this
      rw [Nat.zero_add]; exact this
theorem LabsAt.nil {w : World} {a : Option Addr} {c : Nat} (hc : c ≤ maxLen) : LabsAt w (.slice a 0 c) [] := ⟨a, c, rfl, ⟨Nat.zero_le _, hc⟩, fun _ hk => absurd hk (Nat.not_lt_zero _)⟩

def rl : List Lb → Bool
  | a :: b :: r => decide (a.1.toList < b.1.toList) && rl (b :: r)
  | _ => true
theorem rl_iff : ∀ ls : List Lb, rl ls = true ↔ ∀ k (h : k + 1 < ls.length), ls[k].1.toList < ls[k + 1].1.toList
  | [] => by simp [rl]
  | [a] => by simp [rl]
  | a :: b :: r => by
    simp only [rl, Bool.and_eq_true, decide_eq_true_eq, rl_iff (b :: r)]
    constructor
    · intro ⟨h1, h2⟩ k hk
      cases k with
      | zero => exact h1
      | succ k => exact h2 k (by simpa using hk)
    · intro h
      exact ⟨h 0 (by simp), fun k hk => h (k + 1) (by simpa using hk)⟩

set_option maxRecDepth 100000 in
set_option maxHeartbeats 1000000 in
theorem rising_any (v : Value) (ls : List Lb) (w : World) (h : LabsAt w v ls) (hl : ls.length ≤ 1000000) :
    Calls Tryz.prog 68 #[v] w fun e w' => e = .returned (.bool (rl ls)) ∧ ∃ q, w' = w.drewN q := by
  obtain ⟨a, c, rfl, -, hc⟩ := h
  have HC : Hid (∀ k (hk : k < ls.length), ∃ b o, a = some ⟨b, o, none⟩ ∧ b < w.heap.size ∧ w.cell? ⟨b, o + k * 2, none⟩ = some (.string ls[k].1) ∧ w.cell? ⟨b, o + k * 2 + 1, none⟩ = some (.string ls[k].2)) := hc
  clear hc
  go_enter Tryz.func68, Tryz.ntmps68
  go_wp2
  go_loopw [3] (fun i wr => ∃ k q : Nat, 1 ≤ k ∧ (k ≤ ls.length ∨ k = 1) ∧ i = .int .i64 k ∧ wr = w.drewN q ∧ Hid (∀ j (h : j + 1 < ls.length), j + 1 < k → ls[j].1.toList < ls[j + 1].1.toList)) (fun i _ => ls.length - (intOf i).toNat)
  case atStart => exact ⟨1, 0, by omega, Or.inr rfl, rfl, rfl, fun j h hj => by omega⟩
  case round =>
    obtain ⟨k, q, hk1, hk, rfl, rfl, hall⟩ := hrel
    by_cases hlt : k < ls.length
    · obtain ⟨b, o, rfl, hb, h0, _⟩ := HC.out k hlt
      obtain ⟨j, rfl⟩ : ∃ j, k = j + 1 := ⟨k - 1, by omega⟩
      obtain ⟨b', o', e, hb', h0', _⟩ := HC.out j (by omega)
      cases e
      have hj1 : (j : Int) < (ls.length : Int) := by omega
      have hj2 : ((j : Int) + 1) < (ls.length : Int) := by omega
      obtain ⟨x, hx⟩ : ∃ x, x = ls[j].1 := ⟨_, rfl⟩
      obtain ⟨y, hy⟩ : ∃ y, y = ls[j + 1].1 := ⟨_, rfl⟩
      have HX : Hid (ls[j].1 = x ∧ ls[j + 1].1 = y) := ⟨hx.symm, hy.symm⟩
      rw [← hy] at h0
      have h0' : w.cell? ⟨b, o + j * 2, none⟩ = some (.string x) := by rw [hx]; exact h0'
      clear hx hy HC
      generalize hw : w.drewN q = wr
      have c0 : wr.cell? ⟨b, o + (j + 1) * 2, none⟩ = some (.string y) := by rw [← hw]; simpa using h0
      have c1 : wr.cell? ⟨b, o + j * 2, none⟩ = some (.string x) := by rw [← hw]; simpa using h0'
      have HW : Hid (w.drewN q = wr) := hw
      clear hw h0 h0'
      cases hxy : Op.bytesLess x.toList y.toList
      · have HN : Hid (rl ls = false) := by
          show _ = _
          rw [Bool.eq_false_iff]
          intro hr
          have h1 := (rl_iff ls).1 hr j hlt
          rw [HX.out.1, HX.out.2] at h1
          rw [Go.Proofs.bytesLess_eq, decide_eq_false_iff_not] at hxy
          exact hxy h1
        go_wp2
        go_quiet (fail)
        go_wp2
        go_ret
        exact ⟨ret_bool HN.out.symm, q + nq, by rw [← HW.out, drewN_drewN]⟩
      · have HN : Hid (∀ i (h : i + 1 < ls.length), i + 1 < j + 1 + 1 → ls[i].1.toList < ls[i + 1].1.toList) := fun i h hi => by
          rcases Nat.lt_succ_iff_lt_or_eq.1 hi with h1 | h1
          · exact hall.out i h h1
          · have : i = j := by omega
            subst this
            rw [HX.out.1, HX.out.2]
            rw [Go.Proofs.bytesLess_eq, decide_eq_true_iff] at hxy
            exact hxy
        go_wp2
        go_quiet (fail)
        go_wp2
        go_roundw
        case rel => exact ⟨j + 1 + 1, q + nq, by omega, by omega, by go_num, by rw [← HW.out, drewN_drewN], HN⟩
        case measure => simp [intOf]; omega
    · have HN : Hid (rl ls = true) := (rl_iff ls).2 fun i h => hall.out i h (by omega)
      clear hall HC
      go_wp2
      go_ret
      exact ⟨ret_bool HN.out.symm, q, rfl⟩

end Go.Proofs.YtfckdleahljdeaaGreatDoor
