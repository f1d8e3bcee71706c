/- Which texts are UTF-8, by the document. -/
import Derived.Test.YtjnjmpfldbkciaaGreatB1
import Derived.Handy
import Derived.Deep.Light
import Derived.LoopN
import Derived.Lib.ValidLaws
namespace Go.Proofs.YtjnjmpfldbkciaaGreat
open Go.RowKit

/-- How many bytes the character has that begins there; 0: none does. -/
def wN (n b0 b1 b2 b3 : Nat) : Nat := if b0 < 128 then 1 else (Lib.checkN n b1 b2 b3 (Lib.firstT b0 % 8) (Lib.accLo (Lib.firstT b0 / 16)) (Lib.accHi (Lib.firstT b0 / 16))).getD 0
def bAt (s : ByteArray) (i : Nat) : Nat := (s.data.toList.getD i 0).toNat
theorem bAt_eq {s : ByteArray} {i : Nat} (h : i < s.size) : s[i].toNat = bAt s i := by
  unfold bAt
  have : s.data.toList.getD i 0 = s[i] := by
    have h' : i < s.data.toList.length := by rw [Array.length_toList]; exact h
    rw [List.getD_eq_getElem?_getD, List.getElem?_eq_getElem h']
    rfl
  rw [this]
theorem bAt_lt (s : ByteArray) (i : Nat) : bAt s i < 256 := by unfold bAt; exact UInt8.toNat_lt _


theorem w1 {m b0 b1 b2 b3 : Nat} (h : b0 < 128) : wN m b0 b1 b2 b3 = 1 := by simp [wN, h]
theorem w0 {m b0 b1 b2 b3 : Nat} (h : 128 ≤ b0) (h' : b0 < 192 ∨ 248 ≤ b0) : wN m b0 b1 b2 b3 = 0 := by
  have hf : Lib.firstT b0 = 241 := by
    unfold Lib.firstT
    repeat' split
    all_goals first | rfl | omega
  simp [wN, show ¬ b0 < 128 by omega, hf, Lib.checkN]
theorem w2 {m b0 b1 b2 b3 : Nat} (h : 192 ≤ b0) (h' : b0 < 224) : wN m b0 b1 b2 b3 = if 2 ≤ m ∧ 128 ≤ b1 ∧ b1 < 192 ∧ 128 ≤ 64 * (b0 - 192) + (b1 - 128) then 2 else 0 := by
  by_cases c : b0 < 194
  · have hf : Lib.firstT b0 = 241 := by
      unfold Lib.firstT
      repeat' split
      all_goals first | rfl | omega
    simp [wN, show ¬ b0 < 128 by omega, hf, Lib.checkN]
    omega
  · have hf : Lib.firstT b0 = 2 := by
      unfold Lib.firstT
      repeat' split
      all_goals first | rfl | omega
    simp [wN, show ¬ b0 < 128 by omega, hf, Lib.checkN, Lib.accLo, Lib.accHi]
    repeat' split
    all_goals first | rfl | omega | (simp; omega)
theorem w3 {m b0 b1 b2 b3 : Nat} (h : 224 ≤ b0) (h' : b0 < 240) : wN m b0 b1 b2 b3 = if 3 ≤ m ∧ 128 ≤ b1 ∧ b1 < 192 ∧ 128 ≤ b2 ∧ b2 < 192 ∧ 2048 ≤ 64 * (64 * (b0 - 224) + (b1 - 128)) + (b2 - 128) ∧ ¬ (55296 ≤ 64 * (64 * (b0 - 224) + (b1 - 128)) + (b2 - 128) ∧ 64 * (64 * (b0 - 224) + (b1 - 128)) + (b2 - 128) ≤ 57343) then 3 else 0 := by
  have key : ∀ f lo hi : Nat, Lib.firstT b0 = f → f % 8 = 3 → Lib.accLo (f / 16) = lo → Lib.accHi (f / 16) = hi → wN m b0 b1 b2 b3 = if m < 3 ∨ b1 < lo ∨ hi < b1 ∨ b2 < 128 ∨ 191 < b2 then 0 else 3 := fun f lo hi e1 e2 e3 e4 => by
    simp only [wN, if_neg (show ¬ b0 < 128 by omega), e1, e2, e3, e4, Lib.checkN]
    simp only [show ¬ (3 = 2) by omega, if_false, if_true]
    split <;> rfl
  by_cases c : b0 = 224
  · rw [key 19 160 191 (by subst c; rfl) rfl rfl rfl]
    repeat' split
    all_goals first | rfl | (exfalso; omega)
  · by_cases c2 : b0 = 237
    · rw [key 35 128 159 (by subst c2; rfl) rfl rfl rfl]
      repeat' split
      all_goals first | rfl | (exfalso; omega)
    · have hf : Lib.firstT b0 = 3 := by
        unfold Lib.firstT
        repeat' split
        all_goals first | rfl | omega
      rw [key 3 128 191 hf rfl rfl rfl]
      repeat' split
      all_goals first | rfl | (exfalso; omega)
theorem w4 {m b0 b1 b2 b3 : Nat} (h : 240 ≤ b0) (h' : b0 < 248) : wN m b0 b1 b2 b3 = if 4 ≤ m ∧ 128 ≤ b1 ∧ b1 < 192 ∧ 128 ≤ b2 ∧ b2 < 192 ∧ 128 ≤ b3 ∧ b3 < 192 ∧ 65536 ≤ 64 * (64 * (64 * (b0 - 240) + (b1 - 128)) + (b2 - 128)) + (b3 - 128) ∧ 64 * (64 * (64 * (b0 - 240) + (b1 - 128)) + (b2 - 128)) + (b3 - 128) ≤ 1114111 then 4 else 0 := by
  have key : ∀ f lo hi : Nat, Lib.firstT b0 = f → f % 8 = 4 → Lib.accLo (f / 16) = lo → Lib.accHi (f / 16) = hi → wN m b0 b1 b2 b3 = if m < 4 ∨ b1 < lo ∨ hi < b1 ∨ b2 < 128 ∨ 191 < b2 ∨ b3 < 128 ∨ 191 < b3 then 0 else 4 := fun f lo hi e1 e2 e3 e4 => by
    simp only [wN, if_neg (show ¬ b0 < 128 by omega), e1, e2, e3, e4, Lib.checkN]
    simp only [show ¬ (4 = 2) by omega, show ¬ (4 = 3) by omega, if_false, if_true]
    split <;> rfl
  by_cases c : b0 = 240
  · rw [key 52 144 191 (by subst c; rfl) rfl rfl rfl]
    repeat' split
    all_goals first | rfl | (exfalso; omega)
  · by_cases c2 : b0 = 244
    · rw [key 68 128 143 (by subst c2; rfl) rfl rfl rfl]
      repeat' split
      all_goals first | rfl | (exfalso; omega)
    · by_cases c3 : b0 < 244
      · have hf : Lib.firstT b0 = 4 := by
          unfold Lib.firstT
          repeat' split
          all_goals first | rfl | omega
        rw [key 4 128 191 hf rfl rfl rfl]
        repeat' split
        all_goals first | rfl | (exfalso; omega)
      · have hf : Lib.firstT b0 = 241 := by
          unfold Lib.firstT
          repeat' split
          all_goals first | rfl | omega
        rw [if_neg (by omega)]
        simp [wN, show ¬ b0 < 128 by omega, hf, Lib.checkN]

set_option maxRecDepth 100000 in
set_option maxHeartbeats 4000000 in
theorem utf8_one (s : ByteArray) (i : Nat) (w : World) (hs : s.size ≤ 1024) (hi : i < s.size) (h0 : bAt s i < 128) :
    Calls Tryz.prog 93 #[.string s, .int .i64 i] w fun e w' => e = .returned (.int .i64 1) ∧ w' = w := by
  have e0 := bAt_eq hi
  generalize bAt s i = b0 at *
  go_enter Tryz.func93, Tryz.ntmps93
  go_wp2
  go_rounds 1
  go_ret
  exact ⟨rfl, rfl⟩

set_option maxRecDepth 100000 in
set_option maxHeartbeats 4000000 in
theorem utf8_zero (s : ByteArray) (i : Nat) (w : World) (_hs : s.size ≤ 1024) (hi : i < s.size) (h0 : 128 ≤ bAt s i) (c2 : bAt s i < 192 ∨ 248 ≤ bAt s i) :
    Calls Tryz.prog 93 #[.string s, .int .i64 i] w fun e w' => e = .returned (.int .i64 0) ∧ w' = w := by
  have e0 := bAt_eq hi
  have l0 := bAt_lt s i
  generalize bAt s i = b0 at *
  go_enter Tryz.func93, Tryz.ntmps93
  rcases c2 with c2 | c2
  all_goals
    go_wp2
    go_ret
    exact ⟨rfl, rfl⟩

set_option maxRecDepth 100000 in
set_option maxHeartbeats 4000000 in
theorem utf8_short2 (s : ByteArray) (i : Nat) (w : World) (hs : s.size ≤ 1024) (hi : i < s.size) (h0 : 192 ≤ bAt s i) (h0b : bAt s i < 224) (hm : s.size < i + 2) :
    Calls Tryz.prog 93 #[.string s, .int .i64 i] w fun e w' => e = .returned (.int .i64 0) ∧ w' = w := by
  have e0 := bAt_eq hi
  generalize bAt s i = b0 at *
  go_enter Tryz.func93, Tryz.ntmps93
  go_wp2
  go_ret
  exact ⟨rfl, rfl⟩

set_option maxRecDepth 100000 in
set_option maxHeartbeats 4000000 in
theorem utf8_short3 (s : ByteArray) (i : Nat) (w : World) (hs : s.size ≤ 1024) (hi : i < s.size) (h0 : 224 ≤ bAt s i) (h0b : bAt s i < 240) (hm : s.size < i + 3) :
    Calls Tryz.prog 93 #[.string s, .int .i64 i] w fun e w' => e = .returned (.int .i64 0) ∧ w' = w := by
  have e0 := bAt_eq hi
  generalize bAt s i = b0 at *
  go_enter Tryz.func93, Tryz.ntmps93
  go_wp2
  go_ret
  exact ⟨rfl, rfl⟩

set_option maxRecDepth 100000 in
set_option maxHeartbeats 4000000 in
theorem utf8_short4 (s : ByteArray) (i : Nat) (w : World) (hs : s.size ≤ 1024) (hi : i < s.size) (h0 : 240 ≤ bAt s i) (h0b : bAt s i < 248) (hm : s.size < i + 4) :
    Calls Tryz.prog 93 #[.string s, .int .i64 i] w fun e w' => e = .returned (.int .i64 0) ∧ w' = w := by
  have e0 := bAt_eq hi
  generalize bAt s i = b0 at *
  go_enter Tryz.func93, Tryz.ntmps93
  go_wp2
  go_ret
  exact ⟨rfl, rfl⟩

set_option maxRecDepth 100000 in
set_option maxHeartbeats 4000000 in
theorem utf8_full2 (s : ByteArray) (i : Nat) (w : World) (hs : s.size ≤ 1024) (hi : i < s.size) (h0 : 192 ≤ bAt s i) (h0b : bAt s i < 224) (hm : i + 2 ≤ s.size) (r : Nat) (HR : Hid ((if (2 ≤ s.size - i ∧ 128 ≤ bAt s (i + 1) ∧ bAt s (i + 1) < 192 ∧ 128 ≤ 64 * (bAt s i - 192) + (bAt s (i + 1) - 128)) then 2 else 0) = r)) :
    Calls Tryz.prog 93 #[.string s, .int .i64 i] w fun e w' => e = .returned (.int .i64 r) ∧ w' = w := by
  have e0 := bAt_eq hi
  have m1 : i + 1 < s.size := by omega
  have e1 := bAt_eq m1
  have l1 := bAt_lt s (i + 1)
  generalize bAt s i = b0 at *
  generalize bAt s (i + 1) = b1 at *
  go_enter Tryz.func93, Tryz.ntmps93
  go_wp2
  go_rounds 2
  all_goals (go_ret; refine ⟨ret_int ?_, rfl⟩; go_light; have h := HR.out; first | (rw [if_pos (by omega)] at h; omega) | (rw [if_neg (by omega)] at h; omega))


end Go.Proofs.YtjnjmpfldbkciaaGreat
