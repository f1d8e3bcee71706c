/- Texts that belong together. -/
import Derived.Test.YtmbkcmfcdjccoaaDoorMP52
import Derived.Handy
import Derived.Deep.Light
import Derived.LoopN
import Derived.Lib.ValidLaws
/- Which texts are UTF-8, by the document. -/
namespace Go.Proofs.YtmbkcmfcdjccoaaDoor
open Go.RowKit

/-- How many bytes the character has that begins there; 0: none does. -/
def wN (n b0 b1 b2 b3 : Nat) : Nat := if b0 < 128 then 1 else (Lib.checkN n b1 b2 b3 (Lib.firstT b0 % 8) (Lib.accLo (Lib.firstT b0 / 16)) (Lib.accHi (Lib.firstT b0 / 16))).getD 0
def bAt (s : ByteArray) (i : Nat) : Nat := (s.data.toList.getD i 0).toNat
theorem bAt_eq {s : ByteArray} {i : Nat} (h : i < s.size) : s[i].toNat = bAt s i := by
  unfold bAt
  have : s.data.toList.getD i 0 = s[i] := by
    have h' : i < s.data.toList.length := by rw [Array.length_toList]; exact h
    rw [List.getD_eq_getElem?_getD, List.getElem?_eq_getElem h']
    rfl
  rw [this]
theorem bAt_lt (s : ByteArray) (i : Nat) : bAt s i < 256 := by unfold bAt; exact UInt8.toNat_lt _


theorem w1 {m b0 b1 b2 b3 : Nat} (h : b0 < 128) : wN m b0 b1 b2 b3 = 1 := by simp [wN, h]
theorem w0 {m b0 b1 b2 b3 : Nat} (h : 128 ≤ b0) (h' : b0 < 192 ∨ 248 ≤ b0) : wN m b0 b1 b2 b3 = 0 := by
  have hf : Lib.firstT b0 = 241 := by
    unfold Lib.firstT
    repeat' split
    all_goals first | rfl | omega
  simp [wN, show ¬ b0 < 128 by omega, hf, Lib.checkN]
theorem w2 {m b0 b1 b2 b3 : Nat} (h : 192 ≤ b0) (h' : b0 < 224) : wN m b0 b1 b2 b3 = if 2 ≤ m ∧ 128 ≤ b1 ∧ b1 < 192 ∧ 128 ≤ 64 * (b0 - 192) + (b1 - 128) then 2 else 0 := by
  by_cases c : b0 < 194
  · have hf : Lib.firstT b0 = 241 := by
      unfold Lib.firstT
      repeat' split
      all_goals first | rfl | omega
    simp [wN, show ¬ b0 < 128 by omega, hf, Lib.checkN]
    omega
  · have hf : Lib.firstT b0 = 2 := by
      unfold Lib.firstT
      repeat' split
      all_goals first | rfl | omega
    simp [wN, show ¬ b0 < 128 by omega, hf, Lib.checkN, Lib.accLo, Lib.accHi]
    repeat' split
    all_goals first | rfl | omega | (simp; omega)
theorem w3 {m b0 b1 b2 b3 : Nat} (h : 224 ≤ b0) (h' : b0 < 240) : wN m b0 b1 b2 b3 = if 3 ≤ m ∧ 128 ≤ b1 ∧ b1 < 192 ∧ 128 ≤ b2 ∧ b2 < 192 ∧ 2048 ≤ 64 * (64 * (b0 - 224) + (b1 - 128)) + (b2 - 128) ∧ ¬ (55296 ≤ 64 * (64 * (b0 - 224) + (b1 - 128)) + (b2 - 128) ∧ 64 * (64 * (b0 - 224) + (b1 - 128)) + (b2 - 128) ≤ 57343) then 3 else 0 := by
  have key : ∀ f lo hi : Nat, Lib.firstT b0 = f → f % 8 = 3 → Lib.accLo (f / 16) = lo → Lib.accHi (f / 16) = hi → wN m b0 b1 b2 b3 = if m < 3 ∨ b1 < lo ∨ hi < b1 ∨ b2 < 128 ∨ 191 < b2 then 0 else 3 := fun f lo hi e1 e2 e3 e4 => by
    simp only [wN, if_neg (show ¬ b0 < 128 by omega), e1, e2, e3, e4, Lib.checkN]
    simp only [show ¬ (3 = 2) by omega, if_false, if_true]
    split <;> rfl
  by_cases c : b0 = 224
  · rw [key 19 160 191 (by subst c; rfl) rfl rfl rfl]
    repeat' split
    all_goals first | rfl | (exfalso; omega)
  · by_cases c2 : b0 = 237
    · rw [key 35 128 159 (by subst c2; rfl) rfl rfl rfl]
      repeat' split
      all_goals first | rfl | (exfalso; omega)
    · have hf : Lib.firstT b0 = 3 := by
        unfold Lib.firstT
        repeat' split
        all_goals first | rfl | omega
      rw [key 3 128 191 hf rfl rfl rfl]
      repeat' split
      all_goals first | rfl | (exfalso; omega)
theorem w4 {m b0 b1 b2 b3 : Nat} (h : 240 ≤ b0) (h' : b0 < 248) : wN m b0 b1 b2 b3 = if 4 ≤ m ∧ 128 ≤ b1 ∧ b1 < 192 ∧ 128 ≤ b2 ∧ b2 < 192 ∧ 128 ≤ b3 ∧ b3 < 192 ∧ 65536 ≤ 64 * (64 * (64 * (b0 - 240) + (b1 - 128)) + (b2 - 128)) + (b3 - 128) ∧ 64 * (64 * (64 * (b0 - 240) + (b1 - 128)) + (b2 - 128)) + (b3 - 128) ≤ 1114111 then 4 else 0 := by
  have key : ∀ f lo hi : Nat, Lib.firstT b0 = f → f % 8 = 4 → Lib.accLo (f / 16) = lo → Lib.accHi (f / 16) = hi → wN m b0 b1 b2 b3 = if m < 4 ∨ b1 < lo ∨ hi < b1 ∨ b2 < 128 ∨ 191 < b2 ∨ b3 < 128 ∨ 191 < b3 then 0 else 4 := fun f lo hi e1 e2 e3 e4 => by
    simp only [wN, if_neg (show ¬ b0 < 128 by omega), e1, e2, e3, e4, Lib.checkN]
    simp only [show ¬ (4 = 2) by omega, show ¬ (4 = 3) by omega, if_false, if_true]
    split <;> rfl
  by_cases c : b0 = 240
  · rw [key 52 144 191 (by subst c; rfl) rfl rfl rfl]
    repeat' split
    all_goals first | rfl | (exfalso; omega)
  · by_cases c2 : b0 = 244
    · rw [key 68 128 143 (by subst c2; rfl) rfl rfl rfl]
      repeat' split
      all_goals first | rfl | (exfalso; omega)
    · by_cases c3 : b0 < 244
      · have hf : Lib.firstT b0 = 4 := by
          unfold Lib.firstT
          repeat' split
          all_goals first | rfl | omega
        rw [key 4 128 191 hf rfl rfl rfl]
        repeat' split
        all_goals first | rfl | (exfalso; omega)
      · have hf : Lib.firstT b0 = 241 := by
          unfold Lib.firstT
          repeat' split
          all_goals first | rfl | omega
        rw [if_neg (by omega)]
        simp [wN, show ¬ b0 < 128 by omega, hf, Lib.checkN]

set_option maxRecDepth 100000 in
set_option maxHeartbeats 4000000 in
theorem utf8_one (s : ByteArray) (i : Nat) (w : World) (hs : s.size ≤ 1024) (hi : i < s.size) (h0 : bAt s i < 128) :
    Calls Tryd.prog 17 #[.string s, .int .i64 i] w fun e w' => e = .returned (.int .i64 1) ∧ w' = w := by
  have e0 := bAt_eq hi
  generalize bAt s i = b0 at *
  go_enter Tryd.func17, Tryd.ntmps17
  go_wp2
  go_rounds 1
  go_ret
  exact ⟨rfl, rfl⟩

set_option maxRecDepth 100000 in
set_option maxHeartbeats 4000000 in
theorem utf8_zero (s : ByteArray) (i : Nat) (w : World) (_hs : s.size ≤ 1024) (hi : i < s.size) (h0 : 128 ≤ bAt s i) (c2 : bAt s i < 192 ∨ 248 ≤ bAt s i) :
    Calls Tryd.prog 17 #[.string s, .int .i64 i] w fun e w' => e = .returned (.int .i64 0) ∧ w' = w := by
  have e0 := bAt_eq hi
  have l0 := bAt_lt s i
  generalize bAt s i = b0 at *
  go_enter Tryd.func17, Tryd.ntmps17
  rcases c2 with c2 | c2
  all_goals
    go_wp2
    go_ret
    exact ⟨rfl, rfl⟩

set_option maxRecDepth 100000 in
set_option maxHeartbeats 4000000 in
theorem utf8_short2 (s : ByteArray) (i : Nat) (w : World) (hs : s.size ≤ 1024) (hi : i < s.size) (h0 : 192 ≤ bAt s i) (h0b : bAt s i < 224) (hm : s.size < i + 2) :
    Calls Tryd.prog 17 #[.string s, .int .i64 i] w fun e w' => e = .returned (.int .i64 0) ∧ w' = w := by
  have e0 := bAt_eq hi
  generalize bAt s i = b0 at *
  go_enter Tryd.func17, Tryd.ntmps17
  go_wp2
  go_ret
  exact ⟨rfl, rfl⟩

set_option maxRecDepth 100000 in
set_option maxHeartbeats 4000000 in
theorem utf8_short3 (s : ByteArray) (i : Nat) (w : World) (hs : s.size ≤ 1024) (hi : i < s.size) (h0 : 224 ≤ bAt s i) (h0b : bAt s i < 240) (hm : s.size < i + 3) :
    Calls Tryd.prog 17 #[.string s, .int .i64 i] w fun e w' => e = .returned (.int .i64 0) ∧ w' = w := by
  have e0 := bAt_eq hi
  generalize bAt s i = b0 at *
  go_enter Tryd.func17, Tryd.ntmps17
  go_wp2
  go_ret
  exact ⟨rfl, rfl⟩

set_option maxRecDepth 100000 in
set_option maxHeartbeats 4000000 in
theorem utf8_short4 (s : ByteArray) (i : Nat) (w : World) (hs : s.size ≤ 1024) (hi : i < s.size) (h0 : 240 ≤ bAt s i) (h0b : bAt s i < 248) (hm : s.size < i + 4) :
    Calls Tryd.prog 17 #[.string s, .int .i64 i] w fun e w' => e = .returned (.int .i64 0) ∧ w' = w := by
  have e0 := bAt_eq hi
  generalize bAt s i = b0 at *
  go_enter Tryd.func17, Tryd.ntmps17
  go_wp2
  go_ret
  exact ⟨rfl, rfl⟩

set_option maxRecDepth 100000 in
set_option maxHeartbeats 4000000 in
theorem utf8_full2 (s : ByteArray) (i : Nat) (w : World) (hs : s.size ≤ 1024) (hi : i < s.size) (h0 : 192 ≤ bAt s i) (h0b : bAt s i < 224) (hm : i + 2 ≤ s.size) (r : Nat) (HR : Hid ((if (2 ≤ s.size - i ∧ 128 ≤ bAt s (i + 1) ∧ bAt s (i + 1) < 192 ∧ 128 ≤ 64 * (bAt s i - 192) + (bAt s (i + 1) - 128)) then 2 else 0) = r)) :
    Calls Tryd.prog 17 #[.string s, .int .i64 i] w fun e w' => e = .returned (.int .i64 r) ∧ w' = w := by
  have e0 := bAt_eq hi
  have m1 : i + 1 < s.size := by omega
  have e1 := bAt_eq m1
  have l1 := bAt_lt s (i + 1)
  generalize bAt s i = b0 at *
  generalize bAt s (i + 1) = b1 at *
  go_enter Tryd.func17, Tryd.ntmps17
  go_wp2
  go_rounds 2
  all_goals (go_ret; refine ⟨ret_int ?_, rfl⟩; go_light; have h := HR.out; first | (rw [if_pos (by omega)] at h; omega) | (rw [if_neg (by omega)] at h; omega))


end Go.Proofs.YtmbkcmfcdjccoaaDoor

/- A character of three bytes. -/
namespace Go.Proofs.YtmbkcmfcdjccoaaDoor
open Go.RowKit

set_option maxRecDepth 100000 in
set_option maxHeartbeats 4000000 in
theorem utf8_full3 (s : ByteArray) (i : Nat) (w : World) (hs : s.size ≤ 1024) (hi : i < s.size) (h0 : 224 ≤ bAt s i) (h0b : bAt s i < 240) (hm : i + 3 ≤ s.size) (r : Nat) (HR : Hid ((if (3 ≤ s.size - i ∧ 128 ≤ bAt s (i + 1) ∧ bAt s (i + 1) < 192 ∧ 128 ≤ bAt s (i + 2) ∧ bAt s (i + 2) < 192 ∧ 2048 ≤ 64 * (64 * (bAt s i - 224) + (bAt s (i + 1) - 128)) + (bAt s (i + 2) - 128) ∧ ¬ (55296 ≤ 64 * (64 * (bAt s i - 224) + (bAt s (i + 1) - 128)) + (bAt s (i + 2) - 128) ∧ 64 * (64 * (bAt s i - 224) + (bAt s (i + 1) - 128)) + (bAt s (i + 2) - 128) ≤ 57343)) then 3 else 0) = r)) :
    Calls Tryd.prog 17 #[.string s, .int .i64 i] w fun e w' => e = .returned (.int .i64 r) ∧ w' = w := by
  have e0 := bAt_eq hi
  have m1 : i + 1 < s.size := by omega
  have e1 := bAt_eq m1
  have l1 := bAt_lt s (i + 1)
  have m2 : i + 2 < s.size := by omega
  have e2 := bAt_eq m2
  have l2 := bAt_lt s (i + 2)
  generalize bAt s i = b0 at *
  generalize bAt s (i + 1) = b1 at *
  generalize bAt s (i + 2) = b2 at *
  go_enter Tryd.func17, Tryd.ntmps17
  go_wp2
  go_rounds 3
  all_goals (go_ret; refine ⟨ret_int ?_, rfl⟩; go_light; have h := HR.out; first | (rw [if_pos (by omega)] at h; omega) | (rw [if_neg (by omega)] at h; omega))


end Go.Proofs.YtmbkcmfcdjccoaaDoor

/- A character of four bytes. -/
namespace Go.Proofs.YtmbkcmfcdjccoaaDoor
open Go.RowKit

set_option maxRecDepth 100000 in
set_option maxHeartbeats 4000000 in
theorem utf8_full4 (s : ByteArray) (i : Nat) (w : World) (hs : s.size ≤ 1024) (hi : i < s.size) (h0 : 240 ≤ bAt s i) (h0b : bAt s i < 248) (hm : i + 4 ≤ s.size) (r : Nat) (HR : Hid ((if (4 ≤ s.size - i ∧ 128 ≤ bAt s (i + 1) ∧ bAt s (i + 1) < 192 ∧ 128 ≤ bAt s (i + 2) ∧ bAt s (i + 2) < 192 ∧ 128 ≤ bAt s (i + 3) ∧ bAt s (i + 3) < 192 ∧ 65536 ≤ 64 * (64 * (64 * (bAt s i - 240) + (bAt s (i + 1) - 128)) + (bAt s (i + 2) - 128)) + (bAt s (i + 3) - 128) ∧ 64 * (64 * (64 * (bAt s i - 240) + (bAt s (i + 1) - 128)) + (bAt s (i + 2) - 128)) + (bAt s (i + 3) - 128) ≤ 1114111) then 4 else 0) = r)) :
    Calls Tryd.prog 17 #[.string s, .int .i64 i] w fun e w' => e = .returned (.int .i64 r) ∧ w' = w := by
  have e0 := bAt_eq hi
  have m1 : i + 1 < s.size := by omega
  have e1 := bAt_eq m1
  have l1 := bAt_lt s (i + 1)
  have m2 : i + 2 < s.size := by omega
  have e2 := bAt_eq m2
  have l2 := bAt_lt s (i + 2)
  have m3 : i + 3 < s.size := by omega
  have e3 := bAt_eq m3
  have l3 := bAt_lt s (i + 3)
  generalize bAt s i = b0 at *
  generalize bAt s (i + 1) = b1 at *
  generalize bAt s (i + 2) = b2 at *
  generalize bAt s (i + 3) = b3 at *
  go_enter Tryd.func17, Tryd.ntmps17
  go_wp2
  go_rounds 4
  all_goals (go_ret; refine ⟨ret_int ?_, rfl⟩; go_light; have h := HR.out; first | (rw [if_pos (by omega)] at h; omega) | (rw [if_neg (by omega)] at h; omega))


end Go.Proofs.YtmbkcmfcdjccoaaDoor

/- Which texts are UTF-8: the document's Valid. -/
namespace Go.Proofs.YtmbkcmfcdjccoaaDoor
open Go.RowKit

def wAt (s : ByteArray) (i : Nat) : Nat := wN (s.size - i) (bAt s i) (bAt s (i + 1)) (bAt s (i + 2)) (bAt s (i + 3))

theorem utf8_any (s : ByteArray) (i : Nat) (w : World) (hs : s.size ≤ 1024) (hi : i < s.size) :
    Calls Tryd.prog 17 #[.string s, .int .i64 i] w fun e w' => e = .returned (.int .i64 (wAt s i)) ∧ w' = w := by
  unfold wAt
  by_cases c1 : bAt s i < 128
  · rw [w1 c1]
    exact utf8_one s i w hs hi c1
  by_cases c2 : bAt s i < 192 ∨ 248 ≤ bAt s i
  · rw [w0 (by omega) c2]
    exact utf8_zero s i w hs hi (by omega) c2
  by_cases c3 : bAt s i < 224
  · rw [w2 (by omega) c3]
    by_cases hm : i + 2 ≤ s.size
    · exact utf8_full2 s i w hs hi (by omega) c3 hm _ rfl
    · rw [if_neg (by omega)]
      exact utf8_short2 s i w hs hi (by omega) c3 (by omega)
  by_cases c4 : bAt s i < 240
  · rw [w3 (by omega) c4]
    by_cases hm : i + 3 ≤ s.size
    · exact utf8_full3 s i w hs hi (by omega) c4 hm _ rfl
    · rw [if_neg (by omega)]
      exact utf8_short3 s i w hs hi (by omega) c4 (by omega)
  · rw [w4 (by omega) (by omega)]
    by_cases hm : i + 4 ≤ s.size
    · exact utf8_full4 s i w hs hi (by omega) (by omega) hm _ rfl
    · rw [if_neg (by omega)]
      exact utf8_short4 s i w hs hi (by omega) (by omega) (by omega)

theorem size_data (s : ByteArray) : s.data.toList.length = s.size := by rw [Array.length_toList]; rfl
theorem bAt_drop (s : ByteArray) (i j : Nat) : ((s.data.toList.drop i).getD j 0).toNat = bAt s (i + j) := by
  unfold bAt
  rw [List.getD_eq_getElem?_getD, List.getD_eq_getElem?_getD, List.getElem?_drop]

theorem wN_le {m b0 b1 b2 b3 : Nat} (hm : 1 ≤ m) : wN m b0 b1 b2 b3 ≤ m := by
  unfold wN Lib.checkN
  repeat' split
  all_goals first | omega | (simp; omega) | simp

theorem valid_step (s : ByteArray) (i : Nat) (hi : i < s.size) : Lib.validD (s.data.toList.drop i) = if wAt s i = 0 then false else Lib.validD (s.data.toList.drop (i + wAt s i)) := by
  have hl : (s.data.toList.drop i).length = s.size - i := by rw [List.length_drop, size_data]
  have hne : s.data.toList.drop i ≠ [] := fun e => by rw [e] at hl; simp at hl; omega
  by_cases c1 : bAt s i < 128
  · have hw : wAt s i = 1 := w1 c1
    rw [hw, if_neg (by omega)]
    have h' : i < s.data.toList.length := by rw [size_data]; exact hi
    rw [List.drop_eq_getElem_cons h', Lib.validD_cons]
    have := bAt_eq hi
    rw [← this] at c1
    exact c1
  · have e0 : ((s.data.toList.drop i).getD 0 0).toNat = bAt s i := bAt_drop s i 0
    rw [Lib.validD_lead _ hne (by rw [e0]; omega), e0, bAt_drop, bAt_drop, bAt_drop, hl]
    have hw : wAt s i = (Lib.checkN (s.size - i) (bAt s (i + 1)) (bAt s (i + 2)) (bAt s (i + 3)) (Lib.firstT (bAt s i) % 8) (Lib.accLo (Lib.firstT (bAt s i) / 16)) (Lib.accHi (Lib.firstT (bAt s i) / 16))).getD 0 := by
      unfold wAt wN
      rw [if_neg c1]
    have hz : ∀ k, Lib.checkN (s.size - i) (bAt s (i + 1)) (bAt s (i + 2)) (bAt s (i + 3)) (Lib.firstT (bAt s i) % 8) (Lib.accLo (Lib.firstT (bAt s i) / 16)) (Lib.accHi (Lib.firstT (bAt s i) / 16)) = some k → k ≠ 0 := fun k => by
      unfold Lib.checkN
      repeat' split
      all_goals first | (intro h; cases h; omega) | (intro h; cases h)
    rw [hw]
    split
    · rename_i h
      rw [h]
      rfl
    · rename_i k h
      rw [h]
      simp [hz k h, List.drop_drop]

set_option maxRecDepth 100000 in
set_option maxHeartbeats 1000000 in
theorem valid_any (s : ByteArray) (w : World) (hs : s.size ≤ 1024) :
    Calls Tryd.prog 7 #[.string s] w fun e w' => e = .returned (.bool (Lib.validD s.data.toList)) ∧ w' = w := by
  go_enter Tryd.func7, Tryd.ntmps7
  go_wp2
  go_loop [3] (fun i => ∃ k : Nat, k ≤ s.size ∧ i = .int .i64 k ∧ Hid (Lib.validD (s.data.toList.drop k) = Lib.validD s.data.toList)) (fun i => s.size - (intOf i).toNat)
  case atStart => exact ⟨0, Nat.zero_le _, rfl, by show _ = _; rw [List.drop_zero]⟩
  case round =>
    obtain ⟨k, hk, rfl, hall⟩ := hrel
    by_cases hlt : k < s.size
    · have HS : Hid (Lib.validD (s.data.toList.drop k) = if wAt s k = 0 then false else Lib.validD (s.data.toList.drop (k + wAt s k))) := valid_step s k hlt
      have hwl : wAt s k ≤ s.size - k := wN_le (by omega)
      have hu := utf8_any s k w hs hlt
      generalize wAt s k = n at *
      by_cases hn : n = 0
      · subst hn
        go_wp2_with (go_at_call 17; refine hu.mono ?_; rintro e w' ⟨rfl, rfl⟩)
        go_ret
        refine ⟨ret_bool ?_, rfl⟩
        rw [← hall.out, HS.out]
        rfl
      · go_wp2_with (go_at_call 17; refine hu.mono ?_; rintro e w' ⟨rfl, rfl⟩)
        go_round
        case rel =>
          refine ⟨k + n, by omega, by go_num, ?_⟩
          show _ = _
          rw [← hall.out, HS.out, if_neg hn]
        case measure => simp [intOf]; omega
    · have HN : Hid (Lib.validD s.data.toList = true) := by
        show _ = _
        rw [← hall.out, List.drop_of_length_le (by rw [size_data]; omega)]
        rfl
      clear hall
      go_wp2
      go_ret
      exact ⟨ret_bool HN.out.symm, rfl⟩

end Go.Proofs.YtmbkcmfcdjccoaaDoor
