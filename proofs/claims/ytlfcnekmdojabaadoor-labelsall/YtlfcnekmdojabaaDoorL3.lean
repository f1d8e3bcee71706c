/- Which texts are UTF-8: the document's Valid. -/
import Derived.Test.YtlfcnekmdojabaaDoorL2b
import Derived.Test.YtlfcnekmdojabaaDoorL2c
namespace Go.Proofs.YtlfcnekmdojabaaDoor
open Go.RowKit

def wAt (s : ByteArray) (i : Nat) : Nat := wN (s.size - i) (bAt s i) (bAt s (i + 1)) (bAt s (i + 2)) (bAt s (i + 3))

theorem utf8_any (s : ByteArray) (i : Nat) (w : World) (hs : s.size ≤ 1024) (hi : i < s.size) :
    Calls Tryd.prog 53 #[.string s, .int .i64 i] w fun e w' => e = .returned (.int .i64 (wAt s i)) ∧ w' = w := by
  unfold wAt
  by_cases c1 : bAt s i < 128
  · rw [w1 c1]
    exact utf8_one s i w hs hi c1
  by_cases c2 : bAt s i < 192 ∨ 248 ≤ bAt s i
  · rw [w0 (by omega) c2]
    exact utf8_zero s i w hs hi (by omega) c2
  by_cases c3 : bAt s i < 224
  · rw [w2 (by omega) c3]
    by_cases hm : i + 2 ≤ s.size
    · exact utf8_full2 s i w hs hi (by omega) c3 hm _ rfl
    · rw [if_neg (by omega)]
      exact utf8_short2 s i w hs hi (by omega) c3 (by omega)
  by_cases c4 : bAt s i < 240
  · rw [w3 (by omega) c4]
    by_cases hm : i + 3 ≤ s.size
    · exact utf8_full3 s i w hs hi (by omega) c4 hm _ rfl
    · rw [if_neg (by omega)]
      exact utf8_short3 s i w hs hi (by omega) c4 (by omega)
  · rw [w4 (by omega) (by omega)]
    by_cases hm : i + 4 ≤ s.size
    · exact utf8_full4 s i w hs hi (by omega) (by omega) hm _ rfl
    · rw [if_neg (by omega)]
      exact utf8_short4 s i w hs hi (by omega) (by omega) (by omega)

theorem size_data (s : ByteArray) : s.data.toList.length = s.size := by rw [Array.length_toList]; rfl
theorem bAt_drop (s : ByteArray) (i j : Nat) : ((s.data.toList.drop i).getD j 0).toNat = bAt s (i + j) := by
  unfold bAt
  rw [List.getD_eq_getElem?_getD, List.getD_eq_getElem?_getD, List.getElem?_drop]

theorem wN_le {m b0 b1 b2 b3 : Nat} (hm : 1 ≤ m) : wN m b0 b1 b2 b3 ≤ m := by
  unfold wN Lib.checkN
  repeat' split
  all_goals first | omega | (simp; omega) | simp

theorem valid_step (s : ByteArray) (i : Nat) (hi : i < s.size) : Lib.validD (s.data.toList.drop i) = if wAt s i = 0 then false else Lib.validD (s.data.toList.drop (i + wAt s i)) := by
  have hl : (s.data.toList.drop i).length = s.size - i := by rw [List.length_drop, size_data]
  have hne : s.data.toList.drop i ≠ [] := fun e => by rw [e] at hl; simp at hl; omega
  by_cases c1 : bAt s i < 128
  · have hw : wAt s i = 1 := w1 c1
    rw [hw, if_neg (by omega)]
    have h' : i < s.data.toList.length := by rw [size_data]; exact hi
    rw [List.drop_eq_getElem_cons h', Lib.validD_cons]
    have := bAt_eq hi
    rw [← this] at c1
    exact c1
  · have e0 : ((s.data.toList.drop i).getD 0 0).toNat = bAt s i := bAt_drop s i 0
    rw [Lib.validD_lead _ hne (by rw [e0]; omega), e0, bAt_drop, bAt_drop, bAt_drop, hl]
    have hw : wAt s i = (Lib.checkN (s.size - i) (bAt s (i + 1)) (bAt s (i + 2)) (bAt s (i + 3)) (Lib.firstT (bAt s i) % 8) (Lib.accLo (Lib.firstT (bAt s i) / 16)) (Lib.accHi (Lib.firstT (bAt s i) / 16))).getD 0 := by
      unfold wAt wN
      rw [if_neg c1]
    have hz : ∀ k, Lib.checkN (s.size - i) (bAt s (i + 1)) (bAt s (i + 2)) (bAt s (i + 3)) (Lib.firstT (bAt s i) % 8) (Lib.accLo (Lib.firstT (bAt s i) / 16)) (Lib.accHi (Lib.firstT (bAt s i) / 16)) = some k → k ≠ 0 := fun k => by
      unfold Lib.checkN
      repeat' split
      all_goals first | (intro h; cases h; omega) | (intro h; cases h)
    rw [hw]
    split
    · rename_i h
      rw [h]
      rfl
    · rename_i k h
      rw [h]
      simp [hz k h, List.drop_drop]

set_option maxRecDepth 100000 in
set_option maxHeartbeats 1000000 in
theorem valid_any (s : ByteArray) (w : World) (hs : s.size ≤ 1024) :
    Calls Tryd.prog 39 #[.string s] w fun e w' => e = .returned (.bool (Lib.validD s.data.toList)) ∧ w' = w := by
  go_enter Tryd.func39, Tryd.ntmps39
  go_wp2
  go_loop [3] (fun i => ∃ k : Nat, k ≤ s.size ∧ i = .int .i64 k ∧ Hid (Lib.validD (s.data.toList.drop k) = Lib.validD s.data.toList)) (fun i => s.size - (intOf i).toNat)
  case atStart => exact ⟨0, Nat.zero_le _, rfl, by show _ = _; rw [List.drop_zero]⟩
  case round =>
    obtain ⟨k, hk, rfl, hall⟩ := hrel
    by_cases hlt : k < s.size
    · have HS : Hid (Lib.validD (s.data.toList.drop k) = if wAt s k = 0 then false else Lib.validD (s.data.toList.drop (k + wAt s k))) := valid_step s k hlt
      have hwl : wAt s k ≤ s.size - k := wN_le (by omega)
      have hu := utf8_any s k w hs hlt
      generalize wAt s k = n at *
      by_cases hn : n = 0
      · subst hn
        go_wp2_with (go_at_call 53; refine hu.mono ?_; rintro e w' ⟨rfl, rfl⟩)
        go_ret
        refine ⟨ret_bool ?_, rfl⟩
        rw [← hall.out, HS.out]
        rfl
      · go_wp2_with (go_at_call 53; refine hu.mono ?_; rintro e w' ⟨rfl, rfl⟩)
        go_round
        case rel =>
          refine ⟨k + n, by omega, by go_num, ?_⟩
          show _ = _
          rw [← hall.out, HS.out, if_neg hn]
        case measure => simp [intOf]; omega
    · have HN : Hid (Lib.validD s.data.toList = true) := by
        show _ = _
        rw [← hall.out, List.drop_of_length_le (by rw [size_data]; omega)]
        rfl
      clear hall
      go_wp2
      go_ret
      exact ⟨ret_bool HN.out.symm, rfl⟩

end Go.Proofs.YtlfcnekmdojabaaDoor
