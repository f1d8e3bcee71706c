/- Texts that belong together. -/
import Derived.Test.YtjnjmpfldbkciaaGreatB2
import Derived.Test.YtjnjmpfldbkciaaGreatYb
/- A character of three bytes. -/
namespace Go.Proofs.YtjnjmpfldbkciaaGreat
open Go.RowKit

set_option maxRecDepth 100000 in
set_option maxHeartbeats 4000000 in
theorem utf8_full3 (s : ByteArray) (i : Nat) (w : World) (hs : s.size ≤ 1024) (hi : i < s.size) (h0 : 224 ≤ bAt s i) (h0b : bAt s i < 240) (hm : i + 3 ≤ s.size) (r : Nat) (HR : Hid ((if (3 ≤ s.size - i ∧ 128 ≤ bAt s (i + 1) ∧ bAt s (i + 1) < 192 ∧ 128 ≤ bAt s (i + 2) ∧ bAt s (i + 2) < 192 ∧ 2048 ≤ 64 * (64 * (bAt s i - 224) + (bAt s (i + 1) - 128)) + (bAt s (i + 2) - 128) ∧ ¬ (55296 ≤ 64 * (64 * (bAt s i - 224) + (bAt s (i + 1) - 128)) + (bAt s (i + 2) - 128) ∧ 64 * (64 * (bAt s i - 224) + (bAt s (i + 1) - 128)) + (bAt s (i + 2) - 128) ≤ 57343)) then 3 else 0) = r)) :
    Calls Tryz.prog 93 #[.string s, .int .i64 i] w fun e w' => e = .returned (.int .i64 r) ∧ w' = w := by
  have e0 := bAt_eq hi
  have m1 : i + 1 < s.size := by omega
  have e1 := bAt_eq m1
  have l1 := bAt_lt s (i + 1)
  have m2 : i + 2 < s.size := by omega
  have e2 := bAt_eq m2
  have l2 := bAt_lt s (i + 2)
  generalize bAt s i = b0 at *
  generalize bAt s (i + 1) = b1 at *
  generalize bAt s (i + 2) = b2 at *
  go_enter Tryz.func93, Tryz.ntmps93
  go_wp2
  go_rounds 3
  all_goals (go_ret; refine ⟨ret_int ?_, rfl⟩; go_light; have h := HR.out; first | (rw [if_pos (by omega)] at h; omega) | (rw [if_neg (by omega)] at h; omega))


end Go.Proofs.YtjnjmpfldbkciaaGreat

/- A character of four bytes. -/
namespace Go.Proofs.YtjnjmpfldbkciaaGreat
open Go.RowKit

set_option maxRecDepth 100000 in
set_option maxHeartbeats 4000000 in
theorem utf8_full4 (s : ByteArray) (i : Nat) (w : World) (hs : s.size ≤ 1024) (hi : i < s.size) (h0 : 240 ≤ bAt s i) (h0b : bAt s i < 248) (hm : i + 4 ≤ s.size) (r : Nat) (HR : Hid ((if (4 ≤ s.size - i ∧ 128 ≤ bAt s (i + 1) ∧ bAt s (i + 1) < 192 ∧ 128 ≤ bAt s (i + 2) ∧ bAt s (i + 2) < 192 ∧ 128 ≤ bAt s (i + 3) ∧ bAt s (i + 3) < 192 ∧ 65536 ≤ 64 * (64 * (64 * (bAt s i - 240) + (bAt s (i + 1) - 128)) + (bAt s (i + 2) - 128)) + (bAt s (i + 3) - 128) ∧ 64 * (64 * (64 * (bAt s i - 240) + (bAt s (i + 1) - 128)) + (bAt s (i + 2) - 128)) + (bAt s (i + 3) - 128) ≤ 1114111) then 4 else 0) = r)) :
    Calls Tryz.prog 93 #[.string s, .int .i64 i] w fun e w' => e = .returned (.int .i64 r) ∧ w' = w := by
  have e0 := bAt_eq hi
  have m1 : i + 1 < s.size := by omega
  have e1 := bAt_eq m1
  have l1 := bAt_lt s (i + 1)
  have m2 : i + 2 < s.size := by omega
  have e2 := bAt_eq m2
  have l2 := bAt_lt s (i + 2)
  have m3 : i + 3 < s.size := by omega
  have e3 := bAt_eq m3
  have l3 := bAt_lt s (i + 3)
  generalize bAt s i = b0 at *
  generalize bAt s (i + 1) = b1 at *
  generalize bAt s (i + 2) = b2 at *
  generalize bAt s (i + 3) = b3 at *
  go_enter Tryz.func93, Tryz.ntmps93
  go_wp2
  go_rounds 4
  all_goals (go_ret; refine ⟨ret_int ?_, rfl⟩; go_light; have h := HR.out; first | (rw [if_pos (by omega)] at h; omega) | (rw [if_neg (by omega)] at h; omega))


end Go.Proofs.YtjnjmpfldbkciaaGreat

/- Which texts are UTF-8: the document's Valid. -/
namespace Go.Proofs.YtjnjmpfldbkciaaGreat
open Go.RowKit

def wAt (s : ByteArray) (i : Nat) : Nat := wN (s.size - i) (bAt s i) (bAt s (i + 1)) (bAt s (i + 2)) (bAt s (i + 3))

theorem utf8_any (s : ByteArray) (i : Nat) (w : World) (hs : s.size ≤ 1024) (hi : i < s.size) :
    Calls Tryz.prog 93 #[.string s, .int .i64 i] w fun e w' => e = .returned (.int .i64 (wAt s i)) ∧ w' = w := by
  unfold wAt
  by_cases c1 : bAt s i < 128
  · rw [w1 c1]
    exact utf8_one s i w hs hi c1
  by_cases c2 : bAt s i < 192 ∨ 248 ≤ bAt s i
  · rw [w0 (by omega) c2]
    exact utf8_zero s i w hs hi (by omega) c2
  by_cases c3 : bAt s i < 224
  · rw [w2 (by omega) c3]
    by_cases hm : i + 2 ≤ s.size
    · exact utf8_full2 s i w hs hi (by omega) c3 hm _ rfl
    · rw [if_neg (by omega)]
      exact utf8_short2 s i w hs hi (by omega) c3 (by omega)
  by_cases c4 : bAt s i < 240
  · rw [w3 (by omega) c4]
    by_cases hm : i + 3 ≤ s.size
    · exact utf8_full3 s i w hs hi (by omega) c4 hm _ rfl
    · rw [if_neg (by omega)]
      exact utf8_short3 s i w hs hi (by omega) c4 (by omega)
  · rw [w4 (by omega) (by omega)]
    by_cases hm : i + 4 ≤ s.size
    · exact utf8_full4 s i w hs hi (by omega) (by omega) hm _ rfl
    · rw [if_neg (by omega)]
      exact utf8_short4 s i w hs hi (by omega) (by omega) (by omega)

theorem size_data (s : ByteArray) : s.data.toList.length = s.size := by rw [Array.length_toList]; rfl
theorem bAt_drop (s : ByteArray) (i j : Nat) : ((s.data.toList.drop i).getD j 0).toNat = bAt s (i + j) := by
  unfold bAt
  rw [List.getD_eq_getElem?_getD, List.getD_eq_getElem?_getD, List.getElem?_drop]

theorem wN_le {m b0 b1 b2 b3 : Nat} (hm : 1 ≤ m) : wN m b0 b1 b2 b3 ≤ m := by
  unfold wN Lib.checkN
  repeat' split
  all_goals first | omega | (simp; omega) | simp

theorem valid_step (s : ByteArray) (i : Nat) (hi : i < s.size) : Lib.validD (s.data.toList.drop i) = if wAt s i = 0 then false else Lib.validD (s.data.toList.drop (i + wAt s i)) := by
  have hl : (s.data.toList.drop i).length = s.size - i := by rw [List.length_drop, size_data]
  have hne : s.data.toList.drop i ≠ [] := fun e => by rw [e] at hl; simp at hl; omega
  by_cases c1 : bAt s i < 128
  · have hw : wAt s i = 1 := w1 c1
    rw [hw, if_neg (by omega)]
    have h' : i < s.data.toList.length := by rw [size_data]; exact hi
    rw [List.drop_eq_getElem_cons h', Lib.validD_cons]
    have := bAt_eq hi
    rw [← this] at c1
    exact c1
  · have e0 : ((s.data.toList.drop i).getD 0 0).toNat = bAt s i := bAt_drop s i 0
    rw [Lib.validD_lead _ hne (by rw [e0]; omega), e0, bAt_drop, bAt_drop, bAt_drop, hl]
    have hw : wAt s i = (Lib.checkN (s.size - i) (bAt s (i + 1)) (bAt s (i + 2)) (bAt s (i + 3)) (Lib.firstT (bAt s i) % 8) (Lib.accLo (Lib.firstT (bAt s i) / 16)) (Lib.accHi (Lib.firstT (bAt s i) / 16))).getD 0 := by
      unfold wAt wN
      rw [if_neg c1]
    have hz : ∀ k, Lib.checkN (s.size - i) (bAt s (i + 1)) (bAt s (i + 2)) (bAt s (i + 3)) (Lib.firstT (bAt s i) % 8) (Lib.accLo (Lib.firstT (bAt s i) / 16)) (Lib.accHi (Lib.firstT (bAt s i) / 16)) = some k → k ≠ 0 := fun k => by
      unfold Lib.checkN
      repeat' split
      all_goals first | (intro h; cases h; omega) | (intro h; cases h)
    rw [hw]
    split
    · rename_i h
      rw [h]
      rfl
    · rename_i k h
      rw [h]
      simp [hz k h, List.drop_drop]

set_option maxRecDepth 100000 in
set_option maxHeartbeats 1000000 in
theorem valid_any (s : ByteArray) (w : World) (hs : s.size ≤ 1024) :
    Calls Tryz.prog 78 #[.string s] w fun e w' => e = .returned (.bool (Lib.validD s.data.toList)) ∧ w' = w := by
  go_enter Tryz.func78, Tryz.ntmps78
  go_wp2
  go_loop [3] (fun i => ∃ k : Nat, k ≤ s.size ∧ i = .int .i64 k ∧ Hid (Lib.validD (s.data.toList.drop k) = Lib.validD s.data.toList)) (fun i => s.size - (intOf i).toNat)
  case atStart => exact ⟨0, Nat.zero_le _, rfl, by show _ = _; rw [List.drop_zero]⟩
  case round =>
    obtain ⟨k, hk, rfl, hall⟩ := hrel
    by_cases hlt : k < s.size
    · have HS : Hid (Lib.validD (s.data.toList.drop k) = if wAt s k = 0 then false else Lib.validD (s.data.toList.drop (k + wAt s k))) := valid_step s k hlt
      have hwl : wAt s k ≤ s.size - k := wN_le (by omega)
      have hu := utf8_any s k w hs hlt
      generalize wAt s k = n at *
      by_cases hn : n = 0
      · subst hn
        go_wp2_with (go_at_call 93; refine hu.mono ?_; rintro e w' ⟨rfl, rfl⟩)
        go_ret
        refine ⟨ret_bool ?_, rfl⟩
        rw [← hall.out, HS.out]
        rfl
      · go_wp2_with (go_at_call 93; refine hu.mono ?_; rintro e w' ⟨rfl, rfl⟩)
        go_round
        case rel =>
          refine ⟨k + n, by omega, by go_num, ?_⟩
          show _ = _
          rw [← hall.out, HS.out, if_neg hn]
        case measure => simp [intOf]; omega
    · have HN : Hid (Lib.validD s.data.toList = true) := by
        show _ = _
        rw [← hall.out, List.drop_of_length_le (by rw [size_data]; omega)]
        rfl
      clear hall
      go_wp2
      go_ret
      exact ⟨ret_bool HN.out.symm, rfl⟩

end Go.Proofs.YtjnjmpfldbkciaaGreat

/- May a label be in a set: the document's fair. -/
namespace Go.Proofs.YtjnjmpfldbkciaaGreat
open Go.RowKit

def nameTok : List UInt8 := [95, 95, 110, 97, 109, 101, 95, 95]
def valB (s : ByteArray) : Bool := decide (s.size ≤ 1024) && Lib.validD s.data.toList
def fairL (x : Lb) : Bool := wd false x.1 && valB x.2 && (!(x.1.toList == nameTok) || (x.2.toList.isEmpty || wd true x.2))

theorem refRightName_any (s : ByteArray) (w : World) (hs : s.size ≤ maxLen) :
    Calls Tryz.prog 55 #[.string s] w fun e w' => e = .returned (.bool (wd false s)) ∧ w' = w := by
  go_enter Tryz.func55, Tryz.ntmps55
  go_wp2_with (go_at_call 77; refine (refWord_any _ _ _ hs).mono ?_; rintro e w' ⟨rfl, rfl⟩)
  go_ret
  exact ⟨rfl, rfl⟩
theorem refRightMetric_any (s : ByteArray) (w : World) (hs : s.size ≤ maxLen) :
    Calls Tryz.prog 57 #[.string s] w fun e w' => e = .returned (.bool (wd true s)) ∧ w' = w := by
  go_enter Tryz.func57, Tryz.ntmps57
  go_wp2_with (go_at_call 77; refine (refWord_any _ _ _ hs).mono ?_; rintro e w' ⟨rfl, rfl⟩)
  go_ret
  exact ⟨rfl, rfl⟩
theorem refRightValue_any (s : ByteArray) (w : World) :
    Calls Tryz.prog 56 #[.string s] w fun e w' => e = .returned (.bool (valB s)) ∧ w' = w := by
  by_cases h : s.size ≤ 1024
  · have e : valB s = Lib.validD s.data.toList := by simp [valB, h]
    rw [e]
    have hv := valid_any s w h
    generalize Lib.validD s.data.toList = r at hv ⊢
    go_enter Tryz.func56, Tryz.ntmps56
    go_wp2_with (go_at_call 78; refine hv.mono ?_; rintro e w' ⟨rfl, rfl⟩)
    go_ret
    exact ⟨rfl, rfl⟩
  · have e : valB s = false := by simp [valB, h]
    rw [e]
    have h' : 1024 < s.size := by omega
    go_enter Tryz.func56, Tryz.ntmps56
    go_wp2
    go_ret
    exact ⟨rfl, rfl⟩

set_option maxRecDepth 100000 in
set_option maxHeartbeats 1000000 in
theorem fair_any (x : Lb) (w : World) (h1 : x.1.size ≤ maxLen) (h2 : x.2.size ≤ maxLen) :
    Calls Tryz.prog 35 #[.agg #[.string x.1, .string x.2]] w fun e w' => e = .returned (.bool (fairL x)) ∧ Below w.heap.size w w' := by
  obtain ⟨n, v⟩ := x
  unfold fairL
  dsimp only at *
  have hR1 := fun W => refRightName_any n W h1
  have hR2 := fun W => refRightValue_any v W
  have hR3 := fun W => refRightMetric_any v W h2
  have HB : Hid (∀ o, Below w.heap.size w (w.alloc o)) := fun o => (Below.refl _ _).alloc (Nat.le_refl _) o
  generalize wd false n = r1 at *
  generalize valB v = r2 at *
  generalize wd true v = r3 at *
  cases r1
  · go_enter Tryz.func35, Tryz.ntmps35
    go_wp2_with (go_at_call 55; refine (hR1 _).mono ?_; rintro e w' ⟨rfl, rfl⟩)
    go_ret
    exact ⟨rfl, HB.out _⟩
  cases r2
  · go_enter Tryz.func35, Tryz.ntmps35
    go_wp2_with (first | (go_at_call 55; refine (hR1 _).mono ?_; rintro e w' ⟨rfl, rfl⟩) | (go_at_call 56; refine (hR2 _).mono ?_; rintro e w' ⟨rfl, rfl⟩))
    go_ret
    exact ⟨rfl, HB.out _⟩
  cases hn : n.toList == nameTok
  · have hn' : (n.toList == [95, 95, 110, 97, 109, 101, 95, 95]) = false := hn
    go_enter Tryz.func35, Tryz.ntmps35
    go_wp2_with (first | (go_at_call 55; refine (hR1 _).mono ?_; rintro e w' ⟨rfl, rfl⟩) | (go_at_call 56; refine (hR2 _).mono ?_; rintro e w' ⟨rfl, rfl⟩))
    all_goals (go_ret; exact ⟨rfl, HB.out _⟩)
  · have hn' : (n.toList == [95, 95, 110, 97, 109, 101, 95, 95]) = true := hn
    cases hv : v.toList.isEmpty
    · go_enter Tryz.func35, Tryz.ntmps35
      go_wp2_with (first | (go_at_call 55; refine (hR1 _).mono ?_; rintro e w' ⟨rfl, rfl⟩) | (go_at_call 56; refine (hR2 _).mono ?_; rintro e w' ⟨rfl, rfl⟩) | (go_at_call 57; refine (hR3 _).mono ?_; rintro e w' ⟨rfl, rfl⟩))
      all_goals (go_ret; exact ⟨by simp, HB.out _⟩)
    · go_enter Tryz.func35, Tryz.ntmps35
      go_wp2_with (first | (go_at_call 55; refine (hR1 _).mono ?_; rintro e w' ⟨rfl, rfl⟩) | (go_at_call 56; refine (hR2 _).mono ?_; rintro e w' ⟨rfl, rfl⟩))
      all_goals (go_ret; exact ⟨by simp, HB.out _⟩)

end Go.Proofs.YtjnjmpfldbkciaaGreat
