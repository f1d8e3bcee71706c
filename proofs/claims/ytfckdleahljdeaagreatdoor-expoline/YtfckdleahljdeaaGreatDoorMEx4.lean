/- Texts that belong together. -/
import Derived.Test.YtfckdleahljdeaaGreatDoorMLd
/- A cursor on a line: blanks, pieces, names. -/
namespace Go.Proofs.YtfckdleahljdeaaGreatDoor
open Go.RowKit Go.Maps

set_option maxRecDepth 100000 in
set_option maxHeartbeats 1000000 in
theorem blanks_any (U : Nat) (s : ByteArray) (i : Nat) (w : World) (h : Cur w U s i) (hi : i ≤ s.size) (hs : s.size ≤ 1000000000) : Calls Tryz.prog 17 #[.pointer (some ⟨U, 0, none⟩)] w fun e w' => e = .returned (.bool (decide (i < skipP s.data.toList i))) ∧ Cur w' U s (skipP s.data.toList i) ∧ Kept (fun k => k = U) w w' := by
  have HC : Hid (Cur w U s i) := h
  have c1 := h.c1
  clear h
  go_enter Tryz.func17, Tryz.ntmps17
  go_wp2
  go_loopw [] (fun wr => ∃ j : Nat, i ≤ j ∧ j ≤ s.size ∧ Hid (Cur wr U s j) ∧ Hid (skipP s.data.toList j = skipP s.data.toList i) ∧ Hid (Kept (fun k => k = U) w wr)) (fun wr => s.size - curAt wr U)
  case atStart => exact ⟨i, Nat.le_refl _, hi, HC, rfl, Kept.refl _ _⟩
  case round =>
    clear c1 HC
    obtain ⟨j, hij, hj, HJ, HP, HK⟩ := hrel
    have c0 := HJ.out.c0
    have c1 := HJ.out.c1
    have f1 := HJ.out.f1
    have HE : Hid (∀ W, (∃ q, W = wr.drewN q) → Calls Tryz.prog 22 #[.pointer (some ⟨U, 0, none⟩)] W fun e w' => e = .returned (.bool (decide (j = s.size))) ∧ ∃ q, w' = W.drewN q) := fun W ⟨q, hq⟩ => ended_any U s j W (hq ▸ HJ.out)
    by_cases he : j = s.size
    · have hde : decide (j = s.size) = true := decide_eq_true he
      rw [hde] at HE
      have HQ : Hid (skipP s.data.toList i = j) := by
        show _ = _
        rw [← HP.out]
        exact runP_end (by simp; omega)
      clear hde he
      go_wp2
      go_quiet (first | (go_at_call 22; exact Calls.quiet_of (HE.out _ ⟨_, rfl⟩)))
      go_wp2
      go_ret
      rw [HQ.out]
      exact ⟨ret_bo (by rw [Bool.eq_iff_iff] <;> simp <;> omega), HJ.out.drewN _, HK.out.drewN _⟩
    · have hlt : j < s.size := by omega
      have hde : decide (j = s.size) = false := decide_eq_false he
      rw [hde] at HE
      have hbl : s[j].toNat < 256 := s[j].toNat_lt
      have hB := isBlank_any s[j]
      cases hb : blB s[j]
      · have HQ : Hid (skipP s.data.toList i = j) := by
          show _ = _
          rw [← HP.out]
          exact runP_stop (by simpa using hlt) (by rw [byteAt s j hlt]; exact hb)
        rw [hb] at hB
        clear hde he hb
        have HB : Hid (∀ W, Calls Tryz.prog 34 #[.int .u8 s[j].toNat] W fun e w' => e = .returned (.bool false) ∧ w' = W) := hB
        clear hB
        go_wp2
        go_quiet (first | (go_at_call 22; exact Calls.quiet_of (HE.out _ ⟨_, rfl⟩)) | (go_at_call 34; exact Calls.quiet_of_same (HB.out _)))
        go_wp2
        go_ret
        rw [HQ.out]
        exact ⟨ret_bo (by rw [Bool.eq_iff_iff] <;> simp <;> omega), HJ.out.drewN _, HK.out.drewN _⟩
      · have HQ : Hid (skipP s.data.toList (j + 1) = skipP s.data.toList i) := by
          show _ = _
          rw [← HP.out]
          exact runP_step (by simpa using hlt) (by rw [byteAt s j hlt]; exact hb)
        rw [hb] at hB
        clear hde he hb
        have HB : Hid (∀ W, Calls Tryz.prog 34 #[.int .u8 s[j].toNat] W fun e w' => e = .returned (.bool true) ∧ w' = W) := hB
        clear hB
        go_wp2
        go_quiet (first | (go_at_call 22; exact Calls.quiet_of (HE.out _ ⟨_, rfl⟩)) | (go_at_call 34; exact Calls.quiet_of_same (HB.out _)))
        have HS : Hid (∀ v, v = Value.int .i64 ((j + 1 : Nat) : Int) → Cur ((wr.drewN nq).setCell ⟨U, 1, none⟩ v) U s (j + 1)) := fun v hv => (HJ.out.drewN _).set (j + 1) hv
        have HK2 : Hid (∀ v, Kept (fun k => k = U) w ((wr.drewN nq).setCell ⟨U, 1, none⟩ v)) := fun v => (HK.out.drewN _).setCell (p := ⟨U, 1, none⟩) (fun _ => rfl) _
        go_wp2
        go_roundw
        case rel => exact ⟨j + 1, by omega, by omega, HS.out _ (by go_num), HQ, HK2.out _⟩
        case measure =>
          rw [HJ.out.at, (HS.out _ (by go_num)).at]
          omega

set_option maxRecDepth 100000 in
set_option maxHeartbeats 1000000 in
theorem piece_any (U : Nat) (s : ByteArray) (i : Nat) (w : World) (h : Cur w U s i) (hi : i ≤ s.size) (hs : s.size ≤ 1000000000) : Calls Tryz.prog 39 #[.pointer (some ⟨U, 0, none⟩)] w fun e w' => e = .returned (.string (s.extract i (tokP s.data.toList i))) ∧ Cur w' U s (tokP s.data.toList i) ∧ Kept (fun k => k = U) w w' := by
  have HC : Hid (Cur w U s i) := h
  have c1 := h.c1
  clear h
  go_enter Tryz.func39, Tryz.ntmps39
  go_wp2
  go_loopw [] (fun wr => ∃ j : Nat, i ≤ j ∧ j ≤ s.size ∧ Hid (Cur wr U s j) ∧ Hid (tokP s.data.toList j = tokP s.data.toList i) ∧ Hid (Kept (fun k => k = U) w wr)) (fun wr => s.size - curAt wr U)
  case atStart => exact ⟨i, Nat.le_refl _, hi, HC, rfl, Kept.refl _ _⟩
  case round =>
    clear c1 HC
    obtain ⟨j, hij, hj, HJ, HP, HK⟩ := hrel
    have c0 := HJ.out.c0
    have c1 := HJ.out.c1
    have f1 := HJ.out.f1
    have HE : Hid (∀ W, (∃ q, W = wr.drewN q) → Calls Tryz.prog 22 #[.pointer (some ⟨U, 0, none⟩)] W fun e w' => e = .returned (.bool (decide (j = s.size))) ∧ ∃ q, w' = W.drewN q) := fun W ⟨q, hq⟩ => ended_any U s j W (hq ▸ HJ.out)
    by_cases he : j = s.size
    · have hde : decide (j = s.size) = true := decide_eq_true he
      rw [hde] at HE
      have HQ : Hid (tokP s.data.toList i = j) := by
        show _ = _
        rw [← HP.out]
        exact runP_end (by simp; omega)
      clear hde he
      go_wp2
      go_quiet (first | (go_at_call 22; exact Calls.quiet_of (HE.out _ ⟨_, rfl⟩)))
      go_wp2
      go_quiet (fail)
      go_wp2
      go_ret
      rw [HQ.out]
      exact ⟨rfl, (HJ.out.drewN _).drewN _, (HK.out.drewN _).drewN _⟩
    · have hlt : j < s.size := by omega
      have hde : decide (j = s.size) = false := decide_eq_false he
      rw [hde] at HE
      have hbl : s[j].toNat < 256 := s[j].toNat_lt
      have hB := isBlank_any s[j]
      cases hb : blB s[j]
      · have HQ : Hid (tokP s.data.toList (j + 1) = tokP s.data.toList i) := by
          show _ = _
          rw [← HP.out]
          exact runP_step (by simpa using hlt) (by rw [byteAt s j hlt, hb]; rfl)
        rw [hb] at hB
        clear hde he hb
        have HB : Hid (∀ W, Calls Tryz.prog 34 #[.int .u8 s[j].toNat] W fun e w' => e = .returned (.bool false) ∧ w' = W) := hB
        clear hB
        go_wp2
        go_quiet (first | (go_at_call 22; exact Calls.quiet_of (HE.out _ ⟨_, rfl⟩)) | (go_at_call 34; exact Calls.quiet_of_same (HB.out _)))
        have HS : Hid (∀ v, v = Value.int .i64 ((j + 1 : Nat) : Int) → Cur ((wr.drewN nq).setCell ⟨U, 1, none⟩ v) U s (j + 1)) := fun v hv => (HJ.out.drewN _).set (j + 1) hv
        have HK2 : Hid (∀ v, Kept (fun k => k = U) w ((wr.drewN nq).setCell ⟨U, 1, none⟩ v)) := fun v => (HK.out.drewN _).setCell (p := ⟨U, 1, none⟩) (fun _ => rfl) _
        go_wp2
        go_roundw
        case rel => exact ⟨j + 1, by omega, by omega, HS.out _ (by go_num), HQ, HK2.out _⟩
        case measure =>
          rw [HJ.out.at, (HS.out _ (by go_num)).at]
          omega
      · have HQ : Hid (tokP s.data.toList i = j) := by
          show _ = _
          rw [← HP.out]
          exact runP_stop (by simpa using hlt) (by rw [byteAt s j hlt, hb]; rfl)
        rw [hb] at hB
        clear hde he hb
        have HB : Hid (∀ W, Calls Tryz.prog 34 #[.int .u8 s[j].toNat] W fun e w' => e = .returned (.bool true) ∧ w' = W) := hB
        clear hB
        go_wp2
        go_quiet (first | (go_at_call 22; exact Calls.quiet_of (HE.out _ ⟨_, rfl⟩)) | (go_at_call 34; exact Calls.quiet_of_same (HB.out _)))
        go_wp2
        go_quiet (fail)
        go_wp2
        go_ret
        rw [HQ.out]
        exact ⟨rfl, (HJ.out.drewN _).drewN _, (HK.out.drewN _).drewN _⟩

set_option maxRecDepth 100000 in
set_option maxHeartbeats 2000000 in
theorem name_any (U : Nat) (s : ByteArray) (i : Nat) (co : Bool) (w : World) (h : Cur w U s i) (hi : i ≤ s.size) (hs : s.size ≤ 1000000000) : Calls Tryz.prog 18 #[.pointer (some ⟨U, 0, none⟩), .bool co] w fun e w' => e = .returned (.string (s.extract i (wordP co s.data.toList i))) ∧ Cur w' U s (wordP co s.data.toList i) ∧ Kept (fun k => k = U) w w' := by
  have HC : Hid (Cur w U s i) := h
  have c1 := h.c1
  clear h
  go_enter Tryz.func18, Tryz.ntmps18
  go_wp2
  go_loopw [] (fun wr => ∃ j : Nat, i ≤ j ∧ j ≤ s.size ∧ Hid (Cur wr U s j) ∧ Hid (i < j → wordP co s.data.toList i = runP (restB co) s.data.toList j) ∧ Hid (Kept (fun k => k = U) w wr)) (fun wr => s.size - curAt wr U)
  case atStart => exact ⟨i, Nat.le_refl _, hi, HC, fun h => absurd h (Nat.lt_irrefl _), Kept.refl _ _⟩
  case round =>
    clear c1 HC
    obtain ⟨j, hij, hj, HJ, HP, HK⟩ := hrel
    have c0 := HJ.out.c0
    have c1 := HJ.out.c1
    have f1 := HJ.out.f1
    have hE := ended_any U s j wr HJ.out
    by_cases he : j = s.size
    · have hde : decide (j = s.size) = true := decide_eq_true he
      rw [hde] at hE
      have HQ : Hid (wordP co s.data.toList i = j) := by
        show _ = _
        by_cases e : i < j
        · rw [HP.out e]
          exact runP_end (by simp; omega)
        · have : i = j := by omega
          subst this
          exact wordP_end (by simp; omega)
      clear hde he
      go_wp2_with (go_at_call 22; refine hE.mono ?_; clear hE; rintro e w1 ⟨rfl, q, rfl⟩)
      go_quiet (fail)
      go_wp2
      go_ret
      rw [HQ.out]
      exact ⟨rfl, (HJ.out.drewN _).drewN _, (HK.out.drewN _).drewN _⟩
    · have hlt : j < s.size := by omega
      have hde : decide (j = s.size) = false := decide_eq_false he
      rw [hde] at hE
      have hbl : s[j].toNat < 256 := s[j].toNat_lt
      have hby := byteAt s j hlt
      have HL : Hid (∀ W, Calls Tryz.prog 35 #[.int .u8 s[j].toNat] W fun e w' => e = .returned (.bool (letB s[j])) ∧ w' = W) := isLetter_any s[j]
      have HD : Hid (∀ W, Calls Tryz.prog 36 #[.int .u8 s[j].toNat] W fun e w' => e = .returned (.bool (digB s[j])) ∧ w' = W) := isDigit_any s[j]
      have hco : ((s[j].toNat : Int) == 58) = (s[j] == 58) := u8_eq (d := 58)
      have HGO : Hid ((letB s[j] || (s[j] == 58 && co) || (digB s[j] && decide (i < j))) = true → i < j + 1 → wordP co s.data.toList i = runP (restB co) s.data.toList (j + 1)) := fun h1 _ => by
        by_cases e : i < j
        · rw [HP.out e]
          refine (runP_step (by simpa using hlt) ?_).symm
          rw [hby]
          unfold restB
          simpa [e] using h1
        · have : i = j := by omega
          subst this
          refine wordP_some (by simpa using hlt) ?_
          rw [hby]
          unfold startB
          simpa [e] using h1
      have HNO : Hid ((letB s[j] || (s[j] == 58 && co) || (digB s[j] && decide (i < j))) = false → wordP co s.data.toList i = j) := fun h1 => by
        by_cases e : i < j
        · rw [HP.out e]
          refine runP_stop (by simpa using hlt) ?_
          rw [hby]
          unfold restB
          simpa [e] using h1
        · have : i = j := by omega
          subst this
          refine wordP_none (by simpa using hlt) ?_
          rw [hby]
          unfold startB
          simpa [e] using h1
      clear hde he hby HP
      generalize hA : letB s[j] = A at *
      generalize hB : (s[j] == 58) = B at *
      generalize hD : digB s[j] = D at *
      clear hA hB hD
      have hcmp : decide ((i : Int) < (j : Int)) = decide (i < j) := decide_eq_decide.2 (by omega)
      go_wp2_with (first
        | (go_at_call 22; refine hE.mono ?_; clear hE; rintro e w1 ⟨rfl, q, rfl⟩))
      go_quiet (fail)
      go_wp2_with (first
        | (go_at_call 35; refine (HL.out _).mono ?_; clear HL; rintro e w1 ⟨rfl, rfl⟩; cases A <;> cases B <;> cases co)
        | (go_at_call 36; refine (HD.out _).mono ?_; clear HD; rintro e w1 ⟨rfl, rfl⟩; cases D <;> by_cases hlt2 : i < j))
      all_goals first
        | (go_quiet (fail)
           go_wp2
           go_ret
           rw [HNO.out (by first | rfl | (simp; omega))]
           exact ⟨rfl, (HJ.out.drewN _).drewN _, (HK.out.drewN _).drewN _⟩)
        | (have HG := HGO.out (by first | rfl | (simp; omega))
           have HS : Hid (∀ a v, v = Value.int .i64 ((j + 1 : Nat) : Int) → Cur ((wr.drewN a).setCell ⟨U, 1, none⟩ v) U s (j + 1)) := fun a v hv => (HJ.out.drewN _).set (j + 1) hv
           have HK2 : Hid (∀ a v, Kept (fun k => k = U) w ((wr.drewN a).setCell ⟨U, 1, none⟩ v)) := fun a v => (HK.out.drewN _).setCell (p := ⟨U, 1, none⟩) (fun _ => rfl) _
           go_roundw
           case rel => exact ⟨j + 1, by omega, by omega, HS.out _ _ (by go_num), HG, HK2.out _ _⟩
           case measure =>
             rw [HJ.out.at, (HS.out _ _ (by go_num)).at]
             omega)
end Go.Proofs.YtfckdleahljdeaaGreatDoor

/- The document's runs of bytes: blanks, names, pieces. -/
namespace Go.Proofs.YtfckdleahljdeaaGreatDoor
open Go.RowKit Go.Maps

set_option maxRecDepth 100000 in
theorem refBlank_any (c : UInt8) (w : World) : Calls Tryz.prog 42 #[.int .u8 c.toNat] w fun e w' => e = .returned (.bool (blB c)) ∧ w' = w := by
  have h1 : ((c.toNat : Int) == 32) = (c == 32) := u8_eq (d := 32)
  have h2 : ((c.toNat : Int) == 9) = (c == 9) := u8_eq (d := 9)
  unfold blB
  generalize (c == 32) = A at *
  generalize (c == 9) = B at *
  generalize c.toNat = cN at *
  cases A <;> cases B
  all_goals
    go_enter Tryz.func42, Tryz.ntmps42
    go_wp2
    go_ret
    exact ⟨rfl, rfl⟩

set_option maxRecDepth 100000 in
set_option maxHeartbeats 1000000 in
theorem refSkip_any (s : ByteArray) (i : Nat) (w : World) (hi : i ≤ s.size) (hs : s.size ≤ 1000000000) : Calls Tryz.prog 25 #[.string s, .int .i64 i] w fun e w' => e = .returned (.int .i64 (skipP s.data.toList i : Nat)) ∧ w' = w := by
  go_enter Tryz.func25, Tryz.ntmps25
  go_wp2
  go_loopw [1] (fun v wr => ∃ j : Nat, i ≤ j ∧ j ≤ s.size ∧ v = .int .i64 j ∧ Hid (skipP s.data.toList j = skipP s.data.toList i) ∧ wr = w) (fun v _ => s.size - (intOf v).toNat)
  case atStart => exact ⟨i, Nat.le_refl _, hi, rfl, rfl, rfl⟩
  case round =>
    obtain ⟨j, hij, hj, rfl, HP, rfl⟩ := hrel
    by_cases hlt : j < s.size
    · have hby := byteAt s j hlt
      have hbl : s[j].toNat < 256 := s[j].toNat_lt
      have HB : Hid (Calls Tryz.prog 42 #[.int .u8 s[j].toNat] wr fun e w' => e = .returned (.bool (blB s[j])) ∧ w' = wr) := refBlank_any s[j] wr
      cases hb : blB s[j] with
      | true =>
        have HQ : Hid (skipP s.data.toList (j + 1) = skipP s.data.toList i) := by
          show _ = _
          rw [← HP.out]
          exact runP_step (by simpa using hlt) (by rw [hby]; exact hb)
        rw [hb] at HB
        clear hb hby HP
        go_wp2_with (go_at_call 42; refine HB.out.mono ?_; clear HB; rintro e w1 ⟨rfl, hw⟩; have hw := hw.symm; subst hw)
        go_roundw
        case rel => exact ⟨j + 1, by omega, by omega, by go_num, HQ, by first | rfl | trivial⟩
        case measure => simp [intOf]; omega
      | false =>
        have HQ : Hid (skipP s.data.toList i = j) := by
          show _ = _
          rw [← HP.out]
          exact runP_stop (by simpa using hlt) (by rw [hby]; exact hb)
        rw [hb] at HB
        clear hb hby HP
        go_wp2_with (go_at_call 42; refine HB.out.mono ?_; clear HB; rintro e w1 ⟨rfl, hw⟩; have hw := hw.symm; subst hw)
        go_ret
        rw [HQ.out]
        exact ⟨rfl, rfl⟩
    · have HQ : Hid (skipP s.data.toList i = j) := by
        show _ = _
        rw [← HP.out]
        exact runP_end (by simp; omega)
      go_wp2
      go_ret
      rw [HQ.out]
      exact ⟨rfl, rfl⟩

set_option maxRecDepth 100000 in
set_option maxHeartbeats 1000000 in
theorem refToken_any (s : ByteArray) (i : Nat) (w : World) (hi : i ≤ s.size) (hs : s.size ≤ 1000000000) : Calls Tryz.prog 46 #[.string s, .int .i64 i] w fun e w' => e = .returned (.int .i64 (tokP s.data.toList i : Nat)) ∧ w' = w := by
  go_enter Tryz.func46, Tryz.ntmps46
  go_wp2
  go_loopw [1] (fun v wr => ∃ j : Nat, i ≤ j ∧ j ≤ s.size ∧ v = .int .i64 j ∧ Hid (tokP s.data.toList j = tokP s.data.toList i) ∧ wr = w) (fun v _ => s.size - (intOf v).toNat)
  case atStart => exact ⟨i, Nat.le_refl _, hi, rfl, rfl, rfl⟩
  case round =>
    obtain ⟨j, hij, hj, rfl, HP, rfl⟩ := hrel
    by_cases hlt : j < s.size
    · have hby := byteAt s j hlt
      have hbl : s[j].toNat < 256 := s[j].toNat_lt
      have HB : Hid (Calls Tryz.prog 42 #[.int .u8 s[j].toNat] wr fun e w' => e = .returned (.bool (blB s[j])) ∧ w' = wr) := refBlank_any s[j] wr
      cases hb : blB s[j] with
      | false =>
        have HQ : Hid (tokP s.data.toList (j + 1) = tokP s.data.toList i) := by
          show _ = _
          rw [← HP.out]
          exact runP_step (by simpa using hlt) (by rw [hby, hb]; rfl)
        rw [hb] at HB
        clear hb hby HP
        go_wp2_with (go_at_call 42; refine HB.out.mono ?_; clear HB; rintro e w1 ⟨rfl, hw⟩; have hw := hw.symm; subst hw)
        go_roundw
        case rel => exact ⟨j + 1, by omega, by omega, by go_num, HQ, by first | rfl | trivial⟩
        case measure => simp [intOf]; omega
      | true =>
        have HQ : Hid (tokP s.data.toList i = j) := by
          show _ = _
          rw [← HP.out]
          exact runP_stop (by simpa using hlt) (by rw [hby, hb]; rfl)
        rw [hb] at HB
        clear hb hby HP
        go_wp2_with (go_at_call 42; refine HB.out.mono ?_; clear HB; rintro e w1 ⟨rfl, hw⟩; have hw := hw.symm; subst hw)
        go_ret
        rw [HQ.out]
        exact ⟨rfl, rfl⟩
    · have HQ : Hid (tokP s.data.toList i = j) := by
        show _ = _
        rw [← HP.out]
        exact runP_end (by simp; omega)
      go_wp2
      go_ret
      rw [HQ.out]
      exact ⟨rfl, rfl⟩

/-- A byte that goes on with a name. -/
def onB (co : Bool) (first : Bool) (n : Nat) : Prop := (97 ≤ n ∧ n ≤ 122) ∨ (65 ≤ n ∧ n ≤ 90) ∨ n = 95 ∨ (48 ≤ n ∧ n ≤ 57 ∧ first = false) ∨ (n = 58 ∧ co = true)
instance (co first : Bool) (n : Nat) : Decidable (onB co first n) := by unfold onB; infer_instance
theorem onB_tab : ∀ n : Fin 256, ∀ co : Bool, (restB co (UInt8.ofNat n.val) = decide (onB co false n.val)) ∧ (startB co (UInt8.ofNat n.val) = decide (onB co true n.val)) := by decide +kernel
theorem onB_rest (co : Bool) (c : UInt8) : restB co c = true ↔ onB co false c.toNat := by
  have h := (onB_tab ⟨c.toNat, c.toNat_lt⟩ co).1
  rw [UInt8.ofNat_toNat] at h
  rw [h, decide_eq_true_iff]
theorem onB_start (co : Bool) (c : UInt8) : startB co c = true ↔ onB co true c.toNat := by
  have h := (onB_tab ⟨c.toNat, c.toNat_lt⟩ co).2
  rw [UInt8.ofNat_toNat] at h
  rw [h, decide_eq_true_iff]

set_option maxRecDepth 100000 in
set_option maxHeartbeats 2000000 in
theorem refWordP_any (s : ByteArray) (i : Nat) (co : Bool) (w : World) (hi : i ≤ s.size) (hs : s.size ≤ 1000000000) : Calls Tryz.prog 26 #[.string s, .int .i64 i, .bool co] w fun e w' => e = .returned (.int .i64 (wordP co s.data.toList i : Nat)) ∧ w' = w := by
  go_enter Tryz.func26, Tryz.ntmps26
  go_wp2
  go_loopw [7] (fun v wr => ∃ j : Nat, i ≤ j ∧ j ≤ s.size ∧ v = .int .i64 j ∧ Hid (i < j → wordP co s.data.toList i = runP (restB co) s.data.toList j) ∧ wr = w) (fun v _ => s.size - (intOf v).toNat)
  case atStart => exact ⟨i, Nat.le_refl _, hi, rfl, fun h => absurd h (Nat.lt_irrefl _), rfl⟩
  case round =>
    obtain ⟨j, hij, hj, rfl, HP, rfl⟩ := hrel
    by_cases hlt : j < s.size
    · have hby := byteAt s j hlt
      have hbl : s[j].toNat < 256 := s[j].toNat_lt
      have HGO : Hid (onB co (decide (i = j)) s[j].toNat → i < j + 1 → wordP co s.data.toList i = runP (restB co) s.data.toList (j + 1)) := fun h1 _ => by
        by_cases e : i = j
        · subst e
          refine wordP_some (by simpa using hlt) ?_
          rw [hby, onB_start]
          simpa using h1
        · rw [HP.out (by omega)]
          refine (runP_step (by simpa using hlt) ?_).symm
          rw [hby, onB_rest]
          simpa [e] using h1
      have HNO : Hid (¬ onB co (decide (i = j)) s[j].toNat → wordP co s.data.toList i = j) := fun h1 => by
        by_cases e : i = j
        · subst e
          refine wordP_none (by simpa using hlt) ?_
          rw [hby]
          have h2 : ¬ startB co s[i] = true := by rw [onB_start]; simpa using h1
          simpa using h2
        · rw [HP.out (by omega)]
          refine runP_stop (by simpa using hlt) ?_
          rw [hby]
          have h2 : ¬ restB co s[j] = true := by rw [onB_rest]; simpa [e] using h1
          simpa using h2
      clear HP hby
      have HGO : Hid ((97 ≤ s[j].toNat ∧ s[j].toNat ≤ 122) ∨ (65 ≤ s[j].toNat ∧ s[j].toNat ≤ 90) ∨ s[j].toNat = 95 ∨ (48 ≤ s[j].toNat ∧ s[j].toNat ≤ 57 ∧ ¬ i = j) ∨ (s[j].toNat = 58 ∧ co = true) → i < j + 1 → wordP co s.data.toList i = runP (restB co) s.data.toList (j + 1)) := fun h1 h2 => HGO.out (by unfold onB; simpa using h1) h2
      have HNO : Hid (¬ ((97 ≤ s[j].toNat ∧ s[j].toNat ≤ 122) ∨ (65 ≤ s[j].toNat ∧ s[j].toNat ≤ 90) ∨ s[j].toNat = 95 ∨ (48 ≤ s[j].toNat ∧ s[j].toNat ≤ 57 ∧ ¬ i = j) ∨ (s[j].toNat = 58 ∧ co = true)) → wordP co s.data.toList i = j) := fun h1 => HNO.out (by unfold onB; simpa using h1)
      cases co <;> go_wp2
      all_goals first
        | (go_ret
           rw [HNO.out (by (try simp only [Bool.false_eq_true, and_false, or_false, and_true]) <;> omega)]
           exact ⟨rfl, rfl⟩)
        | (exfalso; rename_i hx; simp at hx; omega)
        | (have HG := HGO.out (by (try simp only [Bool.false_eq_true, and_false, or_false, and_true]) <;> omega)
           go_roundw
           case rel => exact ⟨j + 1, by omega, by omega, by go_num, HG, by first | rfl | trivial⟩
           case measure => simp [intOf]; omega)
    · have HQ : Hid (wordP co s.data.toList i = j) := by
        show _ = _
        by_cases e : i < j
        · rw [HP.out e]
          exact runP_end (by simp; omega)
        · have : i = j := by omega
          subst this
          exact wordP_end (by simp; omega)
      go_wp2
      go_ret
      rw [HQ.out]
      exact ⟨rfl, rfl⟩
end Go.Proofs.YtfckdleahljdeaaGreatDoor
