/- A cursor on a line: blanks, pieces, names. -/
import Derived.Test.YtdadagbkkaeejaaGreatDoorMEx3
namespace Go.Proofs.YtdadagbkkaeejaaGreatDoor
open Go.RowKit Go.Maps

set_option maxRecDepth 100000 in
set_option maxHeartbeats 1000000 in
theorem blanks_any (U : Nat) (s : ByteArray) (i : Nat) (w : World) (h : Cur w U s i) (hi : i ≤ s.size) (hs : s.size ≤ 1000000000) : Calls Tryz.prog 22 #[.pointer (some ⟨U, 0, none⟩)] w fun e w' => e = .returned (.bool (decide (i < skipP s.data.toList i))) ∧ Cur w' U s (skipP s.data.toList i) ∧ Kept (fun k => k = U) w w' := by
  have HC : Hid (Cur w U s i) := h
  have c1 := h.c1
  clear h
  go_enter Tryz.func22, Tryz.ntmps22
  go_wp2
  go_loopw [] (fun wr => ∃ j : Nat, i ≤ j ∧ j ≤ s.size ∧ Hid (Cur wr U s j) ∧ Hid (skipP s.data.toList j = skipP s.data.toList i) ∧ Hid (Kept (fun k => k = U) w wr)) (fun wr => s.size - curAt wr U)
  case atStart => exact ⟨i, Nat.le_refl _, hi, HC, rfl, Kept.refl _ _⟩
  case round =>
    clear c1 HC
    obtain ⟨j, hij, hj, HJ, HP, HK⟩ := hrel
    have c0 := HJ.out.c0
    have c1 := HJ.out.c1
    have f1 := HJ.out.f1
    have HE : Hid (∀ W, (∃ q, W = wr.drewN q) → Calls Tryz.prog 27 #[.pointer (some ⟨U, 0, none⟩)] W fun e w' => e = .returned (.bool (decide (j = s.size))) ∧ ∃ q, w' = W.drewN q) := fun W ⟨q, hq⟩ => ended_any U s j W (hq ▸ HJ.out)
    by_cases he : j = s.size
    · have hde : decide (j = s.size) = true := decide_eq_true he
      rw [hde] at HE
      have HQ : Hid (skipP s.data.toList i = j) := by
        show _ = _
        rw [← HP.out]
        exact runP_end (by simp; omega)
      clear hde he
      go_wp2
      go_quiet (first | (go_at_call 27; exact Calls.quiet_of (HE.out _ ⟨_, rfl⟩)))
      go_wp2
      go_ret
      rw [HQ.out]
      exact ⟨ret_bo (by rw [Bool.eq_iff_iff] <;> simp <;> omega), HJ.out.drewN _, HK.out.drewN _⟩
    · have hlt : j < s.size := by omega
      have hde : decide (j = s.size) = false := decide_eq_false he
      rw [hde] at HE
      have hbl : s[j].toNat < 256 := s[j].toNat_lt
      have hB := isBlank_any s[j]
      cases hb : blB s[j]
      · have HQ : Hid (skipP s.data.toList i = j) := by
          show _ = _
          rw [← HP.out]
          exact runP_stop (by simpa using hlt) (by rw [byteAt s j hlt]; exact hb)
        rw [hb] at hB
        clear hde he hb
        have HB : Hid (∀ W, Calls Tryz.prog 37 #[.int .u8 s[j].toNat] W fun e w' => e = .returned (.bool false) ∧ w' = W) := hB
        clear hB
        go_wp2
        go_quiet (first | (go_at_call 27; exact Calls.quiet_of (HE.out _ ⟨_, rfl⟩)) | (go_at_call 37; exact Calls.quiet_of_same (HB.out _)))
        go_wp2
        go_ret
        rw [HQ.out]
        exact ⟨ret_bo (by rw [Bool.eq_iff_iff] <;> simp <;> omega), HJ.out.drewN _, HK.out.drewN _⟩
      · have HQ : Hid (skipP s.data.toList (j + 1) = skipP s.data.toList i) := by
          show _ = _
          rw [← HP.out]
          exact runP_step (by simpa using hlt) (by rw [byteAt s j hlt]; exact hb)
        rw [hb] at hB
        clear hde he hb
        have HB : Hid (∀ W, Calls Tryz.prog 37 #[.int .u8 s[j].toNat] W fun e w' => e = .returned (.bool true) ∧ w' = W) := hB
        clear hB
        go_wp2
        go_quiet (first | (go_at_call 27; exact Calls.quiet_of (HE.out _ ⟨_, rfl⟩)) | (go_at_call 37; exact Calls.quiet_of_same (HB.out _)))
        have HS : Hid (∀ v, v = Value.int .i64 ((j + 1 : Nat) : Int) → Cur ((wr.drewN nq).setCell ⟨U, 1, none⟩ v) U s (j + 1)) := fun v hv => (HJ.out.drewN _).set (j + 1) hv
        have HK2 : Hid (∀ v, Kept (fun k => k = U) w ((wr.drewN nq).setCell ⟨U, 1, none⟩ v)) := fun v => (HK.out.drewN _).setCell (p := ⟨U, 1, none⟩) (fun _ => rfl) _
        go_wp2
        go_roundw
        case rel => exact ⟨j + 1, by omega, by omega, HS.out _ (by go_num), HQ, HK2.out _⟩
        case measure =>
          rw [HJ.out.at, (HS.out _ (by go_num)).at]
          omega

set_option maxRecDepth 100000 in
set_option maxHeartbeats 1000000 in
theorem piece_any (U : Nat) (s : ByteArray) (i : Nat) (w : World) (h : Cur w U s i) (hi : i ≤ s.size) (hs : s.size ≤ 1000000000) : Calls Tryz.prog 42 #[.pointer (some ⟨U, 0, none⟩)] w fun e w' => e = .returned (.string (s.extract i (tokP s.data.toList i))) ∧ Cur w' U s (tokP s.data.toList i) ∧ Kept (fun k => k = U) w w' := by
  have HC : Hid (Cur w U s i) := h
  have c1 := h.c1
  clear h
  go_enter Tryz.func42, Tryz.ntmps42
  go_wp2
  go_loopw [] (fun wr => ∃ j : Nat, i ≤ j ∧ j ≤ s.size ∧ Hid (Cur wr U s j) ∧ Hid (tokP s.data.toList j = tokP s.data.toList i) ∧ Hid (Kept (fun k => k = U) w wr)) (fun wr => s.size - curAt wr U)
  case atStart => exact ⟨i, Nat.le_refl _, hi, HC, rfl, Kept.refl _ _⟩
  case round =>
    clear c1 HC
    obtain ⟨j, hij, hj, HJ, HP, HK⟩ := hrel
    have c0 := HJ.out.c0
    have c1 := HJ.out.c1
    have f1 := HJ.out.f1
    have HE : Hid (∀ W, (∃ q, W = wr.drewN q) → Calls Tryz.prog 27 #[.pointer (some ⟨U, 0, none⟩)] W fun e w' => e = .returned (.bool (decide (j = s.size))) ∧ ∃ q, w' = W.drewN q) := fun W ⟨q, hq⟩ => ended_any U s j W (hq ▸ HJ.out)
    by_cases he : j = s.size
    · have hde : decide (j = s.size) = true := decide_eq_true he
      rw [hde] at HE
      have HQ : Hid (tokP s.data.toList i = j) := by
        show _ = _
        rw [← HP.out]
        exact runP_end (by simp; omega)
      clear hde he
      go_wp2
      go_quiet (first | (go_at_call 27; exact Calls.quiet_of (HE.out _ ⟨_, rfl⟩)))
      go_wp2
      go_quiet (fail)
      go_wp2
      go_ret
      rw [HQ.out]
      exact ⟨rfl, (HJ.out.drewN _).drewN _, (HK.out.drewN _).drewN _⟩
    · have hlt : j < s.size := by omega
      have hde : decide (j = s.size) = false := decide_eq_false he
      rw [hde] at HE
      have hbl : s[j].toNat < 256 := s[j].toNat_lt
      have hB := isBlank_any s[j]
      cases hb : blB s[j]
      · have HQ : Hid (tokP s.data.toList (j + 1) = tokP s.data.toList i) := by
          show _ = _
          rw [← HP.out]
          exact runP_step (by simpa using hlt) (by rw [byteAt s j hlt, hb]; rfl)
        rw [hb] at hB
        clear hde he hb
        have HB : Hid (∀ W, Calls Tryz.prog 37 #[.int .u8 s[j].toNat] W fun e w' => e = .returned (.bool false) ∧ w' = W) := hB
        clear hB
        go_wp2
        go_quiet (first | (go_at_call 27; exact Calls.quiet_of (HE.out _ ⟨_, rfl⟩)) | (go_at_call 37; exact Calls.quiet_of_same (HB.out _)))
        have HS : Hid (∀ v, v = Value.int .i64 ((j + 1 : Nat) : Int) → Cur ((wr.drewN nq).setCell ⟨U, 1, none⟩ v) U s (j + 1)) := fun v hv => (HJ.out.drewN _).set (j + 1) hv
        have HK2 : Hid (∀ v, Kept (fun k => k = U) w ((wr.drewN nq).setCell ⟨U, 1, none⟩ v)) := fun v => (HK.out.drewN _).setCell (p := ⟨U, 1, none⟩) (fun _ => rfl) _
        go_wp2
        go_roundw
        case rel => exact ⟨j + 1, by omega, by omega, HS.out _ (by go_num), HQ, HK2.out _⟩
        case measure =>
          rw [HJ.out.at, (HS.out _ (by go_num)).at]
          omega
      · have HQ : Hid (tokP s.data.toList i = j) := by
          show _ = _
          rw [← HP.out]
          exact runP_stop (by simpa using hlt) (by rw [byteAt s j hlt, hb]; rfl)
        rw [hb] at hB
        clear hde he hb
        have HB : Hid (∀ W, Calls Tryz.prog 37 #[.int .u8 s[j].toNat] W fun e w' => e = .returned (.bool true) ∧ w' = W) := hB
        clear hB
        go_wp2
        go_quiet (first | (go_at_call 27; exact Calls.quiet_of (HE.out _ ⟨_, rfl⟩)) | (go_at_call 37; exact Calls.quiet_of_same (HB.out _)))
        go_wp2
        go_quiet (fail)
        go_wp2
        go_ret
        rw [HQ.out]
        exact ⟨rfl, (HJ.out.drewN _).drewN _, (HK.out.drewN _).drewN _⟩

set_option maxRecDepth 100000 in
set_option maxHeartbeats 2000000 in
theorem name_any (U : Nat) (s : ByteArray) (i : Nat) (co : Bool) (w : World) (h : Cur w U s i) (hi : i ≤ s.size) (hs : s.size ≤ 1000000000) : Calls Tryz.prog 23 #[.pointer (some ⟨U, 0, none⟩), .bool co] w fun e w' => e = .returned (.string (s.extract i (wordP co s.data.toList i))) ∧ Cur w' U s (wordP co s.data.toList i) ∧ Kept (fun k => k = U) w w' := by
  have HC : Hid (Cur w U s i) := h
  have c1 := h.c1
  clear h
  go_enter Tryz.func23, Tryz.ntmps23
  go_wp2
  go_loopw [] (fun wr => ∃ j : Nat, i ≤ j ∧ j ≤ s.size ∧ Hid (Cur wr U s j) ∧ Hid (i < j → wordP co s.data.toList i = runP (restB co) s.data.toList j) ∧ Hid (Kept (fun k => k = U) w wr)) (fun wr => s.size - curAt wr U)
  case atStart => exact ⟨i, Nat.le_refl _, hi, HC, fun h => absurd h (Nat.lt_irrefl _), Kept.refl _ _⟩
  case round =>
    clear c1 HC
    obtain ⟨j, hij, hj, HJ, HP, HK⟩ := hrel
    have c0 := HJ.out.c0
    have c1 := HJ.out.c1
    have f1 := HJ.out.f1
    have hE := ended_any U s j wr HJ.out
    by_cases he : j = s.size
    · have hde : decide (j = s.size) = true := decide_eq_true he
      rw [hde] at hE
      have HQ : Hid (wordP co s.data.toList i = j) := by
        show _ = _
        by_cases e : i < j
        · rw [HP.out e]
          exact runP_end (by simp; omega)
        · have : i = j := by omega
          subst this
          exact wordP_end (by simp; omega)
      clear hde he
      go_wp2_with (go_at_call 27; refine hE.mono ?_; clear hE; rintro e w1 ⟨rfl, q, rfl⟩)
      go_quiet (fail)
      go_wp2
      go_ret
      rw [HQ.out]
      exact ⟨rfl, (HJ.out.drewN _).drewN _, (HK.out.drewN _).drewN _⟩
    · have hlt : j < s.size := by omega
      have hde : decide (j = s.size) = false := decide_eq_false he
      rw [hde] at hE
      have hbl : s[j].toNat < 256 := s[j].toNat_lt
      have hby := byteAt s j hlt
      have HL : Hid (∀ W, Calls Tryz.prog 38 #[.int .u8 s[j].toNat] W fun e w' => e = .returned (.bool (letB s[j])) ∧ w' = W) := isLetter_any s[j]
      have HD : Hid (∀ W, Calls Tryz.prog 39 #[.int .u8 s[j].toNat] W fun e w' => e = .returned (.bool (digB s[j])) ∧ w' = W) := isDigit_any s[j]
      have hco : ((s[j].toNat : Int) == 58) = (s[j] == 58) := u8_eq (d := 58)
      have HGO : Hid ((letB s[j] || (s[j] == 58 && co) || (digB s[j] && decide (i < j))) = true → i < j + 1 → wordP co s.data.toList i = runP (restB co) s.data.toList (j + 1)) := fun h1 _ => by
        by_cases e : i < j
        · rw [HP.out e]
          refine (runP_step (by simpa using hlt) ?_).symm
          rw [hby]
          unfold restB
          simpa [e] using h1
        · have : i = j := by omega
          subst this
          refine wordP_some (by simpa using hlt) ?_
          rw [hby]
          unfold startB
          simpa [e] using h1
      have HNO : Hid ((letB s[j] || (s[j] == 58 && co) || (digB s[j] && decide (i < j))) = false → wordP co s.data.toList i = j) := fun h1 => by
        by_cases e : i < j
        · rw [HP.out e]
          refine runP_stop (by simpa using hlt) ?_
          rw [hby]
          unfold restB
          simpa [e] using h1
        · have : i = j := by omega
          subst this
          refine wordP_none (by simpa using hlt) ?_
          rw [hby]
          unfold startB
          simpa [e] using h1
      clear hde he hby HP
      generalize hA : letB s[j] = A at *
      generalize hB : (s[j] == 58) = B at *
      generalize hD : digB s[j] = D at *
      clear hA hB hD
      have hcmp : decide ((i : Int) < (j : Int)) = decide (i < j) := decide_eq_decide.2 (by omega)
      go_wp2_with (first
        | (go_at_call 27; refine hE.mono ?_; clear hE; rintro e w1 ⟨rfl, q, rfl⟩))
      go_quiet (fail)
      go_wp2_with (first
        | (go_at_call 38; refine (HL.out _).mono ?_; clear HL; rintro e w1 ⟨rfl, rfl⟩; cases A <;> cases B <;> cases co)
        | (go_at_call 39; refine (HD.out _).mono ?_; clear HD; rintro e w1 ⟨rfl, rfl⟩; cases D <;> by_cases hlt2 : i < j))
      all_goals first
        | (go_quiet (fail)
           go_wp2
           go_ret
           rw [HNO.out (by first | rfl | (simp; omega))]
           exact ⟨rfl, (HJ.out.drewN _).drewN _, (HK.out.drewN _).drewN _⟩)
        | (have HG := HGO.out (by first | rfl | (simp; omega))
           have HS : Hid (∀ a v, v = Value.int .i64 ((j + 1 : Nat) : Int) → Cur ((wr.drewN a).setCell ⟨U, 1, none⟩ v) U s (j + 1)) := fun a v hv => (HJ.out.drewN _).set (j + 1) hv
           have HK2 : Hid (∀ a v, Kept (fun k => k = U) w ((wr.drewN a).setCell ⟨U, 1, none⟩ v)) := fun a v => (HK.out.drewN _).setCell (p := ⟨U, 1, none⟩) (fun _ => rfl) _
           go_roundw
           case rel => exact ⟨j + 1, by omega, by omega, HS.out _ _ (by go_num), HG, HK2.out _ _⟩
           case measure =>
             rw [HJ.out.at, (HS.out _ _ (by go_num)).at]
             omega)
end Go.Proofs.YtdadagbkkaeejaaGreatDoor
