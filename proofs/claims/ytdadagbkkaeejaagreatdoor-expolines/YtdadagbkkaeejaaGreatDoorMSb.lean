/- Texts that belong together. -/
import Derived.Test.YtdadagbkkaeejaaGreatDoorSh
import Derived.Test.YtdadagbkkaeejaaGreatDoorMPp
import Derived.Test.YtdadagbkkaeejaaGreatDoorMEx4
import Derived.Test.YtdadagbkkaeejaaGreatDoorMGk
/- strings.Builder's contracts at this program: those of Sp. -/

/- A cursor on a line: what stands in quotes; values, times. -/
namespace Go.Proofs.YtdadagbkkaeejaaGreatDoor
open Go.RowKit Go.Maps

set_option maxRecDepth 100000 in
set_option maxHeartbeats 1000000 in
theorem escaped_end (U : Nat) (s : ByteArray) (i : Nat) (w : World) (h : Cur w U s i) (hi : i = s.size) : Calls Tryz.prog 67 #[.pointer (some ⟨U, 0, none⟩)] w fun e w' => e = .returned (.tuple #[.int .u8 0, .bool false]) ∧ ∃ q, w' = w.drewN q := by
  have hE := ended_any U s i w h
  rw [decide_eq_true hi] at hE
  clear h
  go_enter Tryz.func67, Tryz.ntmps67
  go_wp2_with (go_at_call 27; refine hE.mono ?_; clear hE; rintro e w1 ⟨rfl, q, rfl⟩)
  go_ret2
  exact ⟨rfl, _, rfl⟩
/-- What an escape stands for. -/
def escF (c : UInt8) : Option UInt8 := if c = 92 ∨ c = 34 then some c else if c = 110 then some 10 else none
set_option maxRecDepth 100000 in
set_option maxHeartbeats 1000000 in
theorem escaped_one (U : Nat) (s : ByteArray) (i : Nat) (w : World) (h : Cur w U s i) (hi : i < s.size) : Calls Tryz.prog 67 #[.pointer (some ⟨U, 0, none⟩)] w fun e w' => e = .returned (.tuple #[.int .u8 (((escF s[i]).getD 0).toNat : Int), .bool (escF s[i]).isSome]) ∧ ∃ q, w' = w.drewN q := by
  have hE := ended_any U s i w h
  rw [decide_eq_false (by omega)] at hE
  have c0 := h.c0
  have c1 := h.c1
  have hbl : s[i].toNat < 256 := s[i].toNat_lt
  have e1 : ((s[i].toNat : Int) == 92) = (s[i] == 92) := u8_eq (d := 92)
  have e2 : ((s[i].toNat : Int) == 34) = (s[i] == 34) := u8_eq (d := 34)
  have e3 : ((s[i].toNat : Int) == 110) = (s[i] == 110) := u8_eq (d := 110)
  clear h
  by_cases d1 : s[i] = 92
  · have hv : escF s[i] = some s[i] := by unfold escF; rw [if_pos (Or.inl d1)]
    rw [hv]
    rw [show (s[i] == 92) = true from by rw [d1]; rfl] at e1
    clear hv d1 e2 e3
    go_enter Tryz.func67, Tryz.ntmps67
    go_wp2_with (go_at_call 27; refine hE.mono ?_; clear hE; rintro e w1 ⟨rfl, q, rfl⟩)
    go_quiet (fail)
    go_wp2
    go_ret2
    exact ⟨rfl, _, rfl⟩
  · rw [show (s[i] == 92) = false from by simpa using d1] at e1
    by_cases d2 : s[i] = 34
    · have hv : escF s[i] = some s[i] := by unfold escF; rw [if_pos (Or.inr d2)]
      rw [hv]
      rw [show (s[i] == 34) = true from by rw [d2]; rfl] at e2
      clear hv d1 d2 e3
      go_enter Tryz.func67, Tryz.ntmps67
      go_wp2_with (go_at_call 27; refine hE.mono ?_; clear hE; rintro e w1 ⟨rfl, q, rfl⟩)
      go_quiet (fail)
      go_wp2
      go_ret2
      exact ⟨rfl, _, rfl⟩
    · rw [show (s[i] == 34) = false from by simpa using d2] at e2
      by_cases d3 : s[i] = 110
      · have hv : escF s[i] = some 10 := by unfold escF; rw [if_neg (fun h => h.elim d1 d2), if_pos d3]
        rw [hv]
        rw [show (s[i] == 110) = true from by rw [d3]; rfl] at e3
        clear hv d1 d2 d3
        go_enter Tryz.func67, Tryz.ntmps67
        go_wp2_with (go_at_call 27; refine hE.mono ?_; clear hE; rintro e w1 ⟨rfl, q, rfl⟩)
        go_quiet (fail)
        go_wp2
        go_ret2
        exact ⟨rfl, _, rfl⟩
      · have hv : escF s[i] = none := by unfold escF; rw [if_neg (fun h => h.elim d1 d2), if_neg d3]
        rw [hv]
        rw [show (s[i] == 110) = false from by simpa using d3] at e3
        clear hv d1 d2 d3
        go_enter Tryz.func67, Tryz.ntmps67
        go_wp2_with (go_at_call 27; refine hE.mono ?_; clear hE; rintro e w1 ⟨rfl, q, rfl⟩)
        go_quiet (fail)
        go_wp2
        go_ret2
        exact ⟨rfl, _, rfl⟩

set_option maxRecDepth 100000 in
set_option maxHeartbeats 1000000 in
theorem value_ok (U : Nat) (s : ByteArray) (i : Nat) (V : Nat) (w : World) (h : Cur w U s i) (hi : i ≤ s.size) (hs : s.size ≤ 1000000000) (hV : Nu.parseR (s.extract i (tokP s.data.toList i)) = (V, 0)) : Calls Tryz.prog 26 #[.pointer (some ⟨U, 0, none⟩)] w fun e w' => e = .returned (.tuple #[.float .f64 V, .int .i64 0]) ∧ Cur w' U s (tokP s.data.toList i) ∧ Kept (fun k => k = U) w w' := by
  have hP := piece_any U s i w h hi hs
  have hsz : (s.extract i (tokP s.data.toList i)).size ≤ maxLen := by
    rw [ByteArray.size_extract]
    unfold maxLen
    omega
  have HV : Hid (∀ W, Calls Tryz.prog 41 #[.string (s.extract i (tokP s.data.toList i))] W fun e w' => e = .returned (.tuple #[.float .f64 V, .int .i64 0]) ∧ Below W.heap.size W w') := fun W => by have := Nu.parse_any _ W hsz; rw [hV] at this; exact this
  have c1 := h.c1
  generalize tokP s.data.toList i = j at *
  clear h hsz hV
  generalize s.extract i j = t at *
  go_enter Tryz.func26, Tryz.ntmps26
  go_wp2_with (first
    | (go_at_call 42; refine hP.mono ?_; clear hP; rintro e w1 ⟨rfl, hc1, hk1⟩)
    | (go_at_call 41; refine (HV.out _).mono ?_; clear HV; rintro e w2 ⟨rfl, hb2⟩))
  go_ret2
  exact ⟨rfl, (hb2.block _ (Array.getElem?_eq_some_iff.1 hc1).1).trans hc1, hk1.below hb2⟩
set_option maxRecDepth 100000 in
set_option maxHeartbeats 1000000 in
theorem value_no (U : Nat) (s : ByteArray) (i : Nat) (w : World) (h : Cur w U s i) (hi : i ≤ s.size) (hs : s.size ≤ 1000000000) (hV : (Nu.parseR (s.extract i (tokP s.data.toList i))).2 ≠ 0) : Calls Tryz.prog 26 #[.pointer (some ⟨U, 0, none⟩)] w fun e w' => e = .returned (.tuple #[.float .f64 0, .int .i64 8]) ∧ Cur w' U s i ∧ Kept (fun k => k = U) w w' := by
  have hP := piece_any U s i w h hi hs
  have hsz : (s.extract i (tokP s.data.toList i)).size ≤ maxLen := by
    rw [ByteArray.size_extract]
    unfold maxLen
    omega
  have HV : Hid (∀ W, Calls Tryz.prog 41 #[.string (s.extract i (tokP s.data.toList i))] W fun e w' => e = .returned (.tuple #[.float .f64 (Nu.parseR (s.extract i (tokP s.data.toList i))).1, .int .i64 (Nu.parseR (s.extract i (tokP s.data.toList i))).2]) ∧ Below W.heap.size W w') := fun W => Nu.parse_any _ W hsz
  have c1 := h.c1
  generalize tokP s.data.toList i = j at *
  clear h hsz
  generalize s.extract i j = t at *
  generalize (Nu.parseR t).1 = V at *
  generalize (Nu.parseR t).2 = E at *
  have hE2 : (E == 0) = false := by simpa using hV
  clear hV
  go_enter Tryz.func26, Tryz.ntmps26
  go_wp2_with (first
    | (go_at_call 42; refine hP.mono ?_; clear hP; rintro e w1 ⟨rfl, hc1, hk1⟩)
    | (go_at_call 41; refine (HV.out _).mono ?_; clear HV; rintro e w2 ⟨rfl, hb2⟩; have HC : Hid (Cur w2 U s j) := (hb2.block _ (Array.getElem?_eq_some_iff.1 hc1).1).trans hc1; have d1 := HC.out.c1; have f1 := HC.out.f1))
  go_ret2
  exact ⟨rfl, HC.out.set i rfl, (hk1.below hb2).setCell (p := ⟨U, 1, none⟩) (fun _ => rfl) _⟩

set_option maxRecDepth 100000 in
set_option maxHeartbeats 1000000 in
theorem time_ok (U : Nat) (s : ByteArray) (i : Nat) (T : Int) (w : World) (h : Cur w U s i) (hi : i ≤ s.size) (hs : s.size ≤ 1000000000) (hU1 : ∀ W, Kept (fun k => k = U) w W → Nu.Pow W ∧ Nu.Errs W) (hV : Nu.intR (s.extract i (tokP s.data.toList i)) = (T, 0)) (h1 : -9007199254740992 ≤ T) (h2 : T ≤ 9007199254740992) : Calls Tryz.prog 28 #[.pointer (some ⟨U, 0, none⟩)] w fun e w' => e = .returned (.tuple #[.int .i64 T, .int .i64 0]) ∧ Cur w' U s (tokP s.data.toList i) ∧ Kept (fun k => k = U) w w' := by
  have hP := piece_any U s i w h hi hs
  have hsz : (s.extract i (tokP s.data.toList i)).size ≤ 140737488351232 := by
    rw [ByteArray.size_extract]
    omega
  have HV : Hid (∀ W, Kept (fun k => k = U) w W → Calls Tryz.prog 43 #[.string (s.extract i (tokP s.data.toList i))] W fun e w' => e = .returned (.tuple #[.int .i64 T, .int .i64 0]) ∧ Below W.heap.size W w') := fun W hW => by have := Nu.int_any _ W hsz (hU1 W hW).1 (hU1 W hW).2; rw [hV] at this; exact this
  have c1 := h.c1
  generalize tokP s.data.toList i = j at *
  clear h hsz hV hU1
  generalize s.extract i j = t at *
  go_enter Tryz.func28, Tryz.ntmps28
  go_wp2_with (first
    | (go_at_call 42; refine hP.mono ?_; clear hP; rintro e w1 ⟨rfl, hc1, hk1⟩)
    | (go_at_call 43; refine (HV.out _ hk1).mono ?_; clear HV; rintro e w2 ⟨rfl, hb2⟩))
  go_ret2
  exact ⟨rfl, (hb2.block _ (Array.getElem?_eq_some_iff.1 hc1).1).trans hc1, hk1.below hb2⟩
set_option maxRecDepth 100000 in
set_option maxHeartbeats 1000000 in
theorem time_no (U : Nat) (s : ByteArray) (i : Nat) (w : World) (h : Cur w U s i) (hi : i ≤ s.size) (hs : s.size ≤ 1000000000) (hU1 : ∀ W, Kept (fun k => k = U) w W → Nu.Pow W ∧ Nu.Errs W) (hV : (Nu.intR (s.extract i (tokP s.data.toList i))).2 ≠ 0 ∨ (Nu.intR (s.extract i (tokP s.data.toList i))).1 < -9007199254740992 ∨ 9007199254740992 < (Nu.intR (s.extract i (tokP s.data.toList i))).1) : Calls Tryz.prog 28 #[.pointer (some ⟨U, 0, none⟩)] w fun e w' => e = .returned (.tuple #[.int .i64 0, .int .i64 8]) ∧ Cur w' U s i ∧ Kept (fun k => k = U) w w' := by
  have hP := piece_any U s i w h hi hs
  have hsz : (s.extract i (tokP s.data.toList i)).size ≤ 140737488351232 := by
    rw [ByteArray.size_extract]
    omega
  have HV : Hid (∀ W, Kept (fun k => k = U) w W → Calls Tryz.prog 43 #[.string (s.extract i (tokP s.data.toList i))] W fun e w' => e = .returned (.tuple #[.int .i64 (Nu.intR (s.extract i (tokP s.data.toList i))).1, .int .i64 (Nu.intR (s.extract i (tokP s.data.toList i))).2]) ∧ Below W.heap.size W w') := fun W hW => Nu.int_any _ W hsz (hU1 W hW).1 (hU1 W hW).2
  have c1 := h.c1
  generalize tokP s.data.toList i = j at *
  clear h hsz hU1
  generalize s.extract i j = t at *
  generalize (Nu.intR t).1 = T at *
  generalize (Nu.intR t).2 = E at *
  by_cases hE : E = 0
  · subst hE
    have hT : T < -9007199254740992 ∨ 9007199254740992 < T := by omega
    clear hV
    rcases hT with hT | hT
    all_goals
      go_enter Tryz.func28, Tryz.ntmps28
      go_wp2_with (first
        | (go_at_call 42; refine hP.mono ?_; clear hP; rintro e w1 ⟨rfl, hc1, hk1⟩)
        | (go_at_call 43; refine (HV.out _ hk1).mono ?_; clear HV; rintro e w2 ⟨rfl, hb2⟩; have HC : Hid (Cur w2 U s j) := (hb2.block _ (Array.getElem?_eq_some_iff.1 hc1).1).trans hc1; have d1 := HC.out.c1; have f1 := HC.out.f1))
      go_ret2
      exact ⟨rfl, HC.out.set i rfl, (hk1.below hb2).setCell (p := ⟨U, 1, none⟩) (fun _ => rfl) _⟩
  · have hE2 : (E == 0) = false := by simpa using hE
    clear hV
    go_enter Tryz.func28, Tryz.ntmps28
    go_wp2_with (first
      | (go_at_call 42; refine hP.mono ?_; clear hP; rintro e w1 ⟨rfl, hc1, hk1⟩)
      | (go_at_call 43; refine (HV.out _ hk1).mono ?_; clear HV; rintro e w2 ⟨rfl, hb2⟩; have HC : Hid (Cur w2 U s j) := (hb2.block _ (Array.getElem?_eq_some_iff.1 hc1).1).trans hc1; have d1 := HC.out.c1; have f1 := HC.out.f1))
    go_ret2
    exact ⟨rfl, HC.out.set i rfl, (hk1.below hb2).setCell (p := ⟨U, 1, none⟩) (fun _ => rfl) _⟩
end Go.Proofs.YtdadagbkkaeejaaGreatDoor
