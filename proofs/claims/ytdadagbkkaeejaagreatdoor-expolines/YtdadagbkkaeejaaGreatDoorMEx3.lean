/- A cursor on a line: its end, blanks, names, pieces. -/
import Derived.Test.YtdadagbkkaeejaaGreatDoorMEx1
import Derived.Test.YtdadagbkkaeejaaGreatDoorML7
import Derived.Test.YtdadagbkkaeejaaGreatDoorMLc
import Derived.Deep.RegionHeld3
namespace Go.Proofs.YtdadagbkkaeejaaGreatDoor
open Go.RowKit Go.Maps

/-- The cursor in a block: its line and its place. -/
def Cur (w : World) (U : Nat) (s : ByteArray) (i : Nat) : Prop := w.heap[U]? = some (.cells #[.string s, .int .i64 i] 46)
theorem cellOf {w : World} {b i : Nat} {c : Array Value} {t : TypeId} {z : Nat × Nat} (h : w.heap[b]? = some (.cells c t z)) : w.cell? ⟨b, i, none⟩ = c[i]? := by simp [World.cell?, h]
theorem frozenOf {w : World} {b i : Nat} {c : Array Value} {e : TypeId} (h : w.heap[b]? = some (.cells c e)) : w.frozen? ⟨b, i, none⟩ = false := by simp [World.frozen?, h]
theorem setOf {w : World} {b i : Nat} {cs : Array Value} {t : TypeId} {fr : Nat × Nat} (h : w.heap[b]? = some (.cells cs t fr)) (v : Value) : (w.setCell ⟨b, i, none⟩ v).heap[b]? = some (.cells (cs.setIfInBounds i v) t fr) := by
  simp only [World.setCell, Array.getElem?_modify, h, if_true]
  rfl
theorem Cur.c0 {w : World} {U : Nat} {s : ByteArray} {i : Nat} (h : Cur w U s i) : w.cell? ⟨U, 0, none⟩ = some (.string s) := by
  rw [cellOf h]; rfl
theorem Cur.c1 {w : World} {U : Nat} {s : ByteArray} {i : Nat} (h : Cur w U s i) : w.cell? ⟨U, 1, none⟩ = some (.int .i64 i) := by
  rw [cellOf h]; rfl
theorem Cur.f1 {w : World} {U : Nat} {s : ByteArray} {i : Nat} (h : Cur w U s i) : w.frozen? ⟨U, 1, none⟩ = false := frozenOf h
theorem Cur.drewN {w : World} {U : Nat} {s : ByteArray} {i : Nat} (h : Cur w U s i) (q : Nat) : Cur (w.drewN q) U s i := h
theorem Cur.set {w : World} {U : Nat} {s : ByteArray} {i : Nat} (h : Cur w U s i) (j : Nat) {v : Value} (hv : v = .int .i64 j) : Cur (w.setCell ⟨U, 1, none⟩ v) U s j := by
  subst hv
  unfold Cur
  rw [setOf h]
  rfl
/-- Where the cursor of a block stands. -/
def curAt (w : World) (U : Nat) : Nat := (intOf ((w.cell? ⟨U, 1, none⟩).getD (.int .i64 0))).toNat
theorem Cur.at {w : World} {U : Nat} {s : ByteArray} {i : Nat} (h : Cur w U s i) : curAt w U = i := by
  unfold curAt
  rw [h.c1]
  simp [intOf]
theorem byteAt (s : ByteArray) (k : Nat) (h : k < s.size) : s.data.toList[k]'(by simpa using h) = s[k] := by
  rw [Array.getElem_toList]
  rfl
theorem Kept.cur {O : Nat → Prop} {w w' : World} (h : Kept O w w') {U : Nat} {s : ByteArray} {i : Nat} (hc : Cur w U s i) (hU : ¬ O U) : Cur w' U s i := h.heap hc hU

theorem ret_bo {a b : Bool} (h : a = b) : Ending.returned (.bool a) = .returned (.bool b) := by rw [h]
theorem ret_st {a b : ByteArray} (h : a = b) : Ending.returned (.string a) = .returned (.string b) := by rw [h]
theorem u8_eq {c d : UInt8} : ((c.toNat : Int) == (d.toNat : Int)) = (c == d) := by
  rw [Bool.eq_iff_iff, beq_iff_eq, beq_iff_eq, ← UInt8.toNat_inj]
  omega
theorem isBlank_any (c : UInt8) (w : World) : Calls Tryz.prog 37 #[.int .u8 c.toNat] w fun e w' => e = .returned (.bool (blB c)) ∧ w' = w := by
  have e1 : ((c.toNat : Int) == 32) = (c == 32) := u8_eq (d := 32)
  have e2 : ((c.toNat : Int) == 9) = (c == 9) := u8_eq (d := 9)
  unfold blB
  rw [← e1, ← e2]
  generalize (c.toNat : Int) = b
  clear e1 e2
  cases h1 : (b == 32)
  · cases h2 : (b == 9)
    all_goals
      go_enter Tryz.func37, Tryz.ntmps37
      go_wp2
      go_ret
      exact ⟨rfl, rfl⟩
  · go_enter Tryz.func37, Tryz.ntmps37
    go_wp2
    go_ret
    exact ⟨rfl, rfl⟩
theorem isDigit_any (c : UInt8) (w : World) : Calls Tryz.prog 39 #[.int .u8 c.toNat] w fun e w' => e = .returned (.bool (digB c)) ∧ w' = w := by
  have e1 : digB c = (decide (48 ≤ (c.toNat : Int)) && decide ((c.toNat : Int) ≤ 57)) := by
    unfold digB
    rw [show decide (48 ≤ (c.toNat : Int)) = decide (48 ≤ c) from decide_eq_decide.2 (by rw [UInt8.le_iff_toNat_le]; simp; omega), show decide ((c.toNat : Int) ≤ 57) = decide (c ≤ 57) from decide_eq_decide.2 (by rw [UInt8.le_iff_toNat_le]; simp; omega)]
  rw [e1]
  generalize (c.toNat : Int) = b
  clear e1
  by_cases h1 : 48 ≤ b
  · by_cases h2 : b ≤ 57
    all_goals
      go_enter Tryz.func39, Tryz.ntmps39
      go_wp2
      go_ret
      exact ⟨ret_bo (by simp [h1, h2] <;> omega), rfl⟩
  · go_enter Tryz.func39, Tryz.ntmps39
    go_wp2
    go_ret
    exact ⟨ret_bo (by simp <;> omega), rfl⟩
theorem isLetter_any (c : UInt8) (w : World) : Calls Tryz.prog 38 #[.int .u8 c.toNat] w fun e w' => e = .returned (.bool (letB c)) ∧ w' = w := by
  have e1 : letB c = ((decide (97 ≤ (c.toNat : Int)) && decide ((c.toNat : Int) ≤ 122)) || (decide (65 ≤ (c.toNat : Int)) && decide ((c.toNat : Int) ≤ 90)) || ((c.toNat : Int) == 95)) := by
    unfold letB
    rw [show decide (97 ≤ (c.toNat : Int)) = decide (97 ≤ c) from decide_eq_decide.2 (by rw [UInt8.le_iff_toNat_le]; simp; omega), show decide ((c.toNat : Int) ≤ 122) = decide (c ≤ 122) from decide_eq_decide.2 (by rw [UInt8.le_iff_toNat_le]; simp; omega), show decide (65 ≤ (c.toNat : Int)) = decide (65 ≤ c) from decide_eq_decide.2 (by rw [UInt8.le_iff_toNat_le]; simp; omega), show decide ((c.toNat : Int) ≤ 90) = decide (c ≤ 90) from decide_eq_decide.2 (by rw [UInt8.le_iff_toNat_le]; simp; omega), show ((c.toNat : Int) == 95) = (c == 95) from u8_eq (d := 95)]
  rw [e1]
  generalize (c.toNat : Int) = b
  clear e1
  cases h5 : (b == 95)
  all_goals
    by_cases h1 : 97 ≤ b
    · by_cases h2 : b ≤ 122
      · go_enter Tryz.func38, Tryz.ntmps38
        go_wp2
        go_ret
        exact ⟨ret_bo (by simp [h1, h2] <;> omega), rfl⟩
      · by_cases h3 : 65 ≤ b
        · by_cases h4 : b ≤ 90
          all_goals
            go_enter Tryz.func38, Tryz.ntmps38
            go_wp2
            go_ret
            exact ⟨ret_bo (by simp [h2, h4] <;> omega), rfl⟩
        · omega
    · by_cases h3 : 65 ≤ b
      · by_cases h4 : b ≤ 90
        all_goals
          go_enter Tryz.func38, Tryz.ntmps38
          go_wp2
          go_ret
          exact ⟨ret_bo (by simp [h4] <;> omega), rfl⟩
      · go_enter Tryz.func38, Tryz.ntmps38
        go_wp2
        go_ret
        exact ⟨ret_bo (by simp <;> omega), rfl⟩

set_option maxRecDepth 100000 in
set_option maxHeartbeats 1000000 in
theorem ended_any (U : Nat) (s : ByteArray) (i : Nat) (w : World) (h : Cur w U s i) : Calls Tryz.prog 27 #[.pointer (some ⟨U, 0, none⟩)] w fun e w' => e = .returned (.bool (decide (i = s.size))) ∧ ∃ q, w' = w.drewN q := by
  have c0 := h.c0
  have c1 := h.c1
  clear h
  go_enter Tryz.func27, Tryz.ntmps27
  go_wp2
  go_quiet (fail)
  go_wp2
  go_ret
  exact ⟨ret_bo (by rw [Bool.eq_iff_iff]; simp; omega), _, rfl⟩

set_option maxRecDepth 100000 in
set_option maxHeartbeats 1000000 in
theorem take_any (U : Nat) (s : ByteArray) (i : Nat) (c : UInt8) (w : World) (h : Cur w U s i) (hi : i ≤ s.size) (hs : s.size ≤ 1000000000) : Calls Tryz.prog 24 #[.pointer (some ⟨U, 0, none⟩), .int .u8 c.toNat] w fun e w' => e = .returned (.bool (decide (s.data.toList[i]? = some c))) ∧ Cur w' U s (if s.data.toList[i]? = some c then i + 1 else i) ∧ Kept (fun k => k = U) w w' := by
  have HC : Hid (Cur w U s i) := h
  have HE : Hid (∀ W, (∃ q, W = w.drewN q) → Calls Tryz.prog 27 #[.pointer (some ⟨U, 0, none⟩)] W fun e w' => e = .returned (.bool (decide (i = s.size))) ∧ ∃ q, w' = W.drewN q) := fun W ⟨q, hq⟩ => ended_any U s i W (hq ▸ h)
  have c0 := h.c0
  have c1 := h.c1
  have f1 := h.f1
  clear h
  by_cases he : i = s.size
  · have h9 : ¬ s.data.toList[i]? = some c := by rw [List.getElem?_eq_none (by simp; omega)]; simp
    have hde : decide (i = s.size) = true := decide_eq_true he
    rw [hde] at HE
    rw [if_neg h9, decide_eq_false h9]
    clear h9 hde
    go_enter Tryz.func24, Tryz.ntmps24
    go_wp2
    go_quiet (first | (go_at_call 27; exact Calls.quiet_of (HE.out _ ⟨_, rfl⟩)))
    go_wp2
    go_ret
    exact ⟨rfl, HC.out.drewN _, (Kept.refl _ _).drewN _⟩
  · have hlt : i < s.size := by omega
    have hde : decide (i = s.size) = false := decide_eq_false he
    rw [hde] at HE
    have hb := byteAt s i hlt
    have h9 : s.data.toList[i]? = some s[i] := by rw [List.getElem?_eq_getElem (by simpa using hlt), hb]
    have hq : (((s[i].toNat : Nat) : Int) == (c.toNat : Int)) = (s[i] == c) := u8_eq
    have hbl : s[i].toNat < 256 := s[i].toNat_lt
    rw [h9]
    by_cases hc : s[i] = c
    · rw [if_pos (by rw [hc]), decide_eq_true (by rw [hc])]
      rw [show (s[i] == c) = true from by rw [hc]; simp] at hq
      clear h9 hde hb hc
      go_enter Tryz.func24, Tryz.ntmps24
      go_wp2
      go_quiet (first | (go_at_call 27; exact Calls.quiet_of (HE.out _ ⟨_, rfl⟩)))
      go_wp2
      go_ret
      exact ⟨rfl, (HC.out.drewN _).set (i + 1) (by go_num), ((Kept.refl (fun k => k = U) w).drewN _).setCell (p := ⟨U, 1, none⟩) (fun _ => rfl) _⟩
    · rw [if_neg (fun e => hc (Option.some.inj e)), decide_eq_false (fun e => hc (Option.some.inj e))]
      rw [show (s[i] == c) = false from by simpa using hc] at hq
      clear h9 hde hb hc
      go_enter Tryz.func24, Tryz.ntmps24
      go_wp2
      go_quiet (first | (go_at_call 27; exact Calls.quiet_of (HE.out _ ⟨_, rfl⟩)))
      go_wp2
      go_ret
      exact ⟨rfl, HC.out.drewN _, (Kept.refl _ _).drewN _⟩
end Go.Proofs.YtdadagbkkaeejaaGreatDoor
