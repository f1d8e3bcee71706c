/- A cursor on a line: what stands in quotes. -/
import Derived.Test.YtfckdleahljdeaaGreatDoorMGk
import Derived.Test.YtfckdleahljdeaaGreatDoorMDr
namespace Go.Proofs.YtfckdleahljdeaaGreatDoor
open Go.RowKit Go.Maps

theorem quot_end {s : ByteArray} {j : Nat} (acc : List UInt8) (h : j = s.size) : quotP (s.data.toList.drop j) j acc = .inl j := by
  rw [List.drop_eq_nil_of_le (by simp; omega)]
  rfl
theorem drop_at (s : ByteArray) (j : Nat) (h : j < s.size) : s.data.toList.drop j = s[j] :: s.data.toList.drop (j + 1) := by
  rw [List.drop_eq_getElem_cons (by simpa using h), byteAt s j h]
theorem quot_close {s : ByteArray} {j : Nat} (acc : List UInt8) (h : j < s.size) (hc : s[j] = 34) : quotP (s.data.toList.drop j) j acc = .inr (acc, j + 1) := by
  rw [drop_at s j h, quotP.eq_def]
  dsimp only
  rw [if_pos hc]
theorem quot_byte {s : ByteArray} {j : Nat} (acc : List UInt8) (h : j < s.size) (h1 : s[j] ≠ 34) (h2 : s[j] ≠ 92) : quotP (s.data.toList.drop (j + 1)) (j + 1) (acc ++ [s[j]]) = quotP (s.data.toList.drop j) j acc := by
  rw [drop_at s j h]
  conv => rhs; rw [quotP.eq_def]
  dsimp only
  rw [if_neg h1, if_neg h2]
theorem quot_bs {s : ByteArray} {j : Nat} (acc : List UInt8) (h : j < s.size) (h1 : s[j] = 92) (h2 : j + 1 = s.size) : quotP (s.data.toList.drop j) j acc = .inl (j + 1) := by
  rw [drop_at s j h, List.drop_eq_nil_of_le (by simp; omega), quotP.eq_def]
  dsimp only
  rw [if_neg (by rw [h1]; decide), if_pos h1]
theorem quot_esc {s : ByteArray} {j : Nat} {d : UInt8} (acc : List UInt8) (h : j < s.size) (h1 : s[j] = 92) (h2 : j + 1 < s.size) (hd : escF s[j + 1] = some d) : quotP (s.data.toList.drop (j + 2)) (j + 2) (acc ++ [d]) = quotP (s.data.toList.drop j) j acc := by
  rw [drop_at s j h, drop_at s (j + 1) h2]
  conv => rhs; rw [quotP.eq_def]
  dsimp only
  rw [if_neg (by rw [h1]; decide), if_pos h1]
  unfold escF at hd
  split at hd
  · rename_i h3
    rw [if_pos h3]
    cases hd
    rfl
  · rename_i h3
    rw [if_neg h3]
    split at hd
    · rename_i h4
      rw [if_pos h4]
      cases hd
      rfl
    · cases hd
theorem quot_bad {s : ByteArray} {j : Nat} (acc : List UInt8) (h : j < s.size) (h1 : s[j] = 92) (h2 : j + 1 < s.size) (hd : escF s[j + 1] = none) : quotP (s.data.toList.drop j) j acc = .inl (j + 1) := by
  rw [drop_at s j h, drop_at s (j + 1) h2, quotP.eq_def]
  dsimp only
  rw [if_neg (by rw [h1]; decide), if_pos h1]
  unfold escF at hd
  split at hd
  · cases hd
  · rename_i h3
    rw [if_neg h3]
    split at hd
    · cases hd
    · rename_i h4
      rw [if_neg h4]

theorem Kept.belowB {O : Nat → Prop} {a b c : World} {B : Nat} (h : Kept O a b) (g : Below B b c) (hB : a.heap.size ≤ B) : Kept O a c :=
  ⟨g.os.trans h.os, g.tape.trans h.tape, g.output.trans h.output, Nat.le_trans h.size g.size, fun i hi hn => (g.block i (Nat.lt_of_lt_of_le hi hB)).trans (h.block i hi hn)⟩
theorem Cur.below {w w' : World} {B U : Nat} {s : ByteArray} {i : Nat} (h : Cur w U s i) (hb : Below B w w') (hU : U < B) : Cur w' U s i := (hb.block U hU).trans h
theorem Cur.lt {w : World} {U : Nat} {s : ByteArray} {i : Nat} (h : Cur w U s i) : U < w.heap.size := (Array.getElem?_eq_some_iff.1 h).1
/-- A Builder above a cursor stands while that moves. -/
theorem bdKept {B b U : Nat} {bs : List UInt8} {W W' : World} (h : Nu.Bd B b bs W) (hk : Kept (fun k => k = U) W W') (hU : U < B) : Nu.Bd B b bs W' := by
  have key : ∀ p, Lib.BuilderAtF 67 5 B b p (Lib.byteCells bs) W → Lib.BuilderAtF 67 5 B b p (Lib.byteCells bs) W' := fun p hp => by
    obtain ⟨h1, v, h2, h3, h4⟩ := hp
    refine ⟨h1, v, hk.heap h2 (by omega), ⟨h3.1, ?_⟩, h4⟩
    rcases h3.2 with h5 | ⟨g, cap, cur, fz, e1, e2, e3, e4⟩
    · exact Or.inl h5
    · exact Or.inr ⟨g, cap, cur, fz, e1, e2, hk.heap e3 (by omega), e4⟩
  exact h.elim (fun x => Or.inl (key _ x)) (fun x => Or.inr (key _ x))

set_option maxRecDepth 100000 in
set_option maxHeartbeats 1000000 in
theorem quoted_no (U : Nat) (s : ByteArray) (i : Nat) (w : World) (h : Cur w U s i) (hi : i ≤ s.size) (hs : s.size ≤ 1000000000) (hc : s.data.toList[i]? ≠ some 34) : Calls Tryz.prog 55 #[.pointer (some ⟨U, 0, none⟩)] w fun e w' => e = .returned (.tuple #[.string ⟨#[]⟩, .int .i64 8]) ∧ Cur w' U s i ∧ Kept (fun k => k = U) w w' := by
  have hT : Calls Tryz.prog 19 #[.pointer (some ⟨U, 0, none⟩), .int .u8 34] w fun e w' => e = .returned (.bool false) ∧ Cur w' U s i ∧ Kept (fun k => k = U) w w' := by
    have := take_any U s i 34 w h hi hs
    rw [decide_eq_false hc, if_neg hc] at this
    exact this
  clear h
  go_enter Tryz.func55, Tryz.ntmps55
  go_wp2_with (go_at_call 19; refine hT.mono ?_; clear hT; rintro e w1 ⟨rfl, hc1, hk1⟩)
  go_ret2
  exact ⟨rfl, hc1, hk1⟩

/-- What is answered behind an opening quote. -/
def quoE (R : Nat ⊕ (List UInt8 × Nat)) : Ending := match R with
  | .inl _ => .returned (.tuple #[.string ⟨#[]⟩, .int .i64 8])
  | .inr (v, _) => .returned (.tuple #[.string ⟨v.toArray⟩, .int .i64 0])
def quoA (R : Nat ⊕ (List UInt8 × Nat)) : Nat := match R with
  | .inl p => p
  | .inr (_, p) => p
set_option maxRecDepth 100000 in
set_option maxHeartbeats 4000000 in
theorem quoted_any (U : Nat) (s : ByteArray) (i : Nat) (w : World) (h : Cur w U s i) (hs : s.size ≤ 1000000000) (hc : s.data.toList[i]? = some 34) : Calls Tryz.prog 55 #[.pointer (some ⟨U, 0, none⟩)] w fun e w' => e = quoE (quotP (s.data.toList.drop (i + 1)) (i + 1) []) ∧ Cur w' U s (quoA (quotP (s.data.toList.drop (i + 1)) (i + 1) [])) ∧ Kept (fun k => k = U) w w' := by
  have hi := some_lt hc
  have hT : Calls Tryz.prog 19 #[.pointer (some ⟨U, 0, none⟩), .int .u8 34] w fun e w' => e = .returned (.bool true) ∧ Cur w' U s (i + 1) ∧ Kept (fun k => k = U) w w' := by
    have := take_any U s i 34 w h (by omega) hs
    rw [decide_eq_true hc, if_pos hc] at this
    exact this
  clear h hc
  obtain ⟨R, hR⟩ : ∃ R, R = quotP (s.data.toList.drop (i + 1)) (i + 1) [] := ⟨_, rfl⟩
  rw [← hR]
  have HR : Hid (quotP (s.data.toList.drop (i + 1)) (i + 1) [] = R) := hR.symm
  clear hR
  go_enter Tryz.func55, Tryz.ntmps55
  go_wp2_with (go_at_call 19; refine hT.mono ?_; clear hT; rintro e w1 ⟨rfl, hc1, hk1⟩; have HC1 : Hid (Cur w1 U s (i + 1)) := hc1; have HK1 : Hid (Kept (fun k => k = U) w w1) := hk1; clear hc1 hk1)
  have HU : Hid (U < w1.heap.size) := HC1.out.lt
  have HB1 : Hid (Nu.Bd w1.heap.size w1.heap.size [] (w1.alloc (.cells #[.pointer none, .slice none 0 0] 67 (0, 0)))) := Nu.Bd.fresh w1
  have HC2 : Hid (Cur (w1.alloc (.cells #[.pointer none, .slice none 0 0] 67 (0, 0))) U s (i + 1)) := HC1.out.below ((Below.refl _ _).alloc (Nat.le_refl _) _) HU.out
  have HK2 : Hid (Kept (fun k => k = U) w (w1.alloc (.cells #[.pointer none, .slice none 0 0] 67 (0, 0)))) := HK1.out.alloc _
  have HS1 : Hid (w.heap.size ≤ w1.heap.size) := HK1.out.size
  have HS2 : Hid (w1.heap.size ≤ (w1.alloc (.cells #[.pointer none, .slice none 0 0] 67 (0, 0))).heap.size) := by show _ ≤ _; simp
  clear HC1 HK1
  generalize w1.alloc (.cells #[.pointer none, .slice none 0 0] 67 (0, 0)) = w2 at *
  generalize w1.heap.size = B at *
  go_wp2
  go_loopw [] (fun wr => ∃ (j : Nat) (acc : List UInt8), j ≤ s.size ∧ acc.length ≤ j ∧ Hid (Cur wr U s j) ∧ Hid (Nu.Bd B B acc wr) ∧ Hid (quotP (s.data.toList.drop j) j acc = R) ∧ Hid (Kept (fun k => k = U) w wr) ∧ Hid (B ≤ wr.heap.size)) (fun wr => s.size - curAt wr U)
  case atStart => exact ⟨i + 1, [], by omega, Nat.zero_le _, HC2, HB1, HR, HK2, HS2⟩
  case round =>
    clear HC2 HB1 HR HK2 HS2
    obtain ⟨j, acc, hj, hacc, HC, HB, HR, HK, HS⟩ := hrel
    have hE := ended_any U s j wr HC.out
    by_cases he : j = s.size
    · rw [decide_eq_true he] at hE
      have hR := quot_end acc he
      rw [HR.out] at hR
      subst hR
      clear he
      go_wp2_with (go_at_call 22; refine hE.mono ?_; clear hE; rintro e w3 ⟨rfl, q, rfl⟩)
      go_ret2
      exact ⟨rfl, HC.out.drewN _, HK.out.drewN _⟩
    · have hlt : j < s.size := by omega
      rw [decide_eq_false he] at hE
      clear he
      have hat : s.data.toList[j]? = some s[j] := by rw [List.getElem?_eq_getElem (by simpa using hlt), byteAt s j hlt]
      have HT : Hid (∀ W, Cur W U s j → ∀ c : UInt8, Calls Tryz.prog 19 #[.pointer (some ⟨U, 0, none⟩), .int .u8 c.toNat] W fun e w' => e = .returned (.bool (decide (s.data.toList[j]? = some c))) ∧ Cur w' U s (if s.data.toList[j]? = some c then j + 1 else j) ∧ Kept (fun k => k = U) W w') := fun W hW c => take_any U s j c W hW hj hs
      by_cases h34 : s[j] = 34
      · have hR := quot_close acc hlt h34
        rw [HR.out] at hR
        subst hR
        have hq : s.data.toList[j]? = some 34 := by rw [hat, h34]
        have HT1 : Hid (∀ W, Cur W U s j → Calls Tryz.prog 19 #[.pointer (some ⟨U, 0, none⟩), .int .u8 34] W fun e w' => e = .returned (.bool true) ∧ Cur w' U s (j + 1) ∧ Kept (fun k => k = U) W w') := fun W hW => by
          have := HT.out W hW 34
          rw [decide_eq_true hq, if_pos hq] at this
          exact this
        clear HT hq hat h34
        go_wp2_with (first
          | (go_at_call 22; refine hE.mono ?_; clear hE; rintro e w3 ⟨rfl, q, rfl⟩)
          | (go_at_call 19; refine (HT1.out _ (HC.out.drewN _)).mono ?_; clear HT1; rintro e w4 ⟨rfl, hc4, hk4⟩; have HC4 : Hid (Cur w4 U s (j + 1)) := hc4; have HB4 : Hid (Nu.Bd B B acc w4) := bdKept (bdKept HB.out ((Kept.refl _ _).drewN q) HU.out) hk4 HU.out; have HK4 : Hid (Kept (fun k => k = U) w w4) := (HK.out.drewN q).trans hk4 (fun _ _ h => h); have HS4 : Hid (B ≤ w4.heap.size) := Nat.le_trans HS.out hk4.size; clear hc4 hk4)
          | (go_at_call 32; refine (Any.Builder_String_any_k Tryz.lays169 Tryz.Builder_Extra_169 _ _ _ _ HB4.out HS4.out).mono ?_; rintro e w5 ⟨rfl, hB5, hk5, hk6⟩; have HK5 : Hid (Kept (fun k => k = U) w w5) := HK4.out.belowB hk5 HS1.out; have HC5 : Hid (Cur w5 U s (j + 1)) := HC4.out.below hk5 HU.out; clear hB5 hk5 hk6))
        go_ret2
        exact ⟨rfl, HC5.out, HK5.out⟩
      · have hq : ¬ s.data.toList[j]? = some 34 := by rw [hat]; intro e; exact h34 (Option.some.inj e)
        by_cases h92 : s[j] = 92
        · have hq2 : s.data.toList[j]? = some 92 := by rw [hat, h92]
          have HT1 : Hid (∀ W, Cur W U s j → Calls Tryz.prog 19 #[.pointer (some ⟨U, 0, none⟩), .int .u8 34] W fun e w' => e = .returned (.bool false) ∧ Cur w' U s j ∧ Kept (fun k => k = U) W w') := fun W hW => by
            have := HT.out W hW 34
            rw [decide_eq_false hq, if_neg hq] at this
            exact this
          have HT2 : Hid (∀ W, Cur W U s j → Calls Tryz.prog 19 #[.pointer (some ⟨U, 0, none⟩), .int .u8 92] W fun e w' => e = .returned (.bool true) ∧ Cur w' U s (j + 1) ∧ Kept (fun k => k = U) W w') := fun W hW => by
            have := HT.out W hW 92
            rw [decide_eq_true hq2, if_pos hq2] at this
            exact this
          clear HT hq hq2 hat h34
          have hbl : s[j].toNat < 256 := s[j].toNat_lt
          by_cases hn : j + 1 = s.size
          · have hR := quot_bs acc hlt h92 hn
            rw [HR.out] at hR
            subst hR
            have HX : Hid (∀ W, Cur W U s (j + 1) → Calls Tryz.prog 84 #[.pointer (some ⟨U, 0, none⟩)] W fun e w' => e = .returned (.tuple #[.int .u8 0, .bool false]) ∧ ∃ q, w' = W.drewN q) := fun W hW => escaped_end U s (j + 1) W hW hn
            clear h92 hn
            go_wp2_with (first | (go_at_call 22; refine hE.mono ?_; clear hE; rintro e w3 ⟨rfl, q, rfl⟩) | (go_at_call 19; refine (HT1.out _ (HC.out.drewN _)).mono ?_; clear HT1; rintro e w4 ⟨rfl, hc4, hk4⟩; have HC4 : Hid (Cur w4 U s j) := hc4; have HB4 : Hid (Nu.Bd B B acc w4) := bdKept (bdKept HB.out ((Kept.refl _ _).drewN q) HU.out) hk4 HU.out; have HK4 : Hid (Kept (fun k => k = U) w w4) := (HK.out.drewN q).trans hk4 (fun _ _ h => h); have HS4 : Hid (B ≤ w4.heap.size) := Nat.le_trans HS.out hk4.size; have d0 := HC4.out.c0; have d1 := HC4.out.c1; clear hc4 hk4))
            go_quiet (fail)
            go_wp2_with (first
              | (go_at_call 19; refine (HT2.out _ (HC4.out.drewN _)).mono ?_; clear HT2; rintro e w5 ⟨rfl, hc5, hk5⟩; have HC5 : Hid (Cur w5 U s (j + 1)) := hc5; have HK5 : Hid (Kept (fun k => k = U) w w5) := (HK4.out.drewN _).trans hk5 (fun _ _ h => h); clear hc5 hk5)
              | (go_at_call 84; refine (HX.out _ HC5.out).mono ?_; clear HX; rintro e w6 ⟨rfl, q6, rfl⟩))
            go_ret2
            exact ⟨rfl, HC5.out.drewN _, HK5.out.drewN _⟩
          · have hn2 : j + 1 < s.size := by omega
            cases hx : escF s[j + 1] with
            | none =>
              have hR := quot_bad acc hlt h92 hn2 hx
              rw [HR.out] at hR
              subst hR
              have HX : Hid (∀ W, Cur W U s (j + 1) → Calls Tryz.prog 84 #[.pointer (some ⟨U, 0, none⟩)] W fun e w' => e = .returned (.tuple #[.int .u8 0, .bool false]) ∧ ∃ q, w' = W.drewN q) := fun W hW => by
                have := escaped_one U s (j + 1) W hW hn2
                rw [hx] at this
                exact this
              clear h92 hn hx
              go_wp2_with (first | (go_at_call 22; refine hE.mono ?_; clear hE; rintro e w3 ⟨rfl, q, rfl⟩) | (go_at_call 19; refine (HT1.out _ (HC.out.drewN _)).mono ?_; clear HT1; rintro e w4 ⟨rfl, hc4, hk4⟩; have HC4 : Hid (Cur w4 U s j) := hc4; have HB4 : Hid (Nu.Bd B B acc w4) := bdKept (bdKept HB.out ((Kept.refl _ _).drewN q) HU.out) hk4 HU.out; have HK4 : Hid (Kept (fun k => k = U) w w4) := (HK.out.drewN q).trans hk4 (fun _ _ h => h); have HS4 : Hid (B ≤ w4.heap.size) := Nat.le_trans HS.out hk4.size; have d0 := HC4.out.c0; have d1 := HC4.out.c1; clear hc4 hk4))
              go_quiet (fail)
              go_wp2_with (first
                | (go_at_call 19; refine (HT2.out _ (HC4.out.drewN _)).mono ?_; clear HT2; rintro e w5 ⟨rfl, hc5, hk5⟩; have HC5 : Hid (Cur w5 U s (j + 1)) := hc5; have HK5 : Hid (Kept (fun k => k = U) w w5) := (HK4.out.drewN _).trans hk5 (fun _ _ h => h); clear hc5 hk5)
                | (go_at_call 84; refine (HX.out _ HC5.out).mono ?_; clear HX; rintro e w6 ⟨rfl, q6, rfl⟩))
              go_ret2
              exact ⟨rfl, HC5.out.drewN _, HK5.out.drewN _⟩
            | some d =>
              have HR2 : Hid (quotP (s.data.toList.drop (j + 2)) (j + 2) (acc ++ [d]) = R) := (quot_esc acc hlt h92 hn2 hx).trans HR.out
              have HX : Hid (∀ W, Cur W U s (j + 1) → Calls Tryz.prog 84 #[.pointer (some ⟨U, 0, none⟩)] W fun e w' => e = .returned (.tuple #[.int .u8 d.toNat, .bool true]) ∧ ∃ q, w' = W.drewN q) := fun W hW => by
                have := escaped_one U s (j + 1) W hW hn2
                rw [hx] at this
                exact this
              have hdl : d.toNat < 256 := d.toNat_lt
              have HW : Hid (∀ W, Nu.Bd B B acc W → B ≤ W.heap.size → Calls Tryz.prog 30 #[.pointer (some ⟨B, 0, none⟩), .int .u8 d.toNat] W fun e w' => e = .returned .nilIface ∧ Nu.Bd B B (acc ++ [d]) w' ∧ Nu.BK B B W w') := fun W h1 h2 => Nu.wb_any B B acc d W h1 (by omega) h2
              clear h92 hn hx HR
              go_wp2_with (first | (go_at_call 22; refine hE.mono ?_; clear hE; rintro e w3 ⟨rfl, q, rfl⟩) | (go_at_call 19; refine (HT1.out _ (HC.out.drewN _)).mono ?_; clear HT1; rintro e w4 ⟨rfl, hc4, hk4⟩; have HC4 : Hid (Cur w4 U s j) := hc4; have HB4 : Hid (Nu.Bd B B acc w4) := bdKept (bdKept HB.out ((Kept.refl _ _).drewN q) HU.out) hk4 HU.out; have HK4 : Hid (Kept (fun k => k = U) w w4) := (HK.out.drewN q).trans hk4 (fun _ _ h => h); have HS4 : Hid (B ≤ w4.heap.size) := Nat.le_trans HS.out hk4.size; have d0 := HC4.out.c0; have d1 := HC4.out.c1; clear hc4 hk4))
              go_quiet (fail)
              go_wp2_with (first
                | (go_at_call 19; refine (HT2.out _ (HC4.out.drewN _)).mono ?_; clear HT2; rintro e w5 ⟨rfl, hc5, hk5⟩; have HC5 : Hid (Cur w5 U s (j + 1)) := hc5; have HK5 : Hid (Kept (fun k => k = U) w w5) := (HK4.out.drewN _).trans hk5 (fun _ _ h => h); have HB5 : Hid (Nu.Bd B B acc w5) := bdKept (bdKept HB4.out ((Kept.refl _ _).drewN _) HU.out) hk5 HU.out; have HS5 : Hid (B ≤ w5.heap.size) := Nat.le_trans HS4.out hk5.size; clear hc5 hk5)
                | (go_at_call 84; refine (HX.out _ HC5.out).mono ?_; clear HX; rintro e w6 ⟨rfl, q6, rfl⟩)
                | (go_at_call 30; refine (HW.out _ (bdKept HB5.out ((Kept.refl _ _).drewN _) HU.out) HS5.out).mono ?_; clear HW; rintro e w7 ⟨rfl, hb7, hk7⟩; have HC7 : Hid (Cur w7 U s (j + 1)) := (HC5.out.drewN _).below hk7.below HU.out; have HB7 : Hid (Nu.Bd B B (acc ++ [d]) w7) := hb7; have HK7 : Hid (Kept (fun k => k = U) w w7) := (HK5.out.drewN _).belowB hk7.below HS1.out; have HS7 : Hid (B ≤ w7.heap.size) := Nat.le_trans HS5.out hk7.below.size; have g1 := HC7.out.c1; have f1 := HC7.out.f1; clear hb7 hk7))
              have HC8 : Hid (∀ v, v = Value.int .i64 ((j + 2 : Nat) : Int) → Cur (w7.setCell ⟨U, 1, none⟩ v) U s (j + 2)) := fun v hv => HC7.out.set (j + 2) hv
              have HK8 : Hid (∀ v, Kept (fun k => k = U) w7 (w7.setCell ⟨U, 1, none⟩ v)) := fun v => (Kept.refl (fun k => k = U) w7).setCell (p := ⟨U, 1, none⟩) (fun _ => rfl) _
              go_roundw
              case rel => exact ⟨j + 2, acc ++ [d], by omega, by simp; omega, HC8.out _ (by go_num), bdKept HB7.out (HK8.out _) HU.out, HR2, HK7.out.trans (HK8.out _) (fun _ _ h => h), Nat.le_trans HS7.out (HK8.out _).size⟩
              case measure =>
                rw [HC.out.at, (HC8.out _ (by go_num)).at]
                omega
        · have hbl : s[j].toNat < 256 := s[j].toNat_lt
          have hq2 : ¬ s.data.toList[j]? = some 92 := by rw [hat]; intro e; exact h92 (Option.some.inj e)
          have HT1 : Hid (∀ W, Cur W U s j → Calls Tryz.prog 19 #[.pointer (some ⟨U, 0, none⟩), .int .u8 34] W fun e w' => e = .returned (.bool false) ∧ Cur w' U s j ∧ Kept (fun k => k = U) W w') := fun W hW => by
            have := HT.out W hW 34
            rw [decide_eq_false hq, if_neg hq] at this
            exact this
          have HT2 : Hid (∀ W, Cur W U s j → Calls Tryz.prog 19 #[.pointer (some ⟨U, 0, none⟩), .int .u8 92] W fun e w' => e = .returned (.bool false) ∧ Cur w' U s j ∧ Kept (fun k => k = U) W w') := fun W hW => by
            have := HT.out W hW 92
            rw [decide_eq_false hq2, if_neg hq2] at this
            exact this
          have HR2 : Hid (quotP (s.data.toList.drop (j + 1)) (j + 1) (acc ++ [s[j]]) = R) := (quot_byte acc hlt h34 h92).trans HR.out
          clear HT hq hq2 hat h34 h92 HR
          have HW : Hid (∀ W, Nu.Bd B B acc W → B ≤ W.heap.size → Calls Tryz.prog 30 #[.pointer (some ⟨B, 0, none⟩), .int .u8 s[j].toNat] W fun e w' => e = .returned .nilIface ∧ Nu.Bd B B (acc ++ [s[j]]) w' ∧ Nu.BK B B W w') := fun W h1 h2 => Nu.wb_any B B acc s[j] W h1 (by omega) h2
          go_wp2_with (first | (go_at_call 22; refine hE.mono ?_; clear hE; rintro e w3 ⟨rfl, q, rfl⟩) | (go_at_call 19; refine (HT1.out _ (HC.out.drewN _)).mono ?_; clear HT1; rintro e w4 ⟨rfl, hc4, hk4⟩; have HC4 : Hid (Cur w4 U s j) := hc4; have HB4 : Hid (Nu.Bd B B acc w4) := bdKept (bdKept HB.out ((Kept.refl _ _).drewN q) HU.out) hk4 HU.out; have HK4 : Hid (Kept (fun k => k = U) w w4) := (HK.out.drewN q).trans hk4 (fun _ _ h => h); have HS4 : Hid (B ≤ w4.heap.size) := Nat.le_trans HS.out hk4.size; have d0 := HC4.out.c0; have d1 := HC4.out.c1; clear hc4 hk4))
          go_quiet (fail)
          go_wp2_with (first
            | (go_at_call 19; refine (HT2.out _ (HC4.out.drewN _)).mono ?_; clear HT2; rintro e w5 ⟨rfl, hc5, hk5⟩; have HC5 : Hid (Cur w5 U s j) := hc5; have HK5 : Hid (Kept (fun k => k = U) w w5) := (HK4.out.drewN _).trans hk5 (fun _ _ h => h); have HB5 : Hid (Nu.Bd B B acc w5) := bdKept (bdKept HB4.out ((Kept.refl _ _).drewN _) HU.out) hk5 HU.out; have HS5 : Hid (B ≤ w5.heap.size) := Nat.le_trans HS4.out hk5.size; clear hc5 hk5)
            | (go_at_call 30; refine (HW.out _ HB5.out HS5.out).mono ?_; clear HW; rintro e w7 ⟨rfl, hb7, hk7⟩; have HC7 : Hid (Cur w7 U s j) := HC5.out.below hk7.below HU.out; have HB7 : Hid (Nu.Bd B B (acc ++ [s[j]]) w7) := hb7; have HK7 : Hid (Kept (fun k => k = U) w w7) := HK5.out.belowB hk7.below HS1.out; have HS7 : Hid (B ≤ w7.heap.size) := Nat.le_trans HS5.out hk7.below.size; have g1 := HC7.out.c1; have f1 := HC7.out.f1; clear hb7 hk7))
          have HC8 : Hid (∀ v, v = Value.int .i64 ((j + 1 : Nat) : Int) → Cur (w7.setCell ⟨U, 1, none⟩ v) U s (j + 1)) := fun v hv => HC7.out.set (j + 1) hv
          have HK8 : Hid (∀ v, Kept (fun k => k = U) w7 (w7.setCell ⟨U, 1, none⟩ v)) := fun v => (Kept.refl (fun k => k = U) w7).setCell (p := ⟨U, 1, none⟩) (fun _ => rfl) _
          go_roundw
          case rel => exact ⟨j + 1, acc ++ [s[j]], by omega, by simp; omega, HC8.out _ (by go_num), bdKept HB7.out (HK8.out _) HU.out, HR2, HK7.out.trans (HK8.out _) (fun _ _ h => h), Nat.le_trans HS7.out (HK8.out _).size⟩
          case measure =>
            rw [HC.out.at, (HC8.out _ (by go_num)).at]
            omega
end Go.Proofs.YtfckdleahljdeaaGreatDoor
