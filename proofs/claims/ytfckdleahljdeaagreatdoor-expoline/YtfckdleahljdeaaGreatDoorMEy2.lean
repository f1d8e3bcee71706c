/- A cursor on a line: the whole line, walked. -/
import Derived.Test.YtfckdleahljdeaaGreatDoorMEx9
import Derived.Deep.CutRange
namespace Go.Proofs.YtfckdleahljdeaaGreatDoor
open Go.RowKit Go.Maps
attribute [local go_sem] run_store_float

theorem ext_nil (s : ByteArray) (i : Nat) : s.extract i i = ⟨#[]⟩ := by
  have h : (s.extract i i).size = 0 := by rw [ByteArray.size_extract]; omega
  have h2 : (s.extract i i).data.size = 0 := h
  have h3 : (s.extract i i).data = #[] := Array.size_eq_zero_iff.1 h2
  cases hx : s.extract i i with
  | mk d => rw [hx] at h3; simp only at h3; rw [h3]
/-- The line's box behind setOf, and the cursor. -/
theorem SmS.fin {w W : World} {U : Nat} {s : ByteArray} {x0 : Lb} {j V : Nat} {T : Int} {h : Bool} {r : Option (Value × List Lb)} (H : SmS w U s x0 W j V T h r) (hU : U < w.heap.size) (v a b c d : Value) :
    Kept (fun k => k = w.heap.size) W (((((W.setCell ⟨w.heap.size, 0, none⟩ v).setCell ⟨w.heap.size, 0, none⟩ a).setCell ⟨w.heap.size, 1, none⟩ b).setCell ⟨w.heap.size, 2, none⟩ c).setCell ⟨w.heap.size, 3, none⟩ d) ∧ (((((W.setCell ⟨w.heap.size, 0, none⟩ v).setCell ⟨w.heap.size, 0, none⟩ a).setCell ⟨w.heap.size, 1, none⟩ b).setCell ⟨w.heap.size, 2, none⟩ c).setCell ⟨w.heap.size, 3, none⟩ d).heap[w.heap.size]? = some (.cells #[a, b, c, d] 28 (0, 0)) ∧ Cur (((((W.setCell ⟨w.heap.size, 0, none⟩ v).setCell ⟨w.heap.size, 0, none⟩ a).setCell ⟨w.heap.size, 1, none⟩ b).setCell ⟨w.heap.size, 2, none⟩ c).setCell ⟨w.heap.size, 3, none⟩ d) U s j ∧ Kept (fun k => k = U) w (((((W.setCell ⟨w.heap.size, 0, none⟩ v).setCell ⟨w.heap.size, 0, none⟩ a).setCell ⟨w.heap.size, 1, none⟩ b).setCell ⟨w.heap.size, 2, none⟩ c).setCell ⟨w.heap.size, 3, none⟩ d) := by
  have k4 : Kept (fun k => k = w.heap.size) W (((((W.setCell ⟨w.heap.size, 0, none⟩ v).setCell ⟨w.heap.size, 0, none⟩ a).setCell ⟨w.heap.size, 1, none⟩ b).setCell ⟨w.heap.size, 2, none⟩ c).setCell ⟨w.heap.size, 3, none⟩ d) := (((((Kept.refl (fun k => k = w.heap.size) W).setCell (p := ⟨w.heap.size, 0, none⟩) (fun _ => rfl) v).setCell (p := ⟨w.heap.size, 0, none⟩) (fun _ => rfl) a).setCell (p := ⟨w.heap.size, 1, none⟩) (fun _ => rfl) b).setCell (p := ⟨w.heap.size, 2, none⟩) (fun _ => rfl) c).setCell (p := ⟨w.heap.size, 3, none⟩) (fun _ => rfl) d
  exact ⟨k4, setOf (setOf (setOf (setOf (setOf H.box _) _) _) _) _, k4.heap H.cur (by omega), H.kept.trans k4 (fun i hi e => by omega)⟩
/-- The same where the place is told as 0. -/
theorem SmS.fin0 {w W : World} {U : Nat} {s : ByteArray} {x0 : Lb} {j V : Nat} {T : Int} {h : Bool} {r : Option (Value × List Lb)} (H : SmS w U s x0 W j V T h r) (hU : U < w.heap.size) (v a b c d : Value) :
    ((((((W.setCell ⟨w.heap.size, 0, none⟩ v).setCell ⟨U, 1, none⟩ (.int .i64 0)).setCell ⟨w.heap.size, 0, none⟩ a).setCell ⟨w.heap.size, 1, none⟩ b).setCell ⟨w.heap.size, 2, none⟩ c).setCell ⟨w.heap.size, 3, none⟩ d).heap[w.heap.size]? = some (.cells #[a, b, c, d] 28 (0, 0)) ∧ Cur ((((((W.setCell ⟨w.heap.size, 0, none⟩ v).setCell ⟨U, 1, none⟩ (.int .i64 0)).setCell ⟨w.heap.size, 0, none⟩ a).setCell ⟨w.heap.size, 1, none⟩ b).setCell ⟨w.heap.size, 2, none⟩ c).setCell ⟨w.heap.size, 3, none⟩ d) U s 0 ∧ Kept (fun k => k = U) w ((((((W.setCell ⟨w.heap.size, 0, none⟩ v).setCell ⟨U, 1, none⟩ (.int .i64 0)).setCell ⟨w.heap.size, 0, none⟩ a).setCell ⟨w.heap.size, 1, none⟩ b).setCell ⟨w.heap.size, 2, none⟩ c).setCell ⟨w.heap.size, 3, none⟩ d) := by
  have k1 : Kept (fun k => k = w.heap.size) W (W.setCell ⟨w.heap.size, 0, none⟩ v) := (Kept.refl (fun k => k = w.heap.size) W).setCell (p := ⟨w.heap.size, 0, none⟩) (fun _ => rfl) v
  have c1 : Cur (W.setCell ⟨w.heap.size, 0, none⟩ v) U s j := k1.heap H.cur (by omega)
  have b1 := setOf H.box (i := 0) v
  generalize W.setCell ⟨w.heap.size, 0, none⟩ v = W1 at *
  have c2 : Cur (W1.setCell ⟨U, 1, none⟩ (.int .i64 0)) U s 0 := c1.set 0 rfl
  have k2 : Kept (fun k => k = U) W1 (W1.setCell ⟨U, 1, none⟩ (.int .i64 0)) := (Kept.refl (fun k => k = U) W1).setCell (p := ⟨U, 1, none⟩) (fun _ => rfl) _
  have b2 := k2.heap b1 (by omega)
  have kw : Kept (fun k => k = U) w (W1.setCell ⟨U, 1, none⟩ (.int .i64 0)) := (H.kept.trans k1 (fun i hi e => by omega)).trans k2 (fun _ _ h => h)
  generalize W1.setCell ⟨U, 1, none⟩ (.int .i64 0) = W2 at *
  have k4 : Kept (fun k => k = w.heap.size) W2 ((((W2.setCell ⟨w.heap.size, 0, none⟩ a).setCell ⟨w.heap.size, 1, none⟩ b).setCell ⟨w.heap.size, 2, none⟩ c).setCell ⟨w.heap.size, 3, none⟩ d) := ((((Kept.refl (fun k => k = w.heap.size) W2).setCell (p := ⟨w.heap.size, 0, none⟩) (fun _ => rfl) a).setCell (p := ⟨w.heap.size, 1, none⟩) (fun _ => rfl) b).setCell (p := ⟨w.heap.size, 2, none⟩) (fun _ => rfl) c).setCell (p := ⟨w.heap.size, 3, none⟩) (fun _ => rfl) d
  exact ⟨setOf (setOf (setOf (setOf b2 _) _) _) _, k4.heap c2 (by omega), kw.trans k4 (fun i hi e => by omega)⟩

theorem no_eq {n : Int} (h : n ≠ 0) : (n == 0) = false := by simpa using h
theorem ne_eq {n : Int} (h : n ≠ 0) : (n != 0) = true := by simpa using h

set_option maxRecDepth 100000 in
set_option maxHeartbeats 8000000 in
theorem sample_any (B U : Nat) (s : ByteArray) (w : World) (h : Cur w U s 0) (hB : B ≤ U) (hE : Env w B) (hs : s.size ≤ 4000) :
    Calls Tryz.prog 10 #[.pointer (some ⟨U, 0, none⟩)] w fun e w' => SmpP w U s (readR s) e w' := by
  have hU : U < w.heap.size := h.lt
  have hwB : B ≤ w.heap.size := by omega
  obtain ⟨i0, hi0⟩ : ∃ i0, i0 = skipP s.data.toList 0 := ⟨_, rfl⟩
  obtain ⟨i1, hi1⟩ : ∃ i1, i1 = wordP true s.data.toList i0 := ⟨_, rfl⟩
  obtain ⟨i2, hi2⟩ : ∃ i2, i2 = skipP s.data.toList i1 := ⟨_, rfl⟩
  obtain ⟨N, hN⟩ : ∃ N, N = s.extract i0 i1 := ⟨_, rfl⟩
  obtain ⟨bp, hbp⟩ : ∃ bp, bp = decide (i1 < i2) := ⟨_, rfl⟩
  have l0 : i0 ≤ s.size := by rw [hi0]; exact sk_le (Nat.zero_le _)
  have l1 : i1 ≤ s.size := by rw [hi1]; exact wo_le l0
  have l2 : i2 ≤ s.size := by rw [hi2]; exact sk_le l1
  have hNs : N.size ≤ s.size := by rw [hN, ByteArray.size_extract]; omega
  have hz : Sized [(nameB, N)] := fun i hi => by
    obtain rfl : i = 0 := by simpa using hi
    exact ⟨by show nameB.size ≤ _; unfold maxLen; decide, by show N.size ≤ _; unfold maxLen; omega⟩
  have HK : Hid (∀ W, Kept (fun k => k = U) w W → Env W B) := fun W hk => hE.kept hk hB hwB
  have HS : Hid (SmS w U s (nameB, N) (w.alloc (.cells #[.slice none 0 0, .float .f64 0, .int .i64 0, .bool false] 28 (0, 0))) 0 0 0 false none) :=
    ⟨h.below ((Below.refl _ _).alloc (Nat.le_refl _) _) hU, Nat.zero_le _, heap_alloc_new w _, (Kept.refl _ _).alloc _, (fun v ls e => by cases e), (fun v ls e => by cases e)⟩
  have HB1 : Hid (∀ W V T h r, SmS w U s (nameB, N) W 0 V T h r → Calls Tryz.prog 17 #[.pointer (some ⟨U, 0, none⟩)] W fun e w' => (∃ b, e = .returned (.bool b)) ∧ SmS w U s (nameB, N) w' i0 V T h r) := fun W V T h r hW => (blanks_any U s 0 W hW.cur hW.le (by omega)).mono (by rintro e w' ⟨he, hc, hk⟩; rw [← hi0] at hc; exact ⟨⟨_, he⟩, hW.move hU hk hc l0⟩)
  have HNm : Hid (∀ W V T h r, SmS w U s (nameB, N) W i0 V T h r → Calls Tryz.prog 18 #[.pointer (some ⟨U, 0, none⟩), .bool true] W fun e w' => e = .returned (.string N) ∧ SmS w U s (nameB, N) w' i1 V T h r) := fun W V T h r hW => (name_any U s i0 true W hW.cur hW.le (by omega)).mono (by rintro e w' ⟨he, hc, hk⟩; rw [← hi1] at hc he; rw [← hN] at he; exact ⟨he, hW.move hU hk hc l1⟩)
  have HB2 : Hid (∀ W V T h r, SmS w U s (nameB, N) W i1 V T h r → Calls Tryz.prog 17 #[.pointer (some ⟨U, 0, none⟩)] W fun e w' => e = .returned (.bool bp) ∧ SmS w U s (nameB, N) w' i2 V T h r) := fun W V T h r hW => (blanks_any U s i1 W hW.cur hW.le (by omega)).mono (by rintro e w' ⟨he, hc, hk⟩; rw [← hi2] at hc he; rw [← hbp] at he; exact ⟨he, hW.move hU hk hc l2⟩)
  have HBl : Hid (∀ W j V T h r, SmS w U s (nameB, N) W j V T h r → Calls Tryz.prog 17 #[.pointer (some ⟨U, 0, none⟩)] W fun e w' => (∃ b, e = .returned (.bool b)) ∧ SmS w U s (nameB, N) w' (skipP s.data.toList j) V T h r) := fun W j V T h r hW => (blanks_any U s j W hW.cur hW.le (by omega)).mono (by rintro e w' ⟨he, hc, hk⟩; exact ⟨⟨_, he⟩, hW.move hU hk hc (sk_le hW.le)⟩)
  by_cases h1 : i1 = i0
  · have hR : readR s = .bad i0 8 := by
      unfold readR
      rw [← hi0, ← hi1, if_pos h1]
    rw [hR]
    have hNn : N = ⟨#[]⟩ := by rw [hN, h1]; exact ext_nil s i0
    subst hNn
    obtain ⟨y0, y1, y2, y3, g0, g1, g2, g3⟩ := HS.out.x
    clear hR hN hi0 hi1 hi2 hbp l0 l1 l2 hz hNs HK hE h HB2 HBl hwB
    subst h1
    go_enter Tryz.func10, Tryz.ntmps10
    go_wp2_with (first
      | (go_at_call 17; refine (HB1.out _ _ _ _ _ HS.out).mono ?_; clear HB1 HS y0 y1 y2 y3 g0 g1 g2 g3; rintro e W1 ⟨⟨b1, rfl⟩, hl⟩; have HS : Hid (SmS w U s (nameB, ⟨#[]⟩) W1 _ _ _ _ _) := hl; clear hl)
      | (go_at_call 18; refine (HNm.out _ _ _ _ _ HS.out).mono ?_; clear HNm HS; rintro e W2 ⟨rfl, hl⟩; have HS : Hid (SmS w U s (nameB, ⟨#[]⟩) W2 _ _ _ _ _) := hl; clear hl; obtain ⟨y0, y1, y2, y3, g0, g1, g2, g3⟩ := HS.out.x))
    have HF := HS.out.again hU
    refine bodyPost_ret (res_line _ w.heap.size _ rfl rfl _ _ _ _ _ (HF _ _ _ _).1) rfl ?_
    exact ⟨⟨_, _, _, _, _, _, rfl⟩, by decide, (HF _ _ _ _).2.1, (HF _ _ _ _).2.2⟩
  · have hRd : readR s = if s.data.toList[i2]? = some 123 then (match labsR s (s.size + 1) (i2 + 1) [] with | .inl (p, e) => LRes.bad p e | .inr (ls, p) => numsR s N ls (skipP s.data.toList p)) else if i2 = i1 then .bad i2 8 else numsR s N [] i2 := by
      unfold readR
      rw [← hi0, ← hi1, if_neg h1, ← hi2, ← hN]
      rcases labsR s (s.size + 1) (i2 + 1) [] with ⟨p, e⟩ | ⟨ls, p⟩ <;> rfl
    have hn0 : 1 ≤ N.size := by
      rw [hN, ByteArray.size_extract]
      have := wo_ge true s i0
      rw [← hi1] at this
      omega
    have hn1 := not_nil hn0
    have hn2 := not_empty hn0
    have w21 : i1 ≤ i2 := by rw [hi2]; exact sk_ge s i1
    have HTk : Hid (∀ W V T h r, SmS w U s (nameB, N) W i2 V T h r → Calls Tryz.prog 19 #[.pointer (some ⟨U, 0, none⟩), .int .u8 123] W fun e w' => ∃ tb, e = .returned (.bool tb) ∧ Hid ((tb = true ∧ Hid (s.data.toList[i2]? = some 123) ∧ SmS w U s (nameB, N) w' (i2 + 1) V T h r) ∨ (tb = false ∧ bp = false ∧ Hid (readR s = .bad i2 8) ∧ SmS w U s (nameB, N) w' i2 V T h r) ∨ (tb = false ∧ bp = true ∧ Hid (readR s = numsR s N [] i2) ∧ SmS w U s (nameB, N) w' i2 V T h r))) := fun W V T h r hW => (take_any U s i2 123 W hW.cur hW.le (by omega)).mono (by
      rintro e w' ⟨he, hc, hk⟩
      by_cases h123 : s.data.toList[i2]? = some 123
      · rw [decide_eq_true h123] at he
        rw [if_pos h123] at hc
        exact ⟨_, he, .inl ⟨rfl, h123, hW.move hU hk hc (by have := some_lt h123; omega)⟩⟩
      · rw [decide_eq_false h123] at he
        rw [if_neg h123] at hc
        rw [if_neg h123] at hRd
        by_cases h21 : i2 = i1
        · rw [if_pos h21] at hRd
          exact ⟨_, he, .inr (.inl ⟨rfl, by rw [hbp]; simp; omega, hRd, hW.move hU hk hc l2⟩)⟩
        · rw [if_neg h21] at hRd
          exact ⟨_, he, .inr (.inr ⟨rfl, by rw [hbp]; simp; omega, hRd, hW.move hU hk hc l2⟩)⟩)
    have HLb : Hid (∀ W V T h v, s.data.toList[i2]? = some 123 → SmS w U s (nameB, N) W (i2 + 1) V T h (some (v, [])) → Calls Tryz.prog 20 #[.pointer (some ⟨U, 0, none⟩), v] W fun e w' => (∃ p er, (er = 8 ∨ er = 13) ∧ e = .returned (.tuple #[.slice none 0 0, .int .i64 er]) ∧ readR s = .bad p er ∧ SmS w U s (nameB, N) w' p V T h none) ∨ (∃ ls p a n c, e = .returned (.tuple #[.slice a n c, .int .i64 0]) ∧ readR s = numsR s N ls (skipP s.data.toList p) ∧ SmS w U s (nameB, N) w' p V T h (some (.slice a n c, ls)))) := fun W V T h v h123 hW => (labels_any B U (w.heap.size + 1) s (i2 + 1) v (nameB, N) W hW.cur hB (by omega) hW.lt (HK.out W hW.kept) hW.le (by omega) (hW.row v [] rfl)).mono (by
      intro e w' hP
      rw [if_pos h123] at hRd
      unfold LbsP at hP
      cases hl : labsR s (s.size + 1) (i2 + 1) [] with
      | inl pe =>
        obtain ⟨p, er⟩ := pe
        rw [hl] at hP hRd
        dsimp only at hP hRd
        obtain ⟨q1, q2, q3⟩ := hP
        obtain ⟨z1, z2⟩ := labsR_err s _ _ _ p er hW.le hl
        exact .inl ⟨p, er, z2, q1, hRd, q2, z1, q3.heap hW.box (by omega), hW.kept.trans q3 (fun i hi e => by omega), (fun v ls e => by cases e), (fun v ls e => by cases e)⟩
      | inr lp =>
        obtain ⟨ls, p⟩ := lp
        rw [hl] at hP hRd
        dsimp only at hP hRd
        obtain ⟨v', q1, q2, q3, q4⟩ := hP
        obtain ⟨a, c, rfl⟩ := slice_of_row q2
        obtain ⟨z1, z2, z3⟩ := labsR_size s _ _ [] ls p hW.le hl (fun x hx => by cases hx)
        refine .inr ⟨ls, p, a, _, c, q1, hRd, q3, z2, q4.heap hW.box (by omega), hW.kept.trans q4 (fun i hi e => by omega), (fun v ls' e => by cases e; exact q2), (fun v ls' e => ?_)⟩
        cases e
        refine ⟨by simp at z3; omega, fun i hi => ?_⟩
        cases i with
        | zero => exact hz 0 (by simp)
        | succ i =>
          have := z1 _ (List.getElem_mem (show i < ls.length by simpa using hi))
          simp only [List.getElem_cons_succ]
          unfold maxLen
          omega)
    have HVl : Hid (∀ W j V T h r ls, readR s = numsR s N ls j → SmS w U s (nameB, N) W j V T h r → Calls Tryz.prog 21 #[.pointer (some ⟨U, 0, none⟩)] W fun e w' => (e = .returned (.tuple #[.float .f64 0, .int .i64 8]) ∧ readR s = .bad j 8 ∧ SmS w U s (nameB, N) w' j V T h r) ∨ (∃ V', e = .returned (.tuple #[.float .f64 V', .int .i64 0]) ∧ readR s = numsB s N ls V' (skipP s.data.toList (tokP s.data.toList j)) ∧ SmS w U s (nameB, N) w' (tokP s.data.toList j) V T h r)) := fun W j V T h r ls hr hW => by
      by_cases hp : (Nu.parseR (s.extract j (tokP s.data.toList j))).2 = 0
      · have hp2 : Nu.parseR (s.extract j (tokP s.data.toList j)) = ((Nu.parseR (s.extract j (tokP s.data.toList j))).1, 0) := Prod.ext rfl hp
        exact (value_ok U s j _ W hW.cur hW.le (by omega) hp2).mono (by rintro e w' ⟨he, hc, hk⟩; exact .inr ⟨_, he, hr.trans (nums_ok hp2), hW.move hU hk hc (to_le hW.le)⟩)
      · exact (value_no U s j W hW.cur hW.le (by omega) hp).mono (by rintro e w' ⟨he, hc, hk⟩; exact .inl ⟨he, hr.trans (nums_bad hp), hW.move hU hk hc hW.le⟩)
    have HE1 : Hid (∀ W j V T h r ls, readR s = numsB s N ls V j → SmS w U s (nameB, N) W j V T h r → Calls Tryz.prog 22 #[.pointer (some ⟨U, 0, none⟩)] W fun e w' => ∃ eb, e = .returned (.bool eb) ∧ Hid ((eb = true ∧ readR s = numsE s N ls V 0 false j ∧ SmS w U s (nameB, N) w' j V T h r) ∨ (eb = false ∧ j < s.size ∧ readR s = numsB s N ls V j ∧ SmS w U s (nameB, N) w' j V T h r))) := fun W j V T h r ls hr hW => (ended_any U s j W hW.cur).mono (by
      rintro e w' ⟨he, q, rfl⟩
      have hS := hW.move hU ((Kept.refl _ _).drewN q) (hW.cur.drewN q) hW.le
      by_cases hj : j = s.size
      · rw [decide_eq_true hj] at he
        exact ⟨_, he, .inl ⟨rfl, hr.trans (numsB_end hj), hS⟩⟩
      · rw [decide_eq_false hj] at he
        exact ⟨_, he, .inr ⟨rfl, by have := hW.le; omega, hr, hS⟩⟩)
    have HTm : Hid (∀ W j V T h r ls, readR s = numsB s N ls V j → j < s.size → SmS w U s (nameB, N) W j V T h r → Calls Tryz.prog 23 #[.pointer (some ⟨U, 0, none⟩)] W fun e w' => (e = .returned (.tuple #[.int .i64 0, .int .i64 8]) ∧ readR s = .bad j 8 ∧ SmS w U s (nameB, N) w' j V T h r) ∨ (∃ T', e = .returned (.tuple #[.int .i64 T', .int .i64 0]) ∧ readR s = numsE s N ls V T' true (tokP s.data.toList j) ∧ SmS w U s (nameB, N) w' (tokP s.data.toList j) V T h r)) := fun W j V T h r ls hr hj hW => by
      have hU1 : ∀ W', Kept (fun k => k = U) W W' → Nu.Pow W' ∧ Nu.Errs W' := fun W' hk => by
        have := (HK.out W' (hW.kept.trans hk (fun _ _ h => h))).here
        exact ⟨this.2.1, this.2.2.1⟩
      by_cases hp : (Nu.intR (s.extract j (tokP s.data.toList j))).2 ≠ 0 ∨ (Nu.intR (s.extract j (tokP s.data.toList j))).1 < -9007199254740992 ∨ 9007199254740992 < (Nu.intR (s.extract j (tokP s.data.toList j))).1
      · exact (time_no U s j W hW.cur hW.le (by omega) hU1 hp).mono (by rintro e w' ⟨he, hc, hk⟩; exact .inl ⟨he, hr.trans (numsB_bad hj hp), hW.move hU hk hc hW.le⟩)
      · have hp1 : (Nu.intR (s.extract j (tokP s.data.toList j))).2 = 0 := Decidable.byContradiction (fun h => hp (Or.inl h))
        have hp2 : Nu.intR (s.extract j (tokP s.data.toList j)) = ((Nu.intR (s.extract j (tokP s.data.toList j))).1, 0) := Prod.ext rfl hp1
        have hp3 : -9007199254740992 ≤ (Nu.intR (s.extract j (tokP s.data.toList j))).1 := Int.not_lt.1 (fun h => hp (Or.inr (Or.inl h)))
        have hp4 : (Nu.intR (s.extract j (tokP s.data.toList j))).1 ≤ 9007199254740992 := Int.not_lt.1 (fun h => hp (Or.inr (Or.inr h)))
        exact (time_ok U s j _ W hW.cur hW.le (by omega) hU1 hp2 hp3 hp4).mono (by rintro e w' ⟨he, hc, hk⟩; exact .inr ⟨_, he, hr.trans (numsB_time hj hp2 hp3 hp4), hW.move hU hk hc (to_le hW.le)⟩)
    have HE2 : Hid (∀ W j V T h r ls, readR s = numsE s N ls V T h j → SmS w U s (nameB, N) W (skipP s.data.toList j) V T h r → Calls Tryz.prog 22 #[.pointer (some ⟨U, 0, none⟩)] W fun e w' => (e = .returned (.bool true) ∧ readR s = setR N ls V T h ∧ SmS w U s (nameB, N) w' s.size V T h r) ∨ (e = .returned (.bool false) ∧ readR s = .bad (skipP s.data.toList j) 8 ∧ SmS w U s (nameB, N) w' (skipP s.data.toList j) V T h r)) := fun W j V T h r ls hr hW => (ended_any U s _ W hW.cur).mono (by
      rintro e w' ⟨he, q, rfl⟩
      have hS := hW.move hU ((Kept.refl _ _).drewN q) (hW.cur.drewN q) hW.le
      by_cases hj : skipP s.data.toList j = s.size
      · rw [decide_eq_true hj] at he
        rw [hj] at hS
        exact .inl ⟨he, hr.trans (numsE_end hj), hS⟩
      · rw [decide_eq_false hj] at he
        exact .inr ⟨he, hr.trans (numsE_more (by have := hW.le; omega)), hS⟩)
    have HSt : Hid (∀ W j V T h v ls, readR s = setR N ls V T h → SmS w U s (nameB, N) W j V T h (some (v, ls)) → Calls Tryz.prog 24 #[v] W fun e w' => (∃ a n c er, e = .returned (.tuple #[.slice a n c, .int .i64 er]) ∧ er ≠ 0 ∧ readR s = .bad 0 er ∧ SmS w U s (nameB, N) w' j V T h (some (v, ls))) ∨ (∃ a n c ms, e = .returned (.tuple #[.slice a n c, .int .i64 0]) ∧ readR s = .ok ms V T h ∧ w'.ownsRow (w.heap.size + 1) 49 2 (.slice a n c) ms.length (lbCells ms) ∧ SmS w U s (nameB, N) w' j V T h (some (v, ls)))) := fun W j V T h v ls hr hW => (setOf_any v (nameB, N) ls W (LabsAt.of_row (hW.row v ls rfl)) (hW.bnd v ls rfl).1 (hW.bnd v ls rfl).2 (HK.out W hW.kept).here.1).mono (by
      rintro e w' ⟨hP, hb⟩
      have hS := hW.below hb
      unfold SetP at hP
      unfold setR at hr
      by_cases hn : hasL ls nameB = true
      · rw [if_pos hn] at hP hr
        exact .inl ⟨none, 0, 0, 2, hP, by decide, hr, hS⟩
      · rw [if_neg hn] at hP hr
        obtain ⟨v', q1, q2⟩ := hP
        obtain ⟨a, c, rfl⟩ := slice_of_row q2
        by_cases he : (newR ((nameB, N) :: ls)).2 = 0
        · rw [if_neg (by rw [he]; simp)] at hr
          rw [he] at q1
          exact .inr ⟨a, _, c, _, q1, hr, row_mono q2 hW.lt, hS⟩
        · rw [if_pos he] at hr
          exact .inl ⟨a, _, c, _, q1, he, hr, hS⟩)
    obtain ⟨R, hR⟩ : ∃ R, R = readR s := ⟨_, rfl⟩
    rw [← hR]
    rw [← hR] at HTk HLb HVl HE1 HTm HE2 HSt
    have HLI : Hid (∀ W, SmS w U s (nameB, N) W i1 0 0 false none → SmS w U s (nameB, N) (W.alloc (.cells #[.string ⟨#[95, 95, 110, 97, 109, 101, 95, 95]⟩, .string N] 49 (0, 0))) i1 0 0 false (some (.slice (some ⟨W.heap.size, 0, none⟩) 1 1, []))) := fun W hW => hW.lit hz
    have HU : Hid (U < w.heap.size) := hU
    obtain ⟨y0, y1, y2, y3, g0, g1, g2, g3⟩ := HS.out.x
    clear hR hRd hN hi0 hi1 hi2 hbp l0 l1 l2 hz hNs HK hE h hwB h1 hn0 w21 hs hB
    go_enter Tryz.func10, Tryz.ntmps10
    go_upto_if 20 with (first
      | (go_at_call 17; refine (HB1.out _ _ _ _ _ HS.out).mono ?_; clear HB1 HS y0 y1 y2 y3 g0 g1 g2 g3; rintro e W1 ⟨⟨b1, rfl⟩, hl⟩; have HS : Hid (SmS w U s (nameB, N) W1 _ _ _ _ _) := hl; clear hl; obtain ⟨y0, y1, y2, y3, g0, g1, g2, g3⟩ := HS.out.x)
      | (go_at_call 18; refine (HNm.out _ _ _ _ _ HS.out).mono ?_; clear HNm HS y0 y1 y2 y3 g0 g1 g2 g3; rintro e W2 ⟨rfl, hl⟩; have HS : Hid (SmS w U s (nameB, N) (W2.alloc (.cells #[.string ⟨#[95, 95, 110, 97, 109, 101, 95, 95]⟩, .string N] 49 (0, 0))) i1 0 0 false (some (.slice (some ⟨W2.heap.size, 0, none⟩) 1 1, []))) := HLI.out _ hl; clear hl HLI; obtain ⟨y0, y1, y2, y3, g0, g1, g2, g3⟩ := HS.out.x)
      | (go_at_call 17; refine (HB2.out _ _ _ _ _ HS.out).mono ?_; clear HB2 HS y0 y1 y2 y3 g0 g1 g2 g3; rintro e W3 ⟨rfl, hl⟩; have HS : Hid (SmS w U s (nameB, N) W3 _ _ _ _ _) := hl; clear hl; obtain ⟨y0, y1, y2, y3, g0, g1, g2, g3⟩ := HS.out.x)
      | (go_at_call 19; refine (HTk.out _ _ _ _ _ HS.out).mono ?_; clear HTk HS y0 y1 y2 y3 g0 g1 g2 g3; rintro e W4 ⟨tb, rfl, HT4⟩))
    go_cut [3, 5] from 20 to 35 (fun ev sv wx => ev = .int .i64 0 ∧ ∃ (j : Nat) (ls : List Lb) (a : Option Addr) (n c : Nat), sv = .slice a n c ∧ Hid (R = numsR s N ls j) ∧ Hid (SmS w U s (nameB, N) wx j 0 0 false (some (.slice a n c, ls))))
    case first =>
      clear HVl HE1 HTm HE2 HSt
      rcases HT4.out with ⟨rfl, H123, hl⟩ | ⟨rfl, rfl, HX, hl⟩ | ⟨rfl, rfl, HR, hl⟩
      · have HS : Hid (SmS w U s (nameB, N) W4 _ _ _ _ _) := hl
        clear hl HT4
        obtain ⟨y0, y1, y2, y3, g0, g1, g2, g3⟩ := HS.out.x
        go_wp2_with (first
          | (go_at_call 20; refine (HLb.out _ _ _ _ _ H123.out HS.out).mono ?_; clear HLb HS H123 y0 y1 y2 y3 g0 g1 g2 g3; rintro e W5 (⟨p, er, (rfl | rfl), rfl, hx, hl⟩ | ⟨ls, p, a, n, c, rfl, hx, hl⟩) <;> (have HS : Hid (SmS w U s (nameB, N) W5 _ _ _ _ _) := hl; clear hl; obtain ⟨y0, y1, y2, y3, g0, g1, g2, g3⟩ := HS.out.x; first | (have HX : Hid (R = .bad p 8) := hx; clear hx) | (have HX : Hid (R = .bad p 13) := hx; clear hx) | (have HR : Hid (R = numsR s N ls (skipP s.data.toList p)) := hx; clear hx)))
          | (go_at_call 17; refine (HBl.out _ _ _ _ _ _ HS.out).mono ?_; clear HS y0 y1 y2 y3 g0 g1 g2 g3; rintro e W10 ⟨⟨b10, rfl⟩, hl⟩; have HS : Hid (SmS w U s (nameB, N) W10 _ _ _ _ _) := hl; clear hl; obtain ⟨y0, y1, y2, y3, g0, g1, g2, g3⟩ := HS.out.x))
        · have HF := HS.out.again HU.out
          refine bodyPost_ret (res_line _ w.heap.size _ rfl rfl _ _ _ _ _ (HF _ _ _ _).1) rfl ?_
          rw [HX.out]
          exact ⟨⟨_, _, _, _, _, _, rfl⟩, by decide, (HF _ _ _ _).2.1, (HF _ _ _ _).2.2⟩
        · have HF := HS.out.again HU.out
          refine bodyPost_ret (res_line _ w.heap.size _ rfl rfl _ _ _ _ _ (HF _ _ _ _).1) rfl ?_
          rw [HX.out]
          exact ⟨⟨_, _, _, _, _, _, rfl⟩, by decide, (HF _ _ _ _).2.1, (HF _ _ _ _).2.2⟩
        · go_meet
          case rel => exact ⟨rfl, _, _, _, _, _, rfl, HR, HS.out⟩
      · have HS : Hid (SmS w U s (nameB, N) W4 _ _ _ _ _) := hl
        clear hl HT4
        obtain ⟨y0, y1, y2, y3, g0, g1, g2, g3⟩ := HS.out.x
        go_wp2
        have HF := HS.out.again HU.out
        refine bodyPost_ret (res_line _ w.heap.size _ rfl rfl _ _ _ _ _ (HF _ _ _ _).1) rfl ?_
        rw [HX.out]
        exact ⟨⟨_, _, _, _, _, _, rfl⟩, by decide, (HF _ _ _ _).2.1, (HF _ _ _ _).2.2⟩
      · have HS : Hid (SmS w U s (nameB, N) W4 _ _ _ _ _) := hl
        clear hl HT4
        obtain ⟨y0, y1, y2, y3, g0, g1, g2, g3⟩ := HS.out.x
        go_wp2_with fail
        go_meet
        case rel => exact ⟨rfl, _, _, _, _, _, rfl, HR, HS.out⟩
    case rest =>
      obtain ⟨rfl, j, ls, a, n, c, rfl, HR, HS⟩ := hcut
      clear HLb HT4
      obtain ⟨y0, y1, y2, y3, g0, g1, g2, g3⟩ := HS.out.x
      go_upto_if 50 with (first
        | (go_at_call 21; refine (HVl.out _ _ _ _ _ _ _ HR.out HS.out).mono ?_; clear HVl HS HR y0 y1 y2 y3 g0 g1 g2 g3; rintro e W6 (⟨rfl, hx, hl⟩ | ⟨V, rfl, hx, hl⟩) <;> (obtain ⟨y0, y1, y2, y3, g0, g1, g2, g3⟩ := hl.x; first | (have HS : Hid (SmS w U s (nameB, N) (W6.setCell ⟨w.heap.size, 1, none⟩ (.float .f64 V)) _ V _ _ _) := hl.setV HU.out V; have HR : Hid (R = numsB s N _ V _) := hx; clear hl hx) | (have HS : Hid (SmS w U s (nameB, N) (W6.setCell ⟨w.heap.size, 1, none⟩ (.float .f64 0)) _ 0 _ _ _) := hl.setV HU.out 0; have HX : Hid (R = .bad _ 8) := hx; clear hl hx)))
        | (go_at_call 17; refine (HBl.out _ _ _ _ _ _ HS.out).mono ?_; clear HS y0 y1 y2 y3 g0 g1 g2 g3; rintro e W10 ⟨⟨b10, rfl⟩, hl⟩; have HS : Hid (SmS w U s (nameB, N) W10 _ _ _ _ _) := hl; clear hl; obtain ⟨y0, y1, y2, y3, g0, g1, g2, g3⟩ := HS.out.x)
        | (go_at_call 22; refine (HE1.out _ _ _ _ _ _ _ HR.out HS.out).mono ?_; clear HE1 HS HR y0 y1 y2 y3 g0 g1 g2 g3; rintro e W7 ⟨eb, rfl, HT7⟩))
      · have HF := HS.out.again HU.out
        refine bodyPost_ret (res_line _ w.heap.size _ rfl rfl _ _ _ _ _ (HF _ _ _ _).1) rfl ?_
        rw [HX.out]
        exact ⟨⟨_, _, _, _, _, _, rfl⟩, by decide, (HF _ _ _ _).2.1, (HF _ _ _ _).2.2⟩
      · go_cut [3] from 50 to 61 (fun ev wx => ev = .int .i64 0 ∧ ∃ (k : Nat) (T : Int) (h : Bool), Hid (R = numsE s N ls V T h k) ∧ Hid (SmS w U s (nameB, N) wx k V T h (some (.slice a n c, ls))))
        case first =>
          clear HE2 HSt HBl
          rcases HT7.out with ⟨rfl, hx, hl⟩ | ⟨rfl, hj, hx, hl⟩
          · have HS : Hid (SmS w U s (nameB, N) W7 _ V 0 false _) := hl
            have HR : Hid (R = numsE s N ls V 0 false _) := hx
            clear hl hx HT7
            go_wp2_with fail
            go_meet
            case rel => exact ⟨rfl, _, _, _, HR, HS⟩
          · obtain ⟨y0, y1, y2, y3, g0, g1, g2, g3⟩ := hl.x
            have HJ : Hid (_ < s.size) := hj
            have HR : Hid (R = numsB s N ls V _) := hx
            have HS : Hid (SmS w U s (nameB, N) (W7.setCell ⟨w.heap.size, 3, none⟩ (.bool true)) _ V _ true _) := hl.setH HU.out true
            clear hl hx hj HT7
            go_wp2_with (go_at_call 23; refine (HTm.out _ _ _ _ _ _ _ HR.out HJ.out HS.out).mono ?_; clear HTm HS HR HJ y0 y1 y2 y3 g0 g1 g2 g3; rintro e W8 (⟨rfl, hx, hl⟩ | ⟨T, rfl, hx, hl⟩) <;> (obtain ⟨y0, y1, y2, y3, g0, g1, g2, g3⟩ := hl.x; first | (have HS : Hid (SmS w U s (nameB, N) (W8.setCell ⟨w.heap.size, 2, none⟩ (.int .i64 T)) _ _ T _ _) := hl.setT HU.out T; have HR : Hid (R = numsE s N _ _ _ _ _) := hx; clear hl hx) | (have HS : Hid (SmS w U s (nameB, N) (W8.setCell ⟨w.heap.size, 2, none⟩ (.int .i64 0)) _ _ 0 _ _) := hl.setT HU.out 0; have HX : Hid (R = .bad _ 8) := hx; clear hl hx)))
            · have HF := HS.out.again HU.out
              refine bodyPost_ret (res_line _ w.heap.size _ rfl rfl _ _ _ _ _ (HF _ _ _ _).1) rfl ?_
              rw [HX.out]
              exact ⟨⟨_, _, _, _, _, _, rfl⟩, by decide, (HF _ _ _ _).2.1, (HF _ _ _ _).2.2⟩
            · go_meet
              case rel => exact ⟨rfl, _, _, _, HR, HS⟩
        case rest =>
          obtain ⟨rfl, k, T, h, HR, HS⟩ := hcut
          clear HTm HT7
          obtain ⟨y0, y1, y2, y3, g0, g1, g2, g3⟩ := HS.out.x
          go_wp2_with (first
            | (go_at_call 17; refine (HBl.out _ _ _ _ _ _ HS.out).mono ?_; clear HBl HS y0 y1 y2 y3 g0 g1 g2 g3; rintro e W10 ⟨⟨b10, rfl⟩, hl⟩; have HS : Hid (SmS w U s (nameB, N) W10 _ _ _ _ _) := hl; clear hl; obtain ⟨y0, y1, y2, y3, g0, g1, g2, g3⟩ := HS.out.x)
            | (go_at_call 22; refine (HE2.out _ _ _ _ _ _ _ HR.out HS.out).mono ?_; clear HE2 HS HR y0 y1 y2 y3 g0 g1 g2 g3; rintro e W9 (⟨rfl, hx, hl⟩ | ⟨rfl, hx, hl⟩) <;> (have HS : Hid (SmS w U s (nameB, N) W9 _ _ _ _ _) := hl; clear hl; obtain ⟨y0, y1, y2, y3, g0, g1, g2, g3⟩ := HS.out.x; first | (have HX : Hid (R = .bad _ 8) := hx; clear hx) | (have HR : Hid (R = setR N _ _ _ _) := hx; clear hx)))
            | (go_at_call 24; refine (HSt.out _ _ _ _ _ _ _ HR.out HS.out).mono ?_; clear HSt HS HR y0 y1 y2 y3 g0 g1 g2 g3; rintro e W11 (⟨a11, n11, c11, er, rfl, hne, hx, hl⟩ | ⟨a11, n11, c11, ms, rfl, hx, hrow, hl⟩) <;> (have HS : Hid (SmS w U s (nameB, N) W11 _ _ _ _ _) := hl; clear hl; obtain ⟨y0, y1, y2, y3, g0, g1, g2, g3⟩ := HS.out.x; first | (have HX : Hid (R = .bad 0 er ∧ er ≠ 0) := ⟨hx, hne⟩; have f1 := HS.out.cur.f1; have p1 := HS.out.cur.c1; have q1 := no_eq hne; have q2 := ne_eq hne; clear hx hne) | (have HOK : Hid (R = .ok ms _ _ _) := hx; have HROW : Hid (W11.ownsRow (w.heap.size + 1) 49 2 (.slice a11 n11 c11) ms.length (lbCells ms)) := hrow; clear hx hrow))))
          · have HF := HS.out.fin0 HU.out (.slice a11 n11 c11) (.slice a11 n11 c11) (.float .f64 V) (.int .i64 T) (.bool h)
            refine bodyPost_ret (res_line _ w.heap.size _ rfl rfl _ _ _ _ _ HF.1) rfl ?_
            rw [HX.out.1]
            exact ⟨⟨_, _, _, _, _, _, rfl⟩, HX.out.2, HF.2.1, HF.2.2⟩
          · have HF := HS.out.fin HU.out (.slice a11 n11 c11) (.slice a11 n11 c11) (.float .f64 V) (.int .i64 T) (.bool h)
            refine bodyPost_ret (res_line _ w.heap.size _ rfl rfl _ _ _ _ _ HF.2.1) rfl ?_
            rw [HOK.out]
            have hrow := HF.1.ownsRow HROW.out (fun k hk => by have := row_lo HROW.out k hk; omega)
            exact ⟨_, _, _, rfl, row_mono hrow (by omega), HF.2.2.1, HF.2.2.2⟩
          · have HF := HS.out.again HU.out
            refine bodyPost_ret (res_line _ w.heap.size _ rfl rfl _ _ _ _ _ (HF _ _ _ _).1) rfl ?_
            rw [HX.out]
            exact ⟨⟨_, _, _, _, _, _, rfl⟩, by decide, (HF _ _ _ _).2.1, (HF _ _ _ _).2.2⟩
end Go.Proofs.YtfckdleahljdeaaGreatDoor
