/- Texts that belong together. -/
import Derived.Test.YtmbkcmfcdjccoaaDoorMP53
import Derived.Test.YtmbkcmfcdjccoaaDoorMP77
/- What a class means: pure. -/
namespace Go.Proofs.YtmbkcmfcdjccoaaDoor
open Go.RowKit Go.Maps

theorem run_class (A : List Sp) (neg : Bool) (text : ByteArray) (nt : Bool) : (runF [.take A neg, .yes] text nt).isSome = (decide (0 < text.size) && (decide (text.size ≤ (charR text 0).2) && (memS A (charR text 0).1 != neg))) := by
  have h0 : folF [.take A neg, .yes] text.size 0 nt (3 * 2 + 3) none ⟨List.replicate 2 0, [(0, [])], [], none⟩ = ⟨[1, 0], [], [(0, [])], none⟩ := by
    simp [folF, List.replicate]
  unfold runF
  rw [show ([Stp.take A neg, Stp.yes] : List Stp).length = 2 from rfl, h0]
  show (loopF _ text nt (text.size + 1) 0 [(0, [])] ⟨[1, 0], [], [(0, [])], none⟩).fnd.isSome = _
  rw [loopF]
  by_cases hz : 0 < text.size
  · obtain ⟨k1, k2, k3⟩ := charR_ok hz
    rw [if_pos ⟨hz, by simp⟩, Nat.zero_add]
    generalize (charR text 0).1 = c at *
    generalize (charR text 0).2 = w at *
    have hw : ¬ w = 0 := by omega
    have hsw : sweepF [.take A neg, .yes] text.size w nt c [(0, [])] ⟨[1, 0], [], [], none⟩ = if (memS A c != neg) = true then (if w < text.size then ⟨[1, w + 1], [], [], none⟩ else ⟨[1, w + 1], [], [], some []⟩) else ⟨[1, 0], [], [], none⟩ := by
      have hf : folF [.take A neg, .yes] text.size w nt (3 * 2 + 3) none ⟨[1, 0], [(1, [])], [], none⟩ = if w < text.size then ⟨[1, w + 1], [], [], none⟩ else ⟨[1, w + 1], [], [], some []⟩ := by
        simp [folF]
      rw [sweepF]
      show (if takesS [.take A neg, .yes] 0 c = true then sweepF _ _ _ _ _ [] _ else sweepF _ _ _ _ _ [] _) = _
      rw [show takesS [.take A neg, .yes] 0 c = (memS A c != neg) from rfl]
      split
      · show folF [.take A neg, .yes] text.size w nt (3 * 2 + 3) none ⟨[1, 0], [(0 + 1, [])], [], none⟩ = _
        rw [show (0 + 1, ([] : List (Nat × Nat))) = (1, []) from rfl, hf]
      · rfl
    show (loopF _ text nt text.size w (sweepF [.take A neg, .yes] text.size w nt c [(0, [])] ⟨[1, 0], [], [], none⟩).wait (sweepF [.take A neg, .yes] text.size w nt c [(0, [])] ⟨[1, 0], [], [], none⟩)).fnd.isSome = _
    rw [hsw]
    have hend : ∀ (s : FS), s.wait = [] → loopF [.take A neg, .yes] text nt text.size w s.wait s = s := fun s h => by
      obtain ⟨k, hk⟩ : ∃ k, text.size = k + 1 := ⟨text.size - 1, by omega⟩
      rw [h]
      generalize text.size = E at *
      subst hk
      rw [loopF, if_neg (by simp)]
    have hwt : (if (memS A c != neg) = true then (if w < text.size then (⟨[1, w + 1], [], [], none⟩ : FS) else ⟨[1, w + 1], [], [], some []⟩) else ⟨[1, 0], [], [], none⟩).wait = [] := by
      split
      · split <;> rfl
      · rfl
    rw [hend _ hwt, decide_eq_true hz]
    by_cases hm : (memS A c != neg) = true
    · rw [if_pos hm, hm]
      by_cases hl : w < text.size
      · rw [if_pos hl, decide_eq_false (by omega)]
        rfl
      · rw [if_neg hl, decide_eq_true (by omega)]
        rfl
    · have hm2 : (memS A c != neg) = false := by
        cases h : (memS A c != neg) with
        | false => rfl
        | true => exact absurd h hm
      rw [if_neg hm, hm2]
      simp
  · rw [if_neg (by omega), decide_eq_false hz]
    rfl
/-- A text is one character of the class. -/
def memB (L : List UInt8) (R : Option (UInt8 × UInt8)) (x : ByteArray) : Bool := decide (x.size = 1) && memS (clsA L R) (bAt x 0)
def oneB (x : ByteArray) : Bool := decide (0 < x.size) && (decide (wAt x 0 = x.size) || (decide (wAt x 0 = 0) && decide (x.size = 1)))
theorem dec_w (n b0 b1 b2 b3 : Nat) (h0 : b0 < 256) (h1 : b1 < 256) (h2 : b2 < 256) (h3 : b3 < 256) : (Lib.decodeN n b0 b1 b2 b3).2 = (if wN n b0 b1 b2 b3 = 0 then 1 else wN n b0 b1 b2 b3) ∧ (128 ≤ b0 → 128 ≤ (Lib.decodeN n b0 b1 b2 b3).1) := by
  by_cases c1 : b0 < 128
  · rw [w1 c1]
    unfold Lib.decodeN
    rw [if_pos c1]
    exact ⟨rfl, fun h => by omega⟩
  · by_cases c0 : b0 < 192 ∨ 248 ≤ b0
    · rw [w0 (by omega) c0]
      unfold Lib.decodeN
      rw [if_neg c1, if_neg (by omega), if_neg (by omega), if_neg (by omega)]
      exact ⟨rfl, fun _ => by decide⟩
    · by_cases c2 : b0 < 224
      · rw [w2 (by omega) c2]
        unfold Lib.decodeN
        rw [if_neg c1]
        refine ⟨?_, fun _ => ?_⟩
        all_goals
          repeat' split
          all_goals first | rfl | (exfalso; omega) | (simp only; omega)
      · by_cases c3 : b0 < 240
        · rw [w3 (by omega) c3]
          unfold Lib.decodeN
          rw [if_neg c1, if_neg (by omega)]
          refine ⟨?_, fun _ => ?_⟩
          all_goals
            repeat' split
            all_goals first | rfl | (exfalso; omega) | (simp only; omega)
        · rw [w4 (by omega) (by omega)]
          unfold Lib.decodeN
          rw [if_neg c1, if_neg (by omega), if_neg (by omega)]
          refine ⟨?_, fun _ => ?_⟩
          all_goals
            repeat' split
            all_goals first | rfl | (exfalso; omega) | (simp only; omega)
theorem memS_bound {L : List UInt8} {R : Option (UInt8 × UInt8)} (hL : ∀ b ∈ L, ltr b) (hR : RgOk R) {c : Nat} (h : memS (clsA L R) c = true) : c < 128 := by
  unfold memS at h
  obtain ⟨x, hx, h2⟩ := List.any_eq_true.1 h
  simp only [Bool.and_eq_true, decide_eq_true_eq] at h2
  rcases List.mem_append.1 hx with h3 | h3
  · obtain ⟨b, hb, rfl⟩ := List.mem_map.1 h3
    have := hL b hb
    unfold ltr at this
    unfold spB at h2
    omega
  · cases R with
    | none => cases h3
    | some p =>
      obtain ⟨lo, hi⟩ := p
      obtain ⟨h4, h5, h6⟩ := hR
      rw [List.mem_singleton.1 h3] at h2
      unfold ltr at h4 h5
      simp only at h2
      omega
theorem wN_three (m b0 b1 b2 b3 : Nat) : wN m b0 b1 b2 b3 = 0 ∨ 1 ≤ wN m b0 b1 b2 b3 := by omega
/-- What the program makes of a text of one character, by the document's own reading. -/
theorem char_doc {x : ByteArray} (h : 0 < x.size) : (charR x 0).2 = (if wAt x 0 = 0 then 1 else wAt x 0) ∧ (bAt x 0 < 128 → (charR x 0).1 = bAt x 0 ∧ wAt x 0 = 1) ∧ (128 ≤ bAt x 0 → 128 ≤ (charR x 0).1) := by
  have e : charR x 0 = Lib.decodeN (x.size - 0) (bAt x 0) (bAt x (0 + 1)) (bAt x (0 + 2)) (bAt x (0 + 3)) := by
    rw [charR_drop h, Lib.decodeL_N]
    simp only [List.drop_zero, Nat.sub_zero, ← Lib.size_eq]
    rfl
  obtain ⟨h1, h2⟩ := dec_w (x.size - 0) (bAt x 0) (bAt x (0 + 1)) (bAt x (0 + 2)) (bAt x (0 + 3)) (bAt_lt x _) (bAt_lt x _) (bAt_lt x _) (bAt_lt x _)
  rw [e]
  refine ⟨h1, fun h3 => ⟨?_, ?_⟩, h2⟩
  · unfold Lib.decodeN
    rw [if_pos h3]
  · unfold wAt
    exact w1 h3
theorem class_in {L : List UInt8} {R : Option (UInt8 × UInt8)} (hL : ∀ b ∈ L, ltr b) (hR : RgOk R) (x : ByteArray) (nt : Bool) : (runF (progR (.row [.take (clsA L R) false])) x nt).isSome = memB L R x := by
  rw [class_prog, run_class]
  by_cases hz : 0 < x.size
  · obtain ⟨k1, k2, k3⟩ := charR_ok hz
    obtain ⟨h1, h2, h3⟩ := char_doc hz
    unfold memB
    rw [decide_eq_true hz]
    by_cases hb : bAt x 0 < 128
    · obtain ⟨h4, h5⟩ := h2 hb
      rw [h5, if_neg (by omega)] at h1
      rw [h1, h4]
      have : decide (x.size ≤ 1) = decide (x.size = 1) := by
        by_cases h9 : x.size = 1
        · rw [decide_eq_true h9, decide_eq_true (by omega)]
        · rw [decide_eq_false h9, decide_eq_false (by omega)]
      rw [this]
      simp
    · have hc := h3 (by omega)
      have m1 : memS (clsA L R) (charR x 0).1 = false := by
        cases h : memS (clsA L R) (charR x 0).1 with
        | false => rfl
        | true => have := memS_bound hL hR h; omega
      have m2 : memS (clsA L R) (bAt x 0) = false := by
        cases h : memS (clsA L R) (bAt x 0) with
        | false => rfl
        | true => have := memS_bound hL hR h; omega
      rw [m1, m2]
      simp
  · unfold memB
    rw [decide_eq_false hz, decide_eq_false (by omega : ¬ x.size = 1)]
    rfl
theorem class_out {L : List UInt8} {R : Option (UInt8 × UInt8)} (hL : ∀ b ∈ L, ltr b) (hR : RgOk R) (x : ByteArray) (nt : Bool) : (runF (progR (.row [.take (clsA L R) true])) x nt).isSome = (oneB x && !memB L R x) := by
  rw [class_prog, run_class]
  by_cases hz : 0 < x.size
  · obtain ⟨k1, k2, k3⟩ := charR_ok hz
    obtain ⟨h1, h2, h3⟩ := char_doc hz
    unfold memB oneB
    rw [decide_eq_true hz]
    by_cases hb : bAt x 0 < 128
    · obtain ⟨h4, h5⟩ := h2 hb
      rw [h5, if_neg (by omega)] at h1
      rw [h1, h4, h5]
      by_cases h9 : x.size = 1
      · rw [h9]
        simp
      · rw [decide_eq_false (by omega : ¬ x.size ≤ 1), decide_eq_false (by omega : ¬ 1 = x.size), decide_eq_false h9]
        simp
    · have hc := h3 (by omega)
      have m1 : memS (clsA L R) (charR x 0).1 = false := by
        cases h : memS (clsA L R) (charR x 0).1 with
        | false => rfl
        | true => have := memS_bound hL hR h; omega
      have m2 : memS (clsA L R) (bAt x 0) = false := by
        cases h : memS (clsA L R) (bAt x 0) with
        | false => rfl
        | true => have := memS_bound hL hR h; omega
      rw [m1, m2, h1]
      by_cases h0 : wAt x 0 = 0
      · rw [if_pos h0, h0]
        by_cases h9 : x.size = 1
        · rw [h9]; simp
        · rw [decide_eq_false (by omega : ¬ x.size ≤ 1), decide_eq_false (by omega : ¬ 0 = x.size), decide_eq_false h9]
          simp
      · rw [if_neg h0, decide_eq_false h0]
        have h6 : wAt x 0 ≤ x.size := by
          rw [h1, if_neg h0] at k2
          omega
        by_cases h9 : wAt x 0 = x.size
        · rw [decide_eq_true (by omega : x.size ≤ wAt x 0), decide_eq_true h9]; simp
        · rw [decide_eq_false (by omega : ¬ x.size ≤ wAt x 0), decide_eq_false h9]; simp
  · unfold memB oneB
    rw [decide_eq_false hz]
    rfl
end Go.Proofs.YtmbkcmfcdjccoaaDoor

/- Alternatives and rows of two expressions: pure. -/
namespace Go.Proofs.YtmbkcmfcdjccoaaDoor
open Go.RowKit Go.Maps

section
variable {s : ByteArray}
theorem noa_rep {x y : Nd} {i p : Nat} (hx : NoA x) (e : repR s x i = .yes y p) : NoA y := by
  unfold repR at e
  by_cases h1 : seesB s i 42 = true
  · rw [if_pos h1] at e
    injection e with e1 e2
    subst e1
    rw [NoA]
    exact hx
  · rw [if_neg h1] at e
    by_cases h2 : seesB s i 43 = true
    · rw [if_pos h2] at e
      injection e with e1 e2
      subst e1
      rw [NoA]
      exact hx
    · rw [if_neg h2] at e
      by_cases h3 : seesB s i 63 = true
      · rw [if_pos h3] at e
        injection e with e1 e2
        subst e1
        rw [NoA]
        exact hx
      · rw [if_neg h3] at e
        by_cases h4 : seesB s i 123 = true
        · rw [if_pos h4] at e
          cases hc : countR s (i + 1) with
          | no q => rw [hc] at e; cases e
          | yes r q =>
            rw [hc] at e
            injection e with e1 e2
            subst e1
            rw [NoA]
            exact hx
        · rw [if_neg h4] at e
          injection e with e1 e2
          subst e1
          exact hx
theorem noas_app : ∀ {l : List Nd} {x : Nd}, NoAs l → NoA x → NoAs (l ++ [x])
  | [], x, _, hx => by
    rw [List.nil_append, NoAs]
    exact ⟨hx, by rw [NoAs]; trivial⟩
  | a :: t, x, h, hx => by
    rw [NoAs] at h
    rw [List.cons_append, NoAs]
    exact ⟨h.1, noas_app h.2 hx⟩
structure NoN (s : ByteArray) (n : Nat) : Prop where
  ei : ∀ i g x p g2, eitherR s n i g = .yes x p g2 → NoA x
  ro : ∀ i g acc x p g2, NoAs acc → rowR s n i g acc = .yes x p g2 → NoA x
  pa : ∀ i g x p g2, partR s n i g = .yes x p g2 → NoA x
  th : ∀ i g x p g2, thingR s n i g = .yes x p g2 → NoA x
  br : ∀ i g x p g2, bracketR s n i g = .yes x p g2 → NoA x
theorem noa_all (H : ∀ i, seesB s i 94 = false ∧ seesB s i 36 = false) : ∀ n, NoN s n
  | 0 => by
    refine ⟨?_, ?_, ?_, ?_, ?_⟩
    · intro i g x p g2 e
      rw [eitherR] at e
      cases e
    · intro i g acc x p g2 _ e
      rw [rowR] at e
      cases e
    · intro i g x p g2 e
      rw [partR] at e
      cases e
    · intro i g x p g2 e
      rw [thingR] at e
      cases e
    · intro i g x p g2 e
      rw [bracketR] at e
      cases e
  | n + 1 => by
    have ih := noa_all H n
    refine ⟨?_, ?_, ?_, ?_, ?_⟩
    · intro i g x p g2 e
      rw [eitherR] at e
      cases hr : rowR s n i g [] with
      | no q => rw [hr] at e; cases e
      | yes a q g3 =>
        have ha := ih.ro i g [] a q g3 (by rw [NoAs]; trivial) hr
        rw [hr] at e
        dsimp only at e
        by_cases h1 : seesB s q 124 = false
        · rw [if_pos h1] at e
          injection e with e1 e2 e3
          subst e1
          exact ha
        · rw [if_neg h1] at e
          cases hr2 : eitherR s n (q + 1) g3 with
          | no q2 => rw [hr2] at e; cases e
          | yes b q2 g4 =>
            have hb := ih.ei (q + 1) g3 b q2 g4 hr2
            rw [hr2] at e
            injection e with e1 e2 e3
            subst e1
            rw [NoA]
            exact ⟨ha, hb⟩
    · intro i g acc x p g2 hacc e
      rw [rowR] at e
      by_cases h1 : s.size ≤ i ∨ seesB s i 124 = true ∨ seesB s i 41 = true
      · rw [if_pos h1] at e
        injection e with e1 e2 e3
        subst e1
        rw [NoA]
        exact hacc
      · rw [if_neg h1] at e
        cases hr : partR s n i g with
        | no q => rw [hr] at e; cases e
        | yes a q g3 =>
          have ha := ih.pa i g a q g3 hr
          rw [hr] at e
          exact ih.ro q g3 (acc ++ [a]) x p g2 (noas_app hacc ha) e
    · intro i g x p g2 e
      rw [partR, (H i).1, (H i).2] at e
      cases hr : thingR s n i g with
      | no q => rw [hr] at e; cases e
      | yes a q g3 =>
        have ha := ih.th i g a q g3 hr
        rw [hr] at e
        dsimp only at e
        rw [if_neg (by decide), if_neg (by decide)] at e
        cases hp : repR s a q with
        | no q2 => rw [hp] at e; cases e
        | yes y q2 =>
          rw [hp] at e
          injection e with e1 e2 e3
          subst e1
          exact noa_rep ha hp
    · intro i g x p g2 e
      rw [thingR] at e
      by_cases h1 : seesB s i 40 = true
      · rw [if_pos h1] at e
        exact ih.br (i + 1) g x p g2 e
      · rw [if_neg h1] at e
        by_cases h2 : seesB s i 91 = true
        · rw [if_pos h2] at e
          cases hc : classR s (i + 1) with
          | no q => rw [hc] at e; cases e
          | yes r q =>
            rw [hc] at e
            injection e with e1 e2 e3
            subst e1
            rw [NoA]
            trivial
        · rw [if_neg h2] at e
          by_cases h3 : seesB s i 46 = true
          · rw [if_pos h3] at e
            injection e with e1 e2 e3
            subst e1
            rw [NoA]
            trivial
          · rw [if_neg h3] at e
            by_cases h4 : seesB s i 92 = true
            · rw [if_pos h4] at e
              cases hc : escR s (i + 1) with
              | no q => rw [hc] at e; cases e
              | yes r q =>
                rw [hc] at e
                injection e with e1 e2 e3
                subst e1
                rw [NoA]
                trivial
            · rw [if_neg h4] at e
              by_cases h5 : ((s.data.toList[i]?).map specB).getD false = true
              · rw [if_pos h5] at e
                cases e
              · rw [if_neg h5] at e
                injection e with e1 e2 e3
                subst e1
                rw [NoA]
                trivial
    · intro i g x p g2 e
      rw [bracketR] at e
      by_cases h1 : seesB s i 63 = true
      · rw [if_pos h1] at e
        by_cases h2 : seesB s (i + 1) 58 = true
        · rw [if_pos h2] at e
          cases hr : eitherR s n (i + 2) g with
          | no q => rw [hr] at e; cases e
          | yes a q g3 =>
            have ha := ih.ei (i + 2) g a q g3 hr
            rw [hr] at e
            dsimp only at e
            by_cases h3 : seesB s q 41 = true
            · rw [if_pos h3] at e
              injection e with e1 e2 e3
              subst e1
              exact ha
            · rw [if_neg h3] at e
              cases e
        · rw [if_neg h2] at e
          cases e
      · rw [if_neg h1] at e
        cases hr : eitherR s n i (g + 1) with
        | no q => rw [hr] at e; cases e
        | yes a q g3 =>
          have ha := ih.ei i (g + 1) a q g3 hr
          rw [hr] at e
          dsimp only at e
          by_cases h3 : seesB s q 41 = true
          · rw [if_pos h3] at e
            injection e with e1 e2 e3
            subst e1
            rw [NoA]
            exact ha
          · rw [if_neg h3] at e
            cases e
end
/-- Does an expression speak of the text's ends? -/
def anchB (s : ByteArray) : Bool := s.data.toList.any fun b => b == 94 || b == 36
theorem noa_comp {s : ByteArray} {x : Nd} {g : Nat} (h : compR s = .ok x g) (ha : anchB s = false) : NoA x := by
  obtain ⟨h1, p, h2, h3⟩ := comp_ok h
  have H : ∀ i, seesB s i 94 = false ∧ seesB s i 36 = false := fun i => by
    have hm : ∀ c : UInt8, (c == 94 || c == 36) = true → seesB s i c = false := fun c hc => by
      cases h9 : seesB s i c with
      | false => rfl
      | true =>
        unfold seesB at h9
        have h8 := List.mem_of_getElem? (eq_of_beq h9)
        have : anchB s = true := List.any_eq_true.2 ⟨c, h8, hc⟩
        rw [ha] at this
        cases this
    exact ⟨hm 94 rfl, hm 36 rfl⟩
  exact (noa_all H _).ei 0 0 x p g h2
/-- How wide a character is, by the document's own reading. -/
theorem char_width {x : ByteArray} {i : Nat} (h : i < x.size) : (charR x i).2 = if wAt x i = 0 then 1 else wAt x i := by
  have e : charR x i = Lib.decodeN (x.size - i) (bAt x i) (bAt x (i + 1)) (bAt x (i + 2)) (bAt x (i + 3)) := by
    rw [charR_drop h, Lib.decodeL_N, bAt_drop, bAt_drop, bAt_drop, bAt_drop, List.length_drop, size_data]
    rfl
  rw [e]
  exact (dec_w (x.size - i) (bAt x i) (bAt x (i + 1)) (bAt x (i + 2)) (bAt x (i + 3)) (bAt_lt x _) (bAt_lt x _) (bAt_lt x _) (bAt_lt x _)).1
/-- Does a part mean a text? -/
def matB (x : Nd) (u : ByteArray) : Bool := (runF (progR x) u false).isSome
theorem mat_iff (x : Nd) (u : ByteArray) : matB x u = true ↔ meansN x u := run_means x u false
theorem bool_ext {a b : Bool} (h : a = true ↔ b = true) : a = b := Bool.eq_iff_iff.2 h
theorem either_mat {t : ByteArray} {A B : Itm} (hA : A.Ok) (hB : B.Ok) (ht : t.size ≤ 256) (h : t.data.toList = itB A ++ 124 :: itB B) : compR t = .large ∨ ∃ y g, compR t = .ok y g ∧ ∀ u, matB y u = (matB A.x u || matB B.x u) := by
  refine (comp_items (L := [[A], [B]]) (by simp) (by simp [hA, hB]) ht (by rw [h]; simp [altB, rowB])).imp id ?_
  rintro ⟨y, g, h1, h2⟩
  refine ⟨y, g, h1, fun u => bool_ext ?_⟩
  have hs : ∀ x b, mNs u [x] 0 b ↔ mN u x 0 b := fun x b => by simp [mNs]
  rw [mat_iff, h2, Bool.or_eq_true, mat_iff, mat_iff]
  simp only [List.mem_cons, List.not_mem_nil, or_false]
  constructor
  · rintro ⟨r, rfl | rfl, b, h3, h4⟩
    · exact Or.inl ⟨b, (hs _ b).1 h3, h4⟩
    · exact Or.inr ⟨b, (hs _ b).1 h3, h4⟩
  · rintro (⟨b, h3, h4⟩ | ⟨b, h3, h4⟩)
    · exact ⟨[A], Or.inl rfl, b, (hs _ b).2 h3, h4⟩
    · exact ⟨[B], Or.inr rfl, b, (hs _ b).2 h3, h4⟩
theorem both_mat {t : ByteArray} {A B : Itm} (hA : A.Ok) (hB : B.Ok) (ht : t.size ≤ 256) (h : t.data.toList = itB A ++ itB B) : compR t = .large ∨ ∃ y g, compR t = .ok y g ∧ (anchB A.s = false → anchB B.s = false → ∀ u, matB y u = true ↔ ∃ k, matB A.x (u.extract 0 (posK u k)) = true ∧ matB B.x (u.extract (posK u k) u.size) = true) := by
  refine (comp_items (L := [[A, B]]) (by simp) (by simp [hA, hB]) ht (by rw [h]; simp [altB, rowB])).imp id ?_
  rintro ⟨y, g, h1, h2⟩
  refine ⟨y, g, h1, fun ha hb u => ?_⟩
  have hc := cut_means (u := u) (noa_comp hA ha) (noa_comp hB hb)
  rw [mat_iff, h2]
  simp only [List.mem_cons, List.not_mem_nil, or_false]
  constructor
  · rintro ⟨r, rfl, b, h3, h4⟩
    obtain ⟨k, h5, h6⟩ := hc.1 ⟨b, h3, h4⟩
    exact ⟨k, (mat_iff _ _).2 h5, (mat_iff _ _).2 h6⟩
  · rintro ⟨k, h5, h6⟩
    obtain ⟨b, h3, h4⟩ := hc.2 ⟨k, (mat_iff _ _).1 h5, (mat_iff _ _).1 h6⟩
    exact ⟨[A, B], rfl, b, h3, h4⟩
end Go.Proofs.YtmbkcmfcdjccoaaDoor
