/- Alternatives and rows of two expressions: pure. -/
import Derived.Test.YtmbkcmfcdjccoaaDoorMP77
import Derived.Test.YtmbkcmfcdjccoaaDoorMP53
namespace Go.Proofs.YtmbkcmfcdjccoaaDoor
open Go.RowKit Go.Maps

section
variable {s : ByteArray}
theorem noa_rep {x y : Nd} {i p : Nat} (hx : NoA x) (e : repR s x i = .yes y p) : NoA y := by
  unfold repR at e
  by_cases h1 : seesB s i 42 = true
  · rw [if_pos h1] at e
    injection e with e1 e2
    subst e1
    rw [NoA]
    exact hx
  · rw [if_neg h1] at e
    by_cases h2 : seesB s i 43 = true
    · rw [if_pos h2] at e
      injection e with e1 e2
      subst e1
      rw [NoA]
      exact hx
    · rw [if_neg h2] at e
      by_cases h3 : seesB s i 63 = true
      · rw [if_pos h3] at e
        injection e with e1 e2
        subst e1
        rw [NoA]
        exact hx
      · rw [if_neg h3] at e
        by_cases h4 : seesB s i 123 = true
        · rw [if_pos h4] at e
          cases hc : countR s (i + 1) with
          | no q => rw [hc] at e; cases e
          | yes r q =>
            rw [hc] at e
            injection e with e1 e2
            subst e1
            rw [NoA]
            exact hx
        · rw [if_neg h4] at e
          injection e with e1 e2
          subst e1
          exact hx
theorem noas_app : ∀ {l : List Nd} {x : Nd}, NoAs l → NoA x → NoAs (l ++ [x])
  | [], x, _, hx => by
    rw [List.nil_append, NoAs]
    exact ⟨hx, by rw [NoAs]; trivial⟩
  | a :: t, x, h, hx => by
    rw [NoAs] at h
    rw [List.cons_append, NoAs]
    exact ⟨h.1, noas_app h.2 hx⟩
structure NoN (s : ByteArray) (n : Nat) : Prop where
  ei : ∀ i g x p g2, eitherR s n i g = .yes x p g2 → NoA x
  ro : ∀ i g acc x p g2, NoAs acc → rowR s n i g acc = .yes x p g2 → NoA x
  pa : ∀ i g x p g2, partR s n i g = .yes x p g2 → NoA x
  th : ∀ i g x p g2, thingR s n i g = .yes x p g2 → NoA x
  br : ∀ i g x p g2, bracketR s n i g = .yes x p g2 → NoA x
theorem noa_all (H : ∀ i, seesB s i 94 = false ∧ seesB s i 36 = false) : ∀ n, NoN s n
  | 0 => by
    refine ⟨?_, ?_, ?_, ?_, ?_⟩
    · intro i g x p g2 e
      rw [eitherR] at e
      cases e
    · intro i g acc x p g2 _ e
      rw [rowR] at e
      cases e
    · intro i g x p g2 e
      rw [partR] at e
      cases e
    · intro i g x p g2 e
      rw [thingR] at e
      cases e
    · intro i g x p g2 e
      rw [bracketR] at e
      cases e
  | n + 1 => by
    have ih := noa_all H n
    refine ⟨?_, ?_, ?_, ?_, ?_⟩
    · intro i g x p g2 e
      rw [eitherR] at e
      cases hr : rowR s n i g [] with
      | no q => rw [hr] at e; cases e
      | yes a q g3 =>
        have ha := ih.ro i g [] a q g3 (by rw [NoAs]; trivial) hr
        rw [hr] at e
        dsimp only at e
        by_cases h1 : seesB s q 124 = false
        · rw [if_pos h1] at e
          injection e with e1 e2 e3
          subst e1
          exact ha
        · rw [if_neg h1] at e
          cases hr2 : eitherR s n (q + 1) g3 with
          | no q2 => rw [hr2] at e; cases e
          | yes b q2 g4 =>
            have hb := ih.ei (q + 1) g3 b q2 g4 hr2
            rw [hr2] at e
            injection e with e1 e2 e3
            subst e1
            rw [NoA]
            exact ⟨ha, hb⟩
    · intro i g acc x p g2 hacc e
      rw [rowR] at e
      by_cases h1 : s.size ≤ i ∨ seesB s i 124 = true ∨ seesB s i 41 = true
      · rw [if_pos h1] at e
        injection e with e1 e2 e3
        subst e1
        rw [NoA]
        exact hacc
      · rw [if_neg h1] at e
        cases hr : partR s n i g with
        | no q => rw [hr] at e; cases e
        | yes a q g3 =>
          have ha := ih.pa i g a q g3 hr
          rw [hr] at e
          exact ih.ro q g3 (acc ++ [a]) x p g2 (noas_app hacc ha) e
    · intro i g x p g2 e
      rw [partR, (H i).1, (H i).2] at e
      cases hr : thingR s n i g with
      | no q => rw [hr] at e; cases e
      | yes a q g3 =>
        have ha := ih.th i g a q g3 hr
        rw [hr] at e
        dsimp only at e
        rw [if_neg (by decide), if_neg (by decide)] at e
        cases hp : repR s a q with
        | no q2 => rw [hp] at e; cases e
        | yes y q2 =>
          rw [hp] at e
          injection e with e1 e2 e3
          subst e1
          exact noa_rep ha hp
    · intro i g x p g2 e
      rw [thingR] at e
      by_cases h1 : seesB s i 40 = true
      · rw [if_pos h1] at e
        exact ih.br (i + 1) g x p g2 e
      · rw [if_neg h1] at e
        by_cases h2 : seesB s i 91 = true
        · rw [if_pos h2] at e
          cases hc : classR s (i + 1) with
          | no q => rw [hc] at e; cases e
          | yes r q =>
            rw [hc] at e
            injection e with e1 e2 e3
            subst e1
            rw [NoA]
            trivial
        · rw [if_neg h2] at e
          by_cases h3 : seesB s i 46 = true
          · rw [if_pos h3] at e
            injection e with e1 e2 e3
            subst e1
            rw [NoA]
            trivial
          · rw [if_neg h3] at e
            by_cases h4 : seesB s i 92 = true
            · rw [if_pos h4] at e
              cases hc : escR s (i + 1) with
              | no q => rw [hc] at e; cases e
              | yes r q =>
                rw [hc] at e
                injection e with e1 e2 e3
                subst e1
                rw [NoA]
                trivial
            · rw [if_neg h4] at e
              by_cases h5 : ((s.data.toList[i]?).map specB).getD false = true
              · rw [if_pos h5] at e
                cases e
              · rw [if_neg h5] at e
                injection e with e1 e2 e3
                subst e1
                rw [NoA]
                trivial
    · intro i g x p g2 e
      rw [bracketR] at e
      by_cases h1 : seesB s i 63 = true
      · rw [if_pos h1] at e
        by_cases h2 : seesB s (i + 1) 58 = true
        · rw [if_pos h2] at e
          cases hr : eitherR s n (i + 2) g with
          | no q => rw [hr] at e; cases e
          | yes a q g3 =>
            have ha := ih.ei (i + 2) g a q g3 hr
            rw [hr] at e
            dsimp only at e
            by_cases h3 : seesB s q 41 = true
            · rw [if_pos h3] at e
              injection e with e1 e2 e3
              subst e1
              exact ha
            · rw [if_neg h3] at e
              cases e
        · rw [if_neg h2] at e
          cases e
      · rw [if_neg h1] at e
        cases hr : eitherR s n i (g + 1) with
        | no q => rw [hr] at e; cases e
        | yes a q g3 =>
          have ha := ih.ei i (g + 1) a q g3 hr
          rw [hr] at e
          dsimp only at e
          by_cases h3 : seesB s q 41 = true
          · rw [if_pos h3] at e
            injection e with e1 e2 e3
            subst e1
            rw [NoA]
            exact ha
          · rw [if_neg h3] at e
            cases e
end
/-- Does an expression speak of the text's ends? -/
def anchB (s : ByteArray) : Bool := s.data.toList.any fun b => b == 94 || b == 36
theorem noa_comp {s : ByteArray} {x : Nd} {g : Nat} (h : compR s = .ok x g) (ha : anchB s = false) : NoA x := by
  obtain ⟨h1, p, h2, h3⟩ := comp_ok h
  have H : ∀ i, seesB s i 94 = false ∧ seesB s i 36 = false := fun i => by
    have hm : ∀ c : UInt8, (c == 94 || c == 36) = true → seesB s i c = false := fun c hc => by
      cases h9 : seesB s i c with
      | false => rfl
      | true =>
        unfold seesB at h9
        have h8 := List.mem_of_getElem? (eq_of_beq h9)
        have : anchB s = true := List.any_eq_true.2 ⟨c, h8, hc⟩
        rw [ha] at this
        cases this
    exact ⟨hm 94 rfl, hm 36 rfl⟩
  exact (noa_all H _).ei 0 0 x p g h2
/-- How wide a character is, by the document's own reading. -/
theorem char_width {x : ByteArray} {i : Nat} (h : i < x.size) : (charR x i).2 = if wAt x i = 0 then 1 else wAt x i := by
  have e : charR x i = Lib.decodeN (x.size - i) (bAt x i) (bAt x (i + 1)) (bAt x (i + 2)) (bAt x (i + 3)) := by
    rw [charR_drop h, Lib.decodeL_N, bAt_drop, bAt_drop, bAt_drop, bAt_drop, List.length_drop, size_data]
    rfl
  rw [e]
  exact (dec_w (x.size - i) (bAt x i) (bAt x (i + 1)) (bAt x (i + 2)) (bAt x (i + 3)) (bAt_lt x _) (bAt_lt x _) (bAt_lt x _) (bAt_lt x _)).1
/-- Does a part mean a text? -/
def matB (x : Nd) (u : ByteArray) : Bool := (runF (progR x) u false).isSome
theorem mat_iff (x : Nd) (u : ByteArray) : matB x u = true ↔ meansN x u := run_means x u false
theorem bool_ext {a b : Bool} (h : a = true ↔ b = true) : a = b := Bool.eq_iff_iff.2 h
theorem either_mat {t : ByteArray} {A B : Itm} (hA : A.Ok) (hB : B.Ok) (ht : t.size ≤ 256) (h : t.data.toList = itB A ++ 124 :: itB B) : compR t = .large ∨ ∃ y g, compR t = .ok y g ∧ ∀ u, matB y u = (matB A.x u || matB B.x u) := by
  refine (comp_items (L := [[A], [B]]) (by simp) (by simp [hA, hB]) ht (by rw [h]; simp [altB, rowB])).imp id ?_
  rintro ⟨y, g, h1, h2⟩
  refine ⟨y, g, h1, fun u => bool_ext ?_⟩
  have hs : ∀ x b, mNs u [x] 0 b ↔ mN u x 0 b := fun x b => by simp [mNs]
  rw [mat_iff, h2, Bool.or_eq_true, mat_iff, mat_iff]
  simp only [List.mem_cons, List.not_mem_nil, or_false]
  constructor
  · rintro ⟨r, rfl | rfl, b, h3, h4⟩
    · exact Or.inl ⟨b, (hs _ b).1 h3, h4⟩
    · exact Or.inr ⟨b, (hs _ b).1 h3, h4⟩
  · rintro (⟨b, h3, h4⟩ | ⟨b, h3, h4⟩)
    · exact ⟨[A], Or.inl rfl, b, (hs _ b).2 h3, h4⟩
    · exact ⟨[B], Or.inr rfl, b, (hs _ b).2 h3, h4⟩
theorem both_mat {t : ByteArray} {A B : Itm} (hA : A.Ok) (hB : B.Ok) (ht : t.size ≤ 256) (h : t.data.toList = itB A ++ itB B) : compR t = .large ∨ ∃ y g, compR t = .ok y g ∧ (anchB A.s = false → anchB B.s = false → ∀ u, matB y u = true ↔ ∃ k, matB A.x (u.extract 0 (posK u k)) = true ∧ matB B.x (u.extract (posK u k) u.size) = true) := by
  refine (comp_items (L := [[A, B]]) (by simp) (by simp [hA, hB]) ht (by rw [h]; simp [altB, rowB])).imp id ?_
  rintro ⟨y, g, h1, h2⟩
  refine ⟨y, g, h1, fun ha hb u => ?_⟩
  have hc := cut_means (u := u) (noa_comp hA ha) (noa_comp hB hb)
  rw [mat_iff, h2]
  simp only [List.mem_cons, List.not_mem_nil, or_false]
  constructor
  · rintro ⟨r, rfl, b, h3, h4⟩
    obtain ⟨k, h5, h6⟩ := hc.1 ⟨b, h3, h4⟩
    exact ⟨k, (mat_iff _ _).2 h5, (mat_iff _ _).2 h6⟩
  · rintro ⟨k, h5, h6⟩
    obtain ⟨b, h3, h4⟩ := hc.2 ⟨k, (mat_iff _ _).1 h5, (mat_iff _ _).1 h6⟩
    exact ⟨[A, B], rfl, b, h3, h4⟩
end Go.Proofs.YtmbkcmfcdjccoaaDoor
