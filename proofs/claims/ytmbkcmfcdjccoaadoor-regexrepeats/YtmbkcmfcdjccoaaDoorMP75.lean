/- Texts that belong together. -/
import Derived.Test.YtmbkcmfcdjccoaaDoorMP74
/- An expression within brackets is read as it is read alone: its parts; pure. -/
namespace Go.Proofs.YtmbkcmfcdjccoaaDoor
open Go.RowKit Go.Maps

section
variable {s t : ByteArray} {i0 : Nat}
/-- Read alone so, and in the other text so. -/
def InCtx (s : ByteArray) (i0 : Nat) (g g' : Nat) (a : Pt Nd) (b : Pt Nd) : Prop := ∀ x p g2, a = .yes x p g2 → ∃ x', b = .yes x' (i0 + p) (g' + (g2 - g)) ∧ SameN x x' ∧ p ≤ s.size ∧ g ≤ g2
structure CtxN (s t : ByteArray) (i0 n : Nat) : Prop where
  ei : ∀ m j g g', n ≤ m → j ≤ s.size → InCtx s i0 g g' (eitherR s n j g) (eitherR t m (i0 + j) g')
  ro : ∀ m j g g' acc acc', n ≤ m → j ≤ s.size → SameL acc acc' → InCtx s i0 g g' (rowR s n j g acc) (rowR t m (i0 + j) g' acc')
  pa : ∀ m j g g', n ≤ m → j < s.size → InCtx s i0 g g' (partR s n j g) (partR t m (i0 + j) g')
  th : ∀ m j g g', n ≤ m → j < s.size → InCtx s i0 g g' (thingR s n j g) (thingR t m (i0 + j) g')
  br : ∀ m j g g', n ≤ m → j ≤ s.size → InCtx s i0 g g' (bracketR s n j g) (bracketR t m (i0 + j) g')
theorem ctx_zero : CtxN s t i0 0 := by
  refine ⟨?_, ?_, ?_, ?_, ?_⟩
  · intro m j g g' _ _ x p g2 e
    rw [eitherR] at e
    cases e
  · intro m j g g' acc acc' _ _ _ x p g2 e
    rw [rowR] at e
    cases e
  · intro m j g g' _ _ x p g2 e
    rw [partR] at e
    cases e
  · intro m j g g' _ _ x p g2 e
    rw [thingR] at e
    cases e
  · intro m j g g' _ _ x p g2 e
    rw [bracketR] at e
    cases e
theorem ctx_either (h : CtxT s t i0) {n : Nat} (ih : CtxN s t i0 n) (m j g g' : Nat) (hm : n ≤ m) (hj : j ≤ s.size) : InCtx s i0 g g' (eitherR s (n + 1) j g) (eitherR t (m + 1) (i0 + j) g') := by
  intro x p g2 e
  rw [eitherR] at e ⊢
  cases hr : rowR s n j g [] with
  | no q => rw [hr] at e; cases e
  | yes a q g3 =>
    obtain ⟨a', k1, k2, k3, k4⟩ := ih.ro m j g g' [] [] hm hj (fun _ => rfl) a q g3 hr
    rw [hr] at e
    rw [k1]
    dsimp only at e ⊢
    rw [h.sees k3 (by decide)]
    by_cases h1 : seesB s q 124 = false
    · rw [if_pos h1] at e ⊢
      injection e with e1 e2 e3
      subst e1 e2 e3
      exact ⟨a', rfl, k2, k3, k4⟩
    · rw [if_neg h1] at e ⊢
      have hq : q + 1 ≤ s.size := sees_lt (c := 124) (by simpa using h1)
      cases hr2 : eitherR s n (q + 1) g3 with
      | no q2 => rw [hr2] at e; cases e
      | yes b q2 g4 =>
        obtain ⟨b', l1, l2, l3, l4⟩ := ih.ei m (q + 1) g3 (g' + (g3 - g)) hm hq b q2 g4 hr2
        rw [hr2] at e
        rw [show i0 + q + 1 = i0 + (q + 1) from rfl, l1]
        injection e with e1 e2 e3
        subst e1 e2 e3
        exact ⟨.either a' b', by dsimp only; congr 1; omega, k2.either l2, l3, by omega⟩
theorem ctx_row (h : CtxT s t i0) {n : Nat} (ih : CtxN s t i0 n) (m j g g' : Nat) (acc acc' : List Nd) (hm : n ≤ m) (hj : j ≤ s.size) (ha : SameL acc acc') : InCtx s i0 g g' (rowR s (n + 1) j g acc) (rowR t (m + 1) (i0 + j) g' acc') := by
  intro x p g2 e
  have hz := h.size
  rw [rowR] at e ⊢
  rcases Nat.lt_or_ge j s.size with hlt | hge
  · have hc : (t.size ≤ i0 + j ∨ seesB t (i0 + j) 124 = true ∨ seesB t (i0 + j) 41 = true) ↔ (s.size ≤ j ∨ seesB s j 124 = true ∨ seesB s j 41 = true) := by
      rw [h.sees hj (by decide), h.sees41 hlt]
      constructor
      · rintro (h1 | h1)
        · omega
        · exact Or.inr h1
      · rintro (h1 | h1)
        · omega
        · exact Or.inr h1
    by_cases h1 : s.size ≤ j ∨ seesB s j 124 = true ∨ seesB s j 41 = true
    · rw [if_pos h1] at e
      rw [if_pos (hc.2 h1)]
      injection e with e1 e2 e3
      subst e1 e2 e3
      exact ⟨.row acc', by congr 1; omega, SameN.row ha, hj, Nat.le_refl _⟩
    · rw [if_neg h1] at e
      rw [if_neg (fun h9 => h1 (hc.1 h9))]
      cases hr : partR s n j g with
      | no q => rw [hr] at e; cases e
      | yes a q g3 =>
        obtain ⟨a', k1, k2, k3, k4⟩ := ih.pa m j g g' hm hlt a q g3 hr
        rw [hr] at e
        rw [k1]
        dsimp only at e ⊢
        obtain ⟨x', l1, l2, l3, l4⟩ := ih.ro m q g3 (g' + (g3 - g)) (acc ++ [a]) (acc' ++ [a']) hm k3 (ha.app k2) x p g2 e
        exact ⟨x', by rw [l1]; congr 1; omega, l2, l3, by omega⟩
  · obtain rfl : j = s.size := by omega
    rw [if_pos (Or.inl (Nat.le_refl _))] at e
    injection e with e1 e2 e3
    subst e1 e2 e3
    have h41 : seesB t (i0 + s.size) 41 = true := by
      unfold seesB
      rw [h.last]
      rfl
    rw [if_pos (Or.inr (Or.inr h41))]
    exact ⟨.row acc', by congr 1; omega, SameN.row ha, Nat.le_refl _, Nat.le_refl _⟩
theorem ctx_part (h : CtxT s t i0) {n : Nat} (ih : CtxN s t i0 n) (m j g g' : Nat) (hm : n ≤ m) (hj : j < s.size) : InCtx s i0 g g' (partR s (n + 1) j g) (partR t (m + 1) (i0 + j) g') := by
  intro x p g2 e
  rw [partR] at e ⊢
  rw [h.sees (by omega) (by decide), h.sees (by omega) (by decide)]
  by_cases h1 : seesB s j 94 = true
  · rw [if_pos h1] at e ⊢
    injection e with e1 e2 e3
    subst e1 e2 e3
    exact ⟨.start, by congr 1; omega, SameN.refl _, hj, Nat.le_refl _⟩
  · rw [if_neg h1] at e ⊢
    by_cases h2 : seesB s j 36 = true
    · rw [if_pos h2] at e ⊢
      injection e with e1 e2 e3
      subst e1 e2 e3
      exact ⟨.stop, by congr 1; omega, SameN.refl _, hj, Nat.le_refl _⟩
    · rw [if_neg h2] at e ⊢
      cases hr : thingR s n j g with
      | no q => rw [hr] at e; cases e
      | yes a q g3 =>
        obtain ⟨a', k1, k2, k3, k4⟩ := ih.th m j g g' hm hj a q g3 hr
        rw [hr] at e
        rw [k1]
        dsimp only at e ⊢
        cases hp : repR s a q with
        | no q2 => rw [hp] at e; cases e
        | yes y q2 =>
          obtain ⟨y', l1, l2, l3⟩ := rep_ctx h k3 k2 hp
          rw [hp] at e
          rw [l1]
          injection e with e1 e2 e3
          subst e1 e2 e3
          exact ⟨y', rfl, l2, l3, k4⟩
theorem ctx_thing (h : CtxT s t i0) {n : Nat} (ih : CtxN s t i0 n) (m j g g' : Nat) (hm : n ≤ m) (hj : j < s.size) : InCtx s i0 g g' (thingR s (n + 1) j g) (thingR t (m + 1) (i0 + j) g') := by
  intro x p g2 e
  rw [thingR] at e ⊢
  rw [h.sees (by omega) (by decide), h.sees (by omega) (by decide), h.sees (by omega) (by decide), h.sees (by omega) (by decide), h.at hj, h.char hj]
  by_cases h1 : seesB s j 40 = true
  · rw [if_pos h1] at e ⊢
    exact ih.br m (j + 1) g g' hm hj x p g2 e
  · rw [if_neg h1] at e ⊢
    by_cases h2 : seesB s j 91 = true
    · rw [if_pos h2] at e ⊢
      cases hc : classR s (j + 1) with
      | no q => rw [hc] at e; cases e
      | yes r q =>
        obtain ⟨l, neg⟩ := r
        obtain ⟨k1, k2⟩ := class_ctx h (j := j + 1) hj hc
        rw [hc] at e
        rw [show i0 + j + 1 = i0 + (j + 1) from rfl, k1]
        injection e with e1 e2 e3
        subst e1 e2 e3
        exact ⟨.take l neg, by dsimp only; congr 1; omega, SameN.refl _, k2, Nat.le_refl _⟩
    · rw [if_neg h2] at e ⊢
      by_cases h3 : seesB s j 46 = true
      · rw [if_pos h3] at e ⊢
        injection e with e1 e2 e3
        subst e1 e2 e3
        exact ⟨.take [(0, maxR)] false, by congr 1; omega, SameN.refl _, hj, Nat.le_refl _⟩
      · rw [if_neg h3] at e ⊢
        by_cases h4 : seesB s j 92 = true
        · rw [if_pos h4] at e ⊢
          cases hc : escR s (j + 1) with
          | no q => rw [hc] at e; cases e
          | yes r q =>
            obtain ⟨l, al⟩ := r
            obtain ⟨k1, k2⟩ := esc_ctx h (j := j + 1) hc
            rw [hc] at e
            rw [show i0 + j + 1 = i0 + (j + 1) from rfl, k1]
            injection e with e1 e2 e3
            subst e1 e2 e3
            exact ⟨.take l false, by dsimp only; congr 1; omega, SameN.refl _, k2, Nat.le_refl _⟩
        · rw [if_neg h4] at e ⊢
          by_cases h5 : ((s.data.toList[j]?).map specB).getD false = true
          · rw [if_pos h5] at e
            cases e
          · rw [if_neg h5] at e ⊢
            obtain ⟨k1, k2, k3⟩ := charR_ok hj
            injection e with e1 e2 e3
            subst e1 e2 e3
            exact ⟨_, by rw [Nat.sub_self, Nat.add_zero, Nat.add_assoc], SameN.refl _, k2, Nat.le_refl _⟩
theorem ctx_bracket (h : CtxT s t i0) {n : Nat} (ih : CtxN s t i0 n) (m j g g' : Nat) (hm : n ≤ m) (hj : j ≤ s.size) : InCtx s i0 g g' (bracketR s (n + 1) j g) (bracketR t (m + 1) (i0 + j) g') := by
  intro x p g2 e
  rw [bracketR] at e ⊢
  rw [h.sees hj (by decide)]
  by_cases h1 : seesB s j 63 = true
  · rw [if_pos h1] at e ⊢
    have hj1 : j + 1 ≤ s.size := sees_lt h1
    rw [show i0 + j + 1 = i0 + (j + 1) from rfl, h.sees hj1 (by decide)]
    by_cases h2 : seesB s (j + 1) 58 = true
    · rw [if_pos h2] at e ⊢
      have hj2 : j + 2 ≤ s.size := sees_lt h2
      cases hr : eitherR s n (j + 2) g with
      | no q => rw [hr] at e; cases e
      | yes a q g3 =>
        obtain ⟨a', k1, k2, k3, k4⟩ := ih.ei m (j + 2) g g' hm hj2 a q g3 hr
        rw [hr] at e
        rw [show i0 + j + 2 = i0 + (j + 2) from rfl, k1]
        dsimp only at e ⊢
        by_cases h3 : seesB s q 41 = true
        · have hq := sees_lt h3
          rw [if_pos h3] at e
          rw [h.sees41 hq, if_pos h3]
          injection e with e1 e2 e3
          subst e1 e2 e3
          exact ⟨a', rfl, k2, hq, k4⟩
        · rw [if_neg h3] at e
          cases e
    · rw [if_neg h2] at e
      cases e
  · rw [if_neg h1] at e ⊢
    cases hr : eitherR s n j (g + 1) with
    | no q => rw [hr] at e; cases e
    | yes a q g3 =>
      obtain ⟨a', k1, k2, k3, k4⟩ := ih.ei m j (g + 1) (g' + 1) hm hj a q g3 hr
      rw [hr] at e
      rw [k1]
      dsimp only at e ⊢
      by_cases h3 : seesB s q 41 = true
      · have hq := sees_lt h3
        rw [if_pos h3] at e
        rw [h.sees41 hq, if_pos h3]
        injection e with e1 e2 e3
        subst e1 e2 e3
        exact ⟨.group (g' + 1) a', by congr 1; omega, k2.group _ _, hq, by omega⟩
      · rw [if_neg h3] at e
        cases e
theorem ctx_all (h : CtxT s t i0) : ∀ n, CtxN s t i0 n
  | 0 => ctx_zero
  | n + 1 => by
    have ih := ctx_all h n
    have hgo : ∀ m, n + 1 ≤ m → ∃ k, m = k + 1 ∧ n ≤ k := fun m hm => ⟨m - 1, by omega, by omega⟩
    refine ⟨fun m j g g' hm hj => ?_, fun m j g g' acc acc' hm hj ha => ?_, fun m j g g' hm hj => ?_, fun m j g g' hm hj => ?_, fun m j g g' hm hj => ?_⟩
    all_goals obtain ⟨k, rfl, hk⟩ := hgo m hm
    · exact ctx_either h ih k j g g' hk hj
    · exact ctx_row h ih k j g g' acc acc' hk hj ha
    · exact ctx_part h ih k j g g' hk hj
    · exact ctx_thing h ih k j g g' hk hj
    · exact ctx_bracket h ih k j g g' hk hj
end
/-- An expression that is one. -/
theorem comp_ok {s : ByteArray} {x : Nd} {g : Nat} (h : compR s = .ok x g) : s.size ≤ 256 ∧ ∃ p, readS s = .yes x p g ∧ s.size ≤ p := by
  unfold compR at h
  by_cases h1 : 256 < s.size
  · rw [if_pos h1] at h
    cases h
  · rw [if_neg h1] at h
    cases hr : readS s with
    | no p => rw [hr] at h; cases h
    | yes y p g2 =>
      rw [hr] at h
      dsimp only at h
      by_cases h2 : p < s.size
      · rw [if_pos h2] at h
        cases h
      · rw [if_neg h2] at h
        by_cases h3 : 2000 < sizeN y + 1
        · rw [if_pos h3] at h
          cases h
        · rw [if_neg h3] at h
          injection h with h4 h5
          subst h4 h5
          exact ⟨by omega, p, rfl, by omega⟩
/-- Within brackets it is read as it is alone. -/
theorem ctx_read {s t : ByteArray} {i0 : Nat} (h : CtxT s t i0) {x : Nd} {g0 : Nat} (hs : compR s = .ok x g0) {m : Nat} (hm : 5 * s.size + 2 ≤ m) (g : Nat) : ∃ x', eitherR t m i0 g = .yes x' (i0 + s.size) (g + g0) ∧ SameN x x' := by
  obtain ⟨h1, p, h2, h3⟩ := comp_ok hs
  obtain ⟨x', k1, k2, k3, k4⟩ := (ctx_all h (5 * s.size + 2)).ei m 0 0 g hm (Nat.zero_le _) x p g0 h2
  obtain rfl : p = s.size := by omega
  exact ⟨x', by rw [Nat.add_zero, Nat.sub_zero] at k1; exact k1, k2⟩
/-- A thing: an expression within brackets that count no group. -/
theorem ctx_thing0 {s t : ByteArray} {i : Nat} {rest : List UInt8} (h : t.data.toList.drop i = 40 :: 63 :: 58 :: (s.data.toList ++ 41 :: rest)) {x : Nd} {g0 : Nat} (hs : compR s = .ok x g0) {m : Nat} (hm : 5 * s.size + 4 ≤ m) (g : Nat) : ∃ x', thingR t m i g = .yes x' (i + s.size + 4) (g + g0) ∧ SameN x x' := by
  obtain ⟨k, rfl⟩ : ∃ k, m = k + 2 := ⟨m - 2, by omega⟩
  have h1 := (at_drop h).2.2
  have h2 := (at_drop h1).2.2
  have h3 := (at_drop h2).2.2
  have hc : CtxT s t (i + 3) := ⟨rest, h3⟩
  obtain ⟨x', k1, k2⟩ := ctx_read hc hs (m := k) (by omega) g
  refine ⟨x', ?_, k2⟩
  have s0 : seesB t i 40 = true := by rw [sees_at h]; rfl
  have s1 : seesB t (i + 1) 63 = true := by rw [sees_at h1]; rfl
  have s2 : seesB t (i + 1 + 1) 58 = true := by rw [sees_at h2]; rfl
  rw [thingR, if_pos s0, bracketR, if_pos s1, if_pos s2, show i + 1 + 2 = i + 3 from rfl, k1]
  dsimp only
  have h41 : seesB t (i + 3 + s.size) 41 = true := by
    unfold seesB
    rw [hc.last]
    rfl
  rw [if_pos h41]
  congr 1
  omega
end Go.Proofs.YtmbkcmfcdjccoaaDoor

/- Things in rows and alternatives: pure. What is read of them, and what it means. -/
namespace Go.Proofs.YtmbkcmfcdjccoaaDoor
open Go.RowKit Go.Maps

/-- An expression that is one, to be put within brackets. -/
structure Itm where
  s : ByteArray
  x : Nd
  g : Nat
def Itm.Ok (I : Itm) : Prop := compR I.s = .ok I.x I.g
/-- It, within brackets that count no group. -/
def itB (I : Itm) : List UInt8 := 40 :: 63 :: 58 :: (I.s.data.toList ++ [41])
def rowB (r : List Itm) : List UInt8 := r.flatMap itB
def altB : List (List Itm) → List UInt8
  | [] => []
  | [r] => rowB r
  | r :: q :: t => rowB r ++ 124 :: altB (q :: t)
/-- The text ends, or another alternative follows. -/
def EndQ (l : List UInt8) : Prop := l = [] ∨ ∃ t, l = 124 :: t
theorem itB_len (I : Itm) : (itB I).length = I.s.size + 4 := by
  unfold itB
  rw [Lib.size_eq]
  simp
theorem drop_step {t : ByteArray} {i : Nat} {k r : List UInt8} (h : t.data.toList.drop i = k ++ r) : t.data.toList.drop (i + k.length) = r := by
  rw [← List.drop_drop, h]
  simp
theorem drop_nil {t : ByteArray} {i : Nat} (h : t.data.toList.drop i = []) : t.size ≤ i := by
  have := congrArg List.length h
  rw [List.length_drop, ← Lib.size_eq] at this
  have : t.size - i = 0 := this
  omega
theorem sees_head {t : ByteArray} {i : Nat} {l : List UInt8} {c : UInt8} (h : t.data.toList.drop i = l) (hc : l.head? ≠ some c) : seesB t i c = false := by
  cases l with
  | nil => exact sees_none (drop_nil h) c
  | cons b u =>
    rw [sees_at h]
    have : b ≠ c := fun e => hc (by rw [e]; rfl)
    simpa using this
theorem SameL.cons {l m : List Nd} {x y : Nd} (h : SameL l m) (k : SameN x y) : SameL (x :: l) (y :: m) := fun u => by
  funext a b
  rw [mNs, mNs, h u, k u]
/-- One thing, no repeat behind it. -/
theorem item_part {t : ByteArray} {i m g : Nat} {rest : List UInt8} {I : Itm} (hI : I.Ok) (h : t.data.toList.drop i = itB I ++ rest) (hr : ∀ c ∈ [42, 43, 63, 123], rest.head? ≠ some c) (hm : 5 * I.s.size + 5 ≤ m) :
    ∃ x', partR t m i g = .yes x' (i + (itB I).length) (g + I.g) ∧ SameN I.x x' := by
  obtain ⟨k, rfl⟩ : ∃ k, m = k + 1 := ⟨m - 1, by omega⟩
  have h0 : t.data.toList.drop i = 40 :: 63 :: 58 :: (I.s.data.toList ++ 41 :: rest) := by
    rw [h]
    simp [itB]
  have hd := drop_step h
  obtain ⟨x', k1, k2⟩ := ctx_thing0 h0 hI (m := k) (by omega) g
  refine ⟨x', ?_, k2⟩
  rw [part_one, if_neg (by rw [sees_at h0]; decide), if_neg (by rw [sees_at h0]; decide), k1]
  have he : i + I.s.size + 4 = i + (itB I).length := by rw [itB_len]; omega
  rw [he]
  have hrep : repR t x' (i + (itB I).length) = .yes x' (i + (itB I).length) := repR_none _ (sees_head hd (hr 42 (by decide))) (sees_head hd (hr 43 (by decide))) (sees_head hd (hr 63 (by decide))) (sees_head hd (hr 123 (by decide)))
  show (match repR t x' (i + (itB I).length) with | .no q => Pt.no q | .yes y q => .yes y q (g + I.g)) = _
  rw [hrep]
theorem row_head {r : List Itm} {rest : List UInt8} (hr : EndQ rest) : ∀ c ∈ [42, 43, 63, 123], (rowB r ++ rest).head? ≠ some c := by
  intro c hc e
  have hc' : c = 42 ∨ c = 43 ∨ c = 63 ∨ c = 123 := by simpa using hc
  cases r with
  | nil =>
    rcases hr with rfl | ⟨t, rfl⟩
    · cases e
    · have e : some (124 : UInt8) = some c := e
      injection e with e
      subst e
      rcases hc' with h | h | h | h <;> cases h
  | cons I r =>
    have e : some (40 : UInt8) = some c := e
    injection e with e
    subst e
    rcases hc' with h | h | h | h <;> cases h
theorem row_items {t : ByteArray} {rest : List UInt8} (hr : EndQ rest) : ∀ (r : List Itm) (m i g : Nat) (acc : List Nd), (∀ I ∈ r, I.Ok) → t.data.toList.drop i = rowB r ++ rest → 5 * (rowB r).length + 1 ≤ m → ∃ ys g', rowR t m i g acc = .yes (.row (acc ++ ys)) (i + (rowB r).length) g' ∧ SameL (r.map Itm.x) ys
  | [], 0, i, g, acc, _, h, hm => absurd hm (by omega)
  | [], m + 1, i, g, acc, _, h, hm => by
    have h : t.data.toList.drop i = rest := h
    refine ⟨[], g, ?_, fun _ => rfl⟩
    rw [row_one, if_pos]
    · rw [List.append_nil]
      rfl
    · rcases hr with rfl | ⟨u, rfl⟩
      · exact Or.inl (drop_nil h)
      · exact Or.inr (Or.inl (by rw [sees_at h]; rfl))
  | I :: r, m, i, g, acc, hI, h, hm => by
    have hl : (rowB (I :: r)).length = (itB I).length + (rowB r).length := by
      show (itB I ++ rowB r).length = _
      rw [List.length_append]
    have hil := itB_len I
    obtain ⟨k, rfl⟩ : ∃ k, m = k + 1 := ⟨m - 1, by omega⟩
    have h' : t.data.toList.drop i = itB I ++ (rowB r ++ rest) := by
      rw [h]
      show itB I ++ rowB r ++ rest = _
      rw [List.append_assoc]
    have h0 : t.data.toList.drop i = 40 :: (63 :: 58 :: (I.s.data.toList ++ [41]) ++ (rowB r ++ rest)) := h'
    obtain ⟨x', k1, k2⟩ := item_part (g := g) (m := k) (hI I (by simp)) h' (row_head hr) (by omega)
    obtain ⟨ys, g', k3, k4⟩ := row_items hr r k (i + (itB I).length) (g + I.g) (acc ++ [x']) (fun J hJ => hI J (by simp [hJ])) (drop_step h') (by omega)
    refine ⟨x' :: ys, g', ?_, k4.cons k2⟩
    rw [row_one, if_neg, k1]
    · dsimp only
      rw [k3, hl]
      simp [Nat.add_assoc]
    · rintro (h9 | h9 | h9)
      · have := (at_drop h0).2.1
        omega
      · rw [sees_at h0] at h9
        cases h9
      · rw [sees_at h0] at h9
        cases h9
theorem alt_items {t : ByteArray} : ∀ (L : List (List Itm)) (m i g : Nat), L ≠ [] → i ≤ t.size → (∀ r ∈ L, ∀ I ∈ r, I.Ok) → t.data.toList.drop i = altB L → 5 * (altB L).length + 2 ≤ m → ∃ y g', eitherR t m i g = .yes y t.size g' ∧ ∀ u a b, mN u y a b ↔ ∃ r ∈ L, mNs u (r.map Itm.x) a b
  | [], _, _, _, hne, _, _, _, _ => absurd rfl hne
  | [r], m, i, g, _, hi, hI, h, hm => by
    obtain ⟨k, rfl⟩ : ∃ k, m = k + 1 := ⟨m - 1, by omega⟩
    have h : t.data.toList.drop i = rowB r := h
    have hm : 5 * (rowB r).length + 2 ≤ k + 1 := hm
    obtain ⟨ys, g', k1, k2⟩ := row_items (rest := []) (Or.inl rfl) r k i g [] (hI r (by simp)) (by rw [h, List.append_nil]) (by omega)
    have he : i + (rowB r).length = t.size := by
      have := congrArg List.length h
      rw [List.length_drop, ← Lib.size_eq] at this
      omega
    refine ⟨.row ([] ++ ys), g', ?_, fun u a b => ?_⟩
    · rw [either_one, k1, he]
      dsimp only
      rw [if_pos (sees_end t 124)]
    · rw [mN, List.nil_append, ← k2 u]
      simp
  | r :: q :: L, m, i, g, _, hi, hI, h, hm => by
    obtain ⟨k, rfl⟩ : ∃ k, m = k + 1 := ⟨m - 1, by omega⟩
    have h : t.data.toList.drop i = rowB r ++ 124 :: altB (q :: L) := h
    have hl : (altB (r :: q :: L)).length = (rowB r).length + ((altB (q :: L)).length + 1) := by
      show (rowB r ++ 124 :: altB (q :: L)).length = _
      rw [List.length_append, List.length_cons]
    obtain ⟨ys, g1, k1, k2⟩ := row_items (rest := 124 :: altB (q :: L)) (Or.inr ⟨_, rfl⟩) r k i g [] (hI r (by simp)) h (by omega)
    have hd := drop_step h
    have hd2 := (at_drop hd).2
    obtain ⟨y, g2, k3, k4⟩ := alt_items (q :: L) k (i + (rowB r).length + 1) g1 (by simp) hd2.1 (fun s hs => hI s (by simp only [List.mem_cons] at hs ⊢; exact Or.inr hs)) hd2.2 (by omega)
    refine ⟨.either (.row ([] ++ ys)) y, g2, ?_, fun u a b => ?_⟩
    · rw [either_one, k1]
      dsimp only
      rw [if_neg (by rw [sees_at hd]; decide), k3]
    · rw [mN, mN, List.nil_append, ← k2 u, k4 u]
      simp
/-- What things in rows and alternatives are read as, and what it means. -/
theorem comp_items {t : ByteArray} {L : List (List Itm)} (hne : L ≠ []) (hI : ∀ r ∈ L, ∀ I ∈ r, I.Ok) (ht : t.size ≤ 256) (h : t.data.toList = altB L) : compR t = .large ∨ ∃ y g, compR t = .ok y g ∧ ∀ u, meansN y u ↔ ∃ r ∈ L, ∃ b, mNs u (r.map Itm.x) 0 b ∧ ¬ b < u.size := by
  have hl : (altB L).length = t.size := by rw [← h, ← Lib.size_eq]
  obtain ⟨y, g, k1, k2⟩ := alt_items L (5 * t.size + 2) 0 0 hne (Nat.zero_le _) hI h (by omega)
  have hr : readS t = .yes y t.size g := k1
  unfold compR
  rw [if_neg (by omega), hr]
  dsimp only
  rw [if_neg (Nat.lt_irrefl _)]
  by_cases h3 : 2000 < sizeN y + 1
  · rw [if_pos h3]
    exact Or.inl rfl
  · rw [if_neg h3]
    refine Or.inr ⟨y, g, rfl, fun u => ?_⟩
    constructor
    · rintro ⟨b, h1, h2⟩
      obtain ⟨r, h3, h4⟩ := (k2 u 0 b).1 h1
      exact ⟨r, h3, b, h4, h2⟩
    · rintro ⟨r, h3, b, h4, h2⟩
      exact ⟨b, (k2 u 0 b).2 ⟨r, h3, h4⟩, h2⟩
end Go.Proofs.YtmbkcmfcdjccoaaDoor
