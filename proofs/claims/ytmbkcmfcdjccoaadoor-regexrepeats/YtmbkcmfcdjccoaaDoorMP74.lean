/- An expression within brackets is read as it is read alone: pure. -/
import Derived.Test.YtmbkcmfcdjccoaaDoorMP53
import Derived.Test.YtmbkcmfcdjccoaaDoorMP73
namespace Go.Proofs.YtmbkcmfcdjccoaaDoor
open Go.RowKit Go.Maps

/-- What is decoded is the same where a closing bracket follows. -/
theorem dec_ext {n m b0 b1 b2 b3 d1 d2 d3 : Nat} (h1 : 1 ≤ n) (hm : n < m) (e1 : 1 < n → d1 = b1) (e2 : 2 < n → d2 = b2) (e3 : 3 < n → d3 = b3) (f1 : n = 1 → d1 = 41) (f2 : n = 2 → d2 = 41) (f3 : n = 3 → d3 = 41) : Lib.decodeN m b0 d1 d2 d3 = Lib.decodeN n b0 b1 b2 b3 := by
  rcases (by omega : n = 1 ∨ n = 2 ∨ n = 3 ∨ 3 < n) with hn | hn | hn | hn
  · subst hn
    have f := f1 rfl
    subst f
    unfold Lib.decodeN
    repeat' split
    all_goals first | (exfalso; omega) | rfl
  · subst hn
    have f := f2 rfl
    have e := e1 (by omega)
    subst f e
    unfold Lib.decodeN
    repeat' split
    all_goals first | (exfalso; omega) | rfl
  · subst hn
    have f := f3 rfl
    have e := e1 (by omega)
    have e' := e2 (by omega)
    subst f e e'
    unfold Lib.decodeN
    repeat' split
    all_goals first | (exfalso; omega) | rfl
  · have e := e1 (by omega)
    have e' := e2 (by omega)
    have e'' := e3 (by omega)
    subst e e' e''
    unfold Lib.decodeN
    repeat' split
    all_goals first | (exfalso; omega) | rfl
theorem getD_app_ge {l r : List UInt8} {i : Nat} (h : l.length ≤ i) : (l ++ r).getD i 0 = r.getD (i - l.length) 0 := by
  simp [List.getD_eq_getElem?_getD, List.getElem?_append_right h]
theorem decodeL_ext {l r : List UInt8} (h : l ≠ []) : Lib.decodeL (l ++ 41 :: r) = Lib.decodeL l := by
  have hl : 0 < l.length := List.length_pos_iff.2 h
  have hb : ∀ i, i < l.length → (l ++ 41 :: r).getD i 0 = l.getD i 0 := fun i hi => getD_app_lt hi
  have hf : ∀ i, l.length = i → ((l ++ 41 :: r).getD i 0).toNat = 41 := fun i hi => by
    rw [getD_app_ge (by omega), show i - l.length = 0 by omega]
    rfl
  rw [Lib.decodeL_N, Lib.decodeL_N, hb 0 hl]
  exact dec_ext (by omega) (by rw [List.length_append, List.length_cons]; omega) (fun h => by rw [hb 1 h]) (fun h => by rw [hb 2 h]) (fun h => by rw [hb 3 h]) (hf 1) (hf 2) (hf 3)
/-- A text holds another at a place, and a closing bracket behind it. -/
def CtxT (s t : ByteArray) (i0 : Nat) : Prop := ∃ rest, t.data.toList.drop i0 = s.data.toList ++ 41 :: rest
section
variable {s t : ByteArray} {i0 j : Nat}
theorem CtxT.at (h : CtxT s t i0) (hj : j < s.size) : t.data.toList[i0 + j]? = s.data.toList[j]? := by
  obtain ⟨r, h⟩ := h
  rw [← List.getElem?_drop, h, List.getElem?_append_left (by rw [← Lib.size_eq]; exact hj)]
theorem CtxT.last (h : CtxT s t i0) : t.data.toList[i0 + s.size]? = some 41 := by
  obtain ⟨r, h⟩ := h
  rw [← List.getElem?_drop, h, List.getElem?_append_right (by rw [← Lib.size_eq]; exact Nat.le_refl _), Lib.size_eq, Nat.sub_self]
  rfl
theorem CtxT.size (h : CtxT s t i0) : i0 + s.size + 1 ≤ t.size := by
  have := (List.getElem?_eq_some_iff.1 h.last).1
  rw [Lib.size_eq t]
  omega
theorem sees_none {s : ByteArray} {j : Nat} (h : s.size ≤ j) (c : UInt8) : seesB s j c = false := by
  unfold seesB
  rw [List.getElem?_eq_none (by rw [← Lib.size_eq]; exact h)]
  rfl
theorem sees_lt {s : ByteArray} {j : Nat} {c : UInt8} (h : seesB s j c = true) : j < s.size := by
  rcases Nat.lt_or_ge j s.size with h1 | h1
  · exact h1
  · rw [sees_none h1] at h
    cases h
theorem CtxT.sees (h : CtxT s t i0) (hj : j ≤ s.size) {c : UInt8} (hc : c ≠ 41) : seesB t (i0 + j) c = seesB s j c := by
  rcases Nat.lt_or_ge j s.size with h1 | h1
  · unfold seesB
    rw [h.at h1]
  · obtain rfl : j = s.size := by omega
    rw [sees_none (Nat.le_refl _)]
    unfold seesB
    rw [h.last]
    simpa using hc.symm
theorem CtxT.sees1 (h : CtxT s t i0) {b c : UInt8} (hb : seesB s j b = true) (hc : c ≠ 41) : seesB t (i0 + j + 1) c = seesB s (j + 1) c := h.sees (j := j + 1) (sees_lt hb) hc
theorem CtxT.sees41 (h : CtxT s t i0) (hj : j < s.size) : seesB t (i0 + j) 41 = seesB s j 41 := by
  unfold seesB
  rw [h.at hj]
theorem CtxT.char (h : CtxT s t i0) (hj : j < s.size) : charR t (i0 + j) = charR s j := by
  have hz := h.size
  obtain ⟨r, h⟩ := h
  rw [charR_drop (by omega), charR_drop hj, ← List.drop_drop, h, List.drop_append_of_le_length (by rw [← Lib.size_eq]; omega)]
  refine decodeL_ext fun e => ?_
  have := congrArg List.length e
  rw [List.length_drop, ← Lib.size_eq] at this
  have : s.size - j = 0 := this
  omega
theorem esc_ctx (h : CtxT s t i0) {r : List Sp × Bool} {p : Nat} (e : escR s j = .yes r p) : escR t (i0 + j) = .yes r (i0 + p) ∧ p ≤ s.size := by
  unfold escR at e ⊢
  rcases Nat.lt_or_ge j s.size with h1 | h1
  · rw [h.at h1]
    cases hc : s.data.toList[j]? with
    | none => rw [hc] at e; cases e
    | some c =>
      rw [hc] at e
      dsimp only at e ⊢
      cases hl : letS c with
      | some l =>
        rw [hl] at e
        injection e with e1 e2
        subst e1 e2
        exact ⟨rfl, h1⟩
      | none =>
        rw [hl] at e
        dsimp only at e ⊢
        cases hx : escB c with
        | some x =>
          rw [hx] at e
          injection e with e1 e2
          subst e1 e2
          exact ⟨rfl, h1⟩
        | none => rw [hx] at e; cases e
  · rw [List.getElem?_eq_none (by rw [← Lib.size_eq]; exact h1)] at e
    cases e
theorem mem_ctx (h : CtxT s t i0) {first : Bool} {r : List Sp × Bool} {p : Nat} (hj : j ≤ s.size) (e : memR s j first = .yes r p) : memR t (i0 + j) first = .yes r (i0 + p) ∧ p ≤ s.size := by
  have hz := h.size
  unfold memR at e ⊢
  by_cases h1 : j = s.size
  · rw [if_pos h1] at e
    cases e
  · rw [if_neg h1] at e
    have hlt : j < s.size := by omega
    rw [if_neg (by omega), h.sees hj (by decide), h.sees hj (by decide)]
    by_cases h2 : seesB s j 92 = true
    · rw [if_pos h2] at e ⊢
      exact esc_ctx h (j := j + 1) e
    · rw [if_neg h2] at e ⊢
      obtain ⟨k1, k2, k3⟩ := charR_ok hlt
      rw [h.char hlt]
      generalize charR s j = cw at *
      rw [Nat.add_assoc, h.sees k2 (by decide)]
      by_cases h3 : seesB s j 45 = true ∧ first = false ∧ seesB s (j + cw.2) 93 = false
      · rw [if_pos h3] at e
        cases e
      · rw [if_neg h3] at e ⊢
        injection e with e1 e2
        subst e1 e2
        exact ⟨rfl, k2⟩
theorem piece_ctx (h : CtxT s t i0) {first : Bool} {r : List Sp} {p : Nat} (hj : j ≤ s.size) (e : pieceR s j first = .yes r p) : pieceR t (i0 + j) first = .yes r (i0 + p) ∧ p ≤ s.size := by
  have hz := h.size
  unfold pieceR at e ⊢
  cases hm : memR s j first with
  | no q => rw [hm] at e; cases e
  | yes x q =>
    obtain ⟨l, alone⟩ := x
    obtain ⟨k1, k2⟩ := mem_ctx h hj hm
    rw [hm] at e
    rw [k1]
    dsimp only at e ⊢
    by_cases hC : alone = false ∨ seesB s q 45 = false ∨ (q + 1 < s.size ∧ seesB s (q + 1) 93 = true)
    · rw [if_pos hC] at e
      injection e with e1 e2
      subst e1 e2
      rw [if_pos]
      · exact ⟨rfl, k2⟩
      · rw [h.sees k2 (by decide)]
        rcases hC with hC | hC | ⟨hC, hC'⟩
        · exact Or.inl hC
        · exact Or.inr (Or.inl hC)
        · refine Or.inr (Or.inr ⟨by omega, ?_⟩)
          rw [show i0 + q + 1 = i0 + (q + 1) from rfl, h.sees (by omega) (by decide)]
          exact hC'
    · rw [if_neg hC] at e
      have h45 : seesB s q 45 = true := by
        cases h9 : seesB s q 45 with
        | true => rfl
        | false => exact absurd (Or.inr (Or.inl h9)) hC
      have hq := sees_lt h45
      have e93 := h.sees (j := q + 1) hq (c := 93) (by decide)
      have e45 := h.sees (j := q + 1) hq (c := 45) (by decide)
      rw [if_neg (fun h9 => hC (by
        rw [h.sees k2 (by decide)] at h9
        rcases h9 with h9 | h9 | ⟨h9, h9'⟩
        · exact Or.inl h9
        · exact Or.inr (Or.inl h9)
        · rw [show i0 + q + 1 = i0 + (q + 1) from rfl, e93] at h9'
          exact Or.inr (Or.inr ⟨sees_lt h9', h9'⟩))), show i0 + q + 1 = i0 + (q + 1) from rfl, e45]
      by_cases h2 : seesB s (q + 1) 45 = true ∧ 45 < (l.headD (0, 0)).1
      · rw [if_pos h2] at e
        cases e
      · rw [if_neg h2] at e ⊢
        cases hm2 : memR s (q + 1) false with
        | no q2 => rw [hm2] at e; cases e
        | yes y q2 =>
          obtain ⟨l2, alone2⟩ := y
          obtain ⟨k3, k4⟩ := mem_ctx h hq hm2
          rw [hm2] at e
          rw [k3]
          dsimp only at e ⊢
          by_cases h3 : alone2 = false ∨ (l2.headD (0, 0)).1 < (l.headD (0, 0)).1
          · rw [if_pos h3] at e
            cases e
          · rw [if_neg h3] at e ⊢
            injection e with e1 e2
            subst e1 e2
            exact ⟨rfl, k4⟩
theorem pieces_ctx (h : CtxT s t i0) : ∀ (n m j : Nat) (first : Bool) (acc r : List Sp) (p : Nat), n ≤ m → j ≤ s.size → piecesR s n j first acc = .yes r p → piecesR t m (i0 + j) first acc = .yes r (i0 + p) ∧ p ≤ s.size
  | 0, _, _, _, _, _, _, _, _, e => by rw [piecesR] at e; cases e
  | n + 1, 0, _, _, _, _, _, hm, _, _ => absurd hm (by omega)
  | n + 1, m + 1, j, first, acc, r, p, hm, hj, e => by
    rw [piecesR] at e ⊢
    rw [h.sees hj (by decide)]
    by_cases h1 : first = false ∧ seesB s j 93 = true
    · rw [if_pos h1] at e ⊢
      injection e with e1 e2
      subst e1 e2
      exact ⟨rfl, sees_lt h1.2⟩
    · rw [if_neg h1] at e ⊢
      cases hp : pieceR s j first with
      | no q => rw [hp] at e; cases e
      | yes l q =>
        obtain ⟨k1, k2⟩ := piece_ctx h hj hp
        rw [hp] at e
        rw [k1]
        exact pieces_ctx h n m q false _ r p (by omega) k2 e
theorem class_ctx (h : CtxT s t i0) {r : List Sp × Bool} {p : Nat} (hj : j ≤ s.size) (e : classR s j = .yes r p) : classR t (i0 + j) = .yes r (i0 + p) ∧ p ≤ s.size := by
  have hz := h.size
  unfold classR at e ⊢
  rw [h.sees hj (by decide)]
  by_cases h1 : seesB s j 94 = true
  · rw [if_pos h1] at e ⊢
    cases hp : piecesR s (s.size + 1) (j + 1) true [] with
    | no q => rw [hp] at e; cases e
    | yes l q =>
      obtain ⟨k1, k2⟩ := pieces_ctx h (s.size + 1) (t.size + 1) (j + 1) true [] l q (by omega) (sees_lt h1) hp
      rw [hp] at e
      injection e with e1 e2
      subst e1 e2
      rw [show i0 + j + 1 = i0 + (j + 1) from rfl, k1]
      exact ⟨rfl, k2⟩
  · rw [if_neg h1] at e ⊢
    cases hp : piecesR s (s.size + 1) j true [] with
    | no q => rw [hp] at e; cases e
    | yes l q =>
      obtain ⟨k1, k2⟩ := pieces_ctx h (s.size + 1) (t.size + 1) j true [] l q (by omega) hj hp
      rw [hp] at e
      injection e with e1 e2
      subst e1 e2
      rw [k1]
      exact ⟨rfl, k2⟩
theorem digs_ctx (h : CtxT s t i0) : ∀ (k k' j n : Nat), s.size ≤ k + j → s.size < k' + j → j ≤ s.size → digsR t k' (i0 + j) n = ((digsR s k j n).1, i0 + (digsR s k j n).2)
  | k, 0, j, n, hk, hk', hj => absurd hk' (by omega)
  | k, k' + 1, j, n, hk, hk', hj => by
    rcases Nat.lt_or_ge j s.size with h1 | h1
    · obtain ⟨i, rfl⟩ : ∃ i, k = i + 1 := ⟨k - 1, by omega⟩
      rw [digsR, digsR, h.at h1]
      have hs : s.data.toList[j]? = some (s.data.toList[j]'(by rw [← Lib.size_eq]; exact h1)) := List.getElem?_eq_getElem _
      rw [hs]
      dsimp only
      split
      · exact digs_ctx h i k' (j + 1) _ (by omega) (by omega) h1
      · rfl
    · obtain rfl : j = s.size := by omega
      rw [digsR_end k n (Nat.le_refl _), digsR, h.last]
      rfl
theorem num_ctx (h : CtxT s t i0) {v p : Nat} (hj : j ≤ s.size) (e : numR s j = .yes v p) : numR t (i0 + j) = .yes v (i0 + p) ∧ p ≤ s.size := by
  have hz := h.size
  unfold numR at e ⊢
  rw [h.sees hj (by decide)]
  by_cases h1 : seesB s j 48 = true
  · rw [if_pos h1] at e ⊢
    injection e with e1 e2
    subst e1 e2
    exact ⟨rfl, sees_lt h1⟩
  · rw [if_neg h1] at e ⊢
    rw [digs_ctx h s.size t.size j 0 (by omega) (by omega) hj]
    have hd := digsR_ok (s := s) s.size j 0 hj (by omega)
    by_cases h2 : (digsR s s.size j 0).2 = j
    · rw [if_pos h2] at e
      cases e
    · rw [if_neg h2] at e
      rw [if_neg (by dsimp only; omega)]
      injection e with e1 e2
      subst e1 e2
      exact ⟨rfl, hd.2.1⟩
theorem end_ctx (h : CtxT s t i0) {lo p : Nat} {hi : Int} {r : Nat × Int} (hj : j ≤ s.size) (e : endR s j lo hi = .yes r p) : endR t (i0 + j) lo hi = .yes r (i0 + p) ∧ p ≤ s.size := by
  unfold endR at e ⊢
  rw [h.sees hj (by decide)]
  by_cases h1 : seesB s j 125 = false ∨ 100 < lo ∨ 100 < hi ∨ (hi ≠ -1 ∧ hi < lo)
  · rw [if_pos h1] at e
    cases e
  · rw [if_neg h1] at e ⊢
    injection e with e1 e2
    subst e1 e2
    refine ⟨rfl, ?_⟩
    cases h9 : seesB s j 125 with
    | true => exact sees_lt h9
    | false => exact absurd (Or.inl h9) h1
theorem count_ctx (h : CtxT s t i0) {r : Nat × Int} {p : Nat} (hj : j ≤ s.size) (e : countR s j = .yes r p) : countR t (i0 + j) = .yes r (i0 + p) ∧ p ≤ s.size := by
  unfold countR at e ⊢
  cases hn : numR s j with
  | no q => rw [hn] at e; cases e
  | yes lo q =>
    obtain ⟨k1, k2⟩ := num_ctx h hj hn
    rw [hn] at e
    rw [k1]
    dsimp only at e ⊢
    rw [h.sees k2 (by decide)]
    by_cases h1 : seesB s q 44 = false
    · rw [if_pos h1] at e ⊢
      exact end_ctx h k2 e
    · rw [if_neg h1] at e ⊢
      have hq : q < s.size := sees_lt (c := 44) (by simpa using h1)
      rw [show i0 + q + 1 = i0 + (q + 1) from rfl, h.sees (j := q + 1) hq (by decide)]
      by_cases h2 : seesB s (q + 1) 125 = true
      · rw [if_pos h2] at e ⊢
        exact end_ctx h (j := q + 1) hq e
      · rw [if_neg h2] at e ⊢
        cases hn2 : numR s (q + 1) with
        | no q2 => rw [hn2] at e; cases e
        | yes hi q2 =>
          obtain ⟨k3, k4⟩ := num_ctx h (j := q + 1) hq hn2
          rw [hn2] at e
          rw [k3]
          exact end_ctx h k4 e
end
/-- Two parts that mean the same. -/
def SameN (x y : Nd) : Prop := ∀ u, mN u x = mN u y
def SameL (l m : List Nd) : Prop := ∀ u, mNs u l = mNs u m
theorem SameN.refl (x : Nd) : SameN x x := fun _ => rfl
theorem SameN.times {x y : Nd} (h : SameN x y) (lo : Nat) (hi : Int) (lz : Bool) : SameN (.times x lo hi lz) (.times y lo hi lz) := fun u => by
  funext a b
  rw [mN, mN, h u]
theorem SameN.plus {x y : Nd} (h : SameN x y) (lz : Bool) : SameN (.plus x lz) (.plus y lz) := fun u => by
  funext a b
  rw [mN, mN, h u]
theorem SameN.group {x y : Nd} (h : SameN x y) (n m : Nat) : SameN (.group n x) (.group m y) := fun u => by
  funext a b
  rw [mN, mN, h u]
theorem SameN.either {x y x' y' : Nd} (h : SameN x x') (k : SameN y y') : SameN (.either x y) (.either x' y') := fun u => by
  funext a b
  rw [mN, mN, h u, k u]
theorem SameN.row {l m : List Nd} (h : SameL l m) : SameN (.row l) (.row m) := fun u => by
  funext a b
  rw [mN, mN, h u]
theorem mNs_append (u : ByteArray) : ∀ (l m : List Nd) (a b : Nat), mNs u (l ++ m) a b ↔ ∃ c, mNs u l a c ∧ mNs u m c b
  | [], m, a, b => by
    rw [List.nil_append]
    constructor
    · exact fun h => ⟨a, by rw [mNs], h⟩
    · rintro ⟨c, h1, h2⟩
      rw [mNs] at h1
      rw [h1]
      exact h2
  | x :: l, m, a, b => by
    rw [List.cons_append, mNs]
    constructor
    · rintro ⟨c, h1, h2⟩
      obtain ⟨d, h3, h4⟩ := (mNs_append u l m c b).1 h2
      exact ⟨d, by rw [mNs]; exact ⟨c, h1, h3⟩, h4⟩
    · rintro ⟨d, h1, h2⟩
      rw [mNs] at h1
      obtain ⟨c, h3, h4⟩ := h1
      exact ⟨c, h3, (mNs_append u l m c b).2 ⟨d, h4, h2⟩⟩
theorem SameL.app {l m : List Nd} {x y : Nd} (h : SameL l m) (k : SameN x y) : SameL (l ++ [x]) (m ++ [y]) := fun u => by
  funext a b
  refine propext ?_
  rw [mNs_append, mNs_append, h u]
  simp only [mNs, k u]
theorem rep_ctx {s t : ByteArray} {i0 j : Nat} (h : CtxT s t i0) {x y x' : Nd} {p : Nat} (hj : j ≤ s.size) (hx : SameN x x') (e : repR s x j = .yes y p) : ∃ y', repR t x' (i0 + j) = .yes y' (i0 + p) ∧ SameN y y' ∧ p ≤ s.size := by
  have hlz : ∀ {k : Nat}, k ≤ s.size → seesB t (i0 + k) 63 = seesB s k 63 := fun hk => h.sees hk (by decide)
  have hsz : ∀ {k : Nat}, k ≤ s.size → (if seesB s k 63 = true then k + 1 else k) ≤ s.size := fun hk => by
    split
    · exact sees_lt (by assumption)
    · exact hk
  have hone : ∀ {k : Nat}, k ≤ s.size → (if seesB t (i0 + k) 63 = true then i0 + k + 1 else i0 + k) = i0 + (if seesB s k 63 = true then k + 1 else k) := fun hk => by
    rw [hlz hk]
    split <;> rfl
  unfold repR at e ⊢
  rw [h.sees hj (by decide), h.sees hj (by decide), h.sees hj (by decide), h.sees hj (by decide)]
  by_cases h1 : seesB s j 42 = true
  · rw [if_pos h1] at e ⊢
    injection e with e1 e2
    subst e1 e2
    have hj1 : j + 1 ≤ s.size := sees_lt h1
    refine ⟨.times x' 0 (-1) (seesB s (j + 1) 63), ?_, hx.times _ _ _, hsz hj1⟩
    have := hone hj1
    have h2 := hlz hj1
    rw [show i0 + j + 1 = i0 + (j + 1) from rfl, h2]
    rw [h2] at this
    exact congrArg _ this
  · rw [if_neg h1] at e ⊢
    by_cases h2 : seesB s j 43 = true
    · rw [if_pos h2] at e ⊢
      injection e with e1 e2
      subst e1 e2
      have hj1 : j + 1 ≤ s.size := sees_lt h2
      refine ⟨.plus x' (seesB s (j + 1) 63), ?_, hx.plus _, hsz hj1⟩
      have := hone hj1
      have h2 := hlz hj1
      rw [show i0 + j + 1 = i0 + (j + 1) from rfl, h2]
      rw [h2] at this
      exact congrArg _ this
    · rw [if_neg h2] at e ⊢
      by_cases h3 : seesB s j 63 = true
      · rw [if_pos h3] at e ⊢
        injection e with e1 e2
        subst e1 e2
        have hj1 : j + 1 ≤ s.size := sees_lt h3
        refine ⟨.times x' 0 1 (seesB s (j + 1) 63), ?_, hx.times _ _ _, hsz hj1⟩
        have := hone hj1
        have h2 := hlz hj1
        rw [show i0 + j + 1 = i0 + (j + 1) from rfl, h2]
        rw [h2] at this
        exact congrArg _ this
      · rw [if_neg h3] at e ⊢
        by_cases h4 : seesB s j 123 = true
        · rw [if_pos h4] at e ⊢
          cases hc : countR s (j + 1) with
          | no q => rw [hc] at e; cases e
          | yes r q =>
            obtain ⟨lo, hi⟩ := r
            obtain ⟨k1, k2⟩ := count_ctx h (j := j + 1) (sees_lt h4) hc
            rw [hc] at e
            rw [show i0 + j + 1 = i0 + (j + 1) from rfl, k1]
            dsimp only at e ⊢
            injection e with e1 e2
            subst e1 e2
            refine ⟨.times x' lo hi (seesB s q 63), ?_, hx.times _ _ _, hsz k2⟩
            have := hone k2
            have h2 := hlz k2
            rw [h2]
            rw [h2] at this
            exact congrArg _ this
        · rw [if_neg h4] at e ⊢
          injection e with e1 e2
          subst e1 e2
          exact ⟨x', rfl, hx, hj⟩
end Go.Proofs.YtmbkcmfcdjccoaaDoor
