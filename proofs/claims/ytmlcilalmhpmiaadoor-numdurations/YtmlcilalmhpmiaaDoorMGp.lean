/- How the document goes through a duration (pure). -/
import Derived.Test.YtmlcilalmhpmiaaDoorMGo2
namespace Go.Proofs.YtmlcilalmhpmiaaDoor
open Go

/-- From a place on, up to another, all are so. -/
def Run (p : UInt8 → Bool) (s : List UInt8) (a b : Nat) : Prop := a ≤ b ∧ b ≤ s.length ∧ ∀ x ∈ (s.drop a).take (b - a), p x = true
theorem drop_get {s : List UInt8} {a b : Nat} (h : a ≤ b) (hb : b < s.length) (h' : b - a < (s.drop a).length) : (s.drop a)[b - a] = s[b] := by
  rw [List.getElem_drop]
  congr 1
  omega
theorem Run.start (p : UInt8 → Bool) {s : List UInt8} {a : Nat} (h : a ≤ s.length) : Run p s a a := ⟨Nat.le_refl _, h, fun x hx => by simp at hx⟩
theorem Run.more {p : UInt8 → Bool} {s : List UInt8} {a b : Nat} (h : Run p s a b) (hb : b < s.length) (hp : p s[b] = true) : Run p s a (b + 1) := by
  refine ⟨Nat.le_succ_of_le h.1, hb, ?_⟩
  rw [show b + 1 - a = (b - a) + 1 by have := h.1; omega]
  exact tw_more (by simp; have := h.1; omega) h.2.2 (by rw [drop_get h.1 hb]; exact hp)
theorem Run.ends {p : UInt8 → Bool} {s : List UInt8} {a b : Nat} (h : Run p s a b) (he : ∀ hb : b < s.length, p s[b] = false) : (s.drop a).takeWhile p = (s.drop a).take (b - a) ∧ (s.drop a).dropWhile p = s.drop b := by
  have h1 := tw_take (p := p) (l := s.drop a) (k := b - a) (by simp; have := h.1; have := h.2.1; omega) h.2.2 (fun hlt => by
    have hb : b < s.length := by simp at hlt; have := h.1; omega
    rw [drop_get h.1 hb]
    exact he hb)
  refine ⟨h1.1, h1.2.trans ?_⟩
  rw [List.drop_drop]
  congr 1
  have := h.1
  omega
theorem Run.val {s : List UInt8} {a b : Nat} (h : Run isDB s a b) (hb : b < s.length) : valT ((s.drop a).take (b + 1 - a)) = valT ((s.drop a).take (b - a)) * 10 + (s[b].toNat - 48) := by
  rw [show b + 1 - a = (b - a) + 1 by have := h.1; omega, valT_snoc _ _ (by simp; have := h.1; omega), drop_get h.1 hb]
theorem Run.lim {s : List UInt8} {a b : Nat} (h : Run isDB s a b) (hb : b ≤ a + 16) : valT ((s.drop a).take (b - a)) < 10000000000000000 := by
  have h1 := valT_lt _ (fun x hx => (isDB_iff x).1 (h.2.2 x hx))
  have h2 : 10 ^ ((s.drop a).take (b - a)).length ≤ 10 ^ 16 := Nat.pow_le_pow_right (by decide) (by rw [List.length_take]; omega)
  omega
theorem Run.name {s : List UInt8} {a b : Nat} : (s.drop a).take (b - a) = (s.take b).drop a := by rw [List.drop_take]
theorem doc_short {s : List UInt8} {a F f : Nat} {st : Option Nat} (h : ∀ hb : a < s.length, isDB s[a] = false) (ha : a ≤ s.length) : docP f (s.drop a) F st = (0, 8) := by
  cases f with
  | zero => rfl
  | succ f =>
    rw [docP, if_pos (Or.inl _)]
    rw [((Run.start isDB ha).ends h).1]
    simp
theorem doc_long {s : List UInt8} {a F f : Nat} {st : Option Nat} (h : Run isDB s a (a + 16)) : docP f (s.drop a) F st = (0, 8) := by
  cases f with
  | zero => rfl
  | succ f =>
    rw [docP, if_pos (Or.inr _)]
    have h1 := tw_long (p := isDB) (l := s.drop a) (k := 16) (by simp; have := h.2.1; omega) (by have := h.2.2; rw [show a + 16 - a = 16 by omega] at this; exact this)
    omega
theorem doc_bad {s : List UInt8} {a p b F f : Nat} {st : Option Nat} (hd : Run isDB s a p) (he : ∀ hb : p < s.length, isDB s[p] = false) (hl : Run isLB s p b) (hle : ∀ hb : b < s.length, isLB s[b] = false)
    (hno : ∀ j, F ≤ j → j < 7 → nameU j ≠ (s.take b).drop p) : docP f (s.drop a) F st = (0, 8) := by
  cases f with
  | zero => rfl
  | succ f =>
    rw [docP]
    split
    · rfl
    · rw [(hd.ends he).2, (hl.ends hle).1, Run.name]
      cases hu : unitIx ((s.take b).drop p) with
      | none => rfl
      | some j =>
        obtain ⟨h1, h2⟩ := unitIx_name hu
        dsimp only
        rw [if_pos]
        exact Classical.byContradiction fun h => hno j (by omega) h1 h2.symm
theorem doc_on {s : List UInt8} {a p b F f j : Nat} {st : Option Nat} (hd : Run isDB s a p) (hap : a < p) (hp : p ≤ a + 15) (he : ∀ hb : p < s.length, isDB s[p] = false) (hl : Run isLB s p b) (hle : ∀ hb : b < s.length, isLB s[b] = false)
    (hF : F ≤ j) (hj : j < 7) (hnm : nameU j = (s.take b).drop p) (hf : s.length - a < f) : 0 < b ∧
    ((b = s.length ∧ docP f (s.drop a) F st = endP (addP st (valT ((s.drop a).take (p - a))) (sizeU j))) ∨
     (b < s.length ∧ ∃ f', s.length - b < f' ∧ docP f (s.drop a) F st = docP f' (s.drop b) (j + 1) (addP st (valT ((s.drop a).take (p - a))) (sizeU j)))) := by
  have hpb := hl.1
  have hbl := hl.2.1
  refine ⟨by omega, ?_⟩
  cases f with
  | zero => omega
  | succ f =>
    have hne : ¬ ((s.drop a).takeWhile isDB = [] ∨ 15 < ((s.drop a).takeWhile isDB).length) := by
      rw [(hd.ends he).1]
      rintro (h | h)
      · have := congrArg List.length h
        simp at this
        have := hd.2.1
        omega
      · rw [List.length_take] at h
        omega
    have hu : unitIx ((s.take b).drop p) = some j := by rw [← hnm]; exact unitIx_at hj
    have key : docP (f + 1) (s.drop a) F st = if s.drop b = [] then endP (addP st (valT ((s.drop a).take (p - a))) (sizeU j)) else docP f (s.drop b) (j + 1) (addP st (valT ((s.drop a).take (p - a))) (sizeU j)) := by
      rw [docP, if_neg hne, (hd.ends he).1, (hd.ends he).2, (hl.ends hle).1, (hl.ends hle).2, Run.name, hu]
      dsimp only
      rw [if_neg (by omega)]
    rw [key]
    by_cases hb : b = s.length
    · exact Or.inl ⟨hb, by rw [if_pos (by rw [hb]; simp)]⟩
    · have hb' : b < s.length := by omega
      refine Or.inr ⟨hb', f, by omega, ?_⟩
      rw [if_neg]
      intro e
      have := congrArg List.length e
      simp at this
      omega
theorem durR_doc {s : List UInt8} (h : s ≠ [48]) : durR s = docP (s.length + 1) (s.drop 0) 0 (some 0) := by
  unfold durR
  rw [if_neg h, List.drop_zero]
  by_cases h0 : s = []
  · subst h0
    rfl
  · rw [if_neg h0]
    exact (doc_dur _ _ _ _ h0 (Nat.lt_succ_self _)).symm
/-- What the document reckons at a unit of m milliseconds. -/
theorem docsum {T n m : Nat} {L : Bool} {st : Option Nat} (hT : T ≤ 9007199254740992) (hst : SumAt L T st) :
    (n = 0 ∧ L = false ∧ SumAt false T (addP st n m)) ∨ (n = 0 ∧ L = true ∧ SumAt true T (addP st n m)) ∨
    (0 < n ∧ ∃ Q : Nat, (9007199254740992 - (T : Int)).tdiv n = (Q : Int) ∧ Q ≤ 9007199254740992 ∧ ((Q < m ∧ SumAt true T (addP st n m)) ∨ (¬ Q < m ∧ L = true ∧ SumAt true T (addP st n m)) ∨ (¬ Q < m ∧ L = false ∧ ∃ P : Nat, (n : Int) * (m : Int) = (P : Int) ∧ T + P ≤ 9007199254740992 ∧ SumAt false (T + P) (addP st n m)))) := by
  by_cases hn : n = 0
  · subst hn
    cases L with
    | false =>
      have h1 := hst.more (n := 0) (m := m) (by omega)
      rw [Nat.zero_mul, Nat.add_zero] at h1
      exact Or.inl ⟨rfl, rfl, h1⟩
    | true =>
      rcases hst with ⟨h, _⟩ | ⟨_, rfl⟩
      · cases h
      · exact Or.inr (Or.inl ⟨rfl, rfl, Or.inr ⟨rfl, rfl⟩⟩)
  · have hn' : 0 < n := by omega
    refine Or.inr (Or.inr ⟨hn', (9007199254740992 - T) / n, ?_, Nat.le_trans (Nat.div_le_self _ _) (by omega), ?_⟩)
    · rw [show (9007199254740992 - (T : Int)) = ((9007199254740992 - T : Nat) : Int) by omega]
      exact (Int.ofNat_tdiv _ _).symm
    · by_cases h : (9007199254740992 - T) / n < m
      · refine Or.inl ⟨h, hst.over ?_⟩
        rw [Nat.div_lt_iff_lt_mul hn', Nat.mul_comm] at h
        omega
      · have h1 : m ≤ (9007199254740992 - T) / n := by omega
        rw [Nat.le_div_iff_mul_le hn', Nat.mul_comm] at h1
        have h2 : T + n * m ≤ 9007199254740992 := by omega
        cases L with
        | true =>
          rcases hst with ⟨h9, _⟩ | ⟨_, rfl⟩
          · cases h9
          · exact Or.inr (Or.inl ⟨h, rfl, Or.inr ⟨rfl, rfl⟩⟩)
        | false => exact Or.inr (Or.inr ⟨h, rfl, n * m, by rw [Int.natCast_mul], h2, hst.more h2⟩)
theorem sizeU_lim {j : Nat} (h : j < 7) : sizeU j ≤ 31536000000 := by
  rcases (show j = 0 ∨ j = 1 ∨ j = 2 ∨ j = 3 ∨ j = 4 ∨ j = 5 ∨ j = 6 by omega) with rfl | rfl | rfl | rfl | rfl | rfl | rfl <;> decide
end Go.Proofs.YtmlcilalmhpmiaaDoor
