/- Pieces that are gone: one list of the fewest pieces holds what some pieces hold. -/
import Derived.Test.YtjnjmpfldbkciaaGreatB8
namespace Go.Proofs.YtjnjmpfldbkciaaGreat

abbrev PG := List Lb × Int × Int
/-- Some piece of the list holds it. -/
def Cov (l : List PG) (L : List Lb) (t : Int) : Prop := ∃ g ∈ l, g.1 = L ∧ g.2.1 ≤ t ∧ t ≤ g.2.2
/-- b stands behind a, and they cannot be one. -/
def Gap (a b : PG) : Prop := cmpL a.1 b.1 < 0 ∨ (a.1 = b.1 ∧ a.2.2 + 1 < b.2.1)
def Canon (l : List PG) : Prop := l.Pairwise Gap ∧ ∀ g ∈ l, g.2.1 ≤ g.2.2

theorem cmpL_self (a : List Lb) : cmpL a a = 0 := tcL.self a
theorem Gap.same {a b : PG} (h : Gap a b) (e : a.1 = b.1) : a.2.2 + 1 < b.2.1 := by
  rcases h with h | h
  · rw [e, cmpL_self] at h
    omega
  · exact h.2
theorem Canon.first {a : PG} {r : List PG} (h : Canon (a :: r)) {L : List Lb} {t : Int} (hc : Cov (a :: r) L t) : cmpL a.1 L ≤ 0 ∧ (a.1 = L → a.2.1 ≤ t ∧ (t ≤ a.2.2 + 1 → t ≤ a.2.2)) := by
  obtain ⟨g, hg, rfl, h1, h2⟩ := hc
  rcases List.mem_cons.1 hg with rfl | hg
  · exact ⟨by rw [cmpL_self]; omega, fun _ => ⟨h1, fun _ => h2⟩⟩
  · have hG := (List.pairwise_cons.1 h.1).1 g hg
    have hf := h.2 a (by simp)
    constructor
    · rcases hG with h3 | h3
      · omega
      · rw [h3.1, cmpL_self]; omega
    · intro e
      have := hG.same e
      constructor
      · omega
      · intro h9; omega
theorem Canon.tail {a : PG} {r : List PG} (h : Canon (a :: r)) : Canon r := ⟨(List.pairwise_cons.1 h.1).2, fun g hg => h.2 g (List.mem_cons_of_mem _ hg)⟩
theorem Canon.rest {a : PG} {r : List PG} (h : Canon (a :: r)) {L : List Lb} {t : Int} (hc : Cov r L t) (e : a.1 = L) : ¬ t ≤ a.2.2 := by
  obtain ⟨g, hg, rfl, h1, h2⟩ := hc
  have := ((List.pairwise_cons.1 h.1).1 g hg).same e
  omega
theorem Cov.cons {a : PG} {r : List PG} {L : List Lb} {t : Int} : Cov (a :: r) L t ↔ (a.1 = L ∧ a.2.1 ≤ t ∧ t ≤ a.2.2) ∨ Cov r L t := by
  constructor
  · rintro ⟨g, hg, h⟩
    rcases List.mem_cons.1 hg with rfl | hg
    · exact Or.inl h
    · exact Or.inr ⟨g, hg, h⟩
  · rintro (h | ⟨g, hg, h⟩)
    · exact ⟨a, by simp, h⟩
    · exact ⟨g, List.mem_cons_of_mem _ hg, h⟩
theorem Cov.append {l m : List PG} {L : List Lb} {t : Int} : Cov (l ++ m) L t ↔ Cov l L t ∨ Cov m L t := by
  constructor
  · rintro ⟨g, hg, h⟩
    rcases List.mem_append.1 hg with hg | hg
    · exact Or.inl ⟨g, hg, h⟩
    · exact Or.inr ⟨g, hg, h⟩
  · rintro (⟨g, hg, h⟩ | ⟨g, hg, h⟩)
    · exact ⟨g, List.mem_append.2 (Or.inl hg), h⟩
    · exact ⟨g, List.mem_append.2 (Or.inr hg), h⟩
theorem Cov.perm {l m : List PG} (h : l.Perm m) {L : List Lb} {t : Int} : Cov l L t ↔ Cov m L t :=
  ⟨fun ⟨g, hg, h1⟩ => ⟨g, h.mem_iff.1 hg, h1⟩, fun ⟨g, hg, h1⟩ => ⟨g, h.mem_iff.2 hg, h1⟩⟩

theorem canon_unique : ∀ l m : List PG, Canon l → Canon m → (∀ L t, Cov l L t ↔ Cov m L t) → l = m
  | [], [], _, _, _ => rfl
  | [], b :: s, _, hm, h => by
    have hb := hm.2 b (by simp)
    obtain ⟨g, hg, _⟩ := (h b.1 b.2.1).2 ⟨b, by simp, rfl, Int.le_refl _, hb⟩
    simp at hg
  | a :: r, [], hl, _, h => by
    have ha := hl.2 a (by simp)
    obtain ⟨g, hg, _⟩ := (h a.1 a.2.1).1 ⟨a, by simp, rfl, Int.le_refl _, ha⟩
    simp at hg
  | a :: r, b :: s, hl, hm, h => by
    have ha := hl.2 a (by simp)
    have hb := hm.2 b (by simp)
    have ca : ∀ t, a.2.1 ≤ t → t ≤ a.2.2 → Cov (b :: s) a.1 t := fun t h1 h2 => (h a.1 t).1 ⟨a, by simp, rfl, h1, h2⟩
    have cb' : ∀ t, b.2.1 ≤ t → t ≤ b.2.2 → Cov (a :: r) b.1 t := fun t h1 h2 => (h b.1 t).2 ⟨b, by simp, rfl, h1, h2⟩
    have q1 := (hm.first (ca a.2.1 (Int.le_refl _) ha)).1
    have q2 := (hl.first (cb' b.2.1 (Int.le_refl _) hb)).1
    have e1 : a.1 = b.1 := (tcL.zero _ _).1 (by have := tcL.anti a.1 b.1; omega)
    have p1 := ((hm.first (ca a.2.1 (Int.le_refl _) ha)).2 e1.symm).1
    have p2 := ((hl.first (cb' b.2.1 (Int.le_refl _) hb)).2 e1).1
    have e2 : a.2.1 = b.2.1 := by omega
    have e3 : a.2.2 = b.2.2 := by
      rcases Int.lt_trichotomy a.2.2 b.2.2 with hh | hh | hh
      · have := ((hl.first (cb' (a.2.2 + 1) (by omega) (by omega))).2 e1).2 (by omega)
        omega
      · exact hh
      · have := ((hm.first (ca (b.2.2 + 1) (by omega) (by omega))).2 e1.symm).2 (by omega)
        omega
    have e : a = b := Prod.ext e1 (Prod.ext e2 e3)
    subst e
    congr 1
    refine canon_unique r s hl.tail hm.tail (fun L t => ⟨fun hc => ?_, fun hc => ?_⟩)
    · rcases Cov.cons.1 ((h L t).1 (Cov.cons.2 (Or.inr hc))) with h9 | h9
      · exact absurd h9.2.2 (hl.rest hc h9.1)
      · exact h9
    · rcases Cov.cons.1 ((h L t).2 (Cov.cons.2 (Or.inr hc))) with h9 | h9
      · exact absurd h9.2.2 (hm.rest hc h9.1)
      · exact h9

/-- A piece stands no later than another one. -/
def LeG (g x : PG) : Prop := cmpL g.1 x.1 < 0 ∨ (g.1 = x.1 ∧ g.2.1 ≤ x.2.1)
theorem LeG.trans {a b c : PG} (h1 : LeG a b) (h2 : LeG b c) : LeG a c := by
  unfold LeG at *
  rcases h1 with h1 | ⟨h1, h3⟩ <;> rcases h2 with h2 | ⟨h2, h4⟩
  · exact Or.inl (tcL.lt1 h1 (by omega))
  · exact Or.inl (by rw [← h2]; exact h1)
  · exact Or.inl (by rw [h1]; exact h2)
  · exact Or.inr ⟨h1.trans h2, by omega⟩
/-- Do two pieces, the second of which begins no sooner, meet? -/
def metG (a b : PG) : Bool := decide (a.1 = b.1) && decide (b.2.1 ≤ a.2.2 + 1)
/-- One piece more, at the end. -/
def addU (out : List PG) (x : PG) : List PG :=
  match out.getLast? with
  | some o => if metG o x then out.dropLast ++ [(o.1, o.2.1, max o.2.2 x.2.2)] else out ++ [x]
  | none => [x]
theorem addU_nil (x : PG) : addU [] x = [x] := rfl
theorem addU_snoc (r : List PG) (o x : PG) : addU (r ++ [o]) x = if metG o x then r ++ [(o.1, o.2.1, max o.2.2 x.2.2)] else r ++ [o, x] := by
  unfold addU
  simp
theorem snoc_cases (l : List PG) : l = [] ∨ ∃ r o, l = r ++ [o] := by
  rcases List.eq_nil_or_concat l with h | ⟨r, o, h⟩
  · exact Or.inl h
  · exact Or.inr ⟨r, o, by simpa using h⟩
theorem canon_snoc {r : List PG} {o : PG} : Canon (r ++ [o]) ↔ Canon r ∧ (∀ g ∈ r, Gap g o) ∧ o.2.1 ≤ o.2.2 := by
  unfold Canon
  rw [List.pairwise_append]
  constructor
  · rintro ⟨⟨h1, _, h2⟩, h3⟩
    exact ⟨⟨h1, fun g hg => h3 g (by simp [hg])⟩, fun g hg => h2 g hg o (by simp), h3 o (by simp)⟩
  · rintro ⟨⟨h1, h2⟩, h3, h4⟩
    refine ⟨⟨h1, List.pairwise_singleton _ _, fun g hg x hx => ?_⟩, fun g hg => ?_⟩
    · simp at hx
      subst hx
      exact h3 g hg
    · rcases List.mem_append.1 hg with hg | hg
      · exact h2 g hg
      · simp at hg
        subst hg
        exact h4
theorem addU_canon {out : List PG} {x : PG} (h : Canon out) (hle : ∀ g ∈ out, LeG g x) (hx : x.2.1 ≤ x.2.2) : Canon (addU out x) := by
  rcases snoc_cases out with rfl | ⟨r, o, rfl⟩
  · rw [addU_nil]
    exact ⟨List.pairwise_singleton _ _, fun g hg => by simp at hg; subst hg; exact hx⟩
  · rw [addU_snoc]
    obtain ⟨h1, h2, h3⟩ := canon_snoc.1 h
    split
    · refine canon_snoc.2 ⟨h1, fun g hg => h2 g hg, ?_⟩
      show o.2.1 ≤ max o.2.2 x.2.2
      omega
    · rename_i hm
      rw [show r ++ [o, x] = (r ++ [o]) ++ [x] by simp]
      refine canon_snoc.2 ⟨h, ?_, hx⟩
      have ho := hle o (by simp)
      have go : Gap o x := by
        rcases ho with h4 | ⟨h4, h5⟩
        · exact Or.inl h4
        · refine Or.inr ⟨h4, ?_⟩
          simp only [metG, h4, decide_true, Bool.true_and, decide_eq_true_eq] at hm
          omega
      intro g hg
      rcases List.mem_append.1 hg with hg | hg
      · have h6 := h2 g hg
        rcases h6 with h6 | ⟨h6, h7⟩
        · left
          rcases ho with h8 | ⟨h8, h9⟩
          · exact tcL.lt1 h6 (by omega)
          · rw [← h8]; exact h6
        · rcases go with h8 | ⟨h8, h9⟩
          · exact Or.inl (by rw [h6]; exact h8)
          · exact Or.inr ⟨h6.trans h8, by omega⟩
      · simp at hg
        subst hg
        exact go
theorem addU_cov {out : List PG} {x : PG} (hle : ∀ g ∈ out, LeG g x) (_hx : x.2.1 ≤ x.2.2) (hf : ∀ g ∈ out, g.2.1 ≤ g.2.2) {L : List Lb} {t : Int} : Cov (addU out x) L t ↔ Cov out L t ∨ Cov [x] L t := by
  rcases snoc_cases out with rfl | ⟨r, o, rfl⟩
  · rw [addU_nil]
    exact ⟨Or.inr, fun h => by
      rcases h with ⟨g, hg, _⟩ | h
      · simp at hg
      · exact h⟩
  · rw [addU_snoc]
    have ho := hle o (by simp)
    have hfo := hf o (by simp)
    split
    · rename_i hm
      simp only [metG, Bool.and_eq_true, decide_eq_true_eq] at hm
      rw [Cov.append, Cov.append, or_assoc]
      apply or_congr Iff.rfl
      simp only [Cov, List.mem_singleton, exists_eq_left]
      have h4 : o.2.1 ≤ x.2.1 := by
        rcases ho with h | h
        · rw [hm.1, cmpL_self] at h; omega
        · exact h.2
      constructor
      · rintro ⟨e, h1, h2⟩
        have h2' : t ≤ max o.2.2 x.2.2 := h2
        by_cases h5 : t ≤ o.2.2
        · exact Or.inl ⟨e, h1, h5⟩
        · exact Or.inr ⟨hm.1 ▸ e, by omega, by omega⟩
      · rintro (⟨e, h1, h2⟩ | ⟨e, h1, h2⟩)
        · exact ⟨e, h1, by show t ≤ max o.2.2 x.2.2; omega⟩
        · exact ⟨hm.1.trans e, by show o.2.1 ≤ t; omega, by show t ≤ max o.2.2 x.2.2; omega⟩
    · rw [show r ++ [o, x] = (r ++ [o]) ++ [x] by simp, Cov.append]
theorem addU_le {out : List PG} {x y : PG} (hle : ∀ g ∈ out, LeG g y) (hxy : LeG x y) : ∀ g ∈ addU out x, LeG g y := by
  rcases snoc_cases out with rfl | ⟨r, o, rfl⟩
  · rw [addU_nil]
    intro g hg
    simp at hg
    subst hg
    exact hxy
  · rw [addU_snoc]
    have ho := hle o (by simp)
    intro g hg
    split at hg
    · rcases List.mem_append.1 hg with hg | hg
      · exact hle g (by simp [hg])
      · simp at hg
        subst hg
        exact ho
    · rw [show r ++ [o, x] = (r ++ [o]) ++ [x] by simp] at hg
      rcases List.mem_append.1 hg with hg | hg
      · exact hle g hg
      · simp at hg
        subst hg
        exact hxy
def uF (l : List PG) : List PG := l.foldl addU []
theorem uF_snoc (l : List PG) (x : PG) : uF (l ++ [x]) = addU (uF l) x := by simp [uF]
theorem uF_len (l : List PG) : (uF l).length ≤ l.length := by
  have : ∀ (l out : List PG), (l.foldl addU out).length ≤ out.length + l.length := by
    intro l
    induction l with
    | nil => intro out; simp
    | cons x r ih =>
      intro out
      have h1 := ih (addU out x)
      have h2 : (addU out x).length ≤ out.length + 1 := by
        rcases snoc_cases out with rfl | ⟨s, o, rfl⟩
        · simp [addU_nil]
        · rw [addU_snoc]
          split <;> simp
      simp only [List.foldl_cons, List.length_cons]
      omega
  simpa [uF] using this l []
theorem uF_all : ∀ (n : Nat) (l : List PG), l.length = n → l.Pairwise LeG → (∀ g ∈ l, g.2.1 ≤ g.2.2) → Canon (uF l) ∧ (∀ L t, Cov (uF l) L t ↔ Cov l L t) ∧ ∀ y, (∀ g ∈ l, LeG g y) → ∀ g ∈ uF l, LeG g y
  | 0, l, hn, _, _ => by
    have : l = [] := List.eq_nil_of_length_eq_zero hn
    subst this
    exact ⟨⟨List.Pairwise.nil, fun g hg => by simp [uF] at hg⟩, fun L t => Iff.rfl, fun y _ g hg => by simp [uF] at hg⟩
  | n + 1, l, hn, hp, hf => by
    rcases snoc_cases l with rfl | ⟨r, x, rfl⟩
    · simp at hn
    · rw [List.pairwise_append] at hp
      have hrx : ∀ g ∈ r, LeG g x := fun g hg => hp.2.2 g hg x (by simp)
      have hx := hf x (by simp)
      obtain ⟨h1, h2, h3⟩ := uF_all n r (by simpa using hn) hp.1 (fun g hg => hf g (by simp [hg]))
      rw [uF_snoc]
      refine ⟨addU_canon h1 (h3 x hrx) hx, fun L t => ?_, fun y hy => addU_le (h3 y (fun g hg => hy g (by simp [hg]))) (hy x (by simp))⟩
      rw [addU_cov (h3 x hrx) hx h1.2, Cov.append, h2]

/-- What is held decides what is left. -/
theorem union_same {l m : List PG} (hl : l.Pairwise LeG) (hm : m.Pairwise LeG) (hp : l.Perm m) (hf : ∀ g ∈ l, g.2.1 ≤ g.2.2) : uF l = uF m := by
  obtain ⟨a1, a2, _⟩ := uF_all _ l rfl hl hf
  obtain ⟨b1, b2, _⟩ := uF_all _ m rfl hm (fun g hg => hf g (hp.mem_iff.2 hg))
  exact canon_unique _ _ a1 b1 (fun L t => by rw [a2, b2, Cov.perm hp])

end Go.Proofs.YtjnjmpfldbkciaaGreat
