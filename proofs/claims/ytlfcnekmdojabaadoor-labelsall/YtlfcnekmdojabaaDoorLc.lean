/- Sets of labels, as lists: what the document's New makes, and what a sort makes. -/
import Derived.Test.YtlfcnekmdojabaaDoorLa
namespace Go.Proofs.YtlfcnekmdojabaaDoor

def live (ls : List Lb) : List Lb := ls.filter fun x => !x.2.toList.isEmpty
def names (ls : List Lb) : List (List UInt8) := ls.map fun x => x.1.toList
theorem names_perm {l m : List Lb} (h : l.Perm m) : (names l).Nodup ↔ (names m).Nodup := (h.map fun x : Lb => x.1.toList).nodup_iff
def stepP (r : List Lb × Bool) (x : Lb) : List Lb × Bool := (putL r.1 x, r.2 || hasL r.1 x.1)

theorem fold_live (ls : List Lb) (r : List Lb × Bool) : ls.foldl stepN r = (live ls).foldl stepP r := by
  induction ls generalizing r with
  | nil => rfl
  | cons a t ih =>
    simp only [List.foldl_cons, live, List.filter_cons]
    cases h : a.2.toList.isEmpty
    · simp only [Bool.not_false, if_true, List.foldl_cons]
      rw [ih]
      have : stepN r a = stepP r a := by unfold stepN stepP; rw [if_neg (by rw [h]; simp)]
      rw [this]
      rfl
    · simp only [Bool.not_true, Bool.false_eq_true, if_false]
      rw [ih]
      have : stepN r a = r := by unfold stepN; rw [if_pos h]
      rw [this]
      rfl
theorem putL_perm (ls : List Lb) (x : Lb) : (putL ls x).Perm (x :: ls) := by
  unfold putL
  refine List.perm_middle.trans ?_
  rw [List.takeWhile_append_dropWhile]
theorem hasL_iff (ls : List Lb) (n : ByteArray) : hasL ls n = true ↔ n.toList ∈ names ls := by
  unfold hasL names
  rw [List.any_eq_true, List.mem_map]
  constructor
  · rintro ⟨x, hx, he⟩
    exact ⟨x, hx, by simpa using he⟩
  · rintro ⟨x, hx, he⟩
    exact ⟨x, hx, by simpa using he⟩
theorem lt_asymm' {a b : List UInt8} (h : a < b) : ¬ b < a := fun h' => List.lt_irrefl a (List.lt_trans h h')
theorem lt_of' {a b : List UInt8} (h : ¬ b < a) (hne : a ≠ b) : a < b := by
  rcases Classical.em (a < b) with h1 | h1
  · exact h1
  · exact absurd (List.le_antisymm (List.not_lt.1 h) (List.not_lt.1 h1)) hne
theorem less_iff (x : ByteArray) (y : Lb) : lessL x y = true ↔ y.1.toList < x.toList := by
  unfold lessL
  rw [bytesLess_eq, decide_eq_true_eq]

theorem sorted_putL {ls : List Lb} (h : SortedL ls) (x : Lb) : SortedL (putL ls x) := by
  unfold SortedL putL at *
  have hsp := List.takeWhile_append_dropWhile (p := lessL x.1) (l := ls)
  have h' := h
  rw [← hsp, List.pairwise_append] at h'
  obtain ⟨h1, h2, h3⟩ := h'
  have htake : ∀ a ∈ ls.takeWhile (lessL x.1), a.1.toList < x.1.toList := fun a ha => (less_iff _ _).1 (by
    have := List.all_takeWhile (p := lessL x.1) (l := ls)
    rw [List.all_eq_true] at this
    exact this a ha)
  have hdrop : ∀ b ∈ ls.dropWhile (lessL x.1), ¬ b.1.toList < x.1.toList := fun b hb => by
    cases hd : ls.dropWhile (lessL x.1) with
    | nil => rw [hd] at hb; cases hb
    | cons c r =>
      have hc : lessL x.1 c = false := by
        have := List.head?_dropWhile_not (lessL x.1) ls
        rw [hd] at this
        simpa using this
      have hc' : ¬ c.1.toList < x.1.toList := fun h => by
        rw [(less_iff _ _).2 h] at hc
        cases hc
      rw [hd] at hb h2
      rcases List.mem_cons.1 hb with rfl | hb'
      · exact hc'
      · have := (List.pairwise_cons.1 h2).1 b hb'
        intro hbx
        rcases Classical.em (c.1.toList = b.1.toList) with e | e
        · rw [e] at hc'; exact hc' hbx
        · exact hc' (List.lt_trans (lt_of' this e) hbx)
  rw [List.pairwise_append]
  refine ⟨h1, List.pairwise_cons.2 ⟨hdrop, h2⟩, fun a ha b hb => ?_⟩
  rcases List.mem_cons.1 hb with rfl | hb'
  · exact lt_asymm' (htake a ha)
  · exact h3 a ha b hb'

theorem fold_inv (xs : List Lb) : ∀ r : List Lb × Bool, SortedL r.1 → (r.2 = true ↔ ¬ (names r.1).Nodup) → ((xs.foldl stepP r).1.Perm (xs ++ r.1) ∧ SortedL (xs.foldl stepP r).1 ∧ ((xs.foldl stepP r).2 = true ↔ ¬ (names (xs.foldl stepP r).1).Nodup)) := by
  induction xs with
  | nil => intro r h1 h2; exact ⟨List.Perm.refl _, h1, h2⟩
  | cons a t ih =>
    intro r h1 h2
    rw [List.foldl_cons]
    have hp := putL_perm r.1 a
    have hn : (names (putL r.1 a)).Perm (a.1.toList :: names r.1) := hp.map _
    have := ih (stepP r a) (sorted_putL h1 a) (by
      show (r.2 || hasL r.1 a.1) = true ↔ ¬ (names (putL r.1 a)).Nodup
      rw [hn.nodup_iff, List.nodup_cons, Bool.or_eq_true, h2, hasL_iff]
      constructor
      · rintro (h | h) ⟨h3, h4⟩
        · exact h h4
        · exact h3 h
      · intro h
        rcases Classical.em (a.1.toList ∈ names r.1) with h3 | h3
        · exact Or.inr h3
        · exact Or.inl fun h4 => h ⟨h3, h4⟩)
    refine ⟨this.1.trans ?_, this.2⟩
    show (t ++ putL r.1 a).Perm (a :: t ++ r.1)
    exact (List.Perm.append_left t hp).trans List.perm_middle

theorem foldN_inv (ls : List Lb) : (foldN ls).1.Perm (live ls) ∧ SortedL (foldN ls).1 ∧ ((foldN ls).2 = true ↔ ¬ (names (live ls)).Nodup) := by
  unfold foldN
  rw [fold_live]
  have := fold_inv (live ls) ([], false) List.Pairwise.nil (by simp [names])
  refine ⟨by simpa using this.1, this.2.1, ?_⟩
  rw [this.2.2]
  have hp : ((live ls).foldl stepP ([], false)).1.Perm (live ls) := by simpa using this.1
  rw [names_perm hp]

theorem rl_strict {ls : List Lb} (h : rl ls = true) : ls.Pairwise fun x y => x.1.toList < y.1.toList := by
  have hr := (rl_iff ls).1 h
  rw [List.pairwise_iff_getElem]
  intro i j hi hj hij
  induction j with
  | zero => omega
  | succ j ih =>
    rcases Nat.lt_succ_iff_lt_or_eq.1 hij with h1 | h1
    · exact List.lt_trans (ih (by omega) h1) (hr j hj)
    · subst h1; exact hr i hj
theorem strict_nodup {ls : List Lb} (h : ls.Pairwise fun x y => x.1.toList < y.1.toList) : (names ls).Nodup := by
  unfold names List.Nodup
  rw [List.pairwise_map]
  exact h.imp fun h e => by rw [e] at h; exact List.lt_irrefl _ h
theorem nodup_strict {ls : List Lb} (h : SortedL ls) (hn : (names ls).Nodup) : ls.Pairwise fun x y => x.1.toList < y.1.toList := by
  unfold names List.Nodup at hn
  rw [List.pairwise_map] at hn
  unfold SortedL at h
  exact (h.and hn).imp fun ⟨h1, h2⟩ => lt_of' h1 h2
theorem rl_of_strict {ls : List Lb} (h : ls.Pairwise fun x y => x.1.toList < y.1.toList) : rl ls = true := by
  rw [rl_iff]
  intro k hk
  rw [List.pairwise_iff_getElem] at h
  exact h k (k + 1) (by omega) hk (by omega)
theorem rl_iff_nodup {ls : List Lb} (h : SortedL ls) : rl ls = true ↔ (names ls).Nodup := ⟨fun hr => strict_nodup (rl_strict hr), fun hn => rl_of_strict (nodup_strict h hn)⟩

theorem strict_unique : ∀ {l m : List Lb}, (l.Pairwise fun x y => x.1.toList < y.1.toList) → (m.Pairwise fun x y => x.1.toList < y.1.toList) → l.Perm m → l = m
  | [], m, _, _, hp => (List.Perm.nil_eq hp)
  | a :: l, [], _, _, hp => absurd hp.length_eq (by simp)
  | a :: l, b :: m, h1, h2, hp => by
    have e : a = b := by
      have ha : a ∈ b :: m := hp.mem_iff.1 (List.mem_cons_self ..)
      have hb : b ∈ a :: l := hp.mem_iff.2 (List.mem_cons_self ..)
      rcases List.mem_cons.1 ha with e | ha'
      · exact e
      · rcases List.mem_cons.1 hb with e | hb'
        · exact e.symm
        · exact absurd ((List.pairwise_cons.1 h1).1 b hb') (lt_asymm' ((List.pairwise_cons.1 h2).1 a ha'))
    subst e
    rw [strict_unique (List.pairwise_cons.1 h1).2 (List.pairwise_cons.1 h2).2 (List.perm_cons a |>.1 hp)]

/-- What New answers, by a sorted row of the labels that have a value. -/
theorem newR_sorted {ls s : List Lb} (hall : ls.all fairL = true) (hp : s.Perm (live ls)) (hs : SortedL s) : newR ls = if rl s = false then ([], 13) else if 64 < s.length then ([], 15) else (s, 0) := by
  obtain ⟨h1, h2, h3⟩ := foldN_inv ls
  have hn : (names s).Nodup ↔ (names (live ls)).Nodup := names_perm hp
  unfold newR
  rw [if_neg (by rw [hall]; simp)]
  by_cases hr : rl s = true
  · have hnd := hn.1 ((rl_iff_nodup hs).1 hr)
    have hf : (foldN ls).2 = false := by
      rw [Bool.eq_false_iff]
      intro h
      exact h3.1 h hnd
    have hnf : (names (foldN ls).1).Nodup := (names_perm h1).2 hnd
    have e : (foldN ls).1 = s := strict_unique (nodup_strict h2 hnf) (rl_strict hr) (h1.trans hp.symm)
    have hr2 : ¬ (rl s = false) := by rw [hr]; simp
    rw [hf, e, if_neg hr2]
    rfl
  · have hr' : rl s = false := by simpa using hr
    have hf : (foldN ls).2 = true := h3.2 fun h => hr ((rl_iff_nodup hs).2 (hn.2 h))
    rw [hf, if_pos rfl, if_pos hr']

end Go.Proofs.YtlfcnekmdojabaaDoor
