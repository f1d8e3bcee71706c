/- The program's plan is the document's. -/
import Derived.Test.YtfkahbgphoonaaaTq
import Derived.Test.YtfkahbgphoonaaaXj
namespace Go.Proofs.Ytfkahbgphoonaaa
open Go.RowKit Go.Shelf Go.Maps Go.Sort

/-! keys -/
def keyM (x : Mb) : Int × Int × List UInt8 := (x.1, x.2.lo, x.2.nm.toList)
def klt (a b : Int × Int × List UInt8) : Prop := a.1 < b.1 ∨ (a.1 = b.1 ∧ (a.2.1 < b.2.1 ∨ (a.2.1 = b.2.1 ∧ a.2.2 < b.2.2)))
theorem klt_key (x y : Mb) : klt (keyM x) (keyM y) ↔ LtM x y := Iff.rfl
theorem klt_eq {a b : Int × Int × List UInt8} (h1 : ¬ klt a b) (h2 : ¬ klt b a) : a = b := by
  obtain ⟨a1, a2, a3⟩ := a
  obtain ⟨b1, b2, b3⟩ := b
  unfold klt at h1 h2
  dsimp only at h1 h2
  have e1 : a1 = b1 := by
    rcases Int.lt_trichotomy a1 b1 with h | h | h
    · exact absurd (Or.inl h) h1
    · exact h
    · exact absurd (Or.inl h) h2
  subst e1
  have e2 : a2 = b2 := by
    rcases Int.lt_trichotomy a2 b2 with h | h | h
    · exact absurd (Or.inr ⟨rfl, Or.inl h⟩) h1
    · exact h
    · exact absurd (Or.inr ⟨rfl, Or.inl h⟩) h2
  subst e2
  have h3 : ¬ a3 < b3 := fun h => h1 (Or.inr ⟨rfl, Or.inr ⟨rfl, h⟩⟩)
  have h4 : ¬ b3 < a3 := fun h => h2 (Or.inr ⟨rfl, Or.inr ⟨rfl, h⟩⟩)
  rw [List.not_lt] at h3 h4
  rw [List.le_antisymm h4 h3]
theorem klt_irrefl (a : Int × Int × List UInt8) : ¬ klt a a := by
  unfold klt
  rintro (h | ⟨-, h | ⟨-, h⟩⟩)
  · omega
  · omega
  · exact List.lt_irrefl _ h
theorem eq_of_sorted : ∀ (k1 k2 : List (Int × Int × List UInt8)), k1.Perm k2 → k1.Pairwise (fun x y => ¬ klt y x) → k2.Pairwise (fun x y => ¬ klt y x) → k1 = k2
  | [], k2, hp, _, _ => by
    have := hp.length_eq
    exact (List.eq_nil_of_length_eq_zero (by simpa using this.symm)).symm
  | a :: t1, [], hp, _, _ => by
    have := hp.length_eq
    simp at this
  | a :: t1, c :: t2, hp, h1, h2 => by
    have ha : a ∈ c :: t2 := hp.mem_iff.1 (by simp)
    have hc : c ∈ a :: t1 := hp.mem_iff.2 (by simp)
    have e1 : ¬ klt c a := by
      rcases List.mem_cons.1 hc with rfl | hc
      · exact klt_irrefl _
      · exact (List.pairwise_cons.1 h1).1 c hc
    have e2 : ¬ klt a c := by
      rcases List.mem_cons.1 ha with rfl | ha
      · exact klt_irrefl _
      · exact (List.pairwise_cons.1 h2).1 a ha
    have e := klt_eq e1 e2
    subst e
    rw [eq_of_sorted t1 t2 hp.cons_inv (List.pairwise_cons.1 h1).2 (List.pairwise_cons.1 h2).2]
theorem names_same {l1 l2 : List Mb} (hp : l1.Perm l2) (h1 : SortedM l1) (h2 : SortedM l2) : l1.map (·.2.nm) = l2.map (·.2.nm) := by
  have h := eq_of_sorted (l1.map keyM) (l2.map keyM) (hp.map keyM) (List.pairwise_map.2 h1) (List.pairwise_map.2 h2)
  have h3 : (l1.map keyM).map (fun k => k.2.2) = (l2.map keyM).map (fun k => k.2.2) := by rw [h]
  rw [List.map_map, List.map_map] at h3
  have h4 : (l1.map (·.2.nm)).map ByteArray.toList = (l2.map (·.2.nm)).map ByteArray.toList := by
    rw [List.map_map, List.map_map]; exact h3
  exact (List.map_inj_right (fun x y hxy => by rw [ByteArray.toList_eq, ByteArray.toList_eq] at hxy; exact WideShapes.bytes_inj hxy)).1 h4

/-! what stands in a span -/
theorem stB_iff (level b s : Int) (m : Mt) : stB level b s m = true ↔ m.lv = level ∧ b ≤ min (cl m.lo) (cl m.hi) ∧ max (cl m.lo) (cl m.hi) ≤ b + s := by
  unfold stB
  rw [decide_eq_true_iff]
  constructor
  · rintro ⟨h1, h2, h3, h4, h5⟩; exact ⟨h1, by omega, by omega⟩
  · rintro ⟨h1, h2, h3⟩; exact ⟨h1, by omega, by omega, by omega, by omega⟩
theorem spG_mem (s nw f l b : Int) (hs : 1 ≤ s) (hfl : f ≤ l) : b ∈ spG (l - 1 - (l - 1) % s) s nw f ↔ s ∣ b ∧ b ≤ f ∧ l ≤ b + s ∧ b + s ≤ nw := by
  have e1 := Int.emod_nonneg (l - 1) (show s ≠ 0 by omega)
  have e2 := Int.emod_lt_of_pos (l - 1) (show 0 < s by omega)
  have e3 := Int.mul_ediv_add_emod (l - 1) s
  have e4 : l - 1 - (l - 1) % s = s * ((l - 1) / s) := by omega
  rw [e4] at *
  generalize (l - 1) / s = q at *
  have hB1 : s * q ≤ l - 1 := by omega
  have hB2 : l - 1 < s * q + s := by omega
  have hs2 : s * (q + 1) = s * q + s := by rw [Int.mul_add, Int.mul_one]
  have hmem : b ∈ spG (s * q) s nw f ↔ (b = s * q ∧ s * q ≤ f ∧ s * q + s ≤ nw) ∨ (b = s * q + s ∧ s * q + s ≤ f ∧ s * q + s + s ≤ nw) := by
    unfold spG
    split
    · split
      · simp; omega
      · simp; omega
    · simp; omega
  rw [hmem]
  constructor
  · rintro (⟨rfl, h1, h2⟩ | ⟨rfl, h1, h2⟩)
    · exact ⟨⟨q, rfl⟩, h1, by omega, h2⟩
    · exact ⟨⟨q + 1, hs2.symm⟩, h1, by omega, h2⟩
  · rintro ⟨⟨t, rfl⟩, h1, h2, h3⟩
    have h4 : q ≤ t := by
      have : s * q < s * (t + 1) := by rw [Int.mul_add, Int.mul_one]; omega
      have := Int.lt_of_mul_lt_mul_left this (by omega)
      omega
    have h5 : t ≤ q + 1 := by
      have : s * t < s * (q + 1 + 1) := by rw [Int.mul_add, Int.mul_one, hs2]; omega
      have := Int.lt_of_mul_lt_mul_left this (by omega)
      omega
    obtain rfl | rfl : t = q ∨ t = q + 1 := by omega
    · exact Or.inl ⟨rfl, by omega, by omega⟩
    · exact Or.inr ⟨hs2, by omega, by omega⟩
theorem spG_nodup (B s nw f : Int) (hs : 1 ≤ s) : (spG B s nw f).Nodup := by
  unfold spG
  split
  · split
    · simp; omega
    · simp
  · simp
theorem filter_nodup (l : List Int) (h : l.Nodup) (b : Int) : l.filter (fun x => decide (x = b)) = if b ∈ l then [b] else [] := by
  induction l with
  | nil => simp
  | cons a r ih =>
    rw [List.nodup_cons] at h
    by_cases hab : a = b
    · subst hab
      have : r.filter (fun x => decide (x = a)) = [] := by rw [ih h.2, if_neg h.1]
      simp [this]
    · have hba : ¬ b = a := fun e => hab e.symm
      simp [hab, hba, ih h.2]
def okB (s nw b : Int) : Bool := decide (s ∣ b) && decide (b + s ≤ nw)
theorem one_at (level nw s b : Int) (hs : 1 ≤ s) (m : Mt) : (oneF level nw s m).filter (fun x => decide (x.1 = b)) = if (stB level b s m && okB s nw b) = true then [(b, clM m)] else [] := by
  unfold oneF
  by_cases hl : m.lv = level
  · rw [if_pos hl, List.filter_map]
    have e : ((fun x : Mb => decide (x.1 = b)) ∘ fun b' => (b', clM m)) = fun b' => decide (b' = b) := rfl
    rw [e]
    unfold spF
    rw [filter_nodup _ (spG_nodup _ _ _ _ hs)]
    have hm := spG_mem s nw (min (cl m.lo) (cl m.hi)) (max (cl m.lo) (cl m.hi)) b hs (by omega)
    by_cases hb : b ∈ spG (b0F s m) s nw (min (cl m.lo) (cl m.hi))
    · obtain ⟨h1, h2, h3, h4⟩ := hm.1 hb
      have h5 : stB level b s m = true := (stB_iff _ _ _ _).2 ⟨hl, h2, h3⟩
      rw [if_pos hb, h5]
      simp [okB, h1, h4]
    · rw [if_neg hb]
      have h5 : ¬ (stB level b s m && okB s nw b) = true := by
        intro h6
        simp only [Bool.and_eq_true, okB, decide_eq_true_eq] at h6
        obtain ⟨h6, h7, h8⟩ := h6
        obtain ⟨-, h9, h10⟩ := (stB_iff _ _ _ _).1 h6
        exact hb (hm.2 ⟨h7, h9, h10, h8⟩)
      rw [if_neg h5]
      rfl
  · rw [if_neg hl]
    have h5 : stB level b s m = false := by
      rw [Bool.eq_false_iff]
      intro h
      exact hl ((stB_iff _ _ _ _).1 h).1
    rw [h5]
    rfl
theorem mbs_at (level nw s b : Int) (hs : 1 ≤ s) (L : List Mt) : (mbsF level nw s L).filter (fun x => decide (x.1 = b)) = (L.filter fun m => stB level b s m && okB s nw b).map fun m => (b, clM m) := by
  induction L with
  | nil => rfl
  | cons m r ih =>
    unfold mbsF at *
    rw [List.flatMap_cons, List.filter_append, ih, one_at level nw s b hs m, List.filter_cons]
    split <;> simp

/-! the first lot -/
theorem lot_first (ls : List Mb) (hso : ls.Pairwise fun x y => x.1 ≤ y.1) : (lotF ls = [] ∧ ∀ b, (ls.filter fun x => decide (x.1 = b)).length ≤ 1) ∨ ∃ b, lotF ls = ls.filter (fun x => decide (x.1 = b)) ∧ 2 ≤ (lotF ls).length ∧ ∀ b', b' < b → (ls.filter fun x => decide (x.1 = b')).length ≤ 1 := by
  induction ls with
  | nil => exact Or.inl ⟨rfl, fun b => by simp⟩
  | cons x r ih =>
    obtain ⟨hx, hr⟩ := List.pairwise_cons.1 hso
    have hrun : ∀ (q : List Mb), (∀ y ∈ q, x.1 ≤ y.1) → q.Pairwise (fun x y => x.1 ≤ y.1) → q.takeWhile (fun y => decide (y.1 = x.1)) = q.filter (fun y => decide (y.1 = x.1)) := by
      intro q
      induction q with
      | nil => intros; rfl
      | cons z t iht =>
        intro h1 h2
        obtain ⟨h3, h4⟩ := List.pairwise_cons.1 h2
        by_cases hz : z.1 = x.1
        · simp only [List.takeWhile_cons, List.filter_cons, hz, decide_true, if_true]
          rw [iht (fun y hy => h1 y (by simp [hy])) h4]
        · simp only [List.takeWhile_cons, List.filter_cons, hz, decide_false, Bool.false_eq_true, if_false]
          symm
          rw [List.filter_eq_nil_iff]
          intro y hy
          have h5 := h1 z (by simp)
          have h6 := h3 y hy
          simp
          omega
    have hrx := hrun r hx hr
    have hfx : (x :: r).filter (fun y => decide (y.1 = x.1)) = x :: r.filter (fun y => decide (y.1 = x.1)) := by simp
    by_cases hlen : 1 < (x :: r.takeWhile fun y => decide (y.1 = x.1)).length
    · right
      have e : lotF (x :: r) = x :: r.takeWhile fun y => decide (y.1 = x.1) := by conv => lhs; unfold lotF
                                                                                  rw [if_pos hlen]
      refine ⟨x.1, by rw [e, hfx, hrx], by rw [e]; omega, fun b' hb' => ?_⟩
      have : (x :: r).filter (fun y => decide (y.1 = b')) = [] := by
        rw [List.filter_eq_nil_iff]
        intro y hy
        rcases List.mem_cons.1 hy with rfl | hy
        · simp; omega
        · have := hx y hy
          simp; omega
      rw [this]; simp
    · have e : lotF (x :: r) = lotF r := by conv => lhs; unfold lotF
                                            rw [if_neg hlen]
      have hr0 : r.filter (fun y => decide (y.1 = x.1)) = [] := by
        rw [← hrx]
        refine List.eq_nil_of_length_eq_zero ?_
        simp at hlen ⊢
        omega
      have hcase : ∀ b, (r.filter fun y => decide (y.1 = b)).length ≤ 1 → ((x :: r).filter fun y => decide (y.1 = b)).length ≤ 1 := fun b hb => by
        by_cases hxb : x.1 = b
        · subst hxb
          rw [hfx, hr0]; simp
        · simpa [List.filter_cons, hxb] using hb
      rcases ih hr with ⟨h1, h2⟩ | ⟨b, h1, h2, h3⟩
      · exact Or.inl ⟨by rw [e, h1], fun b => hcase b (h2 b)⟩
      · have hxb : ¬ x.1 = b := fun hxb => by
          subst hxb
          rw [h1, hr0] at h2
          simp at h2
        refine Or.inr ⟨b, ?_, by rw [e]; exact h2, fun b' hb' => hcase b' (h3 b' hb')⟩
        rw [e, h1]
        simp [hxb]

end Go.Proofs.Ytfkahbgphoonaaa
