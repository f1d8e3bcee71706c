/- Pure: what Cuts comes to. -/
import Derived.Test.YtdmkfogohacaiaaYw
namespace Go.Proofs.Ytdmkfogohacaiaa
open Go.RowKit

theorem strict_unique : ∀ (l m : List Int), l.Pairwise (· < ·) → m.Pairwise (· < ·) → (∀ x, x ∈ l ↔ x ∈ m) → l = m
  | [], [], _, _, _ => rfl
  | [], y :: m, _, _, h => absurd ((h y).2 (by simp)) (by simp)
  | x :: l, [], _, _, h => absurd ((h x).1 (by simp)) (by simp)
  | x :: l, y :: m, h1, h2, h => by
    rw [List.pairwise_cons] at h1 h2
    have hxy : x = y := by
      rcases List.mem_cons.1 ((h x).1 (by simp)) with e | e
      · exact e
      · rcases List.mem_cons.1 ((h y).2 (by simp)) with e' | e'
        · exact e'.symm
        · have := h1.1 y e'
          have := h2.1 x e
          omega
    subst hxy
    congr 1
    refine strict_unique l m h1.2 h2.2 (fun z => ⟨fun hz => ?_, fun hz => ?_⟩)
    · rcases List.mem_cons.1 ((h z).1 (List.mem_cons_of_mem _ hz)) with e | e
      · subst e
        have := h1.1 z hz
        omega
      · exact e
    · rcases List.mem_cons.1 ((h z).2 (List.mem_cons_of_mem _ hz)) with e | e
      · subst e
        have := h2.1 z hz
        omega
      · exact e

theorem upTo_facts (l : List Int) (hs : l.Pairwise (· ≤ ·)) : ∀ m, m ≤ l.length → (Lib.compactUpTo l.toArray m).Pairwise (· < ·) ∧ (∀ x, x ∈ Lib.compactUpTo l.toArray m ↔ x ∈ l.take m) ∧ ∀ x ∈ Lib.compactUpTo l.toArray m, ∀ h : 0 < m ∧ m ≤ l.length, x ≤ l[m - 1]
  | 0, _ => ⟨by simp [Lib.compactUpTo], by simp [Lib.compactUpTo], by simp [Lib.compactUpTo]⟩
  | m + 1, hm => by
    obtain ⟨h1, h2, h3⟩ := upTo_facts l hs m (by omega)
    have hmem : ∀ x ∈ l.take m, ∀ h : m < l.length, x ≤ l[m] := fun x hx h => by
      obtain ⟨i, hi, rfl⟩ := List.mem_iff_getElem.1 hx
      rw [List.getElem_take]
      have hi' : i < m := by simp at hi; omega
      exact (List.pairwise_iff_getElem.1 hs) i m (by omega) h hi'
    have hml : m < l.length := by omega
    have hget : l.toArray[m]! = l[m] := by simp [getElem!_pos, hml]
    rw [Lib.compactUpTo_succ, List.take_succ_eq_append_getElem hml]
    by_cases hk : Lib.keeps l.toArray m = true
    · rw [if_pos hk, hget]
      have hlt : ∀ x ∈ Lib.compactUpTo l.toArray m, x < l[m] := fun x hx => by
        rcases Nat.eq_zero_or_pos m with h0 | h0
        · subst h0
          simp [Lib.compactUpTo] at hx
        · have h4 := h3 x hx ⟨h0, by omega⟩
          have h5 : l[m - 1] ≤ l[m] := (List.pairwise_iff_getElem.1 hs) (m - 1) m (by omega) hml (by omega)
          have h6 : l.toArray[m - 1]! = l[m - 1] := by simp [getElem!_pos, show m - 1 < l.length by omega]
          simp only [Lib.keeps, decide_eq_true_eq] at hk
          rcases hk with e | e
          · omega
          · rw [hget, h6] at e
            omega
      refine ⟨?_, fun x => ?_, fun x hx h => ?_⟩
      · rw [List.pairwise_append]
        exact ⟨h1, by simp, fun x hx y hy => by simp at hy; subst hy; exact hlt x hx⟩
      · rw [List.mem_append, List.mem_append, h2 x]
      · simp only [Nat.add_sub_cancel]
        rcases List.mem_append.1 hx with h | h
        · exact Int.le_of_lt (hlt x h)
        · simp at h
          omega
    · rw [if_neg hk, List.append_nil]
      have hm0 : 0 < m := by
        rcases Nat.eq_zero_or_pos m with h0 | h0
        · subst h0
          simp [Lib.keeps] at hk
        · exact h0
      have h6 : l.toArray[m - 1]! = l[m - 1] := by simp [getElem!_pos, show m - 1 < l.length by omega]
      have he : l[m] = l[m - 1] := by
        simp only [Lib.keeps, decide_eq_true_eq, not_or, Decidable.not_not] at hk
        rw [hget, h6] at hk
        exact hk.2
      refine ⟨h1, fun x => ?_, fun x hx h => ?_⟩
      · rw [h2 x, List.mem_append]
        constructor
        · exact Or.inl
        · rintro (h | h)
          · exact h
          · simp at h
            subst h
            rw [he]
            exact List.mem_take_iff_getElem.2 ⟨m - 1, by omega, rfl⟩
      · simp only [Nat.add_sub_cancel]
        have := h3 x hx ⟨hm0, by omega⟩
        omega

theorem compact_facts (l : List Int) (hs : l.Pairwise (· ≤ ·)) : (Lib.compact l).Pairwise (· < ·) ∧ ∀ x, x ∈ Lib.compact l ↔ x ∈ l := by
  obtain ⟨h1, h2, -⟩ := upTo_facts l hs l.length (Nat.le_refl _)
  refine ⟨h1, fun x => ?_⟩
  unfold Lib.compact
  rw [h2 x, List.take_length]
theorem srt_sorted (l : List Int) : (srt l).Pairwise (· ≤ ·) := by
  have h := List.pairwise_mergeSort (le := fun x y : Int => decide (x ≤ y)) (fun a b c h1 h2 => by simp at *; omega) (fun a b => by simp; omega) l
  unfold srt
  exact h.imp (fun h => by simpa using h)
theorem srt_mem (l : List Int) (x : Int) : x ∈ srt l ↔ x ∈ l := by unfold srt; exact List.mem_mergeSort
theorem cutsF_strict (ts : List Int) (newest width : Int) : (cutsF ts newest width).Pairwise (· < ·) := (compact_facts _ (srt_sorted _)).1
theorem cutsF_mem (ts : List Int) (newest width x : Int) : x ∈ cutsF ts newest width ↔ (∃ t ∈ ts, x = flF t (max width 1)) ∧ x + max width 1 ≤ ripeF newest width := by
  unfold cutsF
  rw [(compact_facts _ (srt_sorted _)).2 x, srt_mem]
  unfold bsF
  simp only [List.mem_filter, List.mem_map, decide_eq_true_eq]
  constructor
  · rintro ⟨⟨t, h1, h2⟩, h3⟩
    exact ⟨⟨t, h1, h2.symm⟩, h3⟩
  · rintro ⟨⟨t, h1, h2⟩, h3⟩
    exact ⟨⟨t, h1, h2.symm⟩, h3⟩

end Go.Proofs.Ytdmkfogohacaiaa
