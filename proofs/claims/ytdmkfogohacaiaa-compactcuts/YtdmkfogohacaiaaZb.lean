/- The document's Cuts. -/
import Derived.Test.YtdmkfogohacaiaaZa
namespace Go.Proofs.Ytdmkfogohacaiaa
open Go.RowKit Go.Maps

/-- What the document's Cuts has of some times. -/
def CutsOf (m lim : Int) (ts l : List Int) : Prop := l.Pairwise (· < ·) ∧ ∀ x, x ∈ l ↔ (∃ t ∈ ts, x = flF t m) ∧ x + m ≤ lim
theorem CutsOf.nil (m lim : Int) : CutsOf m lim [] [] := ⟨List.Pairwise.nil, fun x => by simp⟩
theorem CutsOf.skip {m lim : Int} {ts l : List Int} {t : Int} (h : CutsOf m lim ts l) (ht : ¬ flF t m + m ≤ lim) : CutsOf m lim (ts ++ [t]) l := by
  refine ⟨h.1, fun x => ?_⟩
  rw [h.2 x]
  constructor
  · rintro ⟨⟨s, h1, h2⟩, h3⟩
    exact ⟨⟨s, List.mem_append_left _ h1, h2⟩, h3⟩
  · rintro ⟨⟨s, h1, h2⟩, h3⟩
    rcases List.mem_append.1 h1 with h4 | h4
    · exact ⟨⟨s, h4, h2⟩, h3⟩
    · simp at h4
      subst h4
      rw [h2] at h3
      exact absurd h3 ht
theorem CutsOf.same {m lim : Int} {ts l : List Int} {t : Int} (h : CutsOf m lim ts l) (ht : flF t m ∈ l) : CutsOf m lim (ts ++ [t]) l := by
  refine ⟨h.1, fun x => ?_⟩
  constructor
  · intro hx
    obtain ⟨⟨s, h1, h2⟩, h3⟩ := (h.2 x).1 hx
    exact ⟨⟨s, List.mem_append_left _ h1, h2⟩, h3⟩
  · rintro ⟨⟨s, h1, h2⟩, h3⟩
    rcases List.mem_append.1 h1 with h4 | h4
    · exact (h.2 x).2 ⟨⟨s, h4, h2⟩, h3⟩
    · simp at h4
      subst h4
      rw [h2]
      exact ht
theorem CutsOf.put {m lim : Int} {ts l : List Int} {t : Int} (h : CutsOf m lim ts l) (ht : flF t m + m ≤ lim) (k : Nat) (hk : k ≤ l.length) (hlo : ∀ j (hj : j < l.length), j < k → l[j] < flF t m) (hhi : ∀ (hj : k < l.length), flF t m < l[k]) : CutsOf m lim (ts ++ [t]) (l.take k ++ [flF t m] ++ l.drop k) := by
  have h1 := h.1
  have hsplit : ∀ x, x ∈ l ↔ x ∈ l.take k ∨ x ∈ l.drop k := fun x => by
    conv => lhs; rw [← List.take_append_drop k l]
    exact List.mem_append
  have hlo' : ∀ x ∈ l.take k, x < flF t m := fun x hx => by
    obtain ⟨j, hj, rfl⟩ := List.mem_iff_getElem.1 hx
    rw [List.getElem_take]
    exact hlo j (by simp at hj; omega) (by simp at hj; omega)
  have hhi' : ∀ x ∈ l.drop k, flF t m < x := fun x hx => by
    obtain ⟨j, hj, rfl⟩ := List.mem_iff_getElem.1 hx
    rw [List.getElem_drop]
    have hkl : k < l.length := by simp at hj; omega
    have h2 := hhi hkl
    rcases Nat.eq_zero_or_pos j with e | e
    · subst e
      exact h2
    · have := (List.pairwise_iff_getElem.1 h1) k (k + j) hkl (by simp at hj; omega) (by omega)
      omega
  refine ⟨?_, fun x => ?_⟩
  · rw [List.pairwise_append, List.pairwise_append]
    refine ⟨⟨h1.sublist (List.take_sublist _ _), by simp, fun x hx y hy => ?_⟩, h1.sublist (List.drop_sublist _ _), fun x hx y hy => ?_⟩
    · simp at hy
      subst hy
      exact hlo' x hx
    · rcases List.mem_append.1 hx with hx | hx
      · have := hlo' x hx
        have := hhi' y hy
        omega
      · simp at hx
        subst hx
        exact hhi' y hy
  · rw [List.mem_append, List.mem_append]
    constructor
    · rintro ((hx | hx) | hx)
      · obtain ⟨⟨s, h2, h3⟩, h4⟩ := (h.2 x).1 ((hsplit x).2 (Or.inl hx))
        exact ⟨⟨s, List.mem_append_left _ h2, h3⟩, h4⟩
      · simp at hx
        subst hx
        exact ⟨⟨t, by simp, rfl⟩, ht⟩
      · obtain ⟨⟨s, h2, h3⟩, h4⟩ := (h.2 x).1 ((hsplit x).2 (Or.inr hx))
        exact ⟨⟨s, List.mem_append_left _ h2, h3⟩, h4⟩
    · rintro ⟨⟨s, h2, h3⟩, h4⟩
      rcases List.mem_append.1 h2 with h5 | h5
      · rcases (hsplit x).1 ((h.2 x).2 ⟨⟨s, h5, h3⟩, h4⟩) with h6 | h6
        · exact Or.inl (Or.inl h6)
        · exact Or.inr h6
      · simp at h5
        subst h5
        exact Or.inl (Or.inr (by simp [h3]))
theorem CutsOf.eq {ts l : List Int} {newest width : Int} (h : CutsOf (max width 1) (ripeF newest width) ts l) : l = cutsF ts newest width :=
  strict_unique _ _ h.1 (cutsF_strict _ _ _) (fun x => by rw [h.2 x, cutsF_mem])
theorem cuts_great (ts : List Int) (newest width : Int) (hw : 36028797018963968 < max width 1) (hw2 : max width 1 ≤ 9223372036854775807) : cutsF ts newest width = [] := by
  rw [List.eq_nil_iff_forall_not_mem]
  intro x hx
  obtain ⟨⟨t, -, rfl⟩, h2⟩ := (cutsF_mem _ _ _ _).1 hx
  unfold ripeF at h2
  have h3 := cl_in newest
  have h4 := cl_in t
  generalize max width 1 = m at *
  unfold flF at h2
  rw [show max m 1 = m by omega] at h2
  have h5 := Int.emod_lt_of_pos (cl t) (show 0 < m by omega)
  by_cases h6 : 0 ≤ cl t
  · rw [Int.emod_eq_of_lt h6 (by omega)] at h2
    omega
  · have h7 : cl t % m = cl t + m := by
      have h8 : cl t % m = (cl t + m) % m := by simp
      rw [h8]
      exact Int.emod_eq_of_lt (by omega) (by omega)
    rw [h7] at h2
    omega

end Go.Proofs.Ytdmkfogohacaiaa
