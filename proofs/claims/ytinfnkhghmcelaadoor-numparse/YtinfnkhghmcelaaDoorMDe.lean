/- What is read of a text is digits, the first one not 0. -/
import Derived.Test.YtinfnkhghmcelaaDoorMDd
namespace Go.Proofs.YtinfnkhghmcelaaDoor
open Go.RowKit Go.Maps

theorem GoodD.snoc {ds : List UInt8} (h : GoodD ds) {d : UInt8} (h9 : d.toNat ≤ 9) (h0 : d.toNat ≠ 0 ∨ ds ≠ []) : GoodD (ds ++ [d]) := by
  refine ⟨fun x hx => ?_, fun x hx => ?_⟩
  · rcases List.mem_append.1 hx with h1 | h1
    · exact h.1 x h1
    · rw [List.mem_singleton.1 h1]; exact h9
  · cases ds with
    | nil =>
      simp at hx
      subst hx
      rcases h0 with h1 | h1
      · exact h1
      · exact absurd rfl h1
    | cons y t => exact h.2 x (by simpa using hx)
theorem scan_good : ∀ (l ds : List UInt8) (p : Int) (n : Nat) (pt : Bool), GoodD ds →
    GoodD (scanD l ds p n pt).1 ∧ (scanD l ds p n pt).1.length ≤ ds.length + l.length ∧ p - l.length ≤ (scanD l ds p n pt).2.1 ∧ (scanD l ds p n pt).2.1 ≤ p
  | [], ds, p, n, pt, h => by simp [scanD]; exact h
  | b :: t, ds, p, n, pt, h => by
    unfold scanD
    split
    · rename_i hd
      have hg : GoodD (if b.toNat ≠ 48 ∨ ds ≠ [] then ds ++ [UInt8.ofNat (b.toNat - 48)] else ds) := by
        split
        · rename_i h1
          have e : (UInt8.ofNat (b.toNat - 48)).toNat = b.toNat - 48 := by rw [UInt8.toNat_ofNat']; omega
          refine h.snoc (by omega) ?_
          rcases h1 with h2 | h2
          · left; omega
          · exact Or.inr h2
        · exact h
      have hl : (if b.toNat ≠ 48 ∨ ds ≠ [] then ds ++ [UInt8.ofNat (b.toNat - 48)] else ds).length ≤ ds.length + 1 := by split <;> simp
      obtain ⟨h1, h2, h3, h4⟩ := scan_good t _ (if pt = true then p - 1 else p) (n + 1) pt hg
      have hp : p - 1 ≤ (if pt = true then p - 1 else p) ∧ (if pt = true then p - 1 else p) ≤ p := by split <;> omega
      refine ⟨h1, ?_, ?_, ?_⟩
      · simp only [List.length_cons]; omega
      · simp only [List.length_cons]; omega
      · omega
    · split
      · obtain ⟨h1, h2, h3, h4⟩ := scan_good t ds p n true h
        refine ⟨h1, ?_, ?_, h4⟩
        · simp only [List.length_cons]; omega
        · simp only [List.length_cons]; omega
      · refine ⟨h, by simp, ?_, Int.le_refl _⟩
        simp only [List.length_cons]; omega
theorem decR_good {s : ByteArray} {ds : List UInt8} {p : Int} (h : decR s = some (ds, p)) (hs : s.size ≤ 400) : GoodD ds ∧ ds.length ≤ 400 ∧ -2000000 ≤ p ∧ p ≤ 2000000 := by
  have hg := scan_good s.data.toList [] 0 0 false ⟨fun _ h => (by cases h), fun _ h => (by cases h)⟩
  have hl : s.data.toList.length = s.size := by simp
  unfold decR at h
  generalize scanD s.data.toList [] 0 0 false = r at *
  obtain ⟨ds1, p1, n, rest⟩ := r
  simp only at h hg
  obtain ⟨g1, g2, g3, g4⟩ := hg
  have gl : ds1.length ≤ 400 := by simp at g2; omega
  split at h
  · cases h
  · cases rest with
    | nil =>
      simp at h
      obtain ⟨rfl, rfl⟩ := h
      exact ⟨g1, gl, by omega, by omega⟩
    | cons b t =>
      simp only at h
      split at h
      · have he := expR_le ⟨t.toArray⟩
        split at h
        · simp at h
          obtain ⟨rfl, rfl⟩ := h
          exact ⟨g1, gl, by omega, by omega⟩
        · cases h
      · cases h
theorem quotB_le (A D : Nat) (t : Int) : quotB A D t ≤ 9218868437227405312 := by
  unfold quotB
  split
  · omega
  · exact Nat.min_le_right _ _
theorem nearN_le (ds : List UInt8) (p : Int) : nearN ds p ≤ 9218868437227405312 := by
  unfold nearN
  split
  · omega
  · split
    · exact Nat.le_refl _
    · unfold quotN
      split <;> exact quotB_le _ _ _

end Go.Proofs.YtinfnkhghmcelaaDoor
