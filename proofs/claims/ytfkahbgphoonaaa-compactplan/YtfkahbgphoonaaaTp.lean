/- The document's lot, pure. -/
import Derived.Test.YtfkahbgphoonaaaXh
import Derived.Test.YtfkahbgphoonaaaXe
namespace Go.Proofs.Ytfkahbgphoonaaa
open Go.RowKit Go.Shelf Go.Maps Go.Sort

/-- The block stands in the span from b on. -/
def stB (level b s : Int) (m : Mt) : Bool := decide (m.lv = level ∧ b ≤ cl m.lo ∧ cl m.hi ≤ b + s ∧ cl m.lo ≤ b + s ∧ b ≤ cl m.hi)
def KLt (x y : Mt) : Prop := LtM (0, clM x) (0, clM y)
theorem KLt_iff (x y : Mt) : KLt x y ↔ cl x.lo < cl y.lo ∨ (cl x.lo = cl y.lo ∧ x.nm.toList < y.nm.toList) := by
  unfold KLt LtM clM
  simp
theorem LtM_irrefl (x : Mb) : ¬ LtM x x := (ltOf_cfM' x x).1 (swo_cfM.irrefl x)
theorem LtM_trans {x y z : Mb} (h1 : LtM x y) (h2 : LtM y z) : LtM x z := (ltOf_cfM x z).1 (swo_cfM.trans x y z ((ltOf_cfM x y).2 h1) ((ltOf_cfM y z).2 h2))
theorem LtM_ntrans {x y z : Mb} (h1 : ¬ LtM x y) (h2 : ¬ LtM y z) : ¬ LtM x z := (ltOf_cfM' x z).1 (swo_cfM.ntrans x y z ((ltOf_cfM' x y).2 h1) ((ltOf_cfM' y z).2 h2))
theorem LtM_asymm {x y : Mb} (h : LtM x y) : ¬ LtM y x := fun h2 => LtM_irrefl x (LtM_trans h h2)
def SortedK (l : List Mt) : Prop := l.Pairwise fun x y => ¬ KLt y x
theorem SortedK.put {l : List Mt} {m : Mt} (h : SortedK l) (k : Nat) (_hk : k ≤ l.length) (hlo : ∀ j (hj : j < l.length), j < k → ¬ KLt m l[j]) (hhi : ∀ (hj : k < l.length), KLt m l[k]) : SortedK (l.take k ++ [m] ++ l.drop k) := by
  have hlo' : ∀ x ∈ l.take k, ¬ KLt m x := fun x hx => by
    obtain ⟨j, hj, rfl⟩ := List.mem_iff_getElem.1 hx
    rw [List.getElem_take]
    exact hlo j (by simp at hj; omega) (by simp at hj; omega)
  have hhi' : ∀ x ∈ l.drop k, ¬ KLt x m := fun x hx => by
    obtain ⟨j, hj, rfl⟩ := List.mem_iff_getElem.1 hx
    rw [List.getElem_drop]
    have hkl : k < l.length := by simp at hj; omega
    have h2 := hhi hkl
    rcases Nat.eq_zero_or_pos j with e | e
    · subst e
      exact LtM_asymm h2
    · have h3 := (List.pairwise_iff_getElem.1 h) k (k + j) hkl (by simp at hj; omega) (by omega)
      exact fun h4 => h3 (LtM_trans h4 h2)
  unfold SortedK
  rw [List.pairwise_append, List.pairwise_append]
  refine ⟨⟨List.Pairwise.sublist (List.take_sublist _ _) h, by simp, fun x hx y hy => ?_⟩, List.Pairwise.sublist (List.drop_sublist _ _) h, fun x hx y hy => ?_⟩
  · simp at hy
    subst hy
    exact hlo' x hx
  · rcases List.mem_append.1 hx with hx | hx
    · have h9 : (l.take k ++ l.drop k).Pairwise (fun x y => ¬ KLt y x) := by rw [List.take_append_drop]; exact h
      exact (List.pairwise_append.1 h9).2.2 x hx y hy
    · simp at hx
      subst hx
      exact hhi' y hy
/-- What the document's lot is of some blocks. -/
def LotOf (level b s : Int) (L out : List Mt) : Prop := out.Perm (L.filter (stB level b s)) ∧ SortedK out
theorem LotOf.nil (level b s : Int) : LotOf level b s [] [] := ⟨List.Perm.refl _, List.Pairwise.nil⟩
theorem LotOf.skip {level b s : Int} {L out : List Mt} {m : Mt} (h : LotOf level b s L out) (hm : stB level b s m = false) : LotOf level b s (L ++ [m]) out := by
  refine ⟨?_, h.2⟩
  rw [List.filter_append]
  simpa [hm] using h.1
theorem LotOf.put {level b s : Int} {L out : List Mt} {m : Mt} (h : LotOf level b s L out) (hm : stB level b s m = true) (k : Nat) (hk : k ≤ out.length) (hlo : ∀ j (hj : j < out.length), j < k → ¬ KLt m out[j]) (hhi : ∀ (hj : k < out.length), KLt m out[k]) : LotOf level b s (L ++ [m]) (out.take k ++ [m] ++ out.drop k) := by
  refine ⟨?_, h.2.put k hk hlo hhi⟩
  rw [List.filter_append]
  have e : [m].filter (stB level b s) = [m] := by simp [hm]
  rw [e]
  have h1 : (out.take k ++ [m] ++ out.drop k).Perm (out.take k ++ out.drop k ++ [m]) := by
    rw [List.append_assoc, List.append_assoc]
    exact List.Perm.append_left _ List.perm_append_comm
  rw [List.take_append_drop] at h1
  exact h1.trans (h.1.append_right _)
theorem LotOf.le {level b s : Int} {L out : List Mt} (h : LotOf level b s L out) : out.length ≤ L.length := by
  rw [h.1.length_eq]
  exact List.length_filter_le _ _

theorem mtC_drop (l : List Mt) (m : Nat) (hm : m ≤ l.length) : (mtC l).drop (m * 4) = mtC (l.drop m) := by
  conv => lhs; rw [← List.take_append_drop m l, mtC_append]
  rw [List.drop_left' (by rw [mtC_length, List.length_take, Nat.min_eq_left hm])]
theorem MtAt.drop {w : World} {b o c : Nat} {l : List Mt} (h : MtAt w (.slice (some ⟨b, o, none⟩) l.length c) l) (k : Nat) (hk : k ≤ l.length) : RowAt w (.slice (some ⟨b, o + k * 4, none⟩) (l.length - k) (c - k)) 4 (l.length - k) (mtC (l.drop k)) := by
  obtain ⟨a', c', e, h1, h2, h3⟩ := h
  cases e
  refine ⟨some ⟨b, o + k * 4, none⟩, c - k, rfl, ⟨by omega, by omega⟩, by rw [mtC_length, List.length_drop], fun j u hu => ?_⟩
  rw [← mtC_drop l k hk, List.getElem?_drop] at hu
  obtain ⟨b', o', e, h4, h5⟩ := h3 _ _ hu
  cases e
  exact ⟨b, o + k * 4, rfl, h4, by rw [Nat.add_assoc]; exact h5⟩
theorem RowAt.none4 {w : World} (a : Option Addr) (c : Nat) (hc : c ≤ maxLen) : RowAt w (.slice a 0 c) 4 0 [] := ⟨a, c, rfl, ⟨Nat.zero_le _, hc⟩, rfl, fun j u hu => by simp at hu⟩

end Go.Proofs.Ytfkahbgphoonaaa
