/- Sets cut in two, and put together again. -/
import Derived.Test.YtobkomfeojhhbaaDoorLt
import Derived.Test.YtobkomfeojhhbaaDoorLu
import Derived.Test.YtobkomfeojhhbaaDoorLv
namespace Go.Proofs.YtobkomfeojhhbaaDoor

def Strict (ls : List Lb) : Prop := ls.Pairwise fun x y => x.1.toList < y.1.toList
theorem Strict.sorted {ls : List Lb} (h : Strict ls) : SortedL ls := h.imp fun h1 => lt_asymm' h1
theorem rightS_iff (ls : List Lb) : rightS ls = true ↔ ls.length ≤ 64 ∧ Strict ls ∧ ∀ x ∈ ls, okLb x = true := by
  unfold rightS
  rw [Bool.and_eq_true, Bool.and_eq_true, decide_eq_true_iff, List.all_eq_true, and_assoc]
  exact ⟨fun h => ⟨h.1, rl_strict h.2.1, h.2.2⟩, fun h => ⟨h.1, rl_of_strict h.2.1, h.2.2⟩⟩
theorem newR_right {ls : List Lb} (h : (newR ls).2 = 0) : rightS (newR ls).1 = true := by
  unfold newR at *
  by_cases h1 : ls.all fairL = false
  · rw [if_pos h1] at h; cases h
  · rw [if_neg h1] at *
    by_cases h2 : (foldN ls).2 = true
    · rw [if_pos h2] at h; cases h
    · rw [if_neg h2] at *
      by_cases h3 : 64 < (foldN ls).1.length
      · rw [if_pos h3] at h; cases h
      · rw [if_neg h3] at *
        obtain ⟨hp, hs, hn⟩ := foldN_inv ls
        have hnd : (names (live ls)).Nodup := Classical.byContradiction fun h4 => h2 (hn.2 h4)
        refine (rightS_iff _).2 ⟨by show (foldN ls).1.length ≤ 64; omega, nodup_strict hs ((names_perm hp).2 hnd), fun x hx => ?_⟩
        have hx' := hp.mem_iff.1 hx
        unfold live at hx'
        obtain ⟨h5, h6⟩ := List.mem_filter.1 hx'
        have h7 : ls.all fairL = true := by simpa using h1
        unfold okLb
        rw [h6, List.all_eq_true.1 h7 x h5]
        rfl
theorem foldS_right (ms : List Lb) : ∀ out : List Lb, rightS out = true → rightS (ms.foldl stepS out) = true := by
  induction ms with
  | nil => intro out h; exact h
  | cons a t ih =>
    intro out h
    rw [List.foldl_cons]
    refine ih _ ?_
    unfold stepS
    split
    · next h1 => exact newR_right h1
    · exact h
theorem setL_right (ls : List Lb) : rightS (setL ls) = true := foldS_right _ [] (by rfl)
theorem fair_short {x : Lb} (h : fairL x = true) : x.1.size ≤ 1024 ∧ x.2.size ≤ 1024 := by
  unfold fairL at h
  rw [Bool.and_eq_true, Bool.and_eq_true] at h
  obtain ⟨⟨h1, h2⟩, -⟩ := h
  unfold wd at h1
  unfold valB at h2
  simp at h1 h2
  omega
theorem right_sized {ls : List Lb} (h : rightS ls = true) : Sized ls := fun i hi => by
  have h1 := ((rightS_iff ls).1 h).2.2 _ (List.getElem_mem hi)
  unfold okLb at h1
  rw [Bool.and_eq_true] at h1
  have := fair_short h1.2
  unfold maxLen
  omega
theorem chosen_right {s : List Lb} (h : rightS s = true) (ns : List ByteArray) (b : Bool) : rightS (chosenL s ns b) = true := by
  obtain ⟨h1, h2, h3⟩ := (rightS_iff s).1 h
  exact (rightS_iff _).2 ⟨Nat.le_trans (chosenL_length _ _ _) h1, List.Pairwise.sublist List.filter_sublist h2, fun x hx => h3 x (List.mem_filter.1 hx).1⟩
theorem chosen_perm (s : List Lb) (ns : List ByteArray) : (chosenL s ns false ++ chosenL s ns true).Perm s := by
  unfold chosenL
  induction s with
  | nil => exact List.Perm.refl _
  | cons x t ih =>
    cases h : Lib.containsS ns x.1
    · simp only [List.filter_cons, h, beq_self_eq_true, if_true, List.cons_append]
      exact ih.cons x
    · simp only [List.filter_cons, h, beq_self_eq_true, if_true]
      exact List.perm_middle.trans (ih.cons x)

theorem foldW_true (n v : ByteArray) (ls : List Lb) (hn : n.toList ∉ names ls) : ∀ o, ls.foldl (stepW n v) (o, true) = (o ++ ls, true) := by
  induction ls with
  | nil => intro o; simp
  | cons x t ih =>
    intro o
    have h1 : (x.1.toList == n.toList) = false := by
      rw [beq_eq_false_iff_ne]
      intro e
      exact hn (by unfold names; simp [e])
    have h2 : n.toList ∉ names t := fun h => hn (by unfold names at *; simp only [List.map_cons, List.mem_cons]; exact Or.inr h)
    rw [List.foldl_cons]
    have h3 : stepW n v (o, true) x = (o ++ [x], true) := by
      unfold stepW
      simp [h1]
    rw [h3, ih h2, List.append_assoc]
    rfl
theorem foldW_false (n v : ByteArray) (ls : List Lb) (hn : n.toList ∉ names ls) : ∀ o, ls.foldl (stepW n v) (o, false) = if ls.dropWhile (lessL n) = [] then (o ++ ls, false) else (o ++ ls.takeWhile (lessL n) ++ (n, v) :: ls.dropWhile (lessL n), true) := by
  induction ls with
  | nil => intro o; simp
  | cons x t ih =>
    intro o
    have h1 : (x.1.toList == n.toList) = false := by
      rw [beq_eq_false_iff_ne]
      intro e
      exact hn (by unfold names; simp [e])
    have h2 : n.toList ∉ names t := fun h => hn (by unfold names at *; simp only [List.map_cons, List.mem_cons]; exact Or.inr h)
    rw [List.foldl_cons]
    cases h4 : lessL n x
    · have h3 : stepW n v (o, false) x = (o ++ [(n, v)] ++ [x], true) := by
        unfold stepW
        unfold lessL at h4
        simp [h1, h4]
      rw [h3, foldW_true n v t h2]
      simp [h4]
    · have h3 : stepW n v (o, false) x = (o ++ [x], false) := by
        unfold stepW
        unfold lessL at h4
        simp [h1, h4]
      rw [h3, ih h2]
      simp [h4]
theorem withL_put {ls : List Lb} {n v : ByteArray} (hn : n.toList ∉ names ls) (hv : v.toList.isEmpty = false) : withL ls n v = putL ls (n, v) := by
  unfold withL foldW putL
  rw [hv, foldW_false n v ls hn]
  dsimp only
  by_cases h : ls.dropWhile (lessL n) = []
  · rw [if_pos h]
    have h1 := List.takeWhile_append_dropWhile (p := lessL n) (l := ls)
    rw [h, List.append_nil] at h1
    rw [h, h1]
    simp
  · rw [if_neg h]
    simp

/-- The part that is left, and the first labels of the other. -/
def Bk (s : List Lb) (ns : List ByteArray) (k : Nat) (l : List Lb) : Prop := Strict l ∧ l.Perm (chosenL s ns false ++ (chosenL s ns true).take k)
theorem Bk.zero {s : List Lb} (h : rightS s = true) (ns : List ByteArray) : Bk s ns 0 (chosenL s ns false) := ⟨((rightS_iff _).1 (chosen_right h ns false)).2.1, by rw [List.take_zero, List.append_nil]⟩
theorem Bk.fresh {s l : List Lb} {ns : List ByteArray} {k : Nat} (hs : rightS s = true) (h : Bk s ns k l) (hk : k < (chosenL s ns true).length) : (chosenL s ns true)[k].1.toList ∉ names l := fun hm => by
  have hnd : (names (chosenL s ns false ++ chosenL s ns true)).Nodup := (names_perm (chosen_perm s ns)).2 (strict_nodup ((rightS_iff s).1 hs).2.1)
  have hm2 : (chosenL s ns true)[k].1.toList ∈ names (chosenL s ns false ++ (chosenL s ns true).take k) := (h.2.map fun x : Lb => x.1.toList).mem_iff.1 hm
  generalize chosenL s ns false = a at *
  generalize chosenL s ns true = b at *
  have e : a ++ b = (a ++ b.take k) ++ b.drop k := by rw [List.append_assoc, List.take_append_drop]
  rw [e] at hnd
  unfold names at hnd hm2
  rw [List.map_append, List.nodup_append] at hnd
  refine hnd.2.2 _ hm2 (b[k].1.toList) ?_ rfl
  exact List.mem_map.2 ⟨b[k], by rw [List.drop_eq_getElem_cons hk]; exact List.mem_cons_self, rfl⟩
theorem Bk.succ {s l : List Lb} {ns : List ByteArray} {k : Nat} (hs : rightS s = true) (h : Bk s ns k l) (hk : k < (chosenL s ns true).length) : Bk s ns (k + 1) (withL l (chosenL s ns true)[k].1 (chosenL s ns true)[k].2) := by
  have hf := h.fresh hs hk
  have hok := ((rightS_iff _).1 (chosen_right hs ns true)).2.2 _ (List.getElem_mem hk)
  unfold okLb at hok
  rw [Bool.and_eq_true] at hok
  rw [withL_put hf (by simpa using hok.1)]
  have hp : (putL l ((chosenL s ns true)[k].1, (chosenL s ns true)[k].2)).Perm (chosenL s ns false ++ (chosenL s ns true).take (k + 1)) := by
    refine (putL_perm _ _).trans ?_
    rw [List.take_succ_eq_append_getElem hk, ← List.append_assoc]
    exact (h.2.cons _).trans (List.perm_append_singleton _ _).symm
  refine ⟨?_, hp⟩
  refine nodup_strict (sorted_putL h.1.sorted _) ?_
  refine (names_perm (putL_perm _ _)).2 ?_
  unfold names
  rw [List.map_cons, List.nodup_cons]
  exact ⟨hf, strict_nodup h.1⟩
theorem Bk.done {s l : List Lb} {ns : List ByteArray} {k : Nat} (hs : rightS s = true) (h : Bk s ns k l) (hk : (chosenL s ns true).length ≤ k) : l = s := by
  have h2 := h.2
  rw [List.take_of_length_le hk] at h2
  exact strict_unique h.1 ((rightS_iff s).1 hs).2.1 (h2.trans (chosen_perm s ns))
theorem Bk.length {s l : List Lb} {ns : List ByteArray} {k : Nat} (hs : rightS s = true) (h : Bk s ns k l) : l.length ≤ 64 := by
  have h1 := h.2.length_eq
  have h2 := (chosen_perm s ns).length_eq
  have h3 := ((rightS_iff s).1 hs).1
  rw [List.length_append] at h1 h2
  have h4 : ((chosenL s ns true).take k).length ≤ (chosenL s ns true).length := by simp; omega
  omega
theorem getL_fresh {l : List Lb} {n : ByteArray} (h : n.toList ∉ names l) : getL l n = ⟨#[]⟩ := by
  have h1 : hasL l n = false := by
    rw [Bool.eq_false_iff]
    intro h2
    exact h ((hasL_iff l n).1 h2)
  rw [hasL_find] at h1
  unfold getL
  rw [Option.isSome_eq_false_iff, Option.isNone_iff_eq_none] at h1
  rw [h1]
  rfl

end Go.Proofs.YtobkomfeojhhbaaDoor
