/- Which of two pieces stands ahead; pieces put in their order. -/
import Derived.Test.YtjnjmpfldbkciaaGreatMC4
import Derived.Test.YtjnjmpfldbkciaaGreatC1
namespace Go.Proofs.YtjnjmpfldbkciaaGreat
open Go.RowKit Go.Maps

def aheadF (x y : PG) : Bool := decide (cmpL x.1 y.1 < 0) || (decide (cmpL x.1 y.1 = 0) && decide (x.2.1 < y.2.1))
theorem aheadF_not {x g : PG} (h : aheadF x g = false) : LeG g x := by
  unfold aheadF at h
  simp only [Bool.or_eq_false_iff, Bool.and_eq_false_iff, decide_eq_false_iff_not] at h
  have ha := tcL.anti x.1 g.1
  rcases h with ⟨h1, h2⟩
  by_cases h0 : cmpL x.1 g.1 = 0
  · have e := (tcL.zero _ _).1 h0
    right
    rcases h2 with h2 | h2
    · exact absurd h0 h2
    · exact ⟨e.symm, by omega⟩
  · left
    omega
theorem aheadF_yes {x g : PG} (h : aheadF x g = true) : LeG x g := by
  unfold aheadF at h
  simp only [Bool.or_eq_true, Bool.and_eq_true, decide_eq_true_eq] at h
  rcases h with h | ⟨h1, h2⟩
  · exact Or.inl h
  · exact Or.inr ⟨(tcL.zero _ _).1 h1, by omega⟩
theorem ins_sorted {l : List PG} {x : PG} {j : Nat} (hs : l.Pairwise LeG) (h1 : ∀ i (h : i < l.length), i < j → aheadF x l[i] = false) (h2 : ∀ (h : j < l.length), aheadF x l[j] = true) : (l.take j ++ [x] ++ l.drop j).Pairwise LeG := by
  have ha : ∀ a ∈ l.take j, LeG a x := fun a ha => by
    obtain ⟨i, hi, rfl⟩ := List.getElem_of_mem ha
    rw [List.length_take] at hi
    rw [List.getElem_take]
    exact aheadF_not (h1 i (by omega) (by omega))
  have hb : ∀ b ∈ l.drop j, LeG x b := fun b hb => by
    obtain ⟨i, hi, rfl⟩ := List.getElem_of_mem hb
    rw [List.length_drop] at hi
    rw [List.getElem_drop]
    have hx := aheadF_yes (h2 (by omega))
    rcases Nat.eq_zero_or_pos i with e | e
    · subst e
      exact hx
    · exact hx.trans (List.pairwise_iff_getElem.1 hs j (j + i) (by omega) (by omega) (by omega))
  rw [List.pairwise_append, List.pairwise_append]
  have hs' : (l.take j ++ l.drop j).Pairwise LeG := by rw [List.take_append_drop]; exact hs
  rw [List.pairwise_append] at hs'
  refine ⟨⟨hs'.1, List.pairwise_singleton _ _, fun a ha' b hb' => ?_⟩, hs'.2.1, fun a ha' b hb' => ?_⟩
  · simp at hb'
    subst hb'
    exact ha a ha'
  · rcases List.mem_append.1 ha' with h | h
    · exact hs'.2.2 a h b hb'
    · simp at h
      subst h
      exact hb b hb'
theorem ins_perm {α : Type} (l : List α) (x : α) (j : Nat) : (l.take j ++ [x] ++ l.drop j).Perm (l ++ [x]) := by
  have h1 : (l.take j ++ ([x] ++ l.drop j)).Perm (l.take j ++ (l.drop j ++ [x])) := List.Perm.append_left _ List.perm_append_comm
  rw [List.append_assoc]
  refine h1.trans ?_
  rw [← List.append_assoc, List.take_append_drop]
/-- Pieces that hold something. -/
def fineB (g : PG) : Bool := decide (g.2.1 ≤ g.2.2)
theorem fine_take (l : List PG) (k : Nat) (hk : k < l.length) : (l.take (k + 1)).filter fineB = (l.take k).filter fineB ++ (if fineB l[k] then [l[k]] else []) := by
  rw [List.take_succ_eq_append_getElem hk, List.filter_append]
  congr 1
  cases h : fineB l[k] <;> simp [h]

theorem RowAt.none3 {w : World} (a : Option Addr) (c : Nat) (hc : c ≤ maxLen) : RowAt w (.slice a 0 c) 3 0 [] := ⟨a, c, rfl, ⟨Nat.zero_le _, hc⟩, rfl, fun j u hu => by simp at hu⟩
theorem gnC_take (l : List Gn) (k : Nat) (hk : k ≤ l.length) : (gnC l).take (k * 3) = gnC (l.take k) := by
  have h1 : gnC l = gnC (l.take k) ++ gnC (l.drop k) := by rw [← gnC_append, List.take_append_drop]
  have h2 : (gnC (l.take k)).length = k * 3 := by rw [gnC_length, List.length_take, Nat.min_eq_left hk]
  rw [h1, ← h2, List.take_left]
theorem gnC_drop (l : List Gn) (k : Nat) (hk : k ≤ l.length) : (gnC l).drop (k * 3) = gnC (l.drop k) := by
  have h1 : gnC l = gnC (l.take k) ++ gnC (l.drop k) := by rw [← gnC_append, List.take_append_drop]
  have h2 : (gnC (l.take k)).length = k * 3 := by rw [gnC_length, List.length_take, Nat.min_eq_left hk]
  rw [h1, ← h2, List.drop_left]
theorem row3_take {w : World} {a : Option Addr} {c n : Nat} {l : List Gn} (h : RowAt w (.slice a n c) 3 n (gnC l)) (hn : l.length = n) (k : Nat) (hk : k ≤ n) : RowAt w (.slice a k c) 3 k (gnC (l.take k)) := by
  obtain ⟨a', c', e, h1, h2, h3⟩ := h
  cases e
  refine ⟨a, c, rfl, ⟨by omega, h1.2⟩, by rw [gnC_length, List.length_take]; congr 1; omega, fun j u hj => ?_⟩
  rw [← gnC_take l k (by omega)] at hj
  have hj2 := (List.getElem?_eq_some_iff.1 hj).1
  rw [List.length_take] at hj2
  rw [List.getElem?_take_of_lt (by omega)] at hj
  exact h3 j u hj
theorem row3_drop {w : World} {b o c n : Nat} {l : List Gn} (h : RowAt w (.slice (some ⟨b, o, none⟩) n c) 3 n (gnC l)) (hn : l.length = n) (k : Nat) (hk : k ≤ n) : RowAt w (.slice (some ⟨b, o + k * 3, none⟩) (n - k) (c - k)) 3 (n - k) (gnC (l.drop k)) := by
  obtain ⟨a', c', e, h1, h2, h3⟩ := h
  cases e
  refine ⟨some ⟨b, o + k * 3, none⟩, c - k, rfl, ⟨by omega, by omega⟩, by rw [gnC_length, List.length_drop]; congr 1; omega, fun j u hu => ?_⟩
  rw [← gnC_drop l k (by omega), List.getElem?_drop] at hu
  obtain ⟨b', o', e, h4, h5⟩ := h3 _ _ hu
  cases e
  exact ⟨b, o + k * 3, rfl, h4, by rw [Nat.add_assoc]; exact h5⟩
theorem row3n {w : World} {a : Option Addr} {c n : Nat} {l : List Gn} (h : RowAt w (.slice a n c) 3 n (gnC l)) (hn : l.length = n) (k : Nat) (hk : k < n) : ∃ b o, a = some ⟨b, o, none⟩ ∧ ∀ w', Below w.heap.size w w' → w'.cell? ⟨b, o + k * 3, none⟩ = some (l[k]'(by omega)).v ∧ w'.cell? ⟨b, o + k * 3 + 1, none⟩ = some (.int .i64 (l[k]'(by omega)).lo) ∧ w'.cell? ⟨b, o + k * 3 + 2, none⟩ = some (.int .i64 (l[k]'(by omega)).hi) := by
  subst hn
  exact row3 h k hk
theorem gnC_last (r : List Gn) (o : Gn) (h : Int) : (gnC (r ++ [o])).set (r.length * 3 + 2) (.int .i64 h) = gnC (r ++ [{ o with hi := h }]) := by
  rw [gnC_append, gnC_append, List.set_append_right _ _ (by rw [gnC_length]; omega), gnC_length, show r.length * 3 + 2 - r.length * 3 = 2 by omega]
  rfl

set_option maxRecDepth 100000 in
set_option maxHeartbeats 2000000 in
theorem ahead_any (x y : Gn) (w : World) (hx : GOk w x) (hy : GOk w y) :
    Calls Tryz.prog 31 #[.agg #[x.v, .int .i64 x.lo, .int .i64 x.hi], .agg #[y.v, .int .i64 y.lo, .int .i64 y.hi]] w fun e w' => e = .returned (.bool (aheadF x.p y.p)) ∧ Below w.heap.size w w' := by
  obtain ⟨xv, xls, xlo, xhi⟩ := x
  obtain ⟨yv, yls, ylo, yhi⟩ := y
  obtain ⟨xa, xc, e1, -⟩ := id hx.lab
  obtain ⟨ya, yc, e2, -⟩ := id hy.lab
  dsimp only at e1 e2 ⊢
  subst e1 e2
  have hb1 : Below w.heap.size w (w.alloc (.cells #[.slice xa xls.length xc, .int .i64 xlo, .int .i64 xhi] 39)) := (Below.refl _ w).alloc (Nat.le_refl _) _
  have hb2 : Below w.heap.size w ((w.alloc (.cells #[.slice xa xls.length xc, .int .i64 xlo, .int .i64 xhi] 39)).alloc (.cells #[.slice ya yls.length yc, .int .i64 ylo, .int .i64 yhi] 39)) := hb1.alloc hb1.size _
  have hc := refCompare_any _ _ xls yls _ (hx.lab.below hb2) (hy.lab.below hb2) (by have := hx.few; dsimp only at this; omega) (by have := hy.few; dsimp only at this; omega)
  have HK : Hid (∀ W, DrW ((w.alloc (.cells #[.slice xa xls.length xc, .int .i64 xlo, .int .i64 xhi] 39)).alloc (.cells #[.slice ya yls.length yc, .int .i64 ylo, .int .i64 yhi] 39)) W → W.cell? ⟨w.heap.size, 1, none⟩ = some (.int .i64 xlo) ∧ W.cell? ⟨w.heap.size + 1, 1, none⟩ = some (.int .i64 ylo) ∧ Below w.heap.size w W) := fun W hW => by
    have hbW := hW.below
    refine ⟨?_, ?_, hb2.trans (hbW.mono hb2.size)⟩
    · have h1 := heap_alloc_new w (.cells #[.slice xa xls.length xc, .int .i64 xlo, .int .i64 xhi] 39)
      have h2 := (Below.heap_alloc _ (.cells #[.slice ya yls.length yc, .int .i64 ylo, .int .i64 yhi] 39) w.heap.size (by simp)).trans h1
      have h3 := (hbW.block w.heap.size (by simp; omega)).trans h2
      exact cell_of_heap (i := 1) h3
    · have h1 := heap_alloc_new (w.alloc (.cells #[.slice xa xls.length xc, .int .i64 xlo, .int .i64 xhi] 39)) (.cells #[.slice ya yls.length yc, .int .i64 ylo, .int .i64 yhi] 39)
      rw [show (w.alloc (.cells #[.slice xa xls.length xc, .int .i64 xlo, .int .i64 xhi] 39)).heap.size = w.heap.size + 1 by simp] at h1
      have h3 := (hbW.block (w.heap.size + 1) (by simp)).trans h1
      exact cell_of_heap (i := 1) h3
  unfold aheadF Gn.p
  dsimp only
  clear hx hy hb1 hb2
  generalize cmpL xls yls = cz at *
  by_cases e0 : cz < 0
  · have d0 : decide (cz < 0) = true := decide_eq_true e0
    go_enter Tryz.func31, Tryz.ntmps31
    go_wp2_with (go_at_call 16; refine hc.mono ?_; rintro e w2 ⟨rfl, hd2⟩; obtain ⟨k0, k1, hbw⟩ := HK.out w2 hd2)
    go_ret
    exact ⟨by simp [e0], hbw⟩
  · have d0 : decide (cz < 0) = false := decide_eq_false e0
    by_cases e1 : cz = 0
    · subst e1
      go_enter Tryz.func31, Tryz.ntmps31
      go_wp2_with (go_at_call 16; refine hc.mono ?_; rintro e w2 ⟨rfl, hd2⟩; obtain ⟨k0, k1, hbw⟩ := HK.out w2 hd2)
      go_ret
      exact ⟨by simp, hbw⟩
    · have d1 : decide (cz = 0) = false := decide_eq_false e1
      have d2 : (cz == 0) = false := by simpa using e1
      go_enter Tryz.func31, Tryz.ntmps31
      go_wp2_with (go_at_call 16; refine hc.mono ?_; rintro e w2 ⟨rfl, hd2⟩; obtain ⟨k0, k1, hbw⟩ := HK.out w2 hd2)
      go_ret
      exact ⟨by simp [e0, e1], hbw⟩

end Go.Proofs.YtjnjmpfldbkciaaGreat
