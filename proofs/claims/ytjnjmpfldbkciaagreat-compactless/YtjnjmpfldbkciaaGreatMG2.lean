/- piecesOf. -/
import Derived.Test.YtjnjmpfldbkciaaGreatMG1
namespace Go.Proofs.YtjnjmpfldbkciaaGreat
open Go.RowKit Go.Maps Go.Sort Go.Shelf

set_option maxRecDepth 100000 in
set_option maxHeartbeats 4000000 in
theorem piecesOf_any (a : Option Addr) (n c : Nat) (l : List Gn) (za : Option Addr) (zc : Nat) (L : List Lb) (w : World) (h : RowAt w (.slice a n c) 3 n (gnC l)) (hn : l.length = n) (hn2 : n ≤ 1000) (hg : ∀ g ∈ l, GOk w g) (hL : LbAt w (.slice za L.length zc) L) (hf : L.length ≤ 64) (hs : SortL l) :
    Calls Tryz.prog 30 #[.slice a n c, .slice za L.length zc] w fun e w' => ∃ a' m c', e = .returned (.slice a' m c') ∧ (m = (subP l L).length ∧ RowAt w' (.slice a' m c') 3 m (gnC (subP l L)) ∧ Below w.heap.size w w') := by
  obtain ⟨W2, hW2⟩ : ∃ W2, W2 = (w.alloc (.cells #[.slice a n c] 23)).alloc (.cells #[.slice za L.length zc] 33) := ⟨_, rfl⟩
  have hb1 : Below w.heap.size w (w.alloc (.cells #[.slice a n c] 23)) := (Below.refl _ w).alloc (Nat.le_refl _) _
  have hb2 : Below w.heap.size w W2 := by rw [hW2]; exact hb1.alloc hb1.size _
  have hP : PcBox W2 w.heap.size (w.heap.size + 1) a n c l L za zc := by
    have h1 := heap_alloc_new w (.cells #[.slice a n c] 23)
    have h2 := (Below.heap_alloc _ (.cells #[.slice za L.length zc] 33) w.heap.size (by simp)).trans h1
    have h3 := heap_alloc_new (w.alloc (.cells #[.slice a n c] 23)) (.cells #[.slice za L.length zc] 33)
    rw [show (w.alloc (.cells #[.slice a n c] 23)).heap.size = w.heap.size + 1 by simp] at h3
    rw [← hW2] at h2 h3
    have hs2 : W2.heap.size = w.heap.size + 2 := by rw [hW2]; simp
    exact ⟨cell_of_heap (i := 0) h2, cell_of_heap (i := 0) h3, by omega, by omega, RowAt.below h hb2, hn, fun g hg' => (hg g hg').below hb2, hL.below hb2, hf⟩
  have e1 : ∀ args w, (callFunc 45 args).run Tryz.prog w = .ok (.enter 45 args) w := enters_of Tryz.func45 (by kernel_rfl) rfl
  have e2 : ∀ args w, (callFunc 46 args).run Tryz.prog w = .ok (.enter 46 args) w := enters_of Tryz.func46 (by kernel_rfl) rfl
  have hS1 : ∀ W, GrW W2 W → Calls Tryz.prog 43 #[.int .i64 n, .func (.func 45) #[] #[.pointer (some ⟨w.heap.size, 0, none⟩), .pointer (some ⟨w.heap.size + 1, 0, none⟩)]] W fun e w' => e = .returned (.int .i64 (fromC l L : Nat)) ∧ GrW W2 w' := fun W hW => by
    have hc := Any.sort_Search Tryz.search 45 #[.pointer (some ⟨w.heap.size, 0, none⟩), .pointer (some ⟨w.heap.size + 1, 0, none⟩)] n (fun i => decide (0 ≤ pcP l L i)) W e1 (by omega) (fun m os i hi => pcClos1 w.heap.size (w.heap.size + 1) a n c l L za zc _ ((hP.grow hW.below).grow (GrW.below ⟨m, os, rfl⟩)) i hi hn2) (by rw [← hn]; exact mono1 hs)
    change Calls Tryz.prog 43 _ _ _ at hc
    refine hc.mono ?_
    rintro e w' ⟨he, hg⟩
    exact ⟨by rw [he]; unfold fromC; rw [hn], hW.trans hg⟩
  have hS2 : ∀ W, GrW W2 W → Calls Tryz.prog 43 #[.int .i64 n, .func (.func 46) #[] #[.pointer (some ⟨w.heap.size, 0, none⟩), .pointer (some ⟨w.heap.size + 1, 0, none⟩)]] W fun e w' => e = .returned (.int .i64 (toC l L : Nat)) ∧ GrW W2 w' := fun W hW => by
    have hc := Any.sort_Search Tryz.search 46 #[.pointer (some ⟨w.heap.size, 0, none⟩), .pointer (some ⟨w.heap.size + 1, 0, none⟩)] n (fun i => decide (0 < pcP l L i)) W e2 (by omega) (fun m os i hi => pcClos2 w.heap.size (w.heap.size + 1) a n c l L za zc _ ((hP.grow hW.below).grow (GrW.below ⟨m, os, rfl⟩)) i hi hn2) (by rw [← hn]; exact mono2 hs)
    change Calls Tryz.prog 43 _ _ _ at hc
    refine hc.mono ?_
    rintro e w' ⟨he, hg⟩
    exact ⟨by rw [he]; unfold toC; rw [hn], hW.trans hg⟩
  have HS1 : Hid _ := hS1
  have HS2 : Hid _ := hS2
  obtain ⟨f1, f2, -⟩ := fromTo (L := L) hs
  have HSB : Hid (subP l L = (l.take (toC l L)).drop (fromC l L)) := rfl
  have HKN : Hid (∀ W, GrW W2 W → W.cell? ⟨w.heap.size, 0, none⟩ = some (.slice a n c) ∧ RowAt W (.slice a n c) 3 n (gnC l) ∧ Below w.heap.size w W) := fun W hW => ⟨(hP.grow hW.below).b1, (hP.grow hW.below).row, hb2.trans (hW.below.mono hb2.size)⟩
  rw [hn] at f2
  have HN : Hid (l.length = n) := hn
  have hcn : n ≤ c := by obtain ⟨_, _, e, h1, -⟩ := h; cases e; exact h1.1
  have hcm : c ≤ 9223372036854775807 := by obtain ⟨_, _, e, h1, -⟩ := h; cases e; exact h1.2
  have c0 := hP.b1
  have HGR : Hid (GrW W2 W2) := GrW.refl _
  have HL0 : Hid (a = none → n = 0) := fun e => by
    subst e
    rcases Nat.eq_zero_or_pos n with h9 | h9
    · exact h9
    · obtain ⟨b, o, e, -⟩ := row3n h hn 0 h9
      cases e
  clear hS1 hS2 hP hb1 hb2 h hg hL hf hs hn e1 e2
  generalize fromC l L = fr at *
  generalize toC l L = tt at *
  have HFIN : Hid (∀ W, GrW W2 W → ∀ a' c', (RowAt W (.slice a' (tt - fr) c') 3 (tt - fr) (gnC ((l.take tt).drop fr))) → (tt - fr = (subP l L).length ∧ RowAt W (.slice a' (tt - fr) c') 3 (tt - fr) (gnC (subP l L)) ∧ Below w.heap.size w W)) := fun W hW a' c' h1 => by
    rw [HSB.out]
    refine ⟨?_, h1, (HKN.out W hW).2.2⟩
    rw [List.length_drop, List.length_take, HN.out]
    omega
  cases a with
  | none =>
    have hn0 : n = 0 := HL0.out rfl
    subst hn0
    have ht0 : tt = 0 := by omega
    subst ht0
    have hf0 : fr = 0 := by omega
    subst hf0
    go_enter Tryz.func30, Tryz.ntmps30
    go_upto_region 1 with fail
    rw [← hW2]
    clear hW2
    go_wp2_with (first
      | (go_at_call 43; refine Calls.mono (HS1.out _ HGR.out) ?_; clear HS1; rintro e w3 ⟨rfl, hg3⟩; have c3 := (HKN.out w3 hg3).1)
      | (go_at_call 43; refine Calls.mono (HS2.out _ hg3) ?_; rintro e w4 ⟨rfl, hg4⟩; have c4 := (HKN.out w4 hg4).1))
    go_ret
    exact ⟨_, _, _, rfl, HFIN.out w4 hg4 _ _ (by simpa [gnC] using RowAt.none3 _ _ (by unfold maxLen; omega))⟩
  | some ad =>
    obtain ⟨b, o, sp⟩ := ad
    by_cases hcf : c = fr
    · have htf : tt = fr := by omega
      have HZ : Hid (∀ W a' c', c' ≤ 9223372036854775807 → RowAt W (.slice a' 0 c') 3 0 (gnC ((l.take fr).drop fr))) := fun W a' c' hc' => by
        rw [List.drop_of_length_le (by rw [List.length_take]; omega)]
        exact RowAt.none3 a' c' hc'
      subst htf
      subst hcf
      go_enter Tryz.func30, Tryz.ntmps30
      go_upto_region 1 with fail
      rw [← hW2]
      clear hW2
      go_wp2_with (first
        | (go_at_call 43; refine Calls.mono (HS1.out _ HGR.out) ?_; clear HS1; rintro e w3 ⟨rfl, hg3⟩; have c3 := (HKN.out w3 hg3).1)
        | (go_at_call 43; refine Calls.mono (HS2.out _ hg3) ?_; rintro e w4 ⟨rfl, hg4⟩; have c4 := (HKN.out w4 hg4).1))
      go_ret
      have h9 := HFIN.out w4 hg4
      rw [Nat.sub_self] at h9
      exact ⟨_, _, _, rfl, h9 _ _ (HZ.out w4 _ _ (by omega))⟩
    · have hi1 : (fr : Int) ≤ (tt : Int) := by omega
      have hi2 : (tt : Int) ≤ (c : Int) := by omega
      have HR : Hid (∀ W, GrW W2 W → sp = none ∨ n = 0) := fun W hW => by
        rcases Nat.eq_zero_or_pos n with h9 | h9
        · exact Or.inr h9
        · obtain ⟨b, o, e, -⟩ := row3n (HKN.out W hW).2.1 HN.out 0 h9
          cases e
          exact Or.inl rfl
      rcases HR.out W2 HGR.out with rfl | hn0
      · have HRR : Hid (∀ W, GrW W2 W → RowAt W (.slice (some ⟨b, o + fr * 3, none⟩) (tt - fr) (c - fr)) 3 (tt - fr) (gnC ((l.take tt).drop fr))) := fun W hW => row3_drop (row3_take (HKN.out W hW).2.1 HN.out tt f2) (by rw [List.length_take, HN.out]; omega) fr f1
        clear HR
        go_enter Tryz.func30, Tryz.ntmps30
        go_upto_region 1 with fail
        rw [← hW2]
        clear hW2
        go_wp2_with (first
          | (go_at_call 43; refine Calls.mono (HS1.out _ HGR.out) ?_; clear HS1; rintro e w3 ⟨rfl, hg3⟩; have c3 := (HKN.out w3 hg3).1)
          | (go_at_call 43; refine Calls.mono (HS2.out _ hg3) ?_; rintro e w4 ⟨rfl, hg4⟩; have c4 := (HKN.out w4 hg4).1))
        go_ret
        exact ⟨_, _, _, rfl, HFIN.out w4 hg4 _ _ (HRR.out w4 hg4)⟩
      · subst hn0
        have ht0 : tt = 0 := by omega
        subst ht0
        have hf0 : fr = 0 := by omega
        subst hf0
        clear HR
        go_enter Tryz.func30, Tryz.ntmps30
        go_upto_region 1 with fail
        rw [← hW2]
        clear hW2
        go_wp2_with (first
          | (go_at_call 43; refine Calls.mono (HS1.out _ HGR.out) ?_; clear HS1; rintro e w3 ⟨rfl, hg3⟩; have c3 := (HKN.out w3 hg3).1)
          | (go_at_call 43; refine Calls.mono (HS2.out _ hg3) ?_; rintro e w4 ⟨rfl, hg4⟩; have c4 := (HKN.out w4 hg4).1))
        go_ret
        exact ⟨_, _, _, rfl, HFIN.out w4 hg4 _ _ (by simpa [gnC] using RowAt.none3 _ _ (by unfold maxLen; omega))⟩

end Go.Proofs.YtjnjmpfldbkciaaGreat
