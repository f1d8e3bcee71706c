/- copied. -/
import Derived.Test.YtjnjmpfldbkciaaGreatYc
namespace Go.Proofs.YtjnjmpfldbkciaaGreat
open Go.RowKit Go.Maps

/-- What copied hands back. -/
def Fresh (w w' : World) (v : Value) (z : Ser) : Prop := ∃ a1 c1 a2 c2, v = .agg #[.slice a1 z.1.length c1, .slice a2 z.2.length c2] ∧ w'.ownsRow w.heap.size 53 2 (.slice a1 z.1.length c1) z.1.length (lbC z.1) ∧ w'.ownsRow w.heap.size 42 2 (.slice a2 z.2.length c2) z.2.length (smC z.2)

set_option maxRecDepth 100000 in
set_option maxHeartbeats 1000000 in
theorem copied_any (vl vs : Value) (z : Ser) (w : World) (h1 : LbAt w vl z.1) (h2 : SmAt w vs z.2) (hl1 : z.1.length ≤ 900000) (hl2 : z.2.length ≤ 900000) :
    Calls Tryz.prog 51 #[.agg #[vl, vs]] w fun e w' => ∃ v, e = .returned v ∧ Fresh w w' v z ∧ Below w.heap.size w w' := by
  obtain ⟨ls, xs⟩ := z
  dsimp only at h1 h2 hl1 hl2
  obtain ⟨a1, c1, rfl, -, -⟩ := id h1
  obtain ⟨a2, c2, rfl, -, -⟩ := id h2
  have HC1 : Hid (∀ W, Below w.heap.size w W → Calls Tryz.prog 26 #[.slice a1 ls.length c1] W fun e w' => ∃ u, e = .returned u ∧ ∃ a c, u = .slice a ls.length c ∧ w'.ownsRow W.heap.size 53 2 (.slice a ls.length c) ls.length (lbC ls) ∧ Below W.heap.size W w') := fun W hW => (cloneLb _ _ _ W (RowAt.below h1 hW) (lbC_one _) hl1).mono fun e w' ⟨a, c, e1, e2, e3⟩ => ⟨_, e1, a, c, rfl, e2, e3⟩
  have HC2 : Hid (∀ W, Below w.heap.size w W → Calls Tryz.prog 76 #[.slice a2 xs.length c2] W fun e w' => ∃ u, e = .returned u ∧ ∃ a c, u = .slice a xs.length c ∧ w'.ownsRow W.heap.size 42 2 (.slice a xs.length c) xs.length (smC xs) ∧ Below W.heap.size W w') := fun W hW => (cloneSm _ _ _ W (RowAt.below h2 hW) (smC_one _) hl2).mono fun e w' ⟨a, c, e1, e2, e3⟩ => ⟨_, e1, a, c, rfl, e2, e3⟩
  have hE1 : ∀ args w, (callFunc 26 args).run Tryz.prog w = .ok (.enter 26 args) w := enters_of Tryz.func26 (by kernel_rfl) rfl
  have hE2 : ∀ args w, (callFunc 76 args).run Tryz.prog w = .ok (.enter 76 args) w := enters_of Tryz.func76 (by kernel_rfl) rfl
  clear h1 h2
  obtain ⟨W0, hW0⟩ : ∃ W0, W0 = (w.alloc (.cells #[.slice a1 ls.length c1, .slice a2 xs.length c2] 36)).alloc (.cells #[.slice none 0 0, .slice none 0 0] 36) := ⟨_, rfl⟩
  have hs0 : W0.heap.size = w.heap.size + 2 := by rw [hW0]; simp
  have HB0 : Hid (Below w.heap.size w W0) := by show Below _ _ _; rw [hW0]; exact ((Below.refl _ _).alloc (Nat.le_refl _) _).alloc (by simp) _
  have hb0 : W0.heap[w.heap.size]? = some (.cells #[.slice a1 ls.length c1, .slice a2 xs.length c2] 36) := by rw [hW0]; exact heap_alloc2_old w _ _
  have hb1 : W0.heap[w.heap.size + 1]? = some (.cells #[.slice none 0 0, .slice none 0 0] 36) := by rw [hW0]; exact heap_alloc2_new w _ _
  have HK : Hid (∀ W, Below W0.heap.size W0 W → W.cell? ⟨w.heap.size, 0, none⟩ = some (.slice a1 ls.length c1) ∧ W.cell? ⟨w.heap.size, 1, none⟩ = some (.slice a2 xs.length c2) ∧ W.cell? ⟨w.heap.size + 1, 0, none⟩ = some (.slice none 0 0) ∧ W.cell? ⟨w.heap.size + 1, 1, none⟩ = some (.slice none 0 0) ∧ W.frozen? ⟨w.heap.size + 1, 0, none⟩ = false ∧ W.frozen? ⟨w.heap.size + 1, 1, none⟩ = false ∧ Hid (W.heap[w.heap.size + 1]? = some (.cells #[.slice none 0 0, .slice none 0 0] 36))) := fun W hW => by
    have k0 : W.heap[w.heap.size]? = _ := (hW.block w.heap.size (by omega)).trans hb0
    have k1 : W.heap[w.heap.size + 1]? = _ := (hW.block (w.heap.size + 1) (by omega)).trans hb1
    exact ⟨World.news_of_block k0 0 _ rfl, World.news_of_block k0 1 _ rfl, World.news_of_block k1 0 _ rfl, World.news_of_block k1 1 _ rfl, frozen_of_heap k1, frozen_of_heap k1, k1⟩
  obtain ⟨p0, p1, p2, p3, p4, p5, -⟩ := HK.out W0 (Below.refl _ _)
  have HD1 : Hid (∀ W, Below W0.heap.size W0 W → Calls Tryz.prog 26 #[.slice a1 ls.length c1] W fun e w' => ∃ u, e = .returned u ∧ ∃ a c, u = .slice a ls.length c ∧ w'.ownsRow W0.heap.size 53 2 (.slice a ls.length c) ls.length (lbC ls) ∧ Below W0.heap.size W0 w' ∧ Below W.heap.size W w') := fun W hW => (HC1.out W (HB0.out.trans (hW.mono HB0.out.size))).mono fun e w' ⟨u, e1, a, c, e2, e3, e4⟩ => ⟨u, e1, a, c, e2, row_mono e3 hW.size, hW.trans (e4.mono hW.size), e4⟩
  have HD2 : Hid (∀ W, Below W0.heap.size W0 W → Calls Tryz.prog 76 #[.slice a2 xs.length c2] W fun e w' => ∃ u, e = .returned u ∧ ∃ a c, u = .slice a xs.length c ∧ w'.ownsRow W0.heap.size 42 2 (.slice a xs.length c) xs.length (smC xs) ∧ Below W0.heap.size W0 w' ∧ Below W.heap.size W w') := fun W hW => (HC2.out W (HB0.out.trans (hW.mono HB0.out.size))).mono fun e w' ⟨u, e1, a, c, e2, e3, e4⟩ => ⟨u, e1, a, c, e2, row_mono e3 hW.size, hW.trans (e4.mono hW.size), e4⟩
  clear hb0 hb1 HC1 HC2
  go_enter Tryz.func51, Tryz.ntmps51
  go_wp2_with fail
  rw [← hW0]
  clear hW0
  go_region_with (first
    | (go_at_call 26; refine (HD1.out _ (by exact ⟨rfl, rfl, rfl, Nat.le_refl _, fun _ _ => rfl⟩)).mono ?_; rintro e w1 ⟨u, rfl, a3, c3, rfl, hr1, hb1, -⟩; obtain ⟨q0, q1, q2, q3, q4, q5, -⟩ := HK.out _ hb1; have HR1 : Hid _ := hr1; have HB1 : Hid _ := hb1; clear hr1 hb1)
    | (go_at_call 76; refine (HD2.out _ (by exact ⟨HB1.out.os, HB1.out.tape, HB1.out.output, HB1.out.size, HB1.out.block⟩)).mono ?_; rintro e w2 ⟨u, rfl, a4, c4, rfl, hr2, hb2, e5⟩; obtain ⟨s0, s1, s2, s3, s4, s5, S6⟩ := HK.out _ hb2; have HR2 : Hid _ := hr2; have HB2 : Hid _ := hb2; have HR3 : Hid _ := row_below HR1.out ⟨e5.os, e5.tape, e5.output, e5.size, e5.block⟩; clear hr2 hb2 e5))
  all_goals
    go_wp2
    have hf : ((w2.setCell ⟨w.heap.size + 1, 0, none⟩ (.slice a3 ls.length c3)).setCell ⟨w.heap.size + 1, 1, none⟩ (.slice a4 xs.length c4)).heap[w.heap.size + 1]? = some (.cells #[.slice a3 ls.length c3, .slice a4 xs.length c4] 36) := heap_setCell_same (heap_setCell_same S6.out _) _
    refine bodyPost_ret (results_cell_row Tryz.results51 _ _ (w.heap.size + 1) _ _ _ _ rfl hf Tryz.underlying36 rfl (by kernel_rfl)) rfl ?_
    have hlt : w.heap.size ≤ W0.heap.size := by omega
    have hlt2 : w.heap.size + 1 < W0.heap.size := by omega
    exact ⟨_, rfl, ⟨a3, c3, a4, c4, rfl, row_mono (ownsRow_setCell_below (ownsRow_setCell_below HR3.out hlt2 _) hlt2 _) hlt, row_mono (ownsRow_setCell_below (ownsRow_setCell_below HR2.out hlt2 _) hlt2 _) hlt⟩, ((HB0.out.trans (HB2.out.mono hlt)).setCell (Nat.le_succ _) _).setCell (Nat.le_succ _) _⟩

end Go.Proofs.YtjnjmpfldbkciaaGreat
