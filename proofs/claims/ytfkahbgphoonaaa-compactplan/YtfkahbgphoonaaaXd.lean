/- The order of members: the walk. -/
import Derived.Test.YtfkahbgphoonaaaXc
import Derived.Sort.Grow
namespace Go.Proofs.Ytfkahbgphoonaaa
open Go.RowKit Go.Shelf Go.Maps Go.Sort

set_option maxRecDepth 100000 in
set_option maxHeartbeats 1000000 in
theorem order_any (x y : Mb) (W : World) : Calls Try.prog 28 #[.agg (mbV x).toArray, .agg (mbV y).toArray] W fun e w' => e = .returned (.int .i64 (cfM x y)) ∧ ∃ q os', w' = grow (W.drewN q) os' := by
  obtain ⟨x0, xn, x1, x2, x3⟩ := x
  obtain ⟨y0, yn, y1, y2, y3⟩ := y
  have hc0 := fun W' => compareI_any x0 y0 W'
  have hc1 := fun W' => compareI_any x1 y1 W'
  have hc2 := fun W' => compareS_any xn yn W'
  unfold cfM
  dsimp only [mbV]
  generalize cmM x0 y0 = r0 at *
  generalize cmM x1 y1 = r1 at *
  generalize cmpS xn yn = r2 at *
  have hor := fun (g : Nat) (X : World) (h : X.heap[g]? = some (.cells #[.int .i64 r0, .int .i64 r1, .int .i64 r2] 3)) => or_any (.slice (some ⟨g, 0, none⟩) 3 3) [r0, r1, r2] X (RowAt.of_block (n := 3) h rfl (by decide)) (by simp)
  generalize orL [r0, r1, r2] = r at *
  have HH0 : Hid (∀ W', Calls Try.prog 30 #[.int .i64 x0, .int .i64 y0] W' fun e w' => ∃ z, e = .returned z ∧ z = .int .i64 r0 ∧ w' = W') := fun W' => (hc0 W').mono fun e w' h => ⟨_, h.1, rfl, h.2⟩
  have HH1 : Hid (∀ W', Calls Try.prog 30 #[.int .i64 x1, .int .i64 y1] W' fun e w' => ∃ z, e = .returned z ∧ z = .int .i64 r1 ∧ w' = W') := fun W' => (hc1 W').mono fun e w' h => ⟨_, h.1, rfl, h.2⟩
  have HH2 : Hid (∀ W', Calls Try.prog 31 #[.string xn, .string yn] W' fun e w' => ∃ z, e = .returned z ∧ z = .int .i64 r2 ∧ w' = W') := fun W' => (hc2 W').mono fun e w' h => ⟨_, h.1, rfl, h.2⟩
  have HH3 : Hid (∀ (g : Nat) (X : World), X.heap[g]? = some (.cells #[.int .i64 r0, .int .i64 r1, .int .i64 r2] 3) → Calls Try.prog 29 #[.slice (some ⟨g, 0, none⟩) 3 3] X fun e w' => ∃ z, e = .returned z ∧ z = .int .i64 r ∧ w' = X) := fun g X h => (hor g X h).mono fun e w' h => ⟨_, h.1, rfl, h.2⟩
  have HE0 : Hid (∀ args w, (callFunc 30 args).run Try.prog w = .ok (.enter 30 args) w) := enters_of Try.func30 (by kernel_rfl) rfl
  have HE2 : Hid (∀ args w, (callFunc 31 args).run Try.prog w = .ok (.enter 31 args) w) := enters_of Try.func31 (by kernel_rfl) rfl
  have HE3 : Hid (∀ args w, (callFunc 29 args).run Try.prog w = .ok (.enter 29 args) w) := enters_of Try.func29 (by kernel_rfl) rfl
  clear hc0 hc1 hc2 hor
  obtain ⟨W2, hW2⟩ : ∃ W2, W2 = (W.alloc (.cells [.int .i64 x0, .string xn, .int .i64 x1, .int .i64 x2, .int .i64 x3].toArray 63)).alloc (.cells [.int .i64 y0, .string yn, .int .i64 y1, .int .i64 y2, .int .i64 y3].toArray 63) := ⟨_, rfl⟩
  have k1 : W2.heap[W.heap.size]? = some (.cells #[.int .i64 x0, .string xn, .int .i64 x1, .int .i64 x2, .int .i64 x3] 63) := by rw [hW2]; exact heap_alloc2_old W _ _
  have k2 : W2.heap[W.heap.size + 1]? = some (.cells #[.int .i64 y0, .string yn, .int .i64 y1, .int .i64 y2, .int .i64 y3] 63) := by rw [hW2]; exact heap_alloc2_new W _ _
  have hsz : W2.heap.size = W.heap.size + 2 := by rw [hW2]; simp
  have HC : Hid (∀ X, Below W2.heap.size W2 X → (X.cell? ⟨W.heap.size, 0, none⟩ = some (.int .i64 x0) ∧ X.cell? ⟨W.heap.size, 1, none⟩ = some (.string xn) ∧ X.cell? ⟨W.heap.size, 2, none⟩ = some (.int .i64 x1)) ∧ X.cell? ⟨W.heap.size + 1, 0, none⟩ = some (.int .i64 y0) ∧ X.cell? ⟨W.heap.size + 1, 1, none⟩ = some (.string yn) ∧ X.cell? ⟨W.heap.size + 1, 2, none⟩ = some (.int .i64 y1)) := fun X hX => by
    have m1 : X.heap[W.heap.size]? = _ := (hX.block W.heap.size (by omega)).trans k1
    have m2 : X.heap[W.heap.size + 1]? = _ := (hX.block (W.heap.size + 1) (by omega)).trans k2
    exact ⟨⟨World.news_of_block m1 0 _ rfl, World.news_of_block m1 1 _ rfl, World.news_of_block m1 2 _ rfl⟩, World.news_of_block m2 0 _ rfl, World.news_of_block m2 1 _ rfl, World.news_of_block m2 2 _ rfl⟩
  obtain ⟨⟨c0, c1, c2⟩, c3, c4, c5⟩ := HC.out W2 (Below.refl _ _)
  have HW2 : Hid (∃ os, W2 = grow W os) := ⟨_, by rw [hW2, alloc_eq_grow, alloc_eq_grow, grow_grow]⟩
  clear k1 k2 hsz
  go_enter Try.func28, Try.ntmps28
  go_wp2_with fail
  rw [← hW2]
  clear hW2
  go_region_held3 (fun X => (X.cell? ⟨W.heap.size, 0, none⟩ = some (.int .i64 x0) ∧ X.cell? ⟨W.heap.size, 1, none⟩ = some (.string xn) ∧ X.cell? ⟨W.heap.size, 2, none⟩ = some (.int .i64 x1)) ∧ X.cell? ⟨W.heap.size + 1, 0, none⟩ = some (.int .i64 y0) ∧ X.cell? ⟨W.heap.size + 1, 1, none⟩ = some (.string yn) ∧ X.cell? ⟨W.heap.size + 1, 2, none⟩ = some (.int .i64 y1))
    (first | with_reducible exact HS8.out | with_reducible exact HS.out _ | exact ⟨⟨c0, c1, c2⟩, c3, c4, c5⟩ | exact ⟨⟨d0, d1, d2⟩, d3, d4, d5⟩ | exact ⟨⟨e0, e1, e2⟩, e3, e4, e5⟩ | exact ⟨⟨f0, f1, f2⟩, f3, f4, f5⟩)
    (first
      | (refine step_call2 _ (by rfl) 30 _ _ _ _ (by rfl) _ _ (by rfl) (by rfl) HE0.out (fun u w' => u = .int .i64 r0 ∧ w' = W2.drew) (HH0.out _) ?_; clear HH0; rintro u w4 ⟨rfl, ew⟩; have B4 : Hid (Below W2.heap.size W2 w4) := (by rw [ew]; exact (Below.refl _ _).drew); obtain ⟨⟨d0, d1, d2⟩, d3, d4, d5⟩ := HC.out w4 B4.out; have QB4 : Hid (w4 = W2.drew) := ew; clear ew)
      | (refine step_call2 _ (by rfl) 30 _ _ _ _ (by rfl) _ _ (by rfl) (by rfl) HE0.out (fun u w' => u = .int .i64 r1 ∧ w' = w4) (HH1.out _) ?_; clear HH1; rintro u w5 ⟨rfl, ew⟩; have B5 : Hid (Below W2.heap.size W2 w5) := (by rw [ew]; exact B4.out); obtain ⟨⟨e0, e1, e2⟩, e3, e4, e5⟩ := HC.out w5 B5.out; have QB5 : Hid (w5 = w4) := ew; clear ew)
      | (refine step_call2 _ (by rfl) 31 _ _ _ _ (by rfl) _ _ (by rfl) (by rfl) HE2.out (fun u w' => u = .int .i64 r2 ∧ w' = w5) (HH2.out _) ?_; clear HH2; rintro u w6 ⟨rfl, ew⟩; have B6 : Hid (Below W2.heap.size W2 w6) := (by rw [ew]; exact B5.out); obtain ⟨⟨f0, f1, f2⟩, f3, f4, f5⟩ := HC.out w6 B6.out; have QB6 : Hid (w6 = w5) := ew; clear ew; have HS : Hid (∀ o, _) := (fun o => HC.out (w6.alloc o) (B6.out.alloc B6.out.size o)))
      | (refine step_call1 _ (by rfl) 29 _ _ (by rfl) _ (by rfl) HE3.out (fun u w' => u = .int .i64 r ∧ w' = w6.alloc (.cells #[.int .i64 r0, .int .i64 r1, .int .i64 r2] 3)) (HH3.out _ _ (by exact heap_alloc_new w6 _)) ?_; clear HH3; rintro u w8 ⟨rfl, e8⟩; have HT := HS.out (.cells #[.int .i64 r0, .int .i64 r1, .int .i64 r2] 3); have Q8 : Hid (w8 = _) := e8; have S8 := HC.out w8 (by rw [e8]; exact B6.out.alloc B6.out.size _); have HS8 : Hid _ := S8; clear S8 e8 HT))
  all_goals
    go_wp2
    go_ret
    obtain ⟨os, ho⟩ := HW2.out
    refine ⟨rfl, 1, os.push (.cells #[.int .i64 r0, .int .i64 r1, .int .i64 r2] 3), ?_⟩
    rw [Q8.out, QB6.out, QB5.out, QB4.out, ho, alloc_eq_grow]
    show grow (grow W.drew os) _ = _
    rw [grow_grow]
    simp [World.drewN]

end Go.Proofs.Ytfkahbgphoonaaa
