/- merged of one and of two. -/
import Derived.Test.YtjnjmpfldbkciaaGreatMYk
namespace Go.Proofs.YtjnjmpfldbkciaaGreat
open Go.RowKit Go.Shelf Go.Maps

set_option maxRecDepth 100000 in
set_option maxHeartbeats 1000000 in
theorem merged1 (g o c : Nat) (gf : Nat) (lf : Array Value) (w : World) (h : w.cell? ⟨g, o, none⟩ = some (.func (.func gf) #[] lf)) :
    Calls Tryz.prog 49 #[.slice (some ⟨g, o, none⟩) 1 c] w fun e w' => e = .returned (.func (.func gf) #[] lf) ∧ w' = w := by
  go_enter Tryz.func49, Tryz.ntmps49
  go_wp2
  go_ret
  exact ⟨rfl, rfl⟩

set_option maxRecDepth 100000 in
set_option maxHeartbeats 2000000 in
theorem merged2 (g : Nat) (g1 g2 : Nat) (l1 l2 : Array Value) (w : World) (h1 : w.cell? ⟨g, 0, none⟩ = some (.func (.func g1) #[] l1)) (h2 : w.cell? ⟨g, 1, none⟩ = some (.func (.func g2) #[] l2)) :
    Calls Tryz.prog 49 #[.slice (some ⟨g, 0, none⟩) 2 2] w fun e w' => ∃ B, e = .returned (.func (.func 90) #[] #[.pointer (some ⟨B + 1, 0, none⟩), .pointer (some ⟨B, 0, none⟩)]) ∧ w.heap.size ≤ B ∧ B + 1 < w'.heap.size ∧ w'.cell? ⟨B, 0, none⟩ = some (.func (.func g1) #[] l1) ∧ w'.cell? ⟨B + 1, 0, none⟩ = some (.func (.func g2) #[] l2) ∧ Below w.heap.size w w' := by
  have mixed : Tryz.prog.follows .mixedOrders = true := by kernel_rfl
  have hm1 := fun W h => merged1 g 0 2 g1 l1 W h
  have hm2 := fun W h => merged1 g 1 1 g2 l2 W h
  have hbo := fun W => both_any _ _ g1 g2 l1 l2 W rfl rfl
  have HBL : Hid (∀ (X : World) (o1 o2 : Obj), Below w.heap.size w X → Below w.heap.size w ((X.alloc o1).alloc o2)) := fun X o1 o2 h => (h.alloc h.size _).alloc (by have := h.size; simp; omega) _
  go_enter Tryz.func49, Tryz.ntmps49
  go_wp2_with fail
  go_region_with (first
    | (go_at_call 49; refine (hm1 _ (by simpa using h1)).mono ?_; clear hm1; rintro e w' ⟨rfl, e8⟩; have e8 := e8.symm; subst e8)
    | (go_at_call 49; refine (hm2 _ (by simpa using h2)).mono ?_; clear hm2; rintro e w' ⟨rfl, e8⟩; have e8 := e8.symm; subst e8)
    | (go_at_call 75; refine (hbo _).mono ?_; clear hbo; rintro e w' ⟨rfl, rfl⟩))
  all_goals
    go_wp2
    go_ret
    exact ⟨w.heap.size, rfl, Nat.le_refl _, by simp, World.news_of_block (heap_alloc2_old _ _ _) 0 _ rfl, World.news_of_block (heap_alloc2_new _ _ _) 0 _ rfl, by have h9 := HBL.out w (.cells #[.func (.func g1) #[] l1] 59) (.cells #[.func (.func g2) #[] l2] 59) (Below.refl _ _); exact ⟨h9.os, h9.tape, h9.output, h9.size, h9.block⟩⟩

end Go.Proofs.YtjnjmpfldbkciaaGreat
