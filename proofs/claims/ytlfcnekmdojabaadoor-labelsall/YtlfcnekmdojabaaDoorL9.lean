/- The program's rightLabel; what New's order is. -/
import Derived.Test.YtlfcnekmdojabaaDoorL5
import Derived.Shelf.SlSortCmp.WholeK
namespace Go.Proofs.YtlfcnekmdojabaaDoor
open Go.RowKit

set_option maxRecDepth 100000 in
set_option maxHeartbeats 1000000 in
theorem rightLabel_any (x : Lb) (w : World) (h2 : x.2.size ≤ maxLen) (hT : Tabs w) :
    Calls Tryd.prog 19 #[.agg #[.string x.1, .string x.2]] w fun e w' => e = .returned (.bool (fairL x)) ∧ Below w.heap.size w w' := by
  obtain ⟨n, v⟩ := x
  unfold maxLen at h2
  dsimp only at h2
  have hb0 : Below w.heap.size w (w.alloc (.cells #[.string n, .string v] 28 (0, 0))) := (Below.refl _ _).alloc (Nat.le_refl _) _
  have hV : Calls Tryd.prog 32 #[.string v] (w.alloc (.cells #[.string n, .string v] 28 (0, 0))) fun e w' => e = .returned (.bool (Lib.validD v.data.toList)) ∧ Below (w.alloc (.cells #[.string n, .string v] 28 (0, 0))).heap.size (w.alloc (.cells #[.string n, .string v] 28 (0, 0))) w' := Any.utf8_ValidString Tryd.laysValid v _ (by omega) (hT.below hb0).1
  have HB : Hid (∀ w', Below (w.alloc (.cells #[.string n, .string v] 28 (0, 0))).heap.size (w.alloc (.cells #[.string n, .string v] 28 (0, 0))) w' → Below w.heap.size w w' ∧ w'.cell? ⟨w.heap.size, 0, none⟩ = some (.string n) ∧ w'.cell? ⟨w.heap.size, 1, none⟩ = some (.string v)) := fun w' hb => by
    refine ⟨hb0.trans (hb.mono (by simp)), ?_, ?_⟩
    · rw [hb.cell (p := ⟨w.heap.size, 0, none⟩) (by simp)]
      exact World.news_of_block (heap_alloc_new w _) 0 _ rfl
    · rw [hb.cell (p := ⟨w.heap.size, 1, none⟩) (by simp)]
      exact World.news_of_block (heap_alloc_new w _) 1 _ rfl
  have HB0 : Hid (Below w.heap.size w (w.alloc (.cells #[.string n, .string v] 28 (0, 0)))) := hb0
  clear hT hb0
  have hR1 := fun W => rightName_any n W
  have hR3 := fun W => rightMetric_any v W
  unfold fairL valB
  dsimp only
  generalize wd false n = r1 at *
  generalize wd true v = r3 at *
  generalize Lib.validD v.data.toList = r2 at *
  cases r1
  · go_enter Tryd.func19, Tryd.ntmps19
    go_wp2_with (go_at_call 31; refine (hR1 _).mono ?_; rintro e w' ⟨rfl, rfl⟩)
    go_ret
    exact ⟨rfl, HB0.out⟩
  by_cases h1024 : v.size ≤ 1024
  · have e1024 : decide (v.size ≤ 1024) = true := by simp [h1024]
    rw [e1024]
    cases r2
    · go_enter Tryd.func19, Tryd.ntmps19
      go_wp2_with (first | (go_at_call 31; refine (hR1 _).mono ?_; rintro e w' ⟨rfl, rfl⟩) | (go_at_call 32; refine hV.mono ?_; rintro e w1 ⟨rfl, hb1⟩; obtain ⟨hb2, hc0, hc1⟩ := HB.out _ hb1))
      go_ret
      exact ⟨rfl, hb2⟩
    · cases hn : n.toList == nameTok
      · have hn' : (n.toList == [95, 95, 110, 97, 109, 101, 95, 95]) = false := hn
        go_enter Tryd.func19, Tryd.ntmps19
        go_wp2_with (first | (go_at_call 31; refine (hR1 _).mono ?_; rintro e w' ⟨rfl, rfl⟩) | (go_at_call 32; refine hV.mono ?_; rintro e w1 ⟨rfl, hb1⟩; obtain ⟨hb2, hc0, hc1⟩ := HB.out _ hb1))
        all_goals (go_ret; exact ⟨by simp, hb2⟩)
      · have hn' : (n.toList == [95, 95, 110, 97, 109, 101, 95, 95]) = true := hn
        cases hv : v.toList.isEmpty
        · go_enter Tryd.func19, Tryd.ntmps19
          go_wp2_with (first | (go_at_call 31; refine (hR1 _).mono ?_; rintro e w' ⟨rfl, rfl⟩) | (go_at_call 32; refine hV.mono ?_; rintro e w1 ⟨rfl, hb1⟩; obtain ⟨hb2, hc0, hc1⟩ := HB.out _ hb1) | (go_at_call 33; refine (hR3 _).mono ?_; rintro e w' ⟨rfl, rfl⟩))
          all_goals (go_ret; exact ⟨by simp, hb2⟩)
        · go_enter Tryd.func19, Tryd.ntmps19
          go_wp2_with (first | (go_at_call 31; refine (hR1 _).mono ?_; rintro e w' ⟨rfl, rfl⟩) | (go_at_call 32; refine hV.mono ?_; rintro e w1 ⟨rfl, hb1⟩; obtain ⟨hb2, hc0, hc1⟩ := HB.out _ hb1))
          all_goals (go_ret; exact ⟨by simp, hb2⟩)
  · have e1024 : decide (v.size ≤ 1024) = false := by simp [h1024]
    have h' : (1024 : Int) < (v.size : Int) := by omega
    rw [e1024]
    go_enter Tryd.func19, Tryd.ntmps19
    go_wp2_with (go_at_call 31; refine (hR1 _).mono ?_; rintro e w' ⟨rfl, rfl⟩)
    go_ret
    exact ⟨rfl, HB0.out⟩

end Go.Proofs.YtlfcnekmdojabaaDoor
