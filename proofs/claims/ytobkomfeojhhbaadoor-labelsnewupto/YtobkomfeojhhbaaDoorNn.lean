/- LabelsNew, walked. -/
import Derived.Test.YtobkomfeojhhbaaDoorNl
import Derived.Test.YtobkomfeojhhbaaDoorNm
import Derived.Test.YtobkomfeojhhbaaDoorLh
namespace Go.Proofs.YtobkomfeojhhbaaDoor
open Go.RowKit Go.Maps

set_option maxRecDepth 100000 in
set_option maxHeartbeats 6000000 in
theorem newLaw_any (v : Value) (ls : List Lb) (w : World) (h : LabsAt w v ls) (hsz : Sized ls) (hT : Tabs w) :
    Calls Tryd.prog 3 #[v] w fun e w' => e = .returned (.bool true) ∧ Below w.heap.size w w' := by
  have hcut := cut_any v ls w h
  obtain ⟨a, c, rfl, -, -⟩ := id h
  have hms : (ls.take 80).length ≤ 80 := by simp; omega
  have HZ : Sized (ls.take 80) := fun i hi => by
    have := hsz i (by simp at hi; omega)
    simpa using this
  generalize ls.take 80 = ms at *
  clear h hsz
  have HT : Hid (∀ W, Below w.heap.size w W → Tabs W) := fun W hW => hT.below hW
  have HLEND : Hid (∀ V W, LabsAt W V ms → Calls Tryd.prog 9 #[V] W fun e w' => ∃ g c, e = .returned (.slice (some ⟨g, 0, none⟩) ms.length c) ∧ w'.ownsRow W.heap.size 51 2 (.slice (some ⟨g, 0, none⟩) (ms.length + 4) c) (ms.length + 4) (lbCells (ms ++ marksL 4)) ∧ Below W.heap.size W w') := fun V W hV => lendL_any V ms W hV (by omega)
  have HNEW : Hid (∀ V W, LabsAt W V ms → Tabs W → Calls Tryd.prog 10 #[V] W fun e w' => ∃ a c, e = .returned (.tuple #[.slice a (newR ms).1.length c, .int .i64 (newR ms).2]) ∧ w'.ownsRow W.heap.size 51 2 (.slice a (newR ms).1.length c) (newR ms).1.length (lbCells (newR ms).1) ∧ Below W.heap.size W w') := fun V W hV ht => (new_any V ms W hV (by omega) HZ ht).mono fun e w' ⟨v', he, hr, hb⟩ => by
    obtain ⟨a, c, rfl⟩ := slice_of_row hr
    exact ⟨a, c, he, hr, hb⟩
  have HRNEW : Hid (∀ V W, LabsAt W V ms → Calls Tryd.prog 11 #[V] W fun e w' => ∃ a c, e = .returned (.tuple #[.slice a (newR ms).1.length c, .int .i64 (newR ms).2]) ∧ w'.ownsRow W.heap.size 51 2 (.slice a (newR ms).1.length c) (newR ms).1.length (lbCells (newR ms).1) ∧ Below W.heap.size W w') := fun V W hV => (refNew_any V ms W hV (by omega) HZ).mono fun e w' ⟨v', he, hr, hb⟩ => by
    obtain ⟨a, c, rfl⟩ := slice_of_row hr
    exact ⟨a, c, he, hr, hb⟩
  have HINT : Hid (∀ g c V base W, W.ownsRow base 51 2 (.slice (some ⟨g, 0, none⟩) (ms.length + 4) c) (ms.length + 4) (lbCells (ms ++ marksL 4)) → LabsAt W V ms → Calls Tryd.prog 12 #[.slice (some ⟨g, 0, none⟩) ms.length c, V] W fun e w' => e = .returned (.bool true) ∧ Kept (fun k => k = g) W w') := fun g c V base W h1 h2 => intactL_any g c V ms base W h1 h2 (by omega)
  have hnl := newR_length ms
  have hnr := newR_right (ls := ms)
  have HLT : Hid (∀ g c W, W.ownsRow w.heap.size 51 2 (.slice (some ⟨g, 0, none⟩) (ms.length + 4) c) (ms.length + 4) (lbCells (ms ++ marksL 4)) → LabsAt W (.slice (some ⟨g, 0, none⟩) ms.length c) ms) := fun g c W ho => by
    have hlm : (ms ++ marksL 4).length = ms.length + 4 := by rw [List.length_append, marksL_length]
    have hLA : LabsAt W (.slice (some ⟨g, 0, none⟩) (ms.length + 4) c) (ms ++ marksL 4) := LabsAt.of_row (base := w.heap.size) (by rw [hlm]; exact ho)
    have h9 := hLA.take ms.length (by omega)
    rw [List.take_left] at h9
    exact h9
  have HRT : Hid (∀ V W, LabsAt W V ms → Tabs W → Calls Tryd.prog 14 #[V] W fun e w' => e = .returned (.bool (rightS ms)) ∧ Below W.heap.size W w') := fun V W hV ht => right_any V ms W hV (by omega) HZ ht
  have HRRT : Hid (∀ V W, LabsAt W V ms → Calls Tryd.prog 15 #[V] W fun e w' => e = .returned (.bool (rightS ms)) ∧ Below W.heap.size W w') := fun V W hV => refRight_any V ms W hV (by omega) HZ
  have HWK : Hid (∀ W, Below w.heap.size w W → Calls Tryd.prog 16 #[] W fun e w' => e = .returned (.bool true) ∧ Below w.heap.size w w') := fun W hW => (wakes_any W (hT.below hW)).mono fun e w' ⟨he, hb⟩ => ⟨he, hW.trans (hb.mono hW.size)⟩
  generalize rightS ms = R at *
  obtain ⟨n1, hn1⟩ : ∃ n1, (newR ms).1 = n1 := ⟨_, rfl⟩
  obtain ⟨E, hE⟩ : ∃ E, (newR ms).2 = E := ⟨_, rfl⟩
  rw [hn1, hE] at HNEW HRNEW hnr
  rw [hn1] at hnl
  have HRA : Hid (E = 0 → ∀ V W, LabsAt W V n1 → Tabs W → Calls Tryd.prog 14 #[V] W fun e w' => e = .returned (.bool true) ∧ Below W.heap.size W w') := fun e0 V W hV ht => by
    have h9 := right_any V n1 W hV (by omega) (right_sized (hnr e0)) ht
    rw [hnr e0] at h9
    exact h9
  have HEQ : Hid (∀ V V' W, LabsAt W V n1 → LabsAt W V' n1 → Calls Tryd.prog 13 #[V, V'] W fun e w' => e = .returned (.bool true) ∧ Below W.heap.size W w') := fun V V' W h1 h2 => (alike_any V V' n1 n1 W h1 h2 (by omega) (by omega)).mono fun e w' ⟨he, q, hq⟩ => ⟨by rw [he]; simp [eqL], by rw [hq]; exact below_drewN (Below.refl _ _) q⟩
  clear hnr HZ hT hn1 hE
  by_cases hE0 : E = 0
  · have HRA0 := HRA.out hE0
    have HRA1 : Hid _ := HRA0
    clear HRA HRA0
    subst hE0
    go_enter Tryd.func3, Tryd.ntmps3
    go_wp2_with (first
      | (go_at_call 8; refine hcut.mono ?_; clear hcut; rintro e w1 ⟨v1, rfl, hl1, hw1⟩; have hw1 := hw1.symm; subst hw1; obtain ⟨am, cm, rfl, -, -⟩ := id hl1; have HL1 : Hid (LabsAt w (.slice am ms.length cm) ms) := hl1; clear hl1)
      | (go_at_call 9; refine (HLEND.out _ _ HL1.out).mono ?_; clear HLEND; rintro e w2 ⟨g, cg, rfl, hr2, hb2⟩; have HG2 : Hid (w2.ownsRow w.heap.size 51 2 (.slice (some ⟨g, 0, none⟩) (ms.length + 4) cg) (ms.length + 4) (lbCells (ms ++ marksL 4))) := hr2; have HB2 : Hid (Below w.heap.size w w2) := hb2; have hg2 : w.heap.size ≤ g ∧ g < w2.heap.size := hr2.lt g rfl; clear hr2 hb2)
      | (go_at_call 10; refine (HNEW.out _ _ (HLT.out _ _ _ HG2.out) (HT.out _ HB2.out)).mono ?_; clear HNEW HLT; rintro e w3 ⟨aa, ca, rfl, hr3, hb3⟩; have HA3 : Hid (w3.ownsRow w2.heap.size 51 2 (.slice aa n1.length ca) n1.length (lbCells n1)) := hr3; have HG3 : Hid (w3.ownsRow w.heap.size 51 2 (.slice (some ⟨g, 0, none⟩) (ms.length + 4) cg) (ms.length + 4) (lbCells (ms ++ marksL 4))) := row_below HG2.out hb3; have HB3 : Hid (Below w.heap.size w w3) := HB2.out.trans (hb3.mono HB2.out.size); have hs23 := hb3.size; clear hr3 hb3 HG2 HB2)
      | (go_at_call 11; refine (HRNEW.out _ _ (HL1.out.below HB3.out)).mono ?_; clear HRNEW; rintro e w4 ⟨ab, cb, rfl, hr4, hb4⟩; have HC4 : Hid (w4.ownsRow w3.heap.size 51 2 (.slice ab n1.length cb) n1.length (lbCells n1)) := hr4; have HA4 : Hid (w4.ownsRow w2.heap.size 51 2 (.slice aa n1.length ca) n1.length (lbCells n1)) := row_below HA3.out hb4; have HG4 : Hid (w4.ownsRow w.heap.size 51 2 (.slice (some ⟨g, 0, none⟩) (ms.length + 4) cg) (ms.length + 4) (lbCells (ms ++ marksL 4))) := row_below HG3.out hb4; have HB4 : Hid (Below w.heap.size w w4) := HB3.out.trans (hb4.mono HB3.out.size); clear hr4 hb4 HG3 HB3 HA3)
      | (go_at_call 12; refine (HINT.out _ _ _ _ _ HG4.out (HL1.out.below HB4.out)).mono ?_; clear HINT; rintro e w5 ⟨rfl, hk5⟩; have HA5 : Hid (w5.ownsRow w2.heap.size 51 2 (.slice aa n1.length ca) n1.length (lbCells n1)) := hk5.ownsRow HA4.out (fun k h1 h2 => by have := (HA4.out.lt k h1).1; omega); have HC5 : Hid (w5.ownsRow w3.heap.size 51 2 (.slice ab n1.length cb) n1.length (lbCells n1)) := hk5.ownsRow HC4.out (fun k h1 h2 => by have := (HC4.out.lt k h1).1; omega); have HB5 : Hid (Below w.heap.size w w5) := HB4.out.trans (hk5.toBelow HB4.out.size (fun i hi => by omega)); clear hk5 HA4 HC4 HG4 HB4)
      | (go_at_call 13; refine (HEQ.out _ _ _ (LabsAt.of_row HA5.out) (LabsAt.of_row HC5.out)).mono ?_; clear HEQ; rintro e w6 ⟨rfl, hb6⟩; have HA6 : Hid (w6.ownsRow w2.heap.size 51 2 (.slice aa n1.length ca) n1.length (lbCells n1)) := row_below HA5.out hb6; have HB6 : Hid (Below w.heap.size w w6) := HB5.out.trans (hb6.mono HB5.out.size); clear hb6 HA5 HC5 HB5)
      | (go_at_call 14; refine (HRT.out _ _ (HL1.out.below HB6.out) (HT.out _ HB6.out)).mono ?_; clear HRT; rintro e w7 ⟨rfl, hb7⟩; have HA7 : Hid (w7.ownsRow w2.heap.size 51 2 (.slice aa n1.length ca) n1.length (lbCells n1)) := row_below HA6.out hb7; have HB7 : Hid (Below w.heap.size w w7) := HB6.out.trans (hb7.mono HB6.out.size); clear hb7 HA6 HB6)
      | (go_at_call 15; refine (HRRT.out _ _ (HL1.out.below HB7.out)).mono ?_; clear HRRT; rintro e w8 ⟨rfl, hb8⟩; have HA8 : Hid (w8.ownsRow w2.heap.size 51 2 (.slice aa n1.length ca) n1.length (lbCells n1)) := row_below HA7.out hb8; have HB8 : Hid (Below w.heap.size w w8) := HB7.out.trans (hb8.mono HB7.out.size); clear hb8 HA7 HB7)
      | (go_at_call 14; refine (HRA1.out _ _ (LabsAt.of_row HA8.out) (HT.out _ HB8.out)).mono ?_; clear HRA1; rintro e w9 ⟨rfl, hb9⟩; have HB9 : Hid (Below w.heap.size w w9) := HB8.out.trans (hb9.mono HB8.out.size); clear hb9 HA8 HB8)
      | (go_at_call 16; refine (HWK.out _ HB9.out).mono ?_; rintro e w10 ⟨rfl, hb10⟩))
    all_goals
      go_ret
      exact ⟨rfl, hb10⟩
  · clear HRA
    go_enter Tryd.func3, Tryd.ntmps3
    go_wp2_with (first
      | (go_at_call 8; refine hcut.mono ?_; clear hcut; rintro e w1 ⟨v1, rfl, hl1, hw1⟩; have hw1 := hw1.symm; subst hw1; obtain ⟨am, cm, rfl, -, -⟩ := id hl1; have HL1 : Hid (LabsAt w (.slice am ms.length cm) ms) := hl1; clear hl1)
      | (go_at_call 9; refine (HLEND.out _ _ HL1.out).mono ?_; clear HLEND; rintro e w2 ⟨g, cg, rfl, hr2, hb2⟩; have HG2 : Hid (w2.ownsRow w.heap.size 51 2 (.slice (some ⟨g, 0, none⟩) (ms.length + 4) cg) (ms.length + 4) (lbCells (ms ++ marksL 4))) := hr2; have HB2 : Hid (Below w.heap.size w w2) := hb2; have hg2 : w.heap.size ≤ g ∧ g < w2.heap.size := hr2.lt g rfl; clear hr2 hb2)
      | (go_at_call 10; refine (HNEW.out _ _ (HLT.out _ _ _ HG2.out) (HT.out _ HB2.out)).mono ?_; clear HNEW HLT; rintro e w3 ⟨aa, ca, rfl, hr3, hb3⟩; have HA3 : Hid (w3.ownsRow w2.heap.size 51 2 (.slice aa n1.length ca) n1.length (lbCells n1)) := hr3; have HG3 : Hid (w3.ownsRow w.heap.size 51 2 (.slice (some ⟨g, 0, none⟩) (ms.length + 4) cg) (ms.length + 4) (lbCells (ms ++ marksL 4))) := row_below HG2.out hb3; have HB3 : Hid (Below w.heap.size w w3) := HB2.out.trans (hb3.mono HB2.out.size); have hs23 := hb3.size; clear hr3 hb3 HG2 HB2)
      | (go_at_call 11; refine (HRNEW.out _ _ (HL1.out.below HB3.out)).mono ?_; clear HRNEW; rintro e w4 ⟨ab, cb, rfl, hr4, hb4⟩; have HC4 : Hid (w4.ownsRow w3.heap.size 51 2 (.slice ab n1.length cb) n1.length (lbCells n1)) := hr4; have HA4 : Hid (w4.ownsRow w2.heap.size 51 2 (.slice aa n1.length ca) n1.length (lbCells n1)) := row_below HA3.out hb4; have HG4 : Hid (w4.ownsRow w.heap.size 51 2 (.slice (some ⟨g, 0, none⟩) (ms.length + 4) cg) (ms.length + 4) (lbCells (ms ++ marksL 4))) := row_below HG3.out hb4; have HB4 : Hid (Below w.heap.size w w4) := HB3.out.trans (hb4.mono HB3.out.size); clear hr4 hb4 HG3 HB3 HA3)
      | (go_at_call 12; refine (HINT.out _ _ _ _ _ HG4.out (HL1.out.below HB4.out)).mono ?_; clear HINT; rintro e w5 ⟨rfl, hk5⟩; have HA5 : Hid (w5.ownsRow w2.heap.size 51 2 (.slice aa n1.length ca) n1.length (lbCells n1)) := hk5.ownsRow HA4.out (fun k h1 h2 => by have := (HA4.out.lt k h1).1; omega); have HC5 : Hid (w5.ownsRow w3.heap.size 51 2 (.slice ab n1.length cb) n1.length (lbCells n1)) := hk5.ownsRow HC4.out (fun k h1 h2 => by have := (HC4.out.lt k h1).1; omega); have HB5 : Hid (Below w.heap.size w w5) := HB4.out.trans (hk5.toBelow HB4.out.size (fun i hi => by omega)); clear hk5 HA4 HC4 HG4 HB4)
      | (go_at_call 13; refine (HEQ.out _ _ _ (LabsAt.of_row HA5.out) (LabsAt.of_row HC5.out)).mono ?_; clear HEQ; rintro e w6 ⟨rfl, hb6⟩; have HB6 : Hid (Below w.heap.size w w6) := HB5.out.trans (hb6.mono HB5.out.size); clear hb6 HA5 HC5 HB5)
      | (go_at_call 14; refine (HRT.out _ _ (HL1.out.below HB6.out) (HT.out _ HB6.out)).mono ?_; clear HRT; rintro e w7 ⟨rfl, hb7⟩; have HB7 : Hid (Below w.heap.size w w7) := HB6.out.trans (hb7.mono HB6.out.size); clear hb7 HB6)
      | (go_at_call 15; refine (HRRT.out _ _ (HL1.out.below HB7.out)).mono ?_; clear HRRT; rintro e w8 ⟨rfl, hb8⟩; have HB8 : Hid (Below w.heap.size w w8) := HB7.out.trans (hb8.mono HB7.out.size); clear hb8 HB7)
      | (go_at_call 16; refine (HWK.out _ HB8.out).mono ?_; rintro e w10 ⟨rfl, hb10⟩))
    all_goals
      go_ret
      exact ⟨rfl, hb10⟩

end Go.Proofs.YtobkomfeojhhbaaDoor
