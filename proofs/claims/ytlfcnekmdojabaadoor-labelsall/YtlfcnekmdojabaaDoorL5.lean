/- Which labels may be in a set: the program's rightLabel and the document's fair answer one plain function. -/
import Derived.Test.YtlfcnekmdojabaaDoorL3
import Derived.Test.YtlfcnekmdojabaaDoorL4
import Derived.Test.YtlfcnekmdojabaaDoorSh
namespace Go.Proofs.YtlfcnekmdojabaaDoor
open Go.RowKit

/-- utf8's two tables, as their initialisers lay them. -/
def Tabs (w : World) : Prop := Lib.Utf8Tabs (Tryd.laysValid_ren.g 3) (Tryd.laysValid_ren.g 4) w ∧ Tryd.laysValid_ren.g 3 < w.heap.size ∧ Tryd.laysValid_ren.g 4 < w.heap.size
theorem Tabs.below {w w' : World} (h : Tabs w) (hb : Below w.heap.size w w') : Tabs w' := by
  have hs := hb.size
  refine ⟨⟨fun c hc => ?_, fun i hi => ⟨?_, ?_⟩⟩, by have := h.2.1; omega, by have := h.2.2; omega⟩
  · rw [hb.cell (p := ⟨_, c, none⟩) h.2.1]; exact h.1.1 c hc
  · rw [hb.cell (p := ⟨_, 2 * i, none⟩) h.2.2]; exact (h.1.2 i hi).1
  · rw [hb.cell (p := ⟨_, 2 * i + 1, none⟩) h.2.2]; exact (h.1.2 i hi).2

def nameTok : List UInt8 := [95, 95, 110, 97, 109, 101, 95, 95]
def valB (s : ByteArray) : Bool := decide (s.size ≤ 1024) && Lib.validD s.data.toList
def fairL (x : Lb) : Bool := wd false x.1 && valB x.2 && (!(x.1.toList == nameTok) || (x.2.toList.isEmpty || wd true x.2))

theorem refRightName_any (s : ByteArray) (w : World) (hs : s.size ≤ maxLen) :
    Calls Tryd.prog 28 #[.string s] w fun e w' => e = .returned (.bool (wd false s)) ∧ w' = w := by
  go_enter Tryd.func28, Tryd.ntmps28
  go_wp2_with (go_at_call 38; refine (refWord_any _ _ _ hs).mono ?_; rintro e w' ⟨rfl, rfl⟩)
  go_ret
  exact ⟨rfl, rfl⟩
theorem refRightMetric_any (s : ByteArray) (w : World) (hs : s.size ≤ maxLen) :
    Calls Tryd.prog 30 #[.string s] w fun e w' => e = .returned (.bool (wd true s)) ∧ w' = w := by
  go_enter Tryd.func30, Tryd.ntmps30
  go_wp2_with (go_at_call 38; refine (refWord_any _ _ _ hs).mono ?_; rintro e w' ⟨rfl, rfl⟩)
  go_ret
  exact ⟨rfl, rfl⟩
theorem refRightValue_any (s : ByteArray) (w : World) :
    Calls Tryd.prog 29 #[.string s] w fun e w' => e = .returned (.bool (valB s)) ∧ w' = w := by
  by_cases h : s.size ≤ 1024
  · have e : valB s = Lib.validD s.data.toList := by simp [valB, h]
    rw [e]
    have hv := valid_any s w h
    generalize Lib.validD s.data.toList = r at hv ⊢
    go_enter Tryd.func29, Tryd.ntmps29
    go_wp2_with (go_at_call 39; refine hv.mono ?_; rintro e w' ⟨rfl, rfl⟩)
    go_ret
    exact ⟨rfl, rfl⟩
  · have e : valB s = false := by simp [valB, h]
    rw [e]
    have h' : 1024 < s.size := by omega
    go_enter Tryd.func29, Tryd.ntmps29
    go_wp2
    go_ret
    exact ⟨rfl, rfl⟩

set_option maxRecDepth 100000 in
set_option maxHeartbeats 1000000 in
theorem fair_any (x : Lb) (w : World) (h1 : x.1.size ≤ maxLen) (h2 : x.2.size ≤ maxLen) :
    Calls Tryd.prog 15 #[.agg #[.string x.1, .string x.2]] w fun e w' => e = .returned (.bool (fairL x)) ∧ Below w.heap.size w w' := by
  obtain ⟨n, v⟩ := x
  unfold fairL
  dsimp only at *
  have hR1 := fun W => refRightName_any n W h1
  have hR2 := fun W => refRightValue_any v W
  have hR3 := fun W => refRightMetric_any v W h2
  have HB : Hid (∀ o, Below w.heap.size w (w.alloc o)) := fun o => (Below.refl _ _).alloc (Nat.le_refl _) o
  generalize wd false n = r1 at *
  generalize valB v = r2 at *
  generalize wd true v = r3 at *
  cases r1
  · go_enter Tryd.func15, Tryd.ntmps15
    go_wp2_with (go_at_call 28; refine (hR1 _).mono ?_; rintro e w' ⟨rfl, rfl⟩)
    go_ret
    exact ⟨rfl, HB.out _⟩
  cases r2
  · go_enter Tryd.func15, Tryd.ntmps15
    go_wp2_with (first | (go_at_call 28; refine (hR1 _).mono ?_; rintro e w' ⟨rfl, rfl⟩) | (go_at_call 29; refine (hR2 _).mono ?_; rintro e w' ⟨rfl, rfl⟩))
    go_ret
    exact ⟨rfl, HB.out _⟩
  cases hn : n.toList == nameTok
  · have hn' : (n.toList == [95, 95, 110, 97, 109, 101, 95, 95]) = false := hn
    go_enter Tryd.func15, Tryd.ntmps15
    go_wp2_with (first | (go_at_call 28; refine (hR1 _).mono ?_; rintro e w' ⟨rfl, rfl⟩) | (go_at_call 29; refine (hR2 _).mono ?_; rintro e w' ⟨rfl, rfl⟩))
    all_goals (go_ret; exact ⟨rfl, HB.out _⟩)
  · have hn' : (n.toList == [95, 95, 110, 97, 109, 101, 95, 95]) = true := hn
    cases hv : v.toList.isEmpty
    · go_enter Tryd.func15, Tryd.ntmps15
      go_wp2_with (first | (go_at_call 28; refine (hR1 _).mono ?_; rintro e w' ⟨rfl, rfl⟩) | (go_at_call 29; refine (hR2 _).mono ?_; rintro e w' ⟨rfl, rfl⟩) | (go_at_call 30; refine (hR3 _).mono ?_; rintro e w' ⟨rfl, rfl⟩))
      all_goals (go_ret; exact ⟨by simp, HB.out _⟩)
    · go_enter Tryd.func15, Tryd.ntmps15
      go_wp2_with (first | (go_at_call 28; refine (hR1 _).mono ?_; rintro e w' ⟨rfl, rfl⟩) | (go_at_call 29; refine (hR2 _).mono ?_; rintro e w' ⟨rfl, rfl⟩))
      all_goals (go_ret; exact ⟨by simp, HB.out _⟩)

end Go.Proofs.YtlfcnekmdojabaaDoor
