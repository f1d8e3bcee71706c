/- The program's reading of whole numbers. -/
import Derived.Test.YtmlcilalmhpmiaaDoorMGb
import Derived.Test.YtmlcilalmhpmiaaDoorSt
namespace Go.Proofs.YtmlcilalmhpmiaaDoor
open Go.RowKit Go.Maps

/-- The library's two errors are there. -/
def Errs (w : World) : Prop := (∃ te pe, w.cell? ⟨2, 0, none⟩ = some (.iface te pe)) ∧ (∃ te pe, w.cell? ⟨3, 0, none⟩ = some (.iface te pe)) ∧ 3 < w.heap.size ∧ 2 < w.heap.size
theorem Errs.below {w w' : World} (h : Errs w) (hb : Below w.heap.size w w') : Errs w' := by
  obtain ⟨⟨a, b, h1⟩, ⟨c, d, h2⟩, h3, h4⟩ := h
  have := hb.size
  exact ⟨⟨a, b, (hb.cell (p := ⟨2, 0, none⟩) h4).trans h1⟩, ⟨c, d, (hb.cell (p := ⟨3, 0, none⟩) h3).trans h2⟩, by omega, by omega⟩
theorem atoi_ok (s : ByteArray) (v : Int) (w : World) (hs : s.size ≤ 140737488351232) (h : Lib.atoiAll s.data.toList = .ok v) : Calls Tryd.prog 58 #[.string s] w fun e w' => e = .returned (.tuple #[.int .i64 v, .nilIface]) ∧ Below w.heap.size w w' :=
  Calls.mono (Any.strconv_Atoi_ok Tryd.laysC172 s (by omega) v h w) (by
    rintro e w' ⟨rfl, h1⟩
    refine ⟨rfl, ?_⟩
    rcases h1 with rfl | ⟨t, rfl⟩
    · exact Below.refl _ _
    · exact Lib.bytesWorld_below _ _ _)
theorem atoi_bad (s : ByteArray) (w : World) (hs : s.size ≤ 140737488351232) (hE : Errs w) (h : ∀ v, Lib.atoiAll s.data.toList ≠ .ok v) : Calls Tryd.prog 58 #[.string s] w fun e w' => (∃ x t p, e = .returned (.tuple #[.int .i64 x, .iface t p])) ∧ Below w.heap.size w w' := by
  obtain ⟨⟨a, b, h1⟩, ⟨c, d, h2⟩, _, _⟩ := hE
  cases hx : Lib.atoiAll s.data.toList with
  | ok v => exact absurd hx (h v)
  | «syntax» =>
    refine Calls.mono (Any.strconv_Atoi_syntax Tryd.laysC172 s (by omega) hx _ w h1 (Or.inr ⟨a, b, rfl⟩)) ?_
    rintro e w' ⟨N, rfl, _, _, hb⟩
    exact ⟨⟨_, _, _, rfl⟩, hb⟩
  | range =>
    refine Calls.mono (Any.strconv_Atoi_range Tryd.laysC172 s (by omega) hx _ w h2 (Or.inr ⟨c, d, rfl⟩)) ?_
    rintro e w' ⟨N, rfl, _, _, hb⟩
    exact ⟨⟨_, _, _, rfl⟩, hb⟩

set_option maxRecDepth 100000 in
set_option maxHeartbeats 400000 in
theorem int_ok (s : ByteArray) (v : Int) (w : World) (hs : s.size ≤ 140737488351232) (hv : inI v) (h : s = ⟨(Lib.itoa v).toArray⟩) (hP : Pow w) : Calls Tryd.prog 22 #[.string s] w fun e w' => e = .returned (.tuple #[.int .i64 v, .int .i64 0]) ∧ Below w.heap.size w w' := by
  have ha := atoi_ok s v w hs (by rw [h]; exact atoi_itoa v hv.1 hv.2)
  have HT : Hid (∀ W : World, Below w.heap.size w W → Calls Tryd.prog 21 #[.int .i64 v] W fun e w' => e = .returned (.string s) ∧ Below W.heap.size W w') := fun W hb => by
    rw [h]
    exact intText_any v W hv.1 hv.2 (hP.below hb)
  clear hP h hv
  go_enter Tryd.func22, Tryd.ntmps22
  go_wp2_with (first
    | (go_at_call 58; refine ha.mono ?_; clear ha; rintro e w1 ⟨rfl, hb1⟩; have HB1 : Hid (Below w.heap.size w w1) := hb1; clear hb1)
    | (go_at_call 21; refine (HT.out _ HB1.out).mono ?_; clear HT; rintro e w2 ⟨rfl, hb2⟩; have HB2 : Hid (Below w.heap.size w w2) := HB1.out.trans (hb2.mono HB1.out.size); clear hb2))
  go_ret2
  exact ⟨rfl, HB2.out⟩
set_option maxRecDepth 100000 in
set_option maxHeartbeats 400000 in
theorem int_no (s : ByteArray) (w : World) (hs : s.size ≤ 140737488351232) (h : ∀ v, inI v → s ≠ ⟨(Lib.itoa v).toArray⟩) (hP : Pow w) (hE : Errs w) : Calls Tryd.prog 22 #[.string s] w fun e w' => e = .returned (.tuple #[.int .i64 0, .int .i64 8]) ∧ Below w.heap.size w w' := by
  by_cases hx : ∃ v, Lib.atoiAll s.data.toList = .ok v
  · obtain ⟨v, hx⟩ := hx
    have hv : inI v := Lib.atoiAll_bounds hx
    have ha := atoi_ok s v w hs hx
    have HT : Hid (∀ W : World, Below w.heap.size w W → Calls Tryd.prog 21 #[.int .i64 v] W fun e w' => e = .returned (.string ⟨(Lib.itoa v).toArray⟩) ∧ Below W.heap.size W w') := fun W hb => intText_any v W hv.1 hv.2 (hP.below hb)
    have hne : ((⟨(Lib.itoa v).toArray⟩ : ByteArray).toList == s.toList) = false := ne_list (fun e => h v hv e.symm)
    clear hP h hv hx hE
    generalize (⟨(Lib.itoa v).toArray⟩ : ByteArray) = IS at *
    go_enter Tryd.func22, Tryd.ntmps22
    go_wp2_with (first
      | (go_at_call 58; refine ha.mono ?_; clear ha; rintro e w1 ⟨rfl, hb1⟩; have HB1 : Hid (Below w.heap.size w w1) := hb1; clear hb1)
      | (go_at_call 21; refine (HT.out _ HB1.out).mono ?_; clear HT; rintro e w2 ⟨rfl, hb2⟩; have HB2 : Hid (Below w.heap.size w w2) := HB1.out.trans (hb2.mono HB1.out.size); clear hb2))
    go_ret2
    exact ⟨rfl, HB2.out⟩
  · have ha := atoi_bad s w hs hE (fun v e => hx ⟨v, e⟩)
    clear hP h hx hE
    go_enter Tryd.func22, Tryd.ntmps22
    go_wp2_with (go_at_call 58; refine ha.mono ?_; clear ha; rintro e w1 ⟨⟨x, t, p, rfl⟩, hb1⟩; have HB1 : Hid (Below w.heap.size w w1) := hb1; clear hb1)
    go_ret2
    exact ⟨rfl, HB1.out⟩
end Go.Proofs.YtmlcilalmhpmiaaDoor
