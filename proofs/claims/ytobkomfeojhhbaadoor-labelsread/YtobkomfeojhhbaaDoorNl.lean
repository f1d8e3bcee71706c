/- Lent labels, looked at again. -/
import Derived.Test.YtobkomfeojhhbaaDoorNf
import Derived.Test.YtobkomfeojhhbaaDoorLpa
import Derived.Test.YtobkomfeojhhbaaDoorLw
import Derived.Deep.RegionHeld3
namespace Go.Proofs.YtobkomfeojhhbaaDoor
open Go.RowKit Go.Maps

theorem wrap_in {n : Int} (h1 : -9223372036854775808 ≤ n) (h2 : n ≤ 9223372036854775807) : IntKind.i64.wrap n = n := by
  rw [IntWalk.i64_left]
  exact IntWalk.wrap64_in n ⟨h1, h2⟩
theorem lb_eq_self (x y : ByteArray) : (x.toList == x.toList && y.toList == y.toList) = true := by simp

set_option maxRecDepth 100000 in
set_option maxHeartbeats 3000000 in
theorem intactL_any (g c : Nat) (v : Value) (ls : List Lb) (base : Nat) (w : World) (ho : w.ownsRow base 51 2 (.slice (some ⟨g, 0, none⟩) (ls.length + 4) c) (ls.length + 4) (lbCells (ls ++ marksL 4))) (h : LabsAt w v ls) (hl : ls.length ≤ 900) :
    Calls Tryd.prog 12 #[.slice (some ⟨g, 0, none⟩) ls.length c, v] w fun e w' => e = .returned (.bool true) ∧ Kept (fun k => k = g) w w' := by
  obtain ⟨a, ca, rfl, hlca, -⟩ := id h
  have hlm : (ls ++ marksL 4).length = ls.length + 4 := by rw [List.length_append, marksL_length]
  have hLA : LabsAt w (.slice (some ⟨g, 0, none⟩) (ls.length + 4) c) (ls ++ marksL 4) := LabsAt.of_row (base := base) (by rw [hlm]; exact ho)
  have hLt : LabsAt w (.slice (some ⟨g, 0, none⟩) ls.length c) ls := by
    have h9 := hLA.take ls.length (by omega)
    rw [List.take_left] at h9
    exact h9
  have hlab := alike_any _ _ ls ls w hLt h (by omega) (by omega)
  have e1 : eqL ls ls = true := by simp [eqL]
  rw [e1] at hlab
  obtain ⟨hc1, hc2⟩ := row_room ho
  have hmx : c ≤ 9223372036854775807 := by unfold maxLen at hc2; omega
  have hc4 : (ls.length : Int) + 4 ≤ (c : Int) := by omega
  have hc5 : (ls.length : Int) ≤ (c : Int) := by omega
  have HM : Hid (∀ (i : Nat) W, i < 10 → Calls Tryd.prog 41 #[.int .i64 i] W fun e w' => e = .returned (.agg #[.string (markB i).1, .string (markB i).2]) ∧ Below W.heap.size W w') := fun i W hi => mark_any i W (by omega)
  have HCE : Hid (∀ i, i < 4 → ∀ W, Below w.heap.size w W → W.cell? ⟨g, (ls.length + i) * 2, none⟩ = some (.string (markB i).1) ∧ W.cell? ⟨g, (ls.length + i) * 2 + 1, none⟩ = some (.string (markB i).2)) := fun i hi W hW => by
    obtain ⟨b', o', e, hone⟩ := (show LabsAt w (.slice (some ⟨g, 0, none⟩) (ls ++ marksL 4).length c) (ls ++ marksL 4) by rw [hlm]; exact hLA).one (ls.length + i) (by rw [hlm]; omega)
    cases e
    have h9 := hone W hW
    have e9 : (ls ++ marksL 4)[ls.length + i]'(by rw [hlm]; omega) = markB i := by
      rw [List.getElem_append_right (by omega)]
      simp [marksL]
    rw [e9, Nat.zero_add] at h9
    exact h9
  have HR : Hid (∃ xs, w.ownsRow base 51 2 (.slice (some ⟨g, 0, none⟩) (ls.length + 4) c) (ls.length + 4) xs) := ⟨_, ho⟩
  clear ho h hLA hLt e1 hlm
  go_enter Tryd.func12, Tryd.ntmps12
  go_wp2_with (go_at_call 13; refine hlab.mono ?_; clear hlab; rintro e w1 ⟨rfl, q1, hq1⟩; have HB1 : Hid (Below w.heap.size w w1) := (by rw [hq1]; exact below_drewN (Below.refl _ _) q1); clear hq1)
  go_loopw [6, 7] (fun ok i wr => ∃ k : Nat, k ≤ 4 ∧ i = .int .i64 k ∧ ok = .bool true ∧ Hid (Below w.heap.size w wr)) (fun _ i _ => 4 - (intOf i).toNat)
  case atStart => exact ⟨0, by omega, rfl, rfl, HB1⟩
  case round =>
    clear HB1
    obtain ⟨k, hk, rfl, rfl, hbel⟩ := hrel
    by_cases hlt : k < 4
    · have HO : Hid (∀ W, Below w.heap.size w W → W.cell? ⟨g, (ls.length + k) * 2, none⟩ = some (.string (markB k).1) ∧ W.cell? ⟨g, (ls.length + k) * 2 + 1, none⟩ = some (.string (markB k).2)) := HCE.out k hlt
      obtain ⟨g0, g1⟩ := HO.out wr hbel.out
      have hm := fun W => HM.out k W (by omega)
      have hkl : (k : Int) < 4 := by omega
      have hwr : IntKind.i64.wrap ((ls.length : Int) + (k : Int)) = (ls.length : Int) + (k : Int) := wrap_in (by omega) (by omega)
      have hidx : (ls.length : Int) + (k : Int) < (ls.length : Int) + 4 := by omega
      have hid0 : (0 : Int) ≤ (ls.length : Int) + (k : Int) := by omega
      have htn : ((ls.length : Int) + (k : Int)).toNat = ls.length + k := by omega
      have q3 := lbGuard
      have hrun := fun W => eqRun (markB k).1 (markB k).2 (markB k).1 (markB k).2 W
      simp only [lb_eq_self] at hrun
      generalize (markB k).1 = m1 at *
      generalize (markB k).2 = m2 at *
      have HBD : Hid (Below w.heap.size w wr.drew) := hbel.out.drew
      clear HCE HM HR
      go_wp2_with fail
      go_region_held3 (fun w' => w'.cell? ⟨g, (ls.length + k) * 2, none⟩ = some (.string m1) ∧ w'.cell? ⟨g, (ls.length + k) * 2 + 1, none⟩ = some (.string m2))
        (first | exact ⟨g0, g1⟩ | exact ⟨f0, f1⟩)
        (first | (go_at_call 41; refine (hm _).mono ?_; clear hm; rintro e w8 ⟨rfl, hb8⟩; have HB8 : Hid (Below w.heap.size w w8) := HBD.out.trans (hb8.mono HBD.out.size); obtain ⟨f0, f1⟩ := HO.out w8 HB8.out; clear hb8))
      go_wp2
      go_roundw
      case rel => exact ⟨k + 1, by omega, by go_num, rfl, HB8⟩
      case measure => simp [intOf]; omega
    · have hm9 := fun W => HM.out 9 W (by omega)
      generalize (markB 9).1 = m1 at *
      generalize (markB 9).2 = m2 at *
      have HM9 : Hid (∀ W, Calls Tryd.prog 41 #[.int .i64 9] W fun e w' => e = .returned (.agg #[.string m1, .string m2]) ∧ Below W.heap.size W w') := hm9
      obtain ⟨xs0, hxs0⟩ := HR.out
      have HR2 : Hid (wr.ownsRow base 51 2 (.slice (some ⟨g, 0, none⟩) (ls.length + 4) c) (ls.length + 4) xs0) := row_below hxs0 hbel.out
      have HK2 : Hid (Kept (fun k => k = g) w wr) := (Kept.refl _ w).below hbel.out
      clear hm9 HCE HM HR hbel hxs0
      go_wp2
      go_loopw [8] (fun i wr => ∃ (k : Nat) (xs : List Value), k ≤ ls.length + 4 ∧ i = .int .i64 k ∧ Hid (wr.ownsRow base 51 2 (.slice (some ⟨g, 0, none⟩) (ls.length + 4) c) (ls.length + 4) xs) ∧ Hid (Kept (fun k => k = g) w wr)) (fun i _ => ls.length + 4 - (intOf i).toNat)
      case atStart => exact ⟨0, xs0, Nat.zero_le _, rfl, HR2, HK2⟩
      case round =>
        clear HR2 HK2
        obtain ⟨k, ys, hk, rfl, hrow, hkep⟩ := hrel
        by_cases hlt : k < ls.length + 4
        · have hm9 := HM9.out wr
          have HRW : Hid (∀ w1, Below wr.heap.size wr w1 → w1.ownsRow base 51 2 (.slice (some ⟨g, 0, none⟩) (ls.length + 4) c) (ls.length + 4) ys ∧ Kept (fun k => k = g) w w1) := fun w1 hb1 => ⟨row_below hrow.out hb1, hkep.out.below hb1⟩
          have hkl : (k : Int) < (ls.length : Int) + 4 := by omega
          clear hrow hkep HM9
          go_wp2_with (go_at_call 41; refine hm9.mono ?_; clear hm9; rintro e w1 ⟨rfl, hb1⟩; obtain ⟨hr1, hk1⟩ := HRW.out w1 hb1; clear HRW hb1; obtain ⟨⟨u0, q0⟩, f0⟩ := row_cell hr1 (j := k * 2) (by omega); obtain ⟨⟨u1, q1⟩, f1⟩ := row_cell hr1 (j := k * 2 + 1) (by omega); have HR1 : Hid (w1.ownsRow base 51 2 (.slice (some ⟨g, 0, none⟩) (ls.length + 4) c) (ls.length + 4) ys) := hr1; have HK1 : Hid (Kept (fun k => k = g) w w1) := hk1; clear hr1 hk1)
          go_roundw
          case rel => exact ⟨k + 1, _, by omega, by go_num, ownsRow_set (ownsRow_set HR1.out (g := g) rfl (i := k * 2) _) (g := g) rfl (i := k * 2 + 1) _, (HK1.out.setCell (p := ⟨g, k * 2, none⟩) (fun _ => rfl) _).setCell (p := ⟨g, k * 2 + 1, none⟩) (fun _ => rfl) _⟩
          case measure => simp [intOf]; omega
        · have HK : Hid (Kept (fun k => k = g) w wr) := hkep
          have hkl : ¬ (k : Int) < (ls.length : Int) + 4 := by omega
          clear hrow hkep HM9
          go_wp2
          go_ret
          exact ⟨rfl, HK.out⟩

end Go.Proofs.YtobkomfeojhhbaaDoor
