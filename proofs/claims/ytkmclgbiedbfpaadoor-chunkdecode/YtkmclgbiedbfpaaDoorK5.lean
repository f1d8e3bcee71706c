/- putTime. -/
import Derived.Test.YtkmclgbiedbfpaaDoorK4
namespace Go.Proofs.YtkmclgbiedbfpaaDoor
open Go.RowKit Go.Maps Go.Shelf

/-- The widths of a step's change, as the program lays them. -/
def Steps (w : World) : Prop := w.cell? ⟨1, 0, none⟩ = some (.int .i64 7) ∧ w.cell? ⟨1, 1, none⟩ = some (.int .i64 9) ∧ w.cell? ⟨1, 2, none⟩ = some (.int .i64 12)
theorem Steps.below {w w' : World} {B : Nat} (h : Steps w) (hb : Below B w w') (hB : 1 < B) : Steps w' :=
  ⟨(hb.cell (p := ⟨1, 0, none⟩) hB).trans h.1, (hb.cell (p := ⟨1, 1, none⟩) hB).trans h.2.1, (hb.cell (p := ⟨1, 2, none⟩) hB).trans h.2.2⟩
theorem Wr.cells {w : World} {base P cnt : Nat} {cs : List Bool} {s : An} (h : Wr w base P cnt cs s) :
    w.cell? ⟨P, 0, none⟩ = some (.int .i64 cnt) ∧ w.cell? ⟨P, 2, none⟩ = some (.int .i64 cs.length) ∧ w.cell? ⟨P, 3, none⟩ = some (.int .u64 s.t) ∧ w.cell? ⟨P, 4, none⟩ = some (.int .u64 s.d) ∧ w.cell? ⟨P, 5, none⟩ = some (.int .u64 s.v) ∧ w.cell? ⟨P, 6, none⟩ = some (.int .i64 s.lead) ∧ w.cell? ⟨P, 7, none⟩ = some (.int .i64 s.size) ∧ ∀ i, w.frozen? ⟨P, i, none⟩ = false := by
  obtain ⟨-, -, a, c, hh, -⟩ := h
  refine ⟨?_, ?_, ?_, ?_, ?_, ?_, ?_, fun i => frozen_of_heap hh⟩ <;> (rw [cell_of_heap hh]; rfl)
/-- A field of the Writer's own is set. -/
theorem Wr.set {w : World} {base P cnt : Nat} {cs : List Bool} {s : An} (h : Wr w base P cnt cs s) (i : Nat) (u : Value) (cnt' : Nat) (s' : An)
    (hi : ∀ v : Value, (wrCells cnt v cs.length s.t s.d s.v s.lead s.size).setIfInBounds i u = wrCells cnt' v cs.length s'.t s'.d s'.v s'.lead s'.size) : Wr (w.setCell ⟨P, i, none⟩ u) base P cnt' cs s' := by
  obtain ⟨h1, h2, a, c, hh, hr⟩ := h
  refine ⟨h1, by simpa [World.setCell] using h2, a, c, ?_, ?_⟩
  · rw [heap_setCell_same hh, ← hi]
    rfl
  · exact ((Kept.refl (fun k => k = P) w).setCell (p := ⟨P, i, none⟩) (fun _ => rfl) u).ownsRow hr (fun k hk e => row_ne hr hh (by decide) (hk.trans (congrArg some e)))
theorem Wr.drew {w : World} {base P cnt : Nat} {cs : List Bool} {s : An} (h : Wr w base P cnt cs s) : Wr w.drew base P cnt cs s := h
theorem Wr.lt {w : World} {base P cnt : Nat} {cs : List Bool} {s : An} (h : Wr w base P cnt cs s) : base ≤ P ∧ base ≤ w.heap.size ∧ P < w.heap.size := by
  obtain ⟨h1, h2, a, c, hh, hr⟩ := h
  exact ⟨h1, h2, (Array.getElem?_eq_some_iff.1 hh).1⟩
/-- put, as the Writer's methods call it. -/
theorem put_of (base P cnt : Nat) (s : An) (cs : List Bool) (w : World) (h : Wr w base P cnt cs s) (xi wi : Int) (x width : Nat) (hxi : xi = x) (hwi : wi = width) (hw : width ≤ 64) (hx : x < 18446744073709551616) (hl : cs.length + width ≤ 1000000) :
    Calls Tryd.prog 35 #[.pointer (some ⟨P, 1, none⟩), .int .u64 xi, .int .i64 wi] w fun e w' => e = .returned (.tuple #[]) ∧ Wr w' base P cnt (cs ++ wb width x) s ∧ Below base w w' ∧ Keeps P w w' := by
  subst hxi hwi
  exact put_any base P cnt cs s x width w h hw hx hl

set_option maxRecDepth 100000 in
set_option maxHeartbeats 4000000 in
theorem putTime_any (base P cnt : Nat) (cs : List Bool) (s : An) (t : Nat) (w : World) (h : Wr w base P cnt cs s) (hs : Good s) (_ht : t < 18446744073709551616) (hl : cs.length ≤ 900000) (hS : Steps w) (hB : 1 < base) :
    Calls Tryd.prog 36 #[.pointer (some ⟨P, 0, none⟩), .int .u64 t] w fun e w' => e = .returned (.tuple #[]) ∧ Wr w' base P cnt (cs ++ timeB (chg s t)) { s with t := t, d := dlt s t } ∧ Below base w w' := by
  obtain ⟨c0, c2, c3, c4, c5, c6, c7, cf⟩ := h.cells
  have f3 := cf 3
  have f4 := cf 4
  have hst := hs.t
  have hsd := hs.d
  have ed : IntKind.u64.wrap ((t : Int) - s.t) = (dlt s t : Int) := by
    rw [IntKind.wrap_u64]
    unfold dlt
    omega
  have ec : IntKind.u64.wrap ((dlt s t : Int) - s.d) = (chg s t : Int) := by
    rw [IntKind.wrap_u64]
    unfold chg
    omega
  have hdl : dlt s t < 18446744073709551616 := Nat.mod_lt _ (by decide)
  have hcl : chg s t < 18446744073709551616 := Nat.mod_lt _ (by decide)
  have hw1 : Wr ((w.setCell ⟨P, 3, none⟩ (.int .u64 t)).setCell ⟨P, 4, none⟩ (.int .u64 (dlt s t))) base P cnt cs { s with t := t, d := dlt s t } :=
    Wr.set (s := { s with t := t }) (Wr.set h 3 (.int .u64 t) cnt { s with t := t } (fun _ => rfl)) 4 (.int .u64 (dlt s t)) cnt { s with t := t, d := dlt s t } (fun _ => rfl)
  have hb1 : Below base w ((w.setCell ⟨P, 3, none⟩ (.int .u64 t)).setCell ⟨P, 4, none⟩ (.int .u64 (dlt s t))) := ((Below.refl base w).setCell h.lt.1 _).setCell h.lt.1 _
  have hs1 := hS.below hb1 hB
  have HW1 : Hid (Wr ((w.setCell ⟨P, 3, none⟩ (.int .u64 t)).setCell ⟨P, 4, none⟩ (.int .u64 (dlt s t))) base P cnt cs { s with t := t, d := dlt s t }) := hw1
  have HB1 : Hid (Below base w ((w.setCell ⟨P, 3, none⟩ (.int .u64 t)).setCell ⟨P, 4, none⟩ (.int .u64 (dlt s t)))) := hb1
  have HE : Hid (∀ w2 ys, Wr w2 base P cnt (cs ++ ys) { s with t := t, d := dlt s t } → ys = timeB (chg s t) → Below base w w2 → Wr w2 base P cnt (cs ++ timeB (chg s t)) { s with t := t, d := dlt s t } ∧ Below base w w2) := fun w2 ys h1 h2 h3 => by rw [h2] at h1; exact ⟨h1, h3⟩
  obtain ⟨g0, g1, g2⟩ := hs1
  clear hw1 hb1 cf h hS hst hsd hs
  generalize hDD : dlt s t = dd at *
  generalize hCC : chg s t = cc at *
  clear hDD hCC
  go_enter Tryd.func36, Tryd.ntmps36
  by_cases hz : cc = 0
  · have hzi : ((cc : Int) == 0) = true := by simp; omega
    go_wp2_with (go_at_call 35; refine (put_of base P cnt _ cs _ HW1.out 0 1 0 1 rfl rfl (by omega) (by omega) (by omega)).mono ?_; rintro e w2 ⟨rfl, hw2, hb2, -⟩)
    refine bodyPost_ret (results_none rfl _ _ _) rfl ?_
    exact ⟨rfl, HE.out _ _ hw2 (by rw [hz]; rfl) (HB1.out.trans (hb2.mono (Nat.le_refl _)))⟩
  · have hzi : ((cc : Int) == 0) = false := by simp; omega
    go_wp2
    generalize ((w.setCell ⟨P, 3, none⟩ (.int .u64 t)).setCell ⟨P, 4, none⟩ (.int .u64 dd)) = W1 at *
    go_loop [40] (fun i => ∃ k : Nat, k ≤ 3 ∧ i = .int .i64 k ∧ Hid ((1 ≤ k → ¬ (cc + 63) % 18446744073709551616 < 128) ∧ (2 ≤ k → ¬ (cc + 255) % 18446744073709551616 < 512) ∧ (3 ≤ k → ¬ (cc + 2047) % 18446744073709551616 < 4096))) (fun i => 3 - (intOf i).toNat)
    case atStart => exact ⟨0, by omega, rfl, by omega, by omega, by omega⟩
    case round =>
      obtain ⟨k, hk, rfl, hI⟩ := hrel
      have hk' : k = 0 ∨ k = 1 ∨ k = 2 ∨ k = 3 := by omega
      rcases hk' with rfl | rfl | rfl | rfl
      · obtain ⟨n, hn⟩ : ∃ n, n = (cc + 63) % 18446744073709551616 := ⟨_, rfl⟩
        have en : IntKind.u64.wrap ((cc : Int) + 63) = (n : Int) := by rw [IntKind.wrap_u64, hn]; omega
        have hnl : n < 18446744073709551616 := by omega
        have hbias : Calls Tryd.prog 45 #[.int .i64 7] W1 fun e w' => e = .returned (.int .u64 63) ∧ w' = W1 := bias_any 7 W1 (by decide) (by decide)
        have ix : (Instr.index 86 (.agg #[.int .i64 7, .int .i64 9, .int .i64 12]) (.int .i64 0)).run Tryd.prog W1 = .ok (.int .i64 7) W1 := by kernel_rfl
        obtain ⟨i1, i2, i3⟩ := hI.out
        clear hI
        by_cases hf : n < 128
        · have hfi : (n : Int) < 128 := by omega
          have HT : Hid (wb 1 18446744073709551615 ++ (wb 1 0 ++ wb 7 n) = timeB cc) := by
            show _ = _
            unfold timeB
            rw [if_neg hz, if_pos (by omega), ← hn]
            rfl
          clear hn i1 i2 i3
          go_wp2_with (first
            | (go_at_call 45; refine hbias.mono ?_; clear hbias; rintro e w0 ⟨rfl, hw0⟩; subst hw0)
            | (go_at_call 35; refine (put_of base P cnt _ cs _ HW1.out 18446744073709551615 1 18446744073709551615 1 rfl rfl (by omega) (by omega) (by omega)).mono ?_; clear HW1; rintro e w2 ⟨rfl, hw2, hb2, -⟩; have HW2 : Hid (Wr w2 base P cnt _ _) := hw2; have HB2 : Hid (Below base w w2) := HB1.out.trans (hb2.mono (Nat.le_refl _)); clear hw2 hb2)
            | (go_at_call 35; refine (put_of base P cnt _ _ _ HW2.out 0 1 0 1 rfl rfl (by omega) (by omega) (by simp [wb_length]; omega)).mono ?_; clear HW2; rintro e w3 ⟨rfl, hw3, hb3, -⟩; have HW3 : Hid (Wr w3 base P cnt _ _) := hw3; have HB3 : Hid (Below base w w3) := HB2.out.trans (hb3.mono (Nat.le_refl _)); clear hw3 hb3)
            | (go_at_call 35; refine (put_of base P cnt _ _ _ HW3.out n 7 n 7 rfl rfl (by omega) (by omega) (by simp [wb_length]; omega)).mono ?_; clear HW3; rintro e w4 ⟨rfl, hw4, hb4, -⟩))
          refine bodyPost_ret (results_none rfl _ _ _) rfl ?_
          rw [List.append_assoc, List.append_assoc] at hw4
          exact ⟨rfl, HE.out _ _ hw4 HT.out (HB3.out.trans (hb4.mono (Nat.le_refl _)))⟩
        · have hfi : decide ((n : Int) < 128) = false := by simp; omega
          have HI : Hid (¬ (cc + 63) % 18446744073709551616 < 128) := by show ¬ _; rw [← hn]; exact hf
          clear hn
          go_wp2_with (go_at_call 45; refine hbias.mono ?_; clear hbias; rintro e w0 ⟨rfl, hw0⟩; subst hw0)
          go_round
          case rel => exact ⟨1, by omega, by go_num, fun _ => HI.out, fun h => by omega, fun h => by omega⟩
          case measure => simp [intOf]
      · obtain ⟨n, hn⟩ : ∃ n, n = (cc + 255) % 18446744073709551616 := ⟨_, rfl⟩
        have en : IntKind.u64.wrap ((cc : Int) + 255) = (n : Int) := by rw [IntKind.wrap_u64, hn]; omega
        have hnl : n < 18446744073709551616 := by omega
        have hbias : Calls Tryd.prog 45 #[.int .i64 9] W1 fun e w' => e = .returned (.int .u64 255) ∧ w' = W1 := bias_any 9 W1 (by decide) (by decide)
        have ix : (Instr.index 86 (.agg #[.int .i64 7, .int .i64 9, .int .i64 12]) (.int .i64 1)).run Tryd.prog W1 = .ok (.int .i64 9) W1 := by kernel_rfl
        obtain ⟨i1, i2, i3⟩ := hI.out
        clear hI
        by_cases hf : n < 512
        · have hfi : (n : Int) < 512 := by omega
          have HT : Hid (wb 2 18446744073709551615 ++ (wb 1 0 ++ wb 9 n) = timeB cc) := by
            show _ = _
            unfold timeB
            rw [if_neg hz, if_neg (i1 (by omega)), if_pos (by omega), ← hn]
            rfl
          clear hn i1 i2 i3
          go_wp2_with (first
            | (go_at_call 45; refine hbias.mono ?_; clear hbias; rintro e w0 ⟨rfl, hw0⟩; subst hw0)
            | (go_at_call 35; refine (put_of base P cnt _ cs _ HW1.out 18446744073709551615 2 18446744073709551615 2 rfl rfl (by omega) (by omega) (by omega)).mono ?_; clear HW1; rintro e w2 ⟨rfl, hw2, hb2, -⟩; have HW2 : Hid (Wr w2 base P cnt _ _) := hw2; have HB2 : Hid (Below base w w2) := HB1.out.trans (hb2.mono (Nat.le_refl _)); clear hw2 hb2)
            | (go_at_call 35; refine (put_of base P cnt _ _ _ HW2.out 0 1 0 1 rfl rfl (by omega) (by omega) (by simp [wb_length]; omega)).mono ?_; clear HW2; rintro e w3 ⟨rfl, hw3, hb3, -⟩; have HW3 : Hid (Wr w3 base P cnt _ _) := hw3; have HB3 : Hid (Below base w w3) := HB2.out.trans (hb3.mono (Nat.le_refl _)); clear hw3 hb3)
            | (go_at_call 35; refine (put_of base P cnt _ _ _ HW3.out n 9 n 9 rfl rfl (by omega) (by omega) (by simp [wb_length]; omega)).mono ?_; clear HW3; rintro e w4 ⟨rfl, hw4, hb4, -⟩))
          refine bodyPost_ret (results_none rfl _ _ _) rfl ?_
          rw [List.append_assoc, List.append_assoc] at hw4
          exact ⟨rfl, HE.out _ _ hw4 HT.out (HB3.out.trans (hb4.mono (Nat.le_refl _)))⟩
        · have hfi : decide ((n : Int) < 512) = false := by simp; omega
          have HI : Hid (¬ (cc + 255) % 18446744073709551616 < 512) := by show ¬ _; rw [← hn]; exact hf
          clear hn
          go_wp2_with (go_at_call 45; refine hbias.mono ?_; clear hbias; rintro e w0 ⟨rfl, hw0⟩; subst hw0)
          go_round
          case rel => exact ⟨2, by omega, by go_num, fun _ => i1 (by omega), fun _ => HI.out, fun h => by omega⟩
          case measure => simp [intOf]
      · obtain ⟨n, hn⟩ : ∃ n, n = (cc + 2047) % 18446744073709551616 := ⟨_, rfl⟩
        have en : IntKind.u64.wrap ((cc : Int) + 2047) = (n : Int) := by rw [IntKind.wrap_u64, hn]; omega
        have hnl : n < 18446744073709551616 := by omega
        have hbias : Calls Tryd.prog 45 #[.int .i64 12] W1 fun e w' => e = .returned (.int .u64 2047) ∧ w' = W1 := bias_any 12 W1 (by decide) (by decide)
        have ix : (Instr.index 86 (.agg #[.int .i64 7, .int .i64 9, .int .i64 12]) (.int .i64 2)).run Tryd.prog W1 = .ok (.int .i64 12) W1 := by kernel_rfl
        obtain ⟨i1, i2, i3⟩ := hI.out
        clear hI
        by_cases hf : n < 4096
        · have hfi : (n : Int) < 4096 := by omega
          have HT : Hid (wb 3 18446744073709551615 ++ (wb 1 0 ++ wb 12 n) = timeB cc) := by
            show _ = _
            unfold timeB
            rw [if_neg hz, if_neg (i1 (by omega)), if_neg (i2 (by omega)), if_pos (by omega), ← hn]
            rfl
          clear hn i1 i2 i3
          go_wp2_with (first
            | (go_at_call 45; refine hbias.mono ?_; clear hbias; rintro e w0 ⟨rfl, hw0⟩; subst hw0)
            | (go_at_call 35; refine (put_of base P cnt _ cs _ HW1.out 18446744073709551615 3 18446744073709551615 3 rfl rfl (by omega) (by omega) (by omega)).mono ?_; clear HW1; rintro e w2 ⟨rfl, hw2, hb2, -⟩; have HW2 : Hid (Wr w2 base P cnt _ _) := hw2; have HB2 : Hid (Below base w w2) := HB1.out.trans (hb2.mono (Nat.le_refl _)); clear hw2 hb2)
            | (go_at_call 35; refine (put_of base P cnt _ _ _ HW2.out 0 1 0 1 rfl rfl (by omega) (by omega) (by simp [wb_length]; omega)).mono ?_; clear HW2; rintro e w3 ⟨rfl, hw3, hb3, -⟩; have HW3 : Hid (Wr w3 base P cnt _ _) := hw3; have HB3 : Hid (Below base w w3) := HB2.out.trans (hb3.mono (Nat.le_refl _)); clear hw3 hb3)
            | (go_at_call 35; refine (put_of base P cnt _ _ _ HW3.out n 12 n 12 rfl rfl (by omega) (by omega) (by simp [wb_length]; omega)).mono ?_; clear HW3; rintro e w4 ⟨rfl, hw4, hb4, -⟩))
          refine bodyPost_ret (results_none rfl _ _ _) rfl ?_
          rw [List.append_assoc, List.append_assoc] at hw4
          exact ⟨rfl, HE.out _ _ hw4 HT.out (HB3.out.trans (hb4.mono (Nat.le_refl _)))⟩
        · have hfi : decide ((n : Int) < 4096) = false := by simp; omega
          have HI : Hid (¬ (cc + 2047) % 18446744073709551616 < 4096) := by show ¬ _; rw [← hn]; exact hf
          clear hn
          go_wp2_with (go_at_call 45; refine hbias.mono ?_; clear hbias; rintro e w0 ⟨rfl, hw0⟩; subst hw0)
          go_round
          case rel => exact ⟨3, by omega, by go_num, fun _ => i1 (by omega), fun _ => i2 (by omega), fun _ => HI.out⟩
          case measure => simp [intOf]
      · obtain ⟨i1, i2, i3⟩ := hI.out
        have HT : Hid (wb 4 18446744073709551615 ++ wb 64 cc = timeB cc) := by
          show _ = _
          unfold timeB
          rw [if_neg hz, if_neg (i1 (by omega)), if_neg (i2 (by omega)), if_neg (i3 (by omega))]
          rfl
        clear hI i1 i2 i3
        go_wp2_with (first
          | (go_at_call 35; refine (put_of base P cnt _ cs _ HW1.out 18446744073709551615 4 18446744073709551615 4 rfl rfl (by omega) (by omega) (by omega)).mono ?_; clear HW1; rintro e w2 ⟨rfl, hw2, hb2, -⟩; have HW2 : Hid (Wr w2 base P cnt _ _) := hw2; have HB2 : Hid (Below base w w2) := HB1.out.trans (hb2.mono (Nat.le_refl _)); clear hw2 hb2)
          | (go_at_call 35; refine (put_of base P cnt _ _ _ HW2.out cc 64 cc 64 rfl rfl (by omega) (by omega) (by simp [wb_length]; omega)).mono ?_; clear HW2; rintro e w3 ⟨rfl, hw3, hb3, -⟩))
        go_end0
        rw [List.append_assoc] at hw3
        exact ⟨rfl, HE.out _ _ hw3 HT.out (HB2.out.trans (hb3.mono (Nat.le_refl _)))⟩

end Go.Proofs.YtkmclgbiedbfpaaDoor
