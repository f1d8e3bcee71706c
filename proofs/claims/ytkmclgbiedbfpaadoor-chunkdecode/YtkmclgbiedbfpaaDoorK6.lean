/- putValue. -/
import Derived.Test.YtkmclgbiedbfpaaDoorK5
namespace Go.Proofs.YtkmclgbiedbfpaaDoor
open Go.RowKit Go.Maps Go.Shelf

theorem Wr.below {w w' : World} {base P cnt : Nat} {cs : List Bool} {s : An} (h : Wr w base P cnt cs s) (hb : Below w.heap.size w w') : Wr w' base P cnt cs s := by
  obtain ⟨h1, h2, a, c, hh, hr⟩ := h
  exact ⟨h1, Nat.le_trans h2 hb.size, a, c, (hb.block P (Array.getElem?_eq_some_iff.1 hh).1).trans hh, row_below hr hb⟩
/-- A window of the call's own. -/
def WinAt (w : World) (B : Nat) (lead size : Nat) : Prop := w.heap[B]? = some (.cells #[.int .i64 lead, .int .i64 size] 63)
theorem WinAt.cells {w : World} {B lead size : Nat} (h : WinAt w B lead size) : w.cell? ⟨B, 0, none⟩ = some (.int .i64 lead) ∧ w.cell? ⟨B, 1, none⟩ = some (.int .i64 size) := ⟨by rw [cell_of_heap h]; rfl, by rw [cell_of_heap h]; rfl⟩
theorem step_call3 (w : World) {P : Program} {ops : Array Oper} {o : Oper} {a : Act} {K : Act → World → Prop} {Q : Exit → Act → World → Prop} {E : Prop} (hgd : o.guard = none) (f : Nat) (x y z : Operand) (t s r : TypeId)
    (ho : o.op = .call { callee := .value (.func f), args := #[x, y, z], argTypes := #[t, s, r] }) (v u q : Value) (hx : a.eval x = v) (hy : a.eval y = u) (hz : a.eval z = q) (he : ∀ args w, (callFunc f args).run P w = .ok (.enter f args) w) (R : Value → World → Prop)
    (hc : Calls P f #[v, u, q] w fun e w' => ∃ z, e = .returned z ∧ R z w') (h : ∀ z w', R z w' → K (a.put o.dst z) w') :
    if Region.wanted o (yielded ops a.tmps) = true then Oper.wp P o a w K Q else E := by
  have hw : Region.wanted o (yielded ops a.tmps) = true := by simp [Region.wanted, hgd]
  rw [if_pos hw]
  have hfn : a.eval (.func f) = .func (.func f) #[] #[] := rfl
  unfold Oper.wp execOp
  simp only [ho, resolve, hfn, hx, hy, hz, Sem.run_bind, List.map_toArray, List.map_cons, List.map_nil]
  simp only [Deferred.ofValue, invoke, Sem.run_pure, Result.andThen_ok, Array.append_empty, he]
  refine hc.mono ?_
  rintro e w' ⟨z, rfl, hz⟩
  exact h z w' hz

set_option maxRecDepth 100000 in
set_option maxHeartbeats 4000000 in
theorem putValue_any (base P cnt : Nat) (cs : List Bool) (s : An) (v : Nat) (w : World) (h : Wr w base P cnt cs s) (hs : Good s) (hv : v < 18446744073709551616) (hl : cs.length ≤ 900000) (hT : Tab w) (hB : Tryd.lays29_ren.g 1 < base) :
    Calls Tryd.prog 37 #[.pointer (some ⟨P, 0, none⟩), .int .u64 v] w fun e w' => e = .returned (.tuple #[]) ∧ Wr w' base P cnt (cs ++ valueB s.lead s.size (v ^^^ s.v)) { s with v := v, lead := winL s.lead s.size (v ^^^ s.v), size := winS s.lead s.size (v ^^^ s.v) } ∧ Below base w w' := by
  obtain ⟨c0, c2, c3, c4, c5, c6, c7, cf⟩ := h.cells
  have f5 := cf 5
  have hsv := hs.v
  have hsl := hs.lead
  have hsw := hs.win
  have ex : bits .xor .u64 (v : Int) (s.v : Int) = ((v ^^^ s.v : Nat) : Int) := u64_xor_nat v s.v hv hsv
  have hxl := xor_lt hv hsv
  have hw1 : Wr (w.setCell ⟨P, 5, none⟩ (.int .u64 v)) base P cnt cs { s with v := v } := Wr.set h 5 (.int .u64 v) cnt { s with v := v } (fun _ => rfl)
  have hb1 : Below base w (w.setCell ⟨P, 5, none⟩ (.int .u64 v)) := (Below.refl base w).setCell h.lt.1 _
  have HW1 : Hid (Wr (w.setCell ⟨P, 5, none⟩ (.int .u64 v)) base P cnt cs { s with v := v }) := hw1
  have HB1 : Hid (Below base w (w.setCell ⟨P, 5, none⟩ (.int .u64 v))) := hb1
  have HT : Hid (Tab w) := hT
  clear hw1 hb1 cf h hs hsv hT
  generalize v ^^^ s.v = x at *
  go_enter Tryd.func37, Tryd.ntmps37
  by_cases hz : x = 0
  · have hzi : ((x : Int) == 0) = true := by simp; omega
    go_wp2_with (go_at_call 35; refine (put_of base P cnt _ cs _ HW1.out 0 1 0 1 rfl rfl (by omega) (by omega) (by omega)).mono ?_; rintro e w2 ⟨rfl, hw2, hb2, -⟩)
    refine bodyPost_ret (results_none rfl _ _ _) rfl ?_
    subst hz
    exact ⟨rfl, hw2, HB1.out.trans hb2⟩
  · have hzi : ((x : Int) == 0) = false := by simp; omega
    have HWO : Hid (∀ W, Tab W → Calls Tryd.prog 46 #[.int .u64 x] W fun e w' => e = .returned (.agg #[.int .i64 (lz x), .int .i64 ((64 - lz x - tz x : Nat) : Int)]) ∧ Below W.heap.size W w') := fun W hW => windowOf_any x W hz hxl hW
    have hlt := lztz hz hxl
    have hlz := lz_le x
    obtain ⟨L, hL⟩ : ∃ L, L = lz x := ⟨_, rfl⟩
    obtain ⟨Z, hZ⟩ : ∃ Z, Z = 64 - L - tz x := ⟨_, rfl⟩
    rw [← hL, ← hZ] at HWO
    have hLZ : L + Z ≤ 64 ∧ 1 ≤ Z ∧ L ≤ 31 := by omega
    have HL : Hid (L = lz x) := hL
    have HZ : Hid (Z = 64 - L - tz x) := hZ
    have HTL : Hid (64 - L - Z = tz x) := by show _ = _; omega
    clear hL hZ hlt hlz
    go_wp2_with (first
      | (go_at_call 35; refine (put_of base P cnt _ cs _ HW1.out 1 1 1 1 rfl rfl (by omega) (by omega) (by omega)).mono ?_; clear HW1; rintro e w2 ⟨rfl, hw2, hb2, -⟩; have HW2 : Hid (Wr w2 base P cnt (cs ++ wb 1 1) { s with v := v }) := hw2; have HB2 : Hid (Below base w w2) := HB1.out.trans hb2; clear hw2 hb2)
      | (go_at_call 46; refine (HWO.out w2 (HT.out.below HB2.out hB)).mono ?_; clear HWO; rintro e w3 ⟨rfl, hb3⟩; have HW3 : Hid (Wr w3 base P cnt (cs ++ wb 1 1) { s with v := v }) := HW2.out.below hb3; have HB3 : Hid (Below base w w3) := HB2.out.trans (hb3.mono HW2.out.lt.2.1); clear hb3 HW2))
    have hwW : Wr (w3.alloc (.cells #[.int .i64 L, .int .i64 Z] 63)) base P cnt (cs ++ wb 1 1) { s with v := v } := HW3.out.below ((Below.refl _ _).alloc (Nat.le_refl _) _)
    have hwin : WinAt (w3.alloc (.cells #[.int .i64 L, .int .i64 Z] 63)) w3.heap.size L Z := heap_alloc_new w3 _
    have hbW : Below base w (w3.alloc (.cells #[.int .i64 L, .int .i64 Z] 63)) := HB3.out.alloc HW3.out.lt.2.1 _
    have hPB : w3.heap.size ≠ P := by have := HW3.out.lt.2.2; omega
    clear HW3 HB3
    generalize w3.alloc (.cells #[.int .i64 L, .int .i64 Z] 63) = W at *
    generalize w3.heap.size = B0 at *
    obtain ⟨-, -, -, -, -, k6, k7, -⟩ := hwW.cells
    obtain ⟨k8, k9⟩ := hwin.cells
    have HWW : Hid (Wr W base P cnt (cs ++ wb 1 1) { s with v := v }) := hwW
    have HWIN : Hid (WinAt W B0 L Z) := hwin
    have HBW : Hid (Below base w W) := hbW
    have HC : Hid (∀ W', Below W.heap.size W W' → Wr W' base P cnt (cs ++ wb 1 1) { s with v := v } ∧ WinAt W' B0 L Z ∧ Below base w W') := fun W' hb => ⟨hwW.below hb, (hb.block B0 (Array.getElem?_eq_some_iff.1 hwin).1).trans hwin, hbW.trans (hb.mono hwW.lt.2.1)⟩
    have HD : Hid (Below W.heap.size W W.drew) := (Below.refl _ _).drew
    clear hwW hwin hbW c0 c2 c3 c4 c5 c6 c7 f5 ex HB1 HB2
    by_cases hh : held s.lead s.size x
    · have hhol : ∀ W, Calls Tryd.prog 47 #[.agg #[.int .i64 s.lead, .int .i64 s.size], .agg #[.int .i64 L, .int .i64 Z]] W fun e w' => e = .returned (.bool true) ∧ Below W.heap.size W w' := fun W => by
        have h1 := holds_any s.lead s.size L Z W hsw hLZ.1
        have h2 : decide (s.lead ≤ L ∧ 64 - s.lead - s.size ≤ 64 - L - Z) = true := by
          rw [HTL.out, HL.out]
          exact decide_eq_true hh
        rw [h2] at h1
        exact h1
      have HHOL : Hid (∀ W, Calls Tryd.prog 47 #[.agg #[.int .i64 s.lead, .int .i64 s.size], .agg #[.int .i64 L, .int .i64 Z]] W fun e w' => e = .returned (.bool true) ∧ Below W.heap.size W w') := hhol
      clear hhol
      go_region_held3 (fun w' => (w'.cell? ⟨P, 6, none⟩ = some (.int .i64 s.lead) ∧ w'.cell? ⟨P, 7, none⟩ = some (.int .i64 s.size)) ∧ w'.cell? ⟨B0, 0, none⟩ = some (.int .i64 L) ∧ w'.cell? ⟨B0, 1, none⟩ = some (.int .i64 Z))
        (first | exact ⟨⟨k6, k7⟩, k8, k9⟩ | exact ⟨⟨d6, d7⟩, d8, d9⟩)
        (first
          | (go_at_call 47; refine (HHOL.out _).mono ?_; clear HHOL; rintro e w8 ⟨rfl, hb8⟩; obtain ⟨hw8, hi8, hbl8⟩ := HC.out w8 (HD.out.trans (hb8.mono HD.out.size)); obtain ⟨-, -, -, -, -, d6, d7, -⟩ := hw8.cells; obtain ⟨d8, d9⟩ := hi8.cells; have HW8 : Hid (Wr w8 base P cnt (cs ++ wb 1 1) { s with v := v }) := hw8; have HBL8 : Hid (Below base w w8) := hbl8; clear hw8 hbl8 hi8 hb8))
      go_wp2_with (go_at_call 35; refine (put_of base P cnt _ _ _ HW8.out 0 1 0 1 rfl rfl (by omega) (by omega) (by simp [wb_length]; omega)).mono ?_; clear HW8; rintro e w9 ⟨rfl, hw9, hb9, -⟩; have HW9 : Hid (Wr w9 base P cnt (cs ++ wb 1 1 ++ wb 1 0) { s with v := v }) := hw9; have HB9 : Hid (Below base w w9) := HBL8.out.trans hb9; obtain ⟨-, -, -, -, -, e6, e7, -⟩ := hw9.cells; clear hw9 hb9)
      obtain ⟨tl, htl⟩ : ∃ tl, tl = 64 - s.lead - s.size := ⟨_, rfl⟩
      have htail : ∀ W, Calls Tryd.prog 48 #[.agg #[.int .i64 s.lead, .int .i64 s.size]] W fun e w' => e = .returned (.int .i64 (tl : Int)) ∧ Below W.heap.size W w' := fun W => by rw [htl]; exact tail_any s.lead s.size W (by omega)
      have HTAIL : Hid (∀ W, Calls Tryd.prog 48 #[.agg #[.int .i64 s.lead, .int .i64 s.size]] W fun e w' => e = .returned (.int .i64 (tl : Int)) ∧ Below W.heap.size W w') := htail
      have HTLE : Hid (tl = 64 - s.lead - s.size) := htl
      have htl64 : tl ≤ 64 := by omega
      have hsz64 : s.size ≤ 64 := by omega
      have HSH : Hid ((x : Int) / 2 ^ tl = ((x >>> tl : Nat) : Int)) := by show _ = _; rw [Nat.shiftRight_eq_div_pow]; simp
      have HSL : Hid (x >>> tl < 18446744073709551616) := by show _ < _; rw [Nat.shiftRight_eq_div_pow]; exact Nat.lt_of_le_of_lt (Nat.div_le_self _ _) hxl
      have HC9 : Hid (∀ W', Below w9.heap.size w9 W' → Wr W' base P cnt (cs ++ wb 1 1 ++ wb 1 0) { s with v := v } ∧ Below base w W') := fun W' hb => ⟨HW9.out.below hb, HB9.out.trans (hb.mono HW9.out.lt.2.1)⟩
      have HD9 : Hid (Below w9.heap.size w9 w9.drew) := (Below.refl _ _).drew
      clear htail htl
      go_region_held3 (fun w' => w'.cell? ⟨P, 6, none⟩ = some (.int .i64 s.lead) ∧ w'.cell? ⟨P, 7, none⟩ = some (.int .i64 s.size))
        (first | exact ⟨e6, e7⟩ | exact ⟨m6, m7⟩ | exact ⟨n6, n7⟩)
        (first
          | (go_at_call 48; refine (HTAIL.out _).mono ?_; clear HTAIL; rintro e w10 ⟨rfl, hb10⟩; obtain ⟨hw10, hbl10⟩ := HC9.out w10 (HD9.out.trans (hb10.mono HD9.out.size)); obtain ⟨-, -, -, -, -, m6, m7, -⟩ := hw10.cells; have HW10 : Hid (Wr w10 base P cnt (cs ++ wb 1 1 ++ wb 1 0) { s with v := v }) := hw10; have HB10 : Hid (Below base w w10) := hbl10; clear hw10 hbl10 hb10)
          | (go_at_call 35; refine (put_of base P cnt _ _ _ HW10.out _ _ (x >>> tl) s.size HSH.out rfl (by omega) HSL.out (by simp [wb_length]; omega)).mono ?_; rintro e w11 ⟨rfl, hw11, hb11, -⟩; obtain ⟨-, -, -, -, -, n6, n7, -⟩ := hw11.cells; have HW11 : Hid (Wr w11 base P cnt (cs ++ wb 1 1 ++ wb 1 0 ++ wb s.size (x >>> tl)) { s with v := v }) := hw11; have HB11 : Hid (Below base w w11) := HB10.out.trans hb11; clear hw11 hb11))
      go_end0
      refine ⟨rfl, ?_, HB11.out⟩
      have hfin := HW11.out
      rw [HTLE.out] at hfin
      unfold valueB winL winS
      rw [if_neg hz, if_neg hz, if_neg hz, if_pos hh, if_pos hh, if_pos hh]
      rw [List.append_assoc, List.append_assoc] at hfin
      exact hfin
    · have hhol : ∀ W, Calls Tryd.prog 47 #[.agg #[.int .i64 s.lead, .int .i64 s.size], .agg #[.int .i64 L, .int .i64 Z]] W fun e w' => e = .returned (.bool false) ∧ Below W.heap.size W w' := fun W => by
        have h1 := holds_any s.lead s.size L Z W hsw hLZ.1
        have h2 : decide (s.lead ≤ L ∧ 64 - s.lead - s.size ≤ 64 - L - Z) = false := by
          rw [HTL.out, HL.out]
          exact decide_eq_false hh
        rw [h2] at h1
        exact h1
      have HHOL : Hid (∀ W, Calls Tryd.prog 47 #[.agg #[.int .i64 s.lead, .int .i64 s.size], .agg #[.int .i64 L, .int .i64 Z]] W fun e w' => e = .returned (.bool false) ∧ Below W.heap.size W w') := hhol
      clear hhol
      go_region_held3 (fun w' => (w'.cell? ⟨P, 6, none⟩ = some (.int .i64 s.lead) ∧ w'.cell? ⟨P, 7, none⟩ = some (.int .i64 s.size)) ∧ w'.cell? ⟨B0, 0, none⟩ = some (.int .i64 L) ∧ w'.cell? ⟨B0, 1, none⟩ = some (.int .i64 Z))
        (first | exact ⟨⟨k6, k7⟩, k8, k9⟩ | exact ⟨⟨d6, d7⟩, d8, d9⟩)
        (first
          | (go_at_call 47; refine (HHOL.out _).mono ?_; clear HHOL; rintro e w8 ⟨rfl, hb8⟩; obtain ⟨hw8, hi8, hbl8⟩ := HC.out w8 (HD.out.trans (hb8.mono HD.out.size)); obtain ⟨-, -, -, -, -, d6, d7, -⟩ := hw8.cells; obtain ⟨d8, d9⟩ := hi8.cells; have HW8 : Hid (Wr w8 base P cnt (cs ++ wb 1 1) { s with v := v }) := hw8; have HBL8 : Hid (Below base w w8) := hbl8; have HI8 : Hid (WinAt w8 B0 L Z) := hi8; clear hw8 hbl8 hi8 hb8))
      go_wp2_with (go_at_call 35; refine (put_of base P cnt _ _ _ HW8.out 1 1 1 1 rfl rfl (by omega) (by omega) (by simp [wb_length]; omega)).mono ?_; clear HW8; rintro e w9 ⟨rfl, hw9, hb9, hk9⟩; have HW9 : Hid (Wr w9 base P cnt (cs ++ wb 1 1 ++ wb 1 1) { s with v := v }) := hw9; have HB9 : Hid (Below base w w9) := HBL8.out.trans hb9; have hi9 : WinAt w9 B0 L Z := hk9 _ _ _ _ hPB (by decide) HI8.out; have HI9 : Hid (WinAt w9 B0 L Z) := hi9; obtain ⟨e8, e9⟩ := hi9.cells; clear hw9 hb9 hk9 hi9)
      clear HI8 HBL8 d6 d7 d8 d9 HC HD HWW HWIN HBW k6 k7 k8 k9
      have hLu : IntKind.u64.wrap (L : Int) = (L : Int) := by rw [IntKind.wrap_u64]; omega
      have HZW : Hid (IntKind.u64.wrap (IntKind.i64.wrap ((Z : Int) - 1)) = ((Z - 1 : Nat) : Int)) := by show _ = _; rw [wrapI (by omega) (by omega), IntKind.wrap_u64]; omega
      go_region_held3 (fun w' => w'.cell? ⟨B0, 0, none⟩ = some (.int .i64 L) ∧ w'.cell? ⟨B0, 1, none⟩ = some (.int .i64 Z))
        (first | exact ⟨e8, e9⟩ | exact ⟨m8, m9⟩)
        (first
          | (go_at_call 35; refine (put_of base P cnt _ _ _ HW9.out.drew L 5 L 5 rfl rfl (by omega) (by omega) (by simp [wb_length]; omega)).mono ?_; rintro e w10 ⟨rfl, hw10, hb10, hk10⟩; have HW10 : Hid (Wr w10 base P cnt (cs ++ wb 1 1 ++ wb 1 1 ++ wb 5 L) { s with v := v }) := hw10; have HB10 : Hid (Below base w w10) := HB9.out.drew.trans hb10; have hi10 : WinAt w10 B0 L Z := hk10 _ _ _ _ hPB (by decide) HI9.out; have HI10 : Hid (WinAt w10 B0 L Z) := hi10; obtain ⟨m8, m9⟩ := hi10.cells; clear hw10 hb10 hk10 hi10))
      clear e8 e9 HW9 HB9 HI9
      go_wp2
      go_region_held3 (fun w' => w'.cell? ⟨B0, 0, none⟩ = some (.int .i64 L) ∧ w'.cell? ⟨B0, 1, none⟩ = some (.int .i64 Z))
        (first | exact ⟨m8, m9⟩ | exact ⟨p8, p9⟩)
        (first
          | (go_at_call 35; refine (put_of base P cnt _ _ _ HW10.out.drew _ 6 (Z - 1) 6 HZW.out rfl (by omega) (by omega) (by simp [wb_length]; omega)).mono ?_; rintro e w11 ⟨rfl, hw11, hb11, hk11⟩; have HW11 : Hid (Wr w11 base P cnt (cs ++ wb 1 1 ++ wb 1 1 ++ wb 5 L ++ wb 6 (Z - 1)) { s with v := v }) := hw11; have HB11 : Hid (Below base w w11) := HB10.out.drew.trans hb11; have hi11 : WinAt w11 B0 L Z := hk11 _ _ _ _ hPB (by decide) HI10.out; obtain ⟨p8, p9⟩ := hi11.cells; clear hw11 hb11 hk11 hi11))
      clear m8 m9 HW10 HB10 HI10
      obtain ⟨-, -, -, -, -, q6, q7, qf⟩ := HW11.out.cells
      have qf6 := qf 6
      have qf7 := qf 7
      have hB0P : P ≠ B0 := hPB.symm
      clear qf
      go_wp2
      have hw12 : Wr ((w11.setCell ⟨P, 6, none⟩ (.int .i64 L)).setCell ⟨P, 7, none⟩ (.int .i64 Z)) base P cnt (cs ++ wb 1 1 ++ wb 1 1 ++ wb 5 L ++ wb 6 (Z - 1)) { s with v := v, lead := L, size := Z } :=
        Wr.set (s := { s with v := v, lead := L }) (Wr.set HW11.out 6 (.int .i64 L) cnt { s with v := v, lead := L } (fun _ => rfl)) 7 (.int .i64 Z) cnt { s with v := v, lead := L, size := Z } (fun _ => rfl)
      have hb12 : Below base w ((w11.setCell ⟨P, 6, none⟩ (.int .i64 L)).setCell ⟨P, 7, none⟩ (.int .i64 Z)) := (HB11.out.setCell HW11.out.lt.1 _).setCell HW11.out.lt.1 _
      clear q6 q7 qf6 qf7 p8 p9 HW11 HB11
      generalize ((w11.setCell ⟨P, 6, none⟩ (.int .i64 L)).setCell ⟨P, 7, none⟩ (.int .i64 Z)) = w12 at *
      obtain ⟨-, -, -, -, -, r6, r7, -⟩ := hw12.cells
      have HW12 : Hid (Wr w12 base P cnt (cs ++ wb 1 1 ++ wb 1 1 ++ wb 5 L ++ wb 6 (Z - 1)) { s with v := v, lead := L, size := Z }) := hw12
      have HB12 : Hid (Below base w w12) := hb12
      clear hw12 hb12
      obtain ⟨tl, htl⟩ : ∃ tl, tl = 64 - L - Z := ⟨_, rfl⟩
      have htail : ∀ W, Calls Tryd.prog 48 #[.agg #[.int .i64 L, .int .i64 Z]] W fun e w' => e = .returned (.int .i64 (tl : Int)) ∧ Below W.heap.size W w' := fun W => by rw [htl]; exact tail_any L Z W (by omega)
      have HTAIL : Hid (∀ W, Calls Tryd.prog 48 #[.agg #[.int .i64 L, .int .i64 Z]] W fun e w' => e = .returned (.int .i64 (tl : Int)) ∧ Below W.heap.size W w') := htail
      have HTLE : Hid (tl = 64 - L - Z) := htl
      have htl64 : tl ≤ 64 := by omega
      have hsz64 : Z ≤ 64 := by omega
      have HSH : Hid ((x : Int) / 2 ^ tl = ((x >>> tl : Nat) : Int)) := by show _ = _; rw [Nat.shiftRight_eq_div_pow]; simp
      have HSL : Hid (x >>> tl < 18446744073709551616) := by show _ < _; rw [Nat.shiftRight_eq_div_pow]; exact Nat.lt_of_le_of_lt (Nat.div_le_self _ _) hxl
      have HC9 : Hid (∀ W', Below w12.heap.size w12 W' → Wr W' base P cnt (cs ++ wb 1 1 ++ wb 1 1 ++ wb 5 L ++ wb 6 (Z - 1)) { s with v := v, lead := L, size := Z } ∧ Below base w W') := fun W' hb => ⟨HW12.out.below hb, HB12.out.trans (hb.mono HW12.out.lt.2.1)⟩
      have HD9 : Hid (Below w12.heap.size w12 w12.drew) := (Below.refl _ _).drew
      clear htail htl
      go_region_held3 (fun w' => w'.cell? ⟨P, 6, none⟩ = some (.int .i64 L) ∧ w'.cell? ⟨P, 7, none⟩ = some (.int .i64 Z))
        (first | exact ⟨r6, r7⟩ | exact ⟨o6, o7⟩ | exact ⟨n6, n7⟩)
        (first
          | (go_at_call 48; refine (HTAIL.out _).mono ?_; clear HTAIL; rintro e w20 ⟨rfl, hb20⟩; obtain ⟨hw20, hbl20⟩ := HC9.out w20 (HD9.out.trans (hb20.mono HD9.out.size)); obtain ⟨-, -, -, -, -, o6, o7, -⟩ := hw20.cells; have HW20 : Hid (Wr w20 base P cnt (cs ++ wb 1 1 ++ wb 1 1 ++ wb 5 L ++ wb 6 (Z - 1)) { s with v := v, lead := L, size := Z }) := hw20; have HB20 : Hid (Below base w w20) := hbl20; clear hw20 hbl20 hb20)
          | (go_at_call 35; refine (put_of base P cnt _ _ _ HW20.out _ _ (x >>> tl) Z HSH.out rfl (by omega) HSL.out (by simp [wb_length]; omega)).mono ?_; rintro e w21 ⟨rfl, hw21, hb21, -⟩; obtain ⟨-, -, -, -, -, n6, n7, -⟩ := hw21.cells; have HW21 : Hid (Wr w21 base P cnt (cs ++ wb 1 1 ++ wb 1 1 ++ wb 5 L ++ wb 6 (Z - 1) ++ wb Z (x >>> tl)) { s with v := v, lead := L, size := Z }) := hw21; have HB21 : Hid (Below base w w21) := HB20.out.trans hb21; clear hw21 hb21))
      go_end0
      refine ⟨rfl, ?_, HB21.out⟩
      have hfin := HW21.out
      rw [HTLE.out, HTL.out] at hfin
      unfold valueB winL winS
      rw [if_neg hz, if_neg hz, if_neg hz, if_neg hh, if_neg hh, if_neg hh]
      have hZ1 : Z - 1 = 63 - L - tz x := by have := HZ.out; omega
      rw [hZ1] at hfin
      have hZ2 := HZ.out
      rw [hZ2] at hfin
      rw [HL.out] at hfin
      simp only [List.append_assoc] at hfin ⊢
      exact hfin

end Go.Proofs.YtkmclgbiedbfpaaDoor
