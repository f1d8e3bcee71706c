/- Running a program: a thread is followed. -/
import Derived.Test.YtmbkcmfcdjccoaaDoorMP44
namespace Go.Proofs.YtmbkcmfcdjccoaaDoor
open Go.RowKit Go.Maps

def prgK (K : FoK) : List Stp := K.ms.map Ms.st
/-- What holds of the threads, and of how many there are. -/
structure FoL (K : FoK) (a : Nat) (D : FoD) : Prop where
  lat : ∀ t ∈ D.lat, t.st < K.ms.length
  wait : ∀ t ∈ D.wait, t.st < K.ms.length
  few : D.lat.length + unmS a D.met ≤ 10000
  fewW : D.wait.length + unmS a D.met ≤ 10000
theorem ret_ex {v : Value} {R : Ending → Prop} (h : R (.returned v)) : R (.returned v) := h

set_option maxRecDepth 100000 in
set_option maxHeartbeats 6000000 in
theorem follow_any (C : Nat → Nat) (K : FoK) (D : FoD) (w : World) (t : Tm) (a fuel : Nat) (h : FoB C w K D) (ht : NtAt w (outC C w) t.l t.p) (hst : t.st < K.ms.length) (hcl : ClosedS (prgK K)) (hN : K.ms.length ≤ 3000) (hE : K.E ≤ 1000000000) (ha : a ≤ K.E) (hw : ∀ t ∈ D.wait, t.st < K.ms.length) (hwl : D.wait.length ≤ 5000) (hf : 3 * K.ms.length + 3 ≤ fuel) :
    Calls Tryd.prog 39 #[.pointer (some ⟨K.R, 0, none⟩), .slice D.wa D.wait.length D.wc, .agg #[.int .i64 t.st, .pointer t.p], .int .i64 a] w fun e w' => ∃ C' D', e = .returned D'.wv ∧ FoB C' w' K D' ∧ Mv S5 C w C' w' ∧ FoL K a D' ∧ D'.fs = folF (prgK K) K.E a K.nt fuel none { D.fs with lat := [t.th] } := by
  obtain ⟨R, hR⟩ : ∃ R, R = folF (prgK K) K.E a K.nt fuel none { D.fs with lat := [t.th] } := ⟨_, rfl⟩
  rw [← hR]
  have HB : Hid (FoB C w K D) := h
  have HT : Hid (NtAt w (outC C w) t.l t.p) := ht
  have HCL : Hid (ClosedS (prgK K)) := hcl
  have HW0 : Hid (∀ t ∈ D.wait, t.st < K.ms.length) := hw
  have hml := h.mlen
  have HRR : Hid (folF (prgK K) K.E a K.nt fuel none { D.fs with lat := [t.th] } = R) := hR.symm
  obtain ⟨r0, r1, r2, r3, r4, r5, r6, rf⟩ := h.cells
  have f4 := rf 4
  have hRl := h.Rlt
  clear rf h ht hcl hw hR
  go_enter Tryd.func39, Tryd.ntmps39
  go_wp2_with fail
  go_step3
  go_wp2_with fail
  go_cut [] from 11 to 21 (fun wx => ∃ (C1 : Nat → Nat) (la : Option Addr) (lc : Nat), Hid (FoB C1 wx K { D with la := la, lc := lc, lat := [t] } ∧ Mv S5 C w C1 wx))
  case first =>
    -- the world with the thread's box
    have m1 : Mv (fun _ => False) C w (paintC C w.heap.size 5) (w.alloc (.cells #[.int .i64 t.st, .pointer t.p] 91)) := ⟨(Kept.refl _ w).alloc _, fun b hb => by unfold paintC; rw [if_pos hb]⟩
    have h1 := HB.out.other m1 (fun _ _ h => h)
    have t1 := m1.nts (fun h => h) HT.out
    have hb0 : (w.alloc (.cells #[.int .i64 t.st, .pointer t.p] 91)).heap[w.heap.size]? = some (.cells #[.int .i64 t.st, .pointer t.p] 91) := heap_alloc_new _ _
    obtain ⟨W1, hW1⟩ : ∃ W1, W1 = w.alloc (.cells #[.int .i64 t.st, .pointer t.p] 91) := ⟨_, rfl⟩
    rw [← hW1] at m1 h1 t1 hb0 ⊢
    obtain ⟨C1, hC1⟩ : ∃ C1, C1 = paintC C w.heap.size 5 := ⟨_, rfl⟩
    rw [← hC1] at m1 h1 t1
    have b0 : W1.cell? ⟨w.heap.size, 0, none⟩ = some (.int .i64 t.st) := by rw [cell_of_heap hb0]; rfl
    have b1 : W1.cell? ⟨w.heap.size, 1, none⟩ = some (.pointer t.p) := by rw [cell_of_heap hb0]; rfl
    have x4 := h1.cells.r4
    have g4 := h1.cells.fr 4
    have hRl1 := h1.Rlt
    have HM : Hid (Mv (fun _ => False) C w C1 W1 ∧ FoB C1 W1 K D ∧ NtAt W1 (outC C1 W1) t.l t.p) := ⟨m1, h1, t1⟩
    have hrow : W1.ownsRow 0 91 2 (.slice D.la 0 D.lc) 0 (thC []) := by
      have h9 := row_cut h1.lat (m := 0) (Nat.zero_le _)
      simpa [thC] using h9
    clear m1 h1 t1 hb0 hC1 hW1 r0 r1 r2 r3 r4 r5 r6 f4 hRl HB HT HRR
    have hlac : D.la = none ∧ D.lat.length = 0 ∧ D.lc = 0 ∨ ∃ lg, D.la = some ⟨lg, 0, none⟩ ∧ D.lat.length ≤ D.lc ∧ D.lc ≤ maxLen := by
      rcases HM.out.2.1.lat.2 with ⟨e1, e2⟩ | ⟨g, cap, cur, e1, _, _, e3, e4, _⟩
      · injection e1 with e1 e2 e3
        exact Or.inl ⟨e1, e2, e3⟩
      · injection e1 with e1 _ e5
        subst e5
        exact Or.inr ⟨g, e1, e3, e4⟩
    have HL : Hid (∀ (W : World) {b : Nat}, W.heap.size = b → RowAt (W.alloc (.cells #[.int .i64 t.st, .pointer t.p] 91)) (.slice (some ⟨b, 0, none⟩) 1 1) 2 1 (tmC t)) := fun W b hb => loneTh W t hb
    have HB2 : Hid (∀ o, Below W1.heap.size W1 (W1.drew.alloc o)) := fun o => (Below.refl W1.heap.size W1).drew.alloc (Below.refl W1.heap.size W1).drew.size _
    have HB3 : Hid (∀ o, Below W1.heap.size W1 (W1.alloc o).drew) := fun o => ((Below.refl _ W1).alloc (Nat.le_refl _) o).drew
    have HR : Hid (∀ W, Below W1.heap.size W1 W → W.ownsRow 0 91 2 (.slice D.la 0 D.lc) 0 (thC [])) := fun W hW => row_below hrow hW
    have HSN : Hid (∀ W0 W5, Below W1.heap.size W1 W0 → W0.grownBy W5 (Value.slice D.la 0 D.lc).ownBlock → W5.cell? ⟨K.R, 4, none⟩ = some (.slice D.la D.lat.length D.lc) ∧ W5.frozen? ⟨K.R, 4, none⟩ = false) := fun W0 W5 hb hg => by
      have hlt := HM.out.2.1.Rlt
      have hne : (Value.slice D.la 0 D.lc).ownBlock ≠ some K.R := fun e => by
        have h9 := HM.out.2.1.cL K.R ((own_len _ _ _ _ _).trans e)
        rw [HM.out.2.1.cR] at h9
        omega
      have e9 := (hg.block K.R (Nat.lt_of_lt_of_le hlt hb.size) (fun e => hne e.symm)).trans ((hb.block K.R hlt).trans HM.out.2.1.run)
      exact ⟨by rw [cell_of_heap e9]; rfl, frozen_of_heap e9⟩
    have HP : Hid (∀ (o : Obj) (W5 : World) (a5 : Option Addr) (c5 : Nat) (x : Value), W5.ownsRow 0 91 2 (.slice a5 1 c5) 1 (thC [] ++ tmC t) → (W1.drew.alloc o).grownBy W5 (Value.slice D.la 0 D.lc).ownBlock → ((Value.slice a5 1 c5).ownBlock = (Value.slice D.la 0 D.lc).ownBlock ∨ (Value.slice a5 1 c5).ownBlock = some (W1.drew.alloc o).heap.size) → x = .slice a5 1 c5 → FoB (paintC C1 W1.drew.heap.size 3) (W5.setCell ⟨K.R, 4, none⟩ x) K { D with la := a5, lc := c5, lat := [t] } ∧ Mv S5 C w (paintC C1 W1.drew.heap.size 3) (W5.setCell ⟨K.R, 4, none⟩ x)) := fun o W5 a5 c5 x hr hg ho hx => by
      obtain ⟨k1, k2, k3⟩ := HM.out
      have k4 : FoB C1 W1.drew K D := k2.drewN 1
      have k5 : NtAt W1.drew (outC C1 W1.drew) t.l t.p := NtAt.to (W := W1) (W' := W1.drew) (fun _ h => h) (fun _ _ => rfl) k3
      obtain ⟨q1, q2⟩ := k4.pushLat (lat0 := []) (fun _ h => by cases h) k5 hr hg ho hx
      exact ⟨q1, ((k1.weak (fun _ h => h.elim)).drewN 1).trans (q2.weak (fun c hc => by rcases hc with rfl | rfl <;> exact ⟨by decide, by decide⟩))⟩
    clear HM hrow
    have htn := hst
    rcases hlac with ⟨e1, e2, e3⟩ | ⟨lg, e1, e2, e3⟩
    · rw [e1, e2, e3] at x4
      rw [e1, e3] at HR HSN HP
      clear e1 e2 e3
      go_region_law (refine step_append_row appTh _ (by rfl) _ _ (by rfl) 0 _ 0 (thC []) (by rfl) (HR.out _ (by first | exact HB2.out _ | exact HB3.out _)) _ 1 (tmC t) (by rfl) (HL.out _ (by first | rfl | simp)) (tmC_one t) (by omega) (Nat.zero_le _) ?_; intro a5 c5 w5 hr5 hg5 ho5; obtain ⟨x0, x1⟩ := HSN.out _ _ (by first | exact HB2.out _ | exact HB3.out _) hg5; have HF : Hid (∀ v, v = Value.slice a5 1 c5 → _) := (fun v hv => HP.out _ _ _ _ v hr5 hg5 ho5 hv); clear hr5 hg5 ho5)
      all_goals
        go_wp2_with fail
        go_meet
        case rel => exact ⟨_, a5, c5, HF.out _ rfl⟩
    · rw [e1] at x4 HR HSN HP
      unfold maxLen at e3
      clear e1
      generalize D.lat.length = LN at *
      generalize D.lc = LC at *
      go_region_law (refine step_append_row appTh _ (by rfl) _ _ (by rfl) 0 _ 0 (thC []) (by rfl) (HR.out _ (by first | exact HB2.out _ | exact HB3.out _)) _ 1 (tmC t) (by rfl) (HL.out _ (by first | rfl | simp)) (tmC_one t) (by omega) (Nat.zero_le _) ?_; intro a5 c5 w5 hr5 hg5 ho5; obtain ⟨x0, x1⟩ := HSN.out _ _ (by first | exact HB2.out _ | exact HB3.out _) hg5; have HF : Hid (∀ v, v = Value.slice a5 1 c5 → _) := (fun v hv => HP.out _ _ _ _ v hr5 hg5 ho5 hv); clear hr5 hg5 ho5)
      all_goals
        go_wp2_with fail
        go_meet
        case rel => exact ⟨_, a5, c5, HF.out _ rfl⟩
  case rest =>
    obtain ⟨C1, la, lc, HB1⟩ := hcut
    have hst1 : FoL K a { D with la := la, lc := lc, lat := [t] } := ⟨fun x hx => by rw [List.mem_singleton.1 hx]; exact hst, HW0.out, by have h9 := unm_le a D.met; show 1 + unmS a D.met ≤ 10000; omega, by have h9 := unm_le a D.met; show D.wait.length + unmS a D.met ≤ 10000; omega⟩
    have hlf : leftS a none (FoD.fs { D with la := la, lc := lc, lat := [t] }) < fuel := by
      have h9 := unm_le a D.met
      show 3 * unmS a D.met + 2 * 1 + 0 < fuel
      omega
    have HS0 : Hid (FoB C1 wc K { D with la := la, lc := lc, lat := [t] } ∧ Mv S5 C w C1 wc ∧ FoL K a { D with la := la, lc := lc, lat := [t] }) := ⟨HB1.out.1, HB1.out.2, hst1⟩
    clear HB1 hst1 HT HB HW0 r0 r1 r2 r3 r4 r5 r6 f4 hRl hml
    go_wp2_with fail
    go_step3
    go_wp2_with fail
    go_loopg [1] fuel (fun g wv wx => ∃ (C2 : Nat → Nat) (D2 : FoD), wv = .slice D2.wa D2.wait.length D2.wc ∧ leftS a none D2.fs < g ∧ Hid (FoB C2 wx K D2 ∧ Mv S5 C w C2 wx ∧ FoL K a D2) ∧ Hid (folF (prgK K) K.E a K.nt g none D2.fs = R))
    case atStart => exact ⟨C1, { D with la := la, lc := lc, lat := [t] }, rfl, hlf, HS0, HRR⟩
    case round =>
      clear HRR HS0 hlf
      obtain ⟨C2, D2, rfl, hlf, HS, HF⟩ := hrel
      cases gk with
      | zero => exact absurd hlf (Nat.not_lt_zero _)
      | succ g =>
        have hRl := HS.out.1.Rlt
        have r4 := HS.out.1.cells.r4
        have f4 := HS.out.1.cells.fr 4
        by_cases hne : D2.lat = []
        · have hR9 : D2.fs = R := by
            have h9 := HF.out
            unfold folF at h9
            have h8 : D2.fs.lat.getLast? = none := by unfold FoD.fs; rw [hne]; rfl
            rw [h8] at h9
            exact h9
          rw [hne] at r4
          clear HF
          go_wp2_with fail
          first | (rw [Exit.noGoto_ret]; go_ret) | go_ret
          exact ⟨C2, D2, rfl, HS.out.1, HS.out.2.1, HS.out.2.2, hR9⟩
        · obtain ⟨lg, tl, ela, hlast, hlg, hlc, hc0, hc1, hnt, hmem⟩ := HS.out.1.lastAt hne
          obtain ⟨n, hn⟩ : ∃ n, D2.lat.length = n + 1 := ⟨D2.lat.length - 1, by have := List.length_pos_iff.2 hne; omega⟩
          have hHF : folF (prgK K) K.E a K.nt g (some tl.th) { D2.fs with lat := D2.fs.lat.dropLast } = R := by
            have h9 := HF.out
            rw [folF] at h9
            have h8 : D2.fs.lat.getLast? = some tl.th := by
              unfold FoD.fs
              show (D2.lat.map Tm.th).getLast? = _
              rw [List.getLast?_map, hlast]
              rfl
            rw [h8] at h9
            exact h9
          have HF2 : Hid (folF (prgK K) K.E a K.nt g (some tl.th) { D2.fs with lat := D2.fs.lat.dropLast } = R) := hHF
          have HTN : Hid (NtAt wr (outC C2 wr) tl.l tl.p) := hnt
          have htl : tl.st < K.ms.length := HS.out.2.2.lat tl hmem
          have hcap : n + 1 ≤ D2.lc ∧ D2.lc ≤ maxLen := by
            rcases HS.out.1.lat.2 with ⟨e1, e2⟩ | ⟨g, cap, cur, e1, _, _, e3, e4, _⟩
            · omega
            · injection e1 with _ _ e5
              subst e5
              omega
          unfold maxLen at hcap
          obtain ⟨hcap1, hcap2⟩ := hcap
          rw [hn] at r4 hc0 hc1
          rw [ela] at r4
          simp only [Nat.add_sub_cancel] at hc0 hc1
          have hq1 : IntKind.i64.wrap (n : Int) = n := wrap_in (by omega) (by omega)
          have hq2 : IntKind.i64.wrap ((n : Int) + 1 - 1) = n := by rw [wrap_in (by omega) (by omega)]; omega
          have hq3 : IntKind.i64.wrap (((n + 1 : Nat) : Int) - 1) = n := by rw [wrap_in (by omega) (by omega)]; omega
          have hq4 : (n : Int) < ((n + 1 : Nat) : Int) := by omega
          have hq5 : (n : Int) < (n : Int) + 1 := by omega
          have hq6 : n < n + 1 := by omega
          have hq7 : (0 : Int) ≤ n := by omega
          clear hHF HF hnt hmem hne hlast
          go_wp2_with fail
          go_region_held3 (fun X => X.cell? ⟨K.R, 4, none⟩ = some (.slice (some ⟨lg, 0, none⟩) (n + 1) D2.lc) ∧ X.cell? ⟨lg, n * 2, none⟩ = some (.int .i64 tl.st) ∧ X.cell? ⟨lg, n * 2 + 1, none⟩ = some (.pointer tl.p)) (go_keep) (fail)
          all_goals
            go_wp2_with fail
          obtain ⟨T, hT⟩ : ∃ T, T = wr.heap.size := ⟨_, rfl⟩
          obtain ⟨WB, hWB⟩ : ∃ WB, WB = (wr.alloc (.cells #[.int .i64 tl.st, .pointer tl.p] 91)).drew := ⟨_, rfl⟩
          obtain ⟨C3, hC3⟩ : ∃ C3, C3 = paintC C2 wr.heap.size 5 := ⟨_, rfl⟩
          have hSB : FoB C3 WB K D2 ∧ TbS C3 WB T tl ∧ Mv S5 C w C3 WB := by
            obtain ⟨t1, t2⟩ := TbS.new (C := C2) (W := wr) (t := tl) HTN.out
            have t3 := (HS.out.1.other t2 (fun _ _ h => h)).drewN 1
            rw [hWB, hC3, hT]
            exact ⟨t3, t1.drewN 1, HS.out.2.1.trans ((t2.weak (fun _ h => h.elim)).drewN 1)⟩
          rw [← hWB, ← hT]
          have HSB : Hid (FoB C3 WB K D2 ∧ TbS C3 WB T tl ∧ Mv S5 C w C3 WB) := hSB
          have HL2 : Hid (FoL K a D2) := HS.out.2.2
          have r4b := hSB.1.cells.r4
          have f4b := hSB.1.cells.fr 4
          rw [ela, hn] at r4b
          clear hWB hC3 hT hSB HS HTN r4 f4 hc0 hc1 hRl
          go_cut [] from 22 to 172 (fun wx => Hid (FoB C3 wx K { D2 with lat := D2.lat.dropLast } ∧ TbS C3 wx T tl ∧ Mv S5 C w C3 wx))
          case first =>
            have HPO : Hid (∀ x, x = Value.slice D2.la (D2.lat.length - 1) D2.lc → FoB C3 (WB.drew.setCell ⟨K.R, 4, none⟩ x) K { D2 with lat := D2.lat.dropLast } ∧ TbS C3 (WB.drew.setCell ⟨K.R, 4, none⟩ x) T tl ∧ Mv S5 C w C3 (WB.drew.setCell ⟨K.R, 4, none⟩ x)) := fun x hx => by
              have k1 : FoB C3 WB.drew K D2 := HSB.out.1.drewN 1
              have k2 : TbS C3 WB.drew T tl := HSB.out.2.1.drewN 1
              obtain ⟨q1, q2⟩ := k1.popLat hx
              exact ⟨q1, k2.other q2 (by decide) (by decide), (HSB.out.2.2.drewN 1).trans (q2.weak (fun c hc => by subst hc; exact ⟨by decide, by decide⟩))⟩
            clear HSB HL2
            go_region
            all_goals
              go_wp2_with fail
              go_meet
              case rel => exact HPO.out _ (by rw [ela, hn]; first | rfl | simp)
          case rest =>
            have HS0 := hcut
            clear HSB r4b f4b
            have hlat2 : (FoD.fs { D2 with lat := D2.lat.dropLast }) = { D2.fs with lat := D2.fs.lat.dropLast } := by
              unfold FoD.fs
              simp [List.map_dropLast]
            have HF0 : Hid (folF (prgK K) K.E a K.nt g (some tl.th) (FoD.fs { D2 with lat := D2.lat.dropLast }) = R) := by
              show _ = _
              rw [hlat2]
              exact HF2.out
            have HS1 : Hid (FoB C3 wc K { D2 with lat := D2.lat.dropLast } ∧ TbS C3 wc T tl ∧ Mv S5 C w C3 wc ∧ FoL K a { D2 with lat := D2.lat.dropLast }) := by
              refine ⟨HS0.out.1, HS0.out.2.1, HS0.out.2.2, ⟨fun x hx => HL2.out.lat x (by rw [show ({ D2 with lat := D2.lat.dropLast } : FoD).lat = D2.lat.dropLast from rfl, List.dropLast_eq_take] at hx; exact List.mem_of_mem_take hx), HL2.out.wait, ?_, HL2.out.fewW⟩⟩
              have h9 := HL2.out.few
              show D2.lat.dropLast.length + unmS a D2.met ≤ 10000
              rw [List.length_dropLast]
              omega
            have hlf2 : leftS a (some tl.th) (FoD.fs { D2 with lat := D2.lat.dropLast }) < g := by
              have h9 : 3 * unmS a D2.met + 2 * (D2.lat.map Tm.th).length + 0 < g + 1 := hlf
              rw [List.length_map, hn] at h9
              show 3 * unmS a D2.met + 2 * (D2.lat.dropLast.map Tm.th).length + 1 < g
              rw [List.length_map, List.length_dropLast, hn]
              omega
            clear hcut HF2 HL2 HS0 hlat2 hlf hn ela hq1 hq2 hq3 hq4 hq5 hq6 hq7 hcap1 hcap2 hlc
            go_wp2_with fail
            go_loopg [1] g (fun g2 wv wx => ∃ (C4 : Nat → Nat) (D4 : FoD) (t4 : Tm), wv = .slice D4.wa D4.wait.length D4.wc ∧ leftS a (some t4.th) D4.fs < g2 ∧ g2 ≤ g ∧ t4.st < K.ms.length ∧ Hid (FoB C4 wx K D4 ∧ TbS C4 wx T t4 ∧ Mv S5 C w C4 wx ∧ FoL K a D4) ∧ Hid (folF (prgK K) K.E a K.nt g2 (some t4.th) D4.fs = R))
            case atStart => exact ⟨C3, { D2 with lat := D2.lat.dropLast }, tl, rfl, hlf2, Nat.le_refl _, htl, HS1, HF0⟩
            case round =>
              clear HS1 HF0 hlf2 htl
              obtain ⟨C4, D4, t4, rfl, hlf, hgg, hts, HS, HF⟩ := hrel
              cases gk with
              | zero => exact absurd hlf (Nat.not_lt_zero _)
              | succ g2 =>
                obtain ⟨⟨mv, hmv, q3⟩, hmf⟩ := HS.out.1.metAt hts
                obtain ⟨sb, hsa, hsF, hSC⟩ := stp_at HS.out.1.stp hts
                have r0 := HS.out.1.cells.r0
                have r3 := HS.out.1.cells.r3
                obtain ⟨c0, c1, cf⟩ := HS.out.2.1.cells
                have cf0 := cf 0
                have hRT : K.R ≠ T := fun e => by
                  have h8 := HS.out.2.1.c5
                  rw [← e, HS.out.1.cR] at h8
                  omega
                have hgT : K.gm ≠ T := fun e => by
                  have h8 := HS.out.2.1.c5
                  rw [← e, HS.out.1.cM] at h8
                  omega
                have hRg : K.R ≠ K.gm := fun e => by
                  have h8 := HS.out.1.cM
                  rw [← e, HS.out.1.cR] at h8
                  omega
                have hgR : K.gm ≠ K.R := fun e => hRg e.symm
                have hTR : T ≠ K.R := fun e => hRT e.symm
                have htz : (t4.st : Int) < K.ms.length := by omega
                have ht0 : (0 : Int) ≤ t4.st := by omega
                have hwa : IntKind.i64.wrap ((a : Int) + 1) = ((a + 1 : Nat) : Int) := by rw [wrap_in (by omega) (by omega)]; omega
                have hun : folF (prgK K) K.E a K.nt (g2 + 1) (some t4.th) D4.fs = R := HF.out
                rw [folF] at hun
                by_cases hm : mv = a + 1
                · have hne : ((mv : Int) != ((a + 1 : Nat) : Int)) = false := by simp; omega
                  have hR9 : Hid (folF (prgK K) K.E a K.nt g2 none D4.fs = R) := by
                    rw [if_pos (by show D4.met[t4.st]? = _; rw [hmv, hm])] at hun
                    exact hun
                  clear hun HF hSC hmf
                  go_wp2_with fail
                  go_quiet (fail)
                  go_wp2_with fail
                  go_roundg g2
                  case measure => omega
                  case rel => exact ⟨C4, D4, rfl, by have h9 : leftS a (some t4.th) D4.fs = leftS a none D4.fs + 1 := rfl; omega, ⟨HS.out.1.drewN _, HS.out.2.2.1.drewN _, HS.out.2.2.2⟩, hR9⟩
                · have hne : ((mv : Int) != ((a + 1 : Nat) : Int)) = true := by simp; omega
                  rw [if_neg (by show ¬ D4.met[t4.st]? = _; rw [hmv]; intro e; injection e with e; exact hm e)] at hun
                  have hPm : (prgK K)[t4.th.1]? = some (K.ms[t4.st]'hts).st := by
                    show (K.ms.map Ms.st)[t4.st]? = _
                    rw [List.getElem?_map, List.getElem?_eq_getElem hts]
                    rfl
                  have hnx := fun hy => HCL.out.step hPm hy
                  have htg := HCL.out.tgt _ _ hPm
                  have hpl : (prgK K).length = K.ms.length := by simp [prgK]
                  rw [hPm] at hun
                  rw [hpl] at hnx htg
                  have hok := HS.out.1.cls _ (List.getElem_mem hts)
                  obtain ⟨m, hmm⟩ : ∃ m, m = K.ms[t4.st]'hts := ⟨_, rfl⟩
                  rw [← hmm] at hun hnx htg hok
                  have HUN := hide hun
                  have HNX := hide hnx
                  have HTG := hide htg
                  have HOK := hide hok
                  clear hun HF hnx htg hPm hok
                  go_wp2_with fail
                  go_quiet (fail)
                  obtain ⟨nq0, hnq0⟩ : ∃ m, m = nq := ⟨_, rfl⟩
                  rw [← hnq0]
                  clear hnq0
                  go_wp2_with fail
                  go_region_held3 (fun X => X.cell? ⟨K.R, 3, none⟩ = some (.slice (some ⟨K.gm, 0, none⟩) K.ms.length K.mc) ∧ X.cell? ⟨T, 0, none⟩ = some (.int .i64 t4.st)) (go_keep) (fail)
                  all_goals
                    go_wp2_with fail
                  go_quiet (fail)
                  go_upto_region 9 with fail
                  have hS9 : FoB C4 ((((wr.drewN (nq0 + 1)).setCell ⟨K.gm, t4.st, none⟩ (.int .i64 ((a : Int) + 1))).drewN nq).setCell ⟨T, 0, none⟩ (.int .i64 ((t4.st : Int) + 1))) K { D4 with met := D4.met.set t4.st (a + 1) } ∧ TbS C4 ((((wr.drewN (nq0 + 1)).setCell ⟨K.gm, t4.st, none⟩ (.int .i64 ((a : Int) + 1))).drewN nq).setCell ⟨T, 0, none⟩ (.int .i64 ((t4.st : Int) + 1))) T ⟨t4.st + 1, t4.p, t4.l⟩ ∧ Mv S5 C w C4 ((((wr.drewN (nq0 + 1)).setCell ⟨K.gm, t4.st, none⟩ (.int .i64 ((a : Int) + 1))).drewN nq).setCell ⟨T, 0, none⟩ (.int .i64 ((t4.st : Int) + 1))) := by
                    obtain ⟨q1, q2, q3⟩ := (HS.out.1.drewN (nq0 + 1)).putMet t4.st (a + 1) (x := .int .i64 ((a : Int) + 1)) (by simp)
                    have k2 := ((HS.out.2.1.drewN (nq0 + 1)).other q3 (by decide) (by decide)).drewN nq
                    obtain ⟨u1, u2⟩ := k2.step (t4.st + 1) (x := .int .i64 ((t4.st : Int) + 1)) (by simp)
                    exact ⟨(q1.drewN nq).other u2 (fun c hc => by omega), u1, ((HS.out.2.2.1.drewN (nq0 + 1)).trans (q2.drewN nq)).trans (u2.weak (fun c hc => by subst hc; exact ⟨by decide, by decide⟩))⟩
                  have hum := unm_set (met := D4.met) (a := a) (i := t4.st) (by have := HS.out.1.mlen; omega) (by rw [hmv]; intro e; injection e with e; exact hm e)
                  have hL9 := HS.out.2.2.2
                  generalize ((((wr.drewN (nq0 + 1)).setCell ⟨K.gm, t4.st, none⟩ (.int .i64 ((a : Int) + 1))).drewN nq).setCell ⟨T, 0, none⟩ (.int .i64 ((t4.st : Int) + 1))) = W9 at hS9 ⊢
                  obtain ⟨D9, hD9⟩ : ∃ D9 : FoD, D9 = { D4 with met := D4.met.set t4.st (a + 1) } := ⟨_, rfl⟩
                  have hlf9 : leftS a none D9.fs + 3 < g2 := by
                    have h9 : 3 * unmS a D4.met + 2 * (D4.lat.map Tm.th).length + 1 < g2 + 1 := hlf
                    rw [hD9]
                    show 3 * unmS a (D4.met.set t4.st (a + 1)) + 2 * (D4.lat.map Tm.th).length + 0 + 3 < g2
                    omega
                  have hL9' : FoL K a D9 ∧ D9.lat.length + 1 + unmS a D9.met ≤ 10000 ∧ D9.wait.length + 1 + unmS a D9.met ≤ 10000 := by
                    obtain ⟨l1, l2, l3, l4⟩ := hL9
                    rw [hD9]
                    refine ⟨⟨l1, l2, ?_, ?_⟩, ?_, ?_⟩
                    · show D4.lat.length + unmS a (D4.met.set t4.st (a + 1)) ≤ 10000; omega
                    · show D4.wait.length + unmS a (D4.met.set t4.st (a + 1)) ≤ 10000; omega
                    · show D4.lat.length + 1 + unmS a (D4.met.set t4.st (a + 1)) ≤ 10000; omega
                    · show D4.wait.length + 1 + unmS a (D4.met.set t4.st (a + 1)) ≤ 10000; omega
                  have hwa9 : D4.wa = D9.wa ∧ D4.wait = D9.wait ∧ D4.wc = D9.wc := by rw [hD9]; exact ⟨rfl, rfl, rfl⟩
                  have hfs : ∀ x : FS, x = { D4.fs with met := D4.fs.met.set t4.th.1 (a + 1) } ↔ x = D9.fs := fun x => by rw [hD9]; exact Iff.rfl
                  have hfs9 : ({ D4.fs with met := D4.fs.met.set t4.th.1 (a + 1) } : FS) = D9.fs := by rw [hD9]; rfl
                  have hfm : D4.fs.met.set t4.th.1 (a + 1) = D9.fs.met ∧ D4.fs.wait = D9.fs.wait ∧ D4.fs.lat = D9.fs.lat ∧ D4.fs.fnd = D9.fs.fnd := by rw [hD9]; exact ⟨rfl, rfl, rfl, rfl⟩
                  rw [← hD9] at hS9
                  rw [hwa9.1, hwa9.2.1, hwa9.2.2]
                  obtain ⟨sb9, hsa9, -, hSC9⟩ := stp_at hS9.1.stp hts
                  rw [hsa] at hsa9
                  injection hsa9 with hsa9
                  injection hsa9 with hsa9
                  subst hsa9
                  rw [← hmm] at hSC9
                  obtain ⟨s0, s1, s2, s3, s4⟩ := hSC9
                  have z1 := hS9.1.cells.r1
                  have z2 := hS9.1.cells.r2
                  have z4 := hS9.1.cells.r4
                  have z5 := hS9.1.cells.r5
                  have z6 := hS9.1.cells.r6
                  have g4 := hS9.1.cells.fr 4
                  have g5 := hS9.1.cells.fr 5
                  have g6 := hS9.1.cells.fr 6
                  have hR9l := hS9.1.Rlt
                  have hT9l := hS9.2.1.lt
                  obtain ⟨c0, c1, cf⟩ := hS9.2.1.cells
                  have cf0 := cf 0
                  have cf1 := cf 1
                  clear cf
                  have HS9 := hide hS9
                  have HL9 := hide hL9'
                  have HFS := hide hfm
                  clear hS9 hL9 hL9' hD9 hfs hfs9 hfm hwa9 HS hlf hmv hmf hum hm hmm hSC r0 r3 q3
                  cases hk : m.st with
                  | take l neg =>
                    rw [hk] at s0 HUN
                    dsimp only [stK] at s0
                    have HFIN : Hid (folF (prgK K) K.E a K.nt g2 none { D9.fs with wait := D9.fs.wait ++ [t4.th] } = R) := by
                      have h9 := HUN.out
                      dsimp only at h9
                      rw [HFS.out.1, HFS.out.2.1, HFS.out.2.2.1, HFS.out.2.2.2] at h9
                      exact h9
                    have HW10 : Hid (∀ x, x = Value.int .i64 (t4.st : Int) → FoB C4 (W9.setCell ⟨T, 0, none⟩ x) K D9 ∧ TbS C4 (W9.setCell ⟨T, 0, none⟩ x) T t4 ∧ Mv S5 C w C4 (W9.setCell ⟨T, 0, none⟩ x)) := fun x hx => by
                      obtain ⟨u1, u2⟩ := HS9.out.2.1.step t4.st hx
                      exact ⟨HS9.out.1.other u2 (fun c hc => by omega), u1, HS9.out.2.2.trans (u2.weak (fun c hc => by subst hc; exact ⟨by decide, by decide⟩))⟩
                    have hlw : D9.wait.length + 1 ≤ 10000 := by have := HL9.out.2.2; omega
                    clear HUN hk
                    go_wp2_with (at_builtin; refine wpList_append_row appTh _ rfl _ _ rfl 0 (.slice D9.wa D9.wait.length D9.wc) D9.wait.length (thC D9.wait) rfl (row_below (HW10.out _ rfl).1.wai ((Below.refl _ _).alloc (Nat.le_refl _) _)) _ 1 (tmC t4) rfl (loneTh _ t4 (by simp)) (tmC_one _) (by omega) (Nat.zero_le _) ?_; intro a5 c5 w5 hr5 hg5 ho5; have HPW := hide ((HW10.out _ rfl).1.pushWait (HW10.out _ rfl).2.1.nts hr5 hg5 ho5); have HMV := hide (HW10.out _ rfl).2.2; clear hr5 hg5 ho5)
                    go_roundg g2
                    case measure => omega
                    case rel =>
                      refine ⟨_, { D9 with wa := a5, wc := c5, wait := D9.wait ++ [t4] }, by simp, ?_, ⟨HPW.out.1, HMV.out.trans (HPW.out.2.weak (fun c hc => by subst hc; exact ⟨by decide, by decide⟩)), ⟨HL9.out.1.lat, fun y hy => ?_, HL9.out.1.few, ?_⟩⟩, ?_⟩
                      · have h9 : leftS a none (FoD.fs { D9 with wa := a5, wc := c5, wait := D9.wait ++ [t4] }) = leftS a none D9.fs := rfl
                        omega
                      · rcases List.mem_append.1 hy with hy | hy
                        · exact HL9.out.1.wait y hy
                        · rw [List.mem_singleton.1 hy]; exact hts
                      · have h9 := HL9.out.2.2
                        show (D9.wait ++ [t4]).length + unmS a D9.met ≤ 10000
                        rw [List.length_append]
                        exact h9
                      · have h9 := HFIN.out
                        show folF _ _ _ _ _ _ (FoD.fs { D9 with wa := a5, wc := c5, wait := D9.wait ++ [t4] }) = R
                        have h8 : FoD.fs { D9 with wa := a5, wc := c5, wait := D9.wait ++ [t4] } = { D9.fs with wait := D9.fs.wait ++ [t4.th] } := by
                          unfold FoD.fs
                          simp
                        rw [h8]
                        exact h9
                  | start =>
                    rw [hk] at s0 HUN
                    dsimp only [stK] at s0
                    have hnx := HNX.out (by rw [hk]; intro e; cases e)
                    clear hk
                    by_cases hcc : 0 < a
                    · have hcd : decide ((0 : Int) < a) = true := decide_eq_true (by omega)
                      have HFIN : Hid (folF (prgK K) K.E a K.nt g2 none D9.fs = R) := by
                        have h9 := HUN.out
                        dsimp only at h9
                        rw [HFS.out.1, HFS.out.2.1, HFS.out.2.2.1, HFS.out.2.2.2] at h9
                        rw [if_pos hcc] at h9
                        exact h9
                      clear HUN
                      go_wp2_with fail
                      go_roundg g2
                      case measure => omega
                      case rel => exact ⟨C4, D9, rfl, by omega, ⟨HS9.out.1, HS9.out.2.2, HL9.out.1⟩, HFIN.out⟩
                    · have hcd : decide ((0 : Int) < a) = false := decide_eq_false (by omega)
                      have HFIN : Hid (folF (prgK K) K.E a K.nt g2 (some (t4.st + 1, t4.l)) D9.fs = R) := by
                        have h9 := HUN.out
                        dsimp only at h9
                        rw [HFS.out.1, HFS.out.2.1, HFS.out.2.2.1, HFS.out.2.2.2] at h9
                        rw [if_neg hcc] at h9
                        exact h9
                      clear HUN
                      go_wp2_with fail
                      go_roundg g2
                      case measure => omega
                      case rel => exact ⟨C4, D9, ⟨t4.st + 1, t4.p, t4.l⟩, rfl, by (have h9 : leftS a (some (Tm.th ⟨t4.st + 1, t4.p, t4.l⟩)) D9.fs = leftS a none D9.fs + 1 := rfl); omega, by omega, hnx, ⟨HS9.out.1, HS9.out.2.1, HS9.out.2.2, HL9.out.1⟩, HFIN.out⟩
                  | stop =>
                    rw [hk] at s0 HUN
                    dsimp only [stK] at s0
                    have hnx := HNX.out (by rw [hk]; intro e; cases e)
                    clear hk
                    by_cases hcc : a < K.E
                    · have hcd : decide ((a : Int) < K.E) = true := decide_eq_true (by omega)
                      have HFIN : Hid (folF (prgK K) K.E a K.nt g2 none D9.fs = R) := by
                        have h9 := HUN.out
                        dsimp only at h9
                        rw [HFS.out.1, HFS.out.2.1, HFS.out.2.2.1, HFS.out.2.2.2] at h9
                        rw [if_pos hcc] at h9
                        exact h9
                      clear HUN
                      go_wp2_with fail
                      go_roundg g2
                      case measure => omega
                      case rel => exact ⟨C4, D9, rfl, by omega, ⟨HS9.out.1, HS9.out.2.2, HL9.out.1⟩, HFIN.out⟩
                    · have hcd : decide ((a : Int) < K.E) = false := decide_eq_false (by omega)
                      have HFIN : Hid (folF (prgK K) K.E a K.nt g2 (some (t4.st + 1, t4.l)) D9.fs = R) := by
                        have h9 := HUN.out
                        dsimp only at h9
                        rw [HFS.out.1, HFS.out.2.1, HFS.out.2.2.1, HFS.out.2.2.2] at h9
                        rw [if_neg hcc] at h9
                        exact h9
                      clear HUN
                      go_wp2_with fail
                      go_roundg g2
                      case measure => omega
                      case rel => exact ⟨C4, D9, ⟨t4.st + 1, t4.p, t4.l⟩, rfl, by (have h9 : leftS a (some (Tm.th ⟨t4.st + 1, t4.p, t4.l⟩)) D9.fs = leftS a none D9.fs + 1 := rfl); omega, by omega, hnx, ⟨HS9.out.1, HS9.out.2.1, HS9.out.2.2, HL9.out.1⟩, HFIN.out⟩
                  | note k =>
                    rw [hk] at s0 s2 HUN
                    dsimp only [stK] at s0 s2
                    have hnx := HNX.out (by rw [hk]; intro e; cases e)
                    clear hk
                    cases hnt : K.nt with
                    | false =>
                      rw [hnt] at z2
                      have HFIN : Hid (folF (prgK K) K.E a K.nt g2 (some (t4.st + 1, t4.l)) D9.fs = R) := by
                        have h9 := HUN.out
                        dsimp only at h9
                        rw [HFS.out.1, HFS.out.2.1, HFS.out.2.2.1, HFS.out.2.2.2] at h9
                        rw [if_neg (by rw [hnt]; simp)] at h9
                        exact h9
                      clear HUN
                      go_wp2_with fail
                      go_roundg g2
                      case measure => omega
                      case rel => exact ⟨C4, D9, ⟨t4.st + 1, t4.p, t4.l⟩, rfl, by (have h9 : leftS a (some (Tm.th ⟨t4.st + 1, t4.p, t4.l⟩)) (FoD.fs D9) = leftS a none D9.fs + 1 := rfl); omega, by omega, hnx, ⟨HS9.out.1, HS9.out.2.1, HS9.out.2.2, HL9.out.1⟩, HFIN.out⟩
                    | true =>
                      rw [hnt] at z2
                      have HFIN : Hid (folF (prgK K) K.E a K.nt g2 (some (t4.st + 1, (k, a) :: t4.l)) D9.fs = R) := by
                        have h9 := HUN.out
                        dsimp only at h9
                        rw [HFS.out.1, HFS.out.2.1, HFS.out.2.2.1, HFS.out.2.2.2] at h9
                        rw [if_pos hnt] at h9
                        exact h9
                      have HNN : Hid (∀ x, x = Value.pointer (some ⟨W9.drew.heap.size, 0, none⟩) → FoB (paintC C4 W9.drew.heap.size 0) ((W9.drew.setCell ⟨T, 1, none⟩ x).alloc (.cells #[.int .i64 (k : Int), .int .i64 (a : Int), .pointer t4.p] 80)) K D9 ∧ TbS (paintC C4 W9.drew.heap.size 0) ((W9.drew.setCell ⟨T, 1, none⟩ x).alloc (.cells #[.int .i64 (k : Int), .int .i64 (a : Int), .pointer t4.p] 80)) T ⟨t4.st + 1, some ⟨W9.drew.heap.size, 0, none⟩, (k, a) :: t4.l⟩ ∧ Mv S5 C w (paintC C4 W9.drew.heap.size 0) ((W9.drew.setCell ⟨T, 1, none⟩ x).alloc (.cells #[.int .i64 (k : Int), .int .i64 (a : Int), .pointer t4.p] 80))) := fun x hx => by
                        have k1 : FoB C4 W9.drew K D9 := HS9.out.1.drewN 1
                        have k2 : TbS C4 W9.drew T ⟨t4.st + 1, t4.p, t4.l⟩ := HS9.out.2.1.drewN 1
                        obtain ⟨u1, u2⟩ := k2.note k a hx
                        exact ⟨k1.other u2 (fun c hc => by omega), u1, (HS9.out.2.2.drewN 1).trans (u2.weak (fun c hc => by subst hc; exact ⟨by decide, by decide⟩))⟩
                      clear HUN
                      go_wp2_with fail
                      go_region
                      all_goals
                        go_wp2_with fail
                        go_roundg g2
                        case measure => omega
                        case rel => exact ⟨_, D9, ⟨t4.st + 1, some ⟨W9.drew.heap.size, 0, none⟩, (k, a) :: t4.l⟩, rfl, by (have h9 : leftS a (some (Tm.th ⟨t4.st + 1, some ⟨W9.drew.heap.size, 0, none⟩, (k, a) :: t4.l⟩)) D9.fs = leftS a none D9.fs + 1 := rfl); omega, by omega, hnx, ⟨(HNN.out _ rfl).1, (HNN.out _ rfl).2.1, (HNN.out _ rfl).2.2, HL9.out.1⟩, HFIN.out⟩
                  | fork x y =>
                    rw [hk] at s0 s3 s4 HUN HTG
                    dsimp only [stK] at s0 s3 s4
                    obtain ⟨hx9, hy9⟩ := HTG.out
                    clear hk
                    have HFIN : Hid (folF (prgK K) K.E a K.nt g2 (some (x, t4.l)) { D9.fs with lat := D9.fs.lat ++ [(y, t4.l)] } = R) := by
                      have h9 := HUN.out
                      dsimp only at h9
                      rw [HFS.out.1, HFS.out.2.1, HFS.out.2.2.1, HFS.out.2.2.2] at h9
                      exact h9
                    have hsb0 := HS9.out.1.cF sb (by assumption)
                    have hsR : sb ≠ K.R := fun e => by
                      have h8 := hsb0.2
                      rw [e, HS9.out.1.cR] at h8
                      omega
                    have hsT : sb ≠ T := fun e => by
                      have h8 := hsb0.2
                      rw [e, HS9.out.2.1.c5] at h8
                      omega
                    have hsbl := hsb0.1
                    have HLO : Hid (∀ (W : World) {b : Nat}, W.heap.size = b → RowAt (W.alloc (.cells #[.int .i64 (y : Int), .pointer t4.p] 91)) (.slice (some ⟨b, 0, none⟩) 1 1) 2 1 (tmC ⟨y, t4.p, t4.l⟩)) := fun W b hb => loneTh W ⟨y, t4.p, t4.l⟩ hb
                    have HB2 : Hid (∀ o, Below W9.heap.size W9 (W9.drew.alloc o)) := fun o => (Below.refl W9.heap.size W9).drew.alloc (Below.refl W9.heap.size W9).drew.size _
                    have HB3 : Hid (∀ o, Below W9.heap.size W9 (W9.alloc o).drew) := fun o => ((Below.refl _ W9).alloc (Nat.le_refl _) o).drew
                    have HRW : Hid (∀ W, Below W9.heap.size W9 W → W.ownsRow 0 91 2 (.slice D9.la D9.lat.length D9.lc) D9.lat.length (thC D9.lat)) := fun W hW => row_below HS9.out.1.lat hW
                    have HSN : Hid (∀ W0 W5, Below W9.heap.size W9 W0 → W0.grownBy W5 (Value.slice D9.la D9.lat.length D9.lc).ownBlock → W5.cell? ⟨K.R, 4, none⟩ = some (.slice D9.la D9.lat.length D9.lc) ∧ W5.frozen? ⟨K.R, 4, none⟩ = false ∧ W5.cell? ⟨sb, t4.st * 5 + 3, none⟩ = some (.int .i64 (x : Int)) ∧ W5.cell? ⟨T, 0, none⟩ = some (.int .i64 ((t4.st + 1 : Nat) : Int)) ∧ W5.frozen? ⟨T, 0, none⟩ = false) := fun W0 W5 hb hg => by
                      have hcl : ∀ b, b < W9.heap.size → C4 b ≠ 3 → W5.heap[b]? = W9.heap[b]? := fun b hbl hc => (hg.block b (Nat.lt_of_lt_of_le hbl hb.size) (fun e => hc (HS9.out.1.cL b e.symm))).trans (hb.block b hbl)
                      have e1 := (hcl K.R HS9.out.1.Rlt (by rw [HS9.out.1.cR]; decide)).trans HS9.out.1.run
                      have e2 := (hcl T HS9.out.2.1.lt (by rw [HS9.out.2.1.c5]; decide)).trans HS9.out.2.1.blk
                      exact ⟨by rw [cell_of_heap e1]; rfl, frozen_of_heap e1, (World.cell?_of_block (hcl sb hsbl (by rw [hsb0.2]; decide))).trans s3, by rw [cell_of_heap e2]; rfl, frozen_of_heap e2⟩
                    have HP : Hid (∀ (o : Obj) (W5 : World) (a5 : Option Addr) (c5 : Nat) (v z : Value), W5.ownsRow 0 91 2 (.slice a5 (D9.lat.length + 1) c5) (D9.lat.length + 1) (thC D9.lat ++ tmC ⟨y, t4.p, t4.l⟩) → (W9.drew.alloc o).grownBy W5 (Value.slice D9.la D9.lat.length D9.lc).ownBlock → ((Value.slice a5 (D9.lat.length + 1) c5).ownBlock = (Value.slice D9.la D9.lat.length D9.lc).ownBlock ∨ (Value.slice a5 (D9.lat.length + 1) c5).ownBlock = some (W9.drew.alloc o).heap.size) → v = .slice a5 (D9.lat.length + 1) c5 → z = .int .i64 (x : Int) → FoB (paintC C4 W9.drew.heap.size 3) ((W5.setCell ⟨K.R, 4, none⟩ v).setCell ⟨T, 0, none⟩ z) K { D9 with la := a5, lc := c5, lat := D9.lat ++ [⟨y, t4.p, t4.l⟩] } ∧ TbS (paintC C4 W9.drew.heap.size 3) ((W5.setCell ⟨K.R, 4, none⟩ v).setCell ⟨T, 0, none⟩ z) T ⟨x, t4.p, t4.l⟩ ∧ Mv S5 C w (paintC C4 W9.drew.heap.size 3) ((W5.setCell ⟨K.R, 4, none⟩ v).setCell ⟨T, 0, none⟩ z)) := fun o W5 a5 c5 v z hr hg ho hv hz => by
                      have k1 : FoB C4 W9.drew K D9 := HS9.out.1.drewN 1
                      have k2 : TbS C4 W9.drew T ⟨t4.st + 1, t4.p, t4.l⟩ := HS9.out.2.1.drewN 1
                      obtain ⟨q1, q2⟩ := k1.pushLat (lat0 := D9.lat) (fun _ h => h) (t := ⟨y, t4.p, t4.l⟩) k2.nts hr hg ho hv
                      have k3 := k2.other q2 (by decide) (by decide)
                      obtain ⟨u1, u2⟩ := k3.step x hz
                      exact ⟨q1.other u2 (fun c hc => by omega), u1, ((HS9.out.2.2.drewN 1).trans (q2.weak (fun c hc => by rcases hc with rfl | rfl <;> exact ⟨by decide, by decide⟩))).trans (u2.weak (fun c hc => by subst hc; exact ⟨by decide, by decide⟩))⟩
                    have hll : D9.lat.length + 1 ≤ 10000 := by have := HL9.out.2.1; omega
                    clear HUN
                    go_wp2_with fail
                    go_region_law (refine step_append_row appTh _ (by rfl) _ _ (by rfl) 0 _ D9.lat.length (thC D9.lat) (by rfl) (HRW.out _ (by first | exact HB2.out _ | exact HB3.out _)) _ 1 (tmC ⟨y, t4.p, t4.l⟩) (by rfl) (HLO.out _ (by first | rfl | simp)) (tmC_one _) (by omega) (Nat.zero_le _) ?_; intro a5 c5 w5 hr5 hg5 ho5; obtain ⟨x0, x1, x2, x3, x4⟩ := HSN.out _ _ (by first | exact HB2.out _ | exact HB3.out _) hg5; have HF5 := hide (fun v z hv hz => HP.out _ _ _ _ v z hr5 hg5 ho5 hv hz); clear hr5 hg5 ho5)
                    all_goals
                      go_wp2_with fail
                      go_roundg g2
                      case measure => omega
                      case rel =>
                        refine ⟨_, { D9 with la := a5, lc := c5, lat := D9.lat ++ [⟨y, t4.p, t4.l⟩] }, ⟨x, t4.p, t4.l⟩, rfl, ?_, by omega, hx9, ⟨(HF5.out _ _ rfl rfl).1, (HF5.out _ _ rfl rfl).2.1, (HF5.out _ _ rfl rfl).2.2, ⟨fun u hu => ?_, HL9.out.1.wait, ?_, HL9.out.1.fewW⟩⟩, ?_⟩
                        · have h9 : leftS a none D9.fs = 3 * unmS a D9.met + 2 * (D9.lat.map Tm.th).length + 0 := rfl
                          show 3 * unmS a D9.met + 2 * ((D9.lat ++ [(⟨y, t4.p, t4.l⟩ : Tm)]).map Tm.th).length + 1 < g2
                          rw [List.length_map] at h9 ⊢
                          rw [List.length_append]
                          simp only [List.length_singleton]
                          omega
                        · rcases List.mem_append.1 hu with hu | hu
                          · exact HL9.out.1.lat u hu
                          · rw [List.mem_singleton.1 hu]; exact hy9
                        · have h9 := HL9.out.2.1
                          show (D9.lat ++ [(⟨y, t4.p, t4.l⟩ : Tm)]).length + unmS a D9.met ≤ 10000
                          rw [List.length_append]
                          exact h9
                        · have h9 := HFIN.out
                          have h8 : FoD.fs { D9 with la := a5, lc := c5, lat := D9.lat ++ [⟨y, t4.p, t4.l⟩] } = { D9.fs with lat := D9.fs.lat ++ [(y, t4.l)] } := by
                            unfold FoD.fs
                            simp [Tm.th]
                          show folF _ _ _ _ _ _ (FoD.fs { D9 with la := a5, lc := c5, lat := D9.lat ++ [⟨y, t4.p, t4.l⟩] }) = R
                          rw [h8]
                          exact h9
                  | jump x =>
                    rw [hk] at s0 s3 HUN HTG
                    dsimp only [stK] at s0 s3
                    have hx9 : x < K.ms.length := HTG.out
                    clear hk
                    have HFIN : Hid (folF (prgK K) K.E a K.nt g2 (some (x, t4.l)) D9.fs = R) := by
                      have h9 := HUN.out
                      dsimp only at h9
                      rw [HFS.out.1, HFS.out.2.1, HFS.out.2.2.1, HFS.out.2.2.2] at h9
                      exact h9
                    have HW10 : Hid (∀ z, z = Value.int .i64 (x : Int) → FoB C4 (W9.setCell ⟨T, 0, none⟩ z) K D9 ∧ TbS C4 (W9.setCell ⟨T, 0, none⟩ z) T ⟨x, t4.p, t4.l⟩ ∧ Mv S5 C w C4 (W9.setCell ⟨T, 0, none⟩ z)) := fun z hz => by
                      obtain ⟨u1, u2⟩ := HS9.out.2.1.step x hz
                      exact ⟨HS9.out.1.other u2 (fun c hc => by omega), u1, HS9.out.2.2.trans (u2.weak (fun c hc => by subst hc; exact ⟨by decide, by decide⟩))⟩
                    clear HUN
                    go_wp2_with fail
                    go_roundg g2
                    case measure => omega
                    case rel => exact ⟨C4, D9, ⟨x, t4.p, t4.l⟩, rfl, by (have h9 : leftS a (some (Tm.th ⟨x, t4.p, t4.l⟩)) (FoD.fs D9) = leftS a none D9.fs + 1 := rfl); omega, by omega, hx9, ⟨(HW10.out _ rfl).1, (HW10.out _ rfl).2.1, (HW10.out _ rfl).2.2, HL9.out.1⟩, HFIN.out⟩
                  | yes =>
                    rw [hk] at s0 HUN
                    dsimp only [stK] at s0
                    clear hk
                    by_cases hcc : a < K.E
                    · have hcd : decide ((a : Int) < K.E) = true := decide_eq_true (by omega)
                      have HFIN : Hid (folF (prgK K) K.E a K.nt g2 none D9.fs = R) := by
                        have h9 := HUN.out
                        dsimp only at h9
                        rw [HFS.out.1, HFS.out.2.1, HFS.out.2.2.1, HFS.out.2.2.2] at h9
                        rw [if_pos hcc] at h9
                        exact h9
                      clear HUN
                      go_wp2_with fail
                      go_roundg g2
                      case measure => omega
                      case rel => exact ⟨C4, D9, rfl, by omega, ⟨HS9.out.1, HS9.out.2.2, HL9.out.1⟩, HFIN.out⟩
                    · have hcd : decide ((a : Int) < K.E) = false := decide_eq_false (by omega)
                      have HFIN : Hid ({ D9.fs with fnd := some t4.l } = R) := by
                        have h9 := HUN.out
                        dsimp only at h9
                        rw [HFS.out.1, HFS.out.2.1, HFS.out.2.2.1, HFS.out.2.2.2] at h9
                        rw [if_neg hcc] at h9
                        exact h9
                      have HFO : Hid (FoB C4 ((W9.setCell ⟨K.R, 5, none⟩ (.bool true)).setCell ⟨K.R, 6, none⟩ (.pointer t4.p)) K { D9 with fnd := true, fp := t4.p, fl := t4.l } ∧ Mv S5 C w C4 ((W9.setCell ⟨K.R, 5, none⟩ (.bool true)).setCell ⟨K.R, 6, none⟩ (.pointer t4.p))) := by
                        obtain ⟨q1, q2⟩ := HS9.out.1.found HS9.out.2.1.nts
                        exact ⟨q1, HS9.out.2.2.trans (q2.weak (fun c hc => by subst hc; exact ⟨by decide, by decide⟩))⟩
                      clear HUN
                      go_wp2_with fail
                      go_region_held3 (fun X => X.cell? ⟨T, 1, none⟩ = some (.pointer t4.p)) (go_keep) (fail)
                      all_goals
                        go_wp2_with fail
                        first | (rw [Exit.noGoto_ret]; go_ret) | go_ret
                        exact ⟨C4, { D9 with fnd := true, fp := t4.p, fl := t4.l }, rfl, HFO.out.1.drewN 1, HFO.out.2.drewN 1, ⟨HL9.out.1.lat, HL9.out.1.wait, HL9.out.1.few, HL9.out.1.fewW⟩, HFIN.out⟩
end Go.Proofs.YtmbkcmfcdjccoaaDoor
