/- without, walked. -/
import Derived.Test.YtjnjmpfldbkciaaGreatMG3
namespace Go.Proofs.YtjnjmpfldbkciaaGreat
open Go.RowKit Go.Maps Go.Sort Go.Shelf
attribute [local go_sem] run_store_fl

set_option maxRecDepth 100000 in
set_option maxHeartbeats 8000000 in
theorem without_any (va : Option Addr) (vc : Nat) (ss : List Sm) (a : Option Addr) (n c : Nat) (ps : List Gn) (w : World) (hS : SmAt w (.slice va ss.length vc) ss) (hss : ss.length ≤ 40) (hR : RowAt w (.slice a n c) 3 n (gnC ps)) (hn : ps.length = n) (hn2 : n ≤ 1000) (hu : UpG ps) :
    Calls Tryz.prog 29 #[.slice va ss.length vc, .slice a n c] w fun e w' => ∃ r m c', e = .returned (.slice r m c') ∧ (m = (leftW ps ss).length ∧ w'.ownsRow w.heap.size 42 2 (.slice r m c') m (smC (leftW ps ss)) ∧ Below w.heap.size w w') := by
  obtain ⟨W1, hW1⟩ : ∃ W1, W1 = w.alloc (.cells #[.slice a n c] 23) := ⟨_, rfl⟩
  have hb1 : Below w.heap.size w W1 := by rw [hW1]; exact (Below.refl _ w).alloc (Nat.le_refl _) _
  have HB1 : Hid (Below w.heap.size w W1) := hb1
  have HX1 : Hid (W1.heap[w.heap.size]? = some (.cells #[.slice a n c] 23)) := by rw [hW1]; exact heap_alloc_new w _
  have HSM : Hid (SmAt W1 (.slice va ss.length vc) ss) := hS.below hb1
  have HRP : Hid (RowAt W1 (.slice a n c) 3 n (gnC ps)) := RowAt.below hR hb1
  have HPN : Hid (ps.length = n) := hn
  have HUP : Hid (UpG ps) := hu
  clear hb1 hS hR hn hu
  go_enter Tryz.func29, Tryz.ntmps29
  go_upto_region 1 with fail
  rw [← hW1]
  clear hW1
  go_wp2
  generalize hXX : w.heap.size = X at *
  go_loopw [5, 7, 8, 11] (fun s _ _ i wr => ∃ (j m : Nat) (q : List Sm) (qa : Option Addr) (qc : Nat), j ≤ ss.length ∧ m ≤ j ∧ Hid (q.length = m) ∧ i = .int .i64 j ∧ s = .slice qa m qc ∧ Hid (wr.ownsRow W1.heap.size 42 2 (.slice qa m qc) m (smC q)) ∧ Hid (Below W1.heap.size W1 wr) ∧ Hid (q = leftW ps (ss.take j))) (fun _ _ _ i _ => ss.length - (intOf i).toNat)
  case atStart => exact ⟨0, 0, [], none, 0, Nat.zero_le _, Nat.zero_le _, rfl, rfl, rfl, ⟨rfl, Or.inl ⟨rfl, rfl⟩⟩, Below.refl _ _, rfl⟩
  case round =>
    obtain ⟨j, m, q, qa, qc, hj, hm, HQN, rfl, rfl, HRO, hb, HQ⟩ := hrel
    by_cases hjl : j < ss.length
    · obtain ⟨b2, o2, rfl, hone2⟩ := HSM.out.one j hjl
      obtain ⟨g0, g1⟩ := hone2 wr hb.out
      have HQ2 : Hid (leftW ps (ss.take (j + 1)) = q ++ (if hitW ps ss[j].1 = true then [] else [ss[j]])) := by show _ = _; rw [leftW_take _ _ j hjl, HQ.out]
      generalize ss[j] = x at *
      obtain ⟨t, fl⟩ := x
      dsimp only at g0 g1 HQ2
      have hjl2 : (j : Int) < (ss.length : Int) := by omega
      obtain ⟨W2, hW2⟩ : ∃ W2, W2 = wr.alloc (.cells #[.int .i64 t, .float .f64 fl] 42) := ⟨_, rfl⟩
      have hb2 : Below W1.heap.size W1 W2 := by rw [hW2]; exact hb.out.alloc hb.out.size _
      have hY : W2.heap[wr.heap.size]? = some (.cells #[.int .i64 t, .float .f64 fl] 42) := by rw [hW2]; exact heap_alloc_new wr _
      have hX2 : W2.heap[X]? = some (.cells #[.slice a n c] 23) := (hb2.block X (Array.getElem?_eq_some_iff.1 HX1.out).1).trans HX1.out
      have hWT : WtBox W2 X wr.heap.size a n c ps t := ⟨cell_of_heap (i := 0) hX2, cell_of_heap (i := 0) hY, (Array.getElem?_eq_some_iff.1 hX2).1, (Array.getElem?_eq_some_iff.1 hY).1, RowAt.below HRP.out hb2, HPN.out⟩
      have hSE := wtSearch X wr.heap.size a n c ps t W2 hWT HUP.out hn2
      have x0 := hWT.b1
      have hr2 : W2.ownsRow W1.heap.size 42 2 (.slice qa m qc) m (smC q) := by rw [hW2]; exact HRO.out.alloc _
      have HAF : Hid (∀ w3, GrW W2 w3 → w3.ownsRow W1.heap.size 42 2 (.slice qa m qc) m (smC q) ∧ Below W1.heap.size W1 w3 ∧ w3.cell? ⟨X, 0, none⟩ = some (.slice a n c) ∧ w3.cell? ⟨wr.heap.size, 0, none⟩ = some (.int .i64 t) ∧ w3.cell? ⟨wr.heap.size, 1, none⟩ = some (.float .f64 fl)) := fun w3 hg => by
        have h1 := (hg.below.block _ (Array.getElem?_eq_some_iff.1 hY).1).trans hY
        exact ⟨hg.row hr2, hb2.trans (hg.below.mono hb2.size), (hWT.grow hg.below).b1, cell_of_heap (i := 0) h1, cell_of_heap (i := 1) h1⟩
      have hcl := cntW_le (t := t) HUP.out
      rw [HPN.out] at hcl
      have HHT := hitW_cnt (t := t) HUP.out
      have HPC : Hid (∀ k (hk : k < n) (w3 : World), Below W1.heap.size W1 w3 → ∃ b o, a = some ⟨b, o, none⟩ ∧ w3.cell? ⟨b, o + k * 3 + 1, none⟩ = some (.int .i64 (ps[k]'(by have := HPN.out; omega)).lo)) := fun k hk w3 hb3 => by
        obtain ⟨b, o, e, h9⟩ := row3n HRP.out HPN.out k hk
        exact ⟨b, o, e, (h9 w3 hb3).2.1⟩
      generalize hYY : wr.heap.size = Y at *
      clear hone2 HQ hY hX2 hWT hr2 hb2 HRP HX1 HUP HSM hb
      generalize cntW ps t = cw at *
      by_cases hcn : cw = n
      · have hit0 : hitW ps t = false := by rw [HHT, List.getElem?_eq_none (by rw [HPN.out]; omega)]
        have HQ3 : Hid (q ++ [(t, fl)] = leftW ps (ss.take (j + 1))) := by show _ = _; rw [HQ2.out, hit0]; simp
        have dn : ((cw : Int) == (n : Int)) = true := by simp; omega
        have dn2 : decide (cw = n) = true := decide_eq_true hcn
        clear HHT hit0 HQ2 HPC hcn
        go_upto_region 5 with fail
        rw [← hW2]
        clear hW2 hYY g0 g1
        go_upto_region 6 with (go_at_call 43; refine hSE.mono ?_; rintro e w3 ⟨rfl, hg3⟩; obtain ⟨-, -, x3, y0, y1⟩ := HAF.out w3 hg3)
        go_quiet (fail)
        generalize hW9 : w3.drewN nq = wq
        have HRQ : Hid (∀ o, (wq.alloc o).ownsRow W1.heap.size 42 2 (.slice qa m qc) m (smC q) ∧ W1.heap.size ≤ (wq.alloc o).heap.size ∧ Below W1.heap.size W1 wq) := fun o => by
          rw [← hW9]
          have h1 := HAF.out w3 hg3
          have h2 : Below w3.heap.size w3 (w3.drewN nq) := below_drewN (Below.refl _ _) nq
          have h3 : Below W1.heap.size W1 (w3.drewN nq) := h1.2.1.trans (h2.mono h1.2.1.size)
          exact ⟨(row_below h1.1 h2).alloc o, Nat.le_trans h3.size ((Below.refl _ (w3.drewN nq)).alloc (Nat.le_refl _) o).size, h3⟩
        have z0 : wq.cell? ⟨Y, 0, none⟩ = some (.int .i64 t) := by rw [← hW9]; exact y0
        have z1 : wq.cell? ⟨Y, 1, none⟩ = some (.float .f64 fl) := by rw [← hW9]; exact y1
        clear hW9
        go_wp2_with (at_builtin; refine wpList_append_row appSm _ rfl _ _ rfl W1.heap.size _ m (smC q) rfl (HRQ.out _).1 _ 1 [.int .i64 t, .float .f64 fl] rfl (RowAt.of_block (cs := #[.int .i64 t, .float .f64 fl]) (heap_alloc_new wq _) rfl (by decide)) (by simp [Value.oneCell']) (by omega) (HRQ.out _).2.1 ?_; intro a5 c5 w5 hr5 hg5 _; have hb5 : Below W1.heap.size W1 w5 := ((HRQ.out (.cells #[] 0)).2.2.alloc (HRQ.out (.cells #[] 0)).2.2.size _).grown hg5 (HRQ.out _).2.1 (fun i hi => (HRO.out.lt i hi).1); have HR5 : Hid (w5.ownsRow W1.heap.size 42 2 (.slice a5 (m + 1) c5) (m + 1) (smC q ++ [.int .i64 t, .float .f64 fl])) := hr5; have HB5 : Hid (Below W1.heap.size W1 w5) := hb5; clear hr5 hg5 hb5)
        go_roundw
        case rel => exact ⟨j + 1, m + 1, q ++ [(t, fl)], a5, c5, by omega, by omega, by show _ = _; rw [List.length_append, HQN.out]; rfl, by go_num, rfl, by show World.ownsRow _ _ _ _ _ _ _; rw [smC_append]; exact HR5.out, HB5, HQ3⟩
        case measure => simp [intOf]; omega
      · have hcn2 : cw < n := by omega
        have hpl : cw < ps.length := by rw [HPN.out]; exact hcn2
        rw [List.getElem?_eq_getElem hpl] at HHT
        dsimp only at HHT
        have HPK : Hid (∀ (w3 : World), Below W1.heap.size W1 w3 → ∃ b o, a = some ⟨b, o, none⟩ ∧ w3.cell? ⟨b, o + cw * 3 + 1, none⟩ = some (.int .i64 (ps[cw]'hpl).lo)) := fun w3 hb3 => HPC.out cw hcn2 w3 hb3
        generalize (ps[cw]'hpl).lo = lo at *
        obtain ⟨b3, o3, e3, -⟩ := HPK.out W1 (Below.refl _ _)
        subst e3
        have HPK2 : Hid (∀ (w3 : World), Below W1.heap.size W1 w3 → w3.cell? ⟨b3, o3 + cw * 3 + 1, none⟩ = some (.int .i64 lo)) := fun w3 hb3 => by
          obtain ⟨b, o, e, h9⟩ := HPK.out w3 hb3
          cases e
          exact h9
        have dn : ((cw : Int) == (n : Int)) = false := by simp; omega
        have dn2 : decide (cw = n) = false := decide_eq_false hcn
        have hci : (cw : Int) < (n : Int) := by omega
        clear HPC HPK
        by_cases hlo : t < lo
        · have hit0 : hitW ps t = false := by rw [HHT]; exact decide_eq_false (by omega)
          have HQ3 : Hid (q ++ [(t, fl)] = leftW ps (ss.take (j + 1))) := by show _ = _; rw [HQ2.out, hit0]; simp
          have dl : decide (t < lo) = true := decide_eq_true hlo
          clear HHT hit0 HQ2 hcn
          go_upto_region 5 with fail
          rw [← hW2]
          clear hW2 hYY g0 g1
          go_upto_region 6 with (go_at_call 43; refine hSE.mono ?_; rintro e w3 ⟨rfl, hg3⟩; obtain ⟨-, hb3, x3, y0, y1⟩ := HAF.out w3 hg3; have p3 := HPK2.out w3 hb3)
          go_quiet (fail)
          generalize hW9 : w3.drewN nq = wq
          have HRQ : Hid (∀ o, (wq.alloc o).ownsRow W1.heap.size 42 2 (.slice qa m qc) m (smC q) ∧ W1.heap.size ≤ (wq.alloc o).heap.size ∧ Below W1.heap.size W1 wq) := fun o => by
            rw [← hW9]
            have h1 := HAF.out w3 hg3
            have h2 : Below w3.heap.size w3 (w3.drewN nq) := below_drewN (Below.refl _ _) nq
            have h3 : Below W1.heap.size W1 (w3.drewN nq) := h1.2.1.trans (h2.mono h1.2.1.size)
            exact ⟨(row_below h1.1 h2).alloc o, Nat.le_trans h3.size ((Below.refl _ (w3.drewN nq)).alloc (Nat.le_refl _) o).size, h3⟩
          have z0 : wq.cell? ⟨Y, 0, none⟩ = some (.int .i64 t) := by rw [← hW9]; exact y0
          have z1 : wq.cell? ⟨Y, 1, none⟩ = some (.float .f64 fl) := by rw [← hW9]; exact y1
          clear hW9
          go_wp2_with (at_builtin; refine wpList_append_row appSm _ rfl _ _ rfl W1.heap.size _ m (smC q) rfl (HRQ.out _).1 _ 1 [.int .i64 t, .float .f64 fl] rfl (RowAt.of_block (cs := #[.int .i64 t, .float .f64 fl]) (heap_alloc_new wq _) rfl (by decide)) (by simp [Value.oneCell']) (by omega) (HRQ.out _).2.1 ?_; intro a5 c5 w5 hr5 hg5 _; have hb5 : Below W1.heap.size W1 w5 := ((HRQ.out (.cells #[] 0)).2.2.alloc (HRQ.out (.cells #[] 0)).2.2.size _).grown hg5 (HRQ.out _).2.1 (fun i hi => (HRO.out.lt i hi).1); have HR5 : Hid (w5.ownsRow W1.heap.size 42 2 (.slice a5 (m + 1) c5) (m + 1) (smC q ++ [.int .i64 t, .float .f64 fl])) := hr5; have HB5 : Hid (Below W1.heap.size W1 w5) := hb5; clear hr5 hg5 hb5)
          go_roundw
          case rel => exact ⟨j + 1, m + 1, q ++ [(t, fl)], a5, c5, by omega, by omega, by show _ = _; rw [List.length_append, HQN.out]; rfl, by go_num, rfl, by show World.ownsRow _ _ _ _ _ _ _; rw [smC_append]; exact HR5.out, HB5, HQ3⟩
          case measure => simp [intOf]; omega
        · have hit1 : hitW ps t = true := by rw [HHT]; exact decide_eq_true (by omega)
          have HQ3 : Hid (q = leftW ps (ss.take (j + 1))) := by show _ = _; rw [HQ2.out, hit1]; simp
          have dl : decide (t < lo) = false := decide_eq_false hlo
          have HEN : Hid (∀ w3, GrW W2 w3 → ∀ q9, (w3.drewN q9).ownsRow W1.heap.size 42 2 (.slice qa m qc) m (smC q) ∧ Below W1.heap.size W1 (w3.drewN q9)) := fun w3 hg q9 => by
            have h1 := HAF.out w3 hg
            have h2 : Below w3.heap.size w3 (w3.drewN q9) := below_drewN (Below.refl _ _) q9
            exact ⟨row_below h1.1 h2, h1.2.1.trans (h2.mono h1.2.1.size)⟩
          clear HHT hit1 HQ2 hcn
          go_upto_region 5 with fail
          rw [← hW2]
          clear hW2 hYY g0 g1
          go_upto_region 6 with (go_at_call 43; refine hSE.mono ?_; rintro e w3 ⟨rfl, hg3⟩; obtain ⟨-, hb3, x3, y0, y1⟩ := HAF.out w3 hg3; have p3 := HPK2.out w3 hb3)
          go_quiet (fail)
          go_wp2
          go_roundw
          case rel => exact ⟨j + 1, m, q, qa, qc, by omega, by omega, HQN, by go_num, rfl, (HEN.out w3 hg3 _).1, (HEN.out w3 hg3 _).2, HQ3⟩
          case measure => simp [intOf]; omega
    · have e9 : ss.take j = ss := List.take_of_length_le (by omega)
      rw [e9] at HQ
      have HF : Hid (m = (leftW ps ss).length ∧ wr.ownsRow w.heap.size 42 2 (.slice qa m qc) m (smC (leftW ps ss)) ∧ Below w.heap.size w wr) := by
        rw [← HQ.out]
        have h9 := HB1.out
        rw [← hXX] at h9
        exact ⟨HQN.out.symm, row_mono HRO.out h9.size, h9.trans (hb.out.mono h9.size)⟩
      have HF2 := HF
      rw [hXX] at HF2
      clear e9 HQ HRO hb
      go_wp2
      go_ret
      first | exact ⟨_, _, _, rfl, HF.out⟩ | exact ⟨_, _, _, rfl, HF2.out⟩

end Go.Proofs.YtjnjmpfldbkciaaGreat
