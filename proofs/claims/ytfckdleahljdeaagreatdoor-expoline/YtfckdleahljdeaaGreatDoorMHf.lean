/- The document's parts of a float, and how a float stands to a number. -/
import Derived.Test.YtfckdleahljdeaaGreatDoorMHc
import Derived.Test.YtfckdleahljdeaaGreatDoorMDh
namespace Go.Proofs.YtfckdleahljdeaaGreatDoor.Nu
open Go.RowKit Go.Maps

theorem ret_ii {a b c d : Int} (h1 : a = b) (h2 : c = d) : Ending.returned (.tuple #[.int .i64 a, .int .i64 c]) = .returned (.tuple #[.int .i64 b, .int .i64 d]) := by rw [h1, h2]
set_option maxRecDepth 100000 in
set_option maxHeartbeats 400000 in
theorem refParts_any (raw : Nat) (w : World) (h : raw < 9223372036854775808) : Calls Tryz.prog 101 #[.int .u64 raw] w fun e w' => e = .returned (.tuple #[.int .i64 (apartN raw).1, .int .i64 (apartN raw).2]) ∧ w' = w := by
  obtain ⟨m, hm⟩ : ∃ m, m = raw % 4503599627370496 := ⟨_, rfl⟩
  obtain ⟨q, hq⟩ : ∃ q, q = raw / 4503599627370496 := ⟨_, rfl⟩
  have hq2 : q < 2048 := by omega
  have hm2 : m < 4503599627370496 := by omega
  have hand : bits .and .u64 (raw : Int) 4503599627370495 = (m : Int) := by
    have h1 := u64_and_nat raw 4503599627370495 (by omega) (by decide)
    have e : raw &&& 4503599627370495 = m := by rw [hm]; exact Nat.and_two_pow_sub_one_eq_mod raw 52
    rw [e] at h1
    exact h1
  have hand2 : bits .and .u64 (q : Int) 2047 = (q : Int) := by
    have h1 := u64_and_nat q 2047 (by omega) (by decide)
    have e : q &&& 2047 = q := by
      have h2 : q &&& 2047 = q % 2048 := Nat.and_two_pow_sub_one_eq_mod q 11
      rw [h2]
      omega
    rw [e] at h1
    exact h1
  have hqi : (raw : Int) / 4503599627370496 = (q : Int) := by omega
  by_cases h0 : q = 0
  · have HE : Hid (apartN raw = (m, -1074)) := by show _ = _; unfold apartN; rw [← hq, if_pos h0, hm]
    have h0' : ((q : Int) == 0) = true := by rw [h0]; rfl
    clear hm hq h0
    go_enter Tryz.func101, Tryz.ntmps101
    go_wp2
    go_ret2
    exact ⟨by rw [HE.out]; rfl, rfl⟩
  · have HE : Hid (apartN raw = (m + 4503599627370496, ((q : Nat) : Int) - 1 + -1074)) := by show _ = _; unfold apartN; rw [← hq, if_neg h0, hm]
    have h0' : ((q : Int) == 0) = false := by rw [beq_eq_false_iff_ne]; omega
    clear hm hq h0
    go_enter Tryz.func101, Tryz.ntmps101
    go_wp2
    go_ret2
    exact ⟨by rw [HE.out]; exact ret_ii (by simp) (by simp; omega), rfl⟩
theorem num_cells {w : World} {b : Nat} {v0 v1 : Value} (h : w.heap[b]? = some (.cells #[v0, v1] 107 (0, 0))) : w.cell? ⟨b, 0, none⟩ = some v0 ∧ w.cell? ⟨b, 1, none⟩ = some v1 := by simp [World.cell?, h]

set_option maxRecDepth 100000 in
set_option maxHeartbeats 1000000 in
theorem refBelow_pp (m E X V l c : Nat) (a : Option Addr) (w : World) (h : QAt w (.slice a l c) V) (hm : m ≤ 4611686018427387904) (hE : E ≤ 100000) (hX : X ≤ 100000) (hE0 : 0 < E) (hX0 : 0 < X) 
    (hA : (digQ (m * 2 ^ E)).length ≤ 40000) (hB : (digQ (V * 10 ^ X)).length ≤ 40000) :
    Calls Tryz.prog 102 #[.int .i64 m, .int .i64 (E : Int), .agg #[.slice a l c, .int .i64 (X : Int)]] w fun ee w' => ee = .returned (.int .i64 (cmpN (m * 2 ^ E) (V * 10 ^ X))) ∧ Below w.heap.size w w' := by
  have HOF : Hid (∀ W : World, Calls Tryz.prog 129 #[.int .i64 m] W fun e w' => ∃ v', e = .returned v' ∧ QAt w' v' m ∧ Below W.heap.size W w') := fun W => refOf_any m W hm
  have HQ0 : Hid (QAt w (.slice a l c) V) := h
  have HL : Hid (l = (digQ V).length) := by
    obtain ⟨a9, c9, e9, -⟩ := h
    cases e9
    rfl
  have HA : Hid ((digQ (m * 2 ^ E)).length ≤ 40000) := hA
  have HB : Hid ((digQ (V * 10 ^ X)).length ≤ 40000) := hB
  have hmx : Tryz.prog.follows .mixedOrders = true := by kernel_rfl
  have HMO : Hid (∀ M N : Nat, M * 1 ≤ M * N → M ≤ M * N) := fun M N h => by omega
  have up2 : ∀ M k : Nat, M ≤ M * 2 ^ k := fun M k => Nat.le_mul_of_pos_right _ (Nat.pow_pos (by decide))
  have up10 : ∀ M k : Nat, M ≤ M * 10 ^ k := fun M k => Nat.le_mul_of_pos_right _ (Nat.pow_pos (by decide))
  have HP2 : Hid (∀ (v : Value) (M : Nat) (W : World), QAt W v M → (digQ (M * 2 ^ E)).length ≤ 40000 → Calls Tryz.prog 130 #[v, .int .i64 2, .int .i64 E] W fun e w' => ∃ v', e = .returned v' ∧ QAt w' v' (M * 2 ^ E) ∧ Below W.heap.size W w') := fun v M W hq hl => refPow2_any v M E W hq hE hl
  have HP10 : Hid (∀ (v : Value) (M : Nat) (W : World), QAt W v M → (digQ (M * 10 ^ X)).length ≤ 40000 → Calls Tryz.prog 130 #[v, .int .i64 10, .int .i64 X] W fun e w' => ∃ v', e = .returned v' ∧ QAt w' v' (M * 10 ^ X) ∧ Below W.heap.size W w') := fun v M W hq hl => refPow10_any v M X W hq hX hl
  have HU2 : Hid (∀ M k : Nat, M ≤ M * 2 ^ k) := up2
  have HU10 : Hid (∀ M k : Nat, M ≤ M * 10 ^ k) := up10
  clear h hA hB up2 up10 HMO
  obtain ⟨W1, hW1⟩ : ∃ W1, w.alloc (.cells #[.slice a l c, .int .i64 (X : Int)] 107) = W1 := ⟨_, rfl⟩
  obtain ⟨c0, c1⟩ := num_cells (w := W1) (b := w.heap.size) (v0 := .slice a l c) (v1 := .int .i64 (X : Int)) (by rw [← hW1]; exact heap_alloc_new w _)
  have hxl : w.heap.size < W1.heap.size := by rw [← hW1]; simp
  have HB1 : Hid (Below w.heap.size w W1) := by rw [← hW1]; exact (Below.refl _ _).alloc (Nat.le_refl _) _
  have HW1 : Hid (w.alloc (.cells #[.slice a l c, .int .i64 (X : Int)] 107) = W1) := hW1
  clear hW1
  have hei : (0 : Int) < E := by omega
  have hxi : (0 : Int) < X := by omega
  go_enter Tryz.func102, Tryz.ntmps102
  go_wp2
  rw [HW1.out]
  go_region_with (first
    | (go_at_call 129; refine (HOF.out _).mono ?_; rintro e w3 ⟨v3, rfl, hv3, hb3⟩; have cz0 := (hb3.cell (p := ⟨w.heap.size, 0, none⟩) hxl).trans c0; have cz1 := (hb3.cell (p := ⟨w.heap.size, 1, none⟩) hxl).trans c1))
  all_goals
    have hb03 : Below w.heap.size w w3 := (below_drewN HB1.out 1).trans (hb3.mono (below_drewN HB1.out 1).size)
    have hx3 : w.heap.size < w3.heap.size := Nat.lt_of_lt_of_le hxl hb3.size
    obtain ⟨a3, c3, rfl⟩ := hv3.form
    obtain ⟨l3, hl3⟩ : ∃ l3, l3 = (digQ m).length := ⟨_, rfl⟩
    rw [← hl3] at hv3 ⊢
    have HQM : Hid (QAt w3 (.slice a3 l3 c3) m) := hv3
    have HB3 : Hid (Below w.heap.size w w3) := hb03
    have HX3 : Hid (w.heap.size < w3.heap.size) := hx3
    clear hv3 hb3 hb03 hl3 HOF c0 c1 HB1 HW1 hxl hx3
    have HQV : Hid (QAt w3 (.slice a l c) V) := HQ0.out.below HB3.out
    go_wp2_with (go_at_call 130; refine (HP2.out _ m _ HQM.out (HA.out)).mono ?_; clear HP2; rintro e w4 ⟨v4, rfl, hv4, hb4⟩; have HB4 : Hid (Below w.heap.size w w4) := HB3.out.trans (hb4.mono HB3.out.size); have HQV4 : Hid (QAt w4 (.slice a l c) V) := HQV.out.below hb4; have cy1 := (hb4.cell (p := ⟨w.heap.size, 1, none⟩) HX3.out).trans cz1; obtain ⟨a4, c4, rfl⟩ := hv4.form; obtain ⟨l4, hl4⟩ : ∃ l4, l4 = (digQ (m * 2 ^ E)).length := ⟨_, rfl⟩; rw [← hl4] at hv4 ⊢; have HQM4 : Hid (QAt w4 (.slice a4 l4 c4) (m * 2 ^ E)) := hv4; clear hv4 hb4 hl4 HQM HQV)
    go_wp2_with (go_at_call 130; refine (HP10.out _ (V) _ HQV4.out HB.out).mono ?_; clear HP10; rintro e w5 ⟨v5, rfl, hv5, hb5⟩; have HB5 : Hid (Below w.heap.size w w5) := HB4.out.trans (hb5.mono HB4.out.size); have HQM5 : Hid (QAt w5 (.slice a4 l4 c4) (m * 2 ^ E)) := HQM4.out.below hb5; obtain ⟨a5, c5, rfl⟩ := hv5.form; obtain ⟨l5, hl5⟩ : ∃ l5, l5 = (digQ (V * 10 ^ X)).length := ⟨_, rfl⟩; rw [← hl5] at hv5 ⊢; have HQV5 : Hid (QAt w5 (.slice a5 l5 c5) (V * 10 ^ X)) := hv5; clear hv5 hb5 hl5 HQM4 HQV4)
    go_wp2_with (go_at_call 131; refine (refCmp_any _ _ (m * 2 ^ E) (V * 10 ^ X) _ HQM5.out HQV5.out (Nat.le_trans HA.out (by decide)) (Nat.le_trans HB.out (by decide))).mono ?_; rintro e w6 ⟨rfl, hb6⟩; have HB6 : Hid (Below w.heap.size w w6) := HB5.out.trans (hb6.mono HB5.out.size); clear hb6)
    go_ret
    exact ⟨rfl, HB6.out⟩
set_option maxRecDepth 100000 in
set_option maxHeartbeats 1000000 in
theorem refBelow_pn (m E X V l c : Nat) (a : Option Addr) (w : World) (h : QAt w (.slice a l c) V) (hm : m ≤ 4611686018427387904) (hE : E ≤ 100000) (hX : X ≤ 100000) (hE0 : 0 < E) 
    (hA : (digQ (m * 2 ^ E * 10 ^ X)).length ≤ 40000) (hB : (digQ (V)).length ≤ 40000) :
    Calls Tryz.prog 102 #[.int .i64 m, .int .i64 (E : Int), .agg #[.slice a l c, .int .i64 (-(X : Int))]] w fun ee w' => ee = .returned (.int .i64 (cmpN (m * 2 ^ E * 10 ^ X) (V))) ∧ Below w.heap.size w w' := by
  have HOF : Hid (∀ W : World, Calls Tryz.prog 129 #[.int .i64 m] W fun e w' => ∃ v', e = .returned v' ∧ QAt w' v' m ∧ Below W.heap.size W w') := fun W => refOf_any m W hm
  have HQ0 : Hid (QAt w (.slice a l c) V) := h
  have HL : Hid (l = (digQ V).length) := by
    obtain ⟨a9, c9, e9, -⟩ := h
    cases e9
    rfl
  have HA : Hid ((digQ (m * 2 ^ E * 10 ^ X)).length ≤ 40000) := hA
  have HB : Hid ((digQ (V)).length ≤ 40000) := hB
  have hmx : Tryz.prog.follows .mixedOrders = true := by kernel_rfl
  have HMO : Hid (∀ M N : Nat, M * 1 ≤ M * N → M ≤ M * N) := fun M N h => by omega
  have up2 : ∀ M k : Nat, M ≤ M * 2 ^ k := fun M k => Nat.le_mul_of_pos_right _ (Nat.pow_pos (by decide))
  have up10 : ∀ M k : Nat, M ≤ M * 10 ^ k := fun M k => Nat.le_mul_of_pos_right _ (Nat.pow_pos (by decide))
  have HP2 : Hid (∀ (v : Value) (M : Nat) (W : World), QAt W v M → (digQ (M * 2 ^ E)).length ≤ 40000 → Calls Tryz.prog 130 #[v, .int .i64 2, .int .i64 E] W fun e w' => ∃ v', e = .returned v' ∧ QAt w' v' (M * 2 ^ E) ∧ Below W.heap.size W w') := fun v M W hq hl => refPow2_any v M E W hq hE hl
  have HP10 : Hid (∀ (v : Value) (M : Nat) (W : World), QAt W v M → (digQ (M * 10 ^ X)).length ≤ 40000 → Calls Tryz.prog 130 #[v, .int .i64 10, .int .i64 X] W fun e w' => ∃ v', e = .returned v' ∧ QAt w' v' (M * 10 ^ X) ∧ Below W.heap.size W w') := fun v M W hq hl => refPow10_any v M X W hq hX hl
  have HU2 : Hid (∀ M k : Nat, M ≤ M * 2 ^ k) := up2
  have HU10 : Hid (∀ M k : Nat, M ≤ M * 10 ^ k) := up10
  clear h hA hB up2 up10 HMO
  obtain ⟨W1, hW1⟩ : ∃ W1, w.alloc (.cells #[.slice a l c, .int .i64 (-(X : Int))] 107) = W1 := ⟨_, rfl⟩
  obtain ⟨c0, c1⟩ := num_cells (w := W1) (b := w.heap.size) (v0 := .slice a l c) (v1 := .int .i64 (-(X : Int))) (by rw [← hW1]; exact heap_alloc_new w _)
  have hxl : w.heap.size < W1.heap.size := by rw [← hW1]; simp
  have HB1 : Hid (Below w.heap.size w W1) := by rw [← hW1]; exact (Below.refl _ _).alloc (Nat.le_refl _) _
  have HW1 : Hid (w.alloc (.cells #[.slice a l c, .int .i64 (-(X : Int))] 107) = W1) := hW1
  clear hW1
  have hei : (0 : Int) < E := by omega
  have hxi : ¬ (0 : Int) < -(X : Int) := by omega
  go_enter Tryz.func102, Tryz.ntmps102
  go_wp2
  rw [HW1.out]
  go_region_with (first
    | (go_at_call 129; refine (HOF.out _).mono ?_; rintro e w3 ⟨v3, rfl, hv3, hb3⟩; have cz0 := (hb3.cell (p := ⟨w.heap.size, 0, none⟩) hxl).trans c0; have cz1 := (hb3.cell (p := ⟨w.heap.size, 1, none⟩) hxl).trans c1))
  all_goals
    have hb03 : Below w.heap.size w w3 := (below_drewN HB1.out 1).trans (hb3.mono (below_drewN HB1.out 1).size)
    have hx3 : w.heap.size < w3.heap.size := Nat.lt_of_lt_of_le hxl hb3.size
    obtain ⟨a3, c3, rfl⟩ := hv3.form
    obtain ⟨l3, hl3⟩ : ∃ l3, l3 = (digQ m).length := ⟨_, rfl⟩
    rw [← hl3] at hv3 ⊢
    have HQM : Hid (QAt w3 (.slice a3 l3 c3) m) := hv3
    have HB3 : Hid (Below w.heap.size w w3) := hb03
    have HX3 : Hid (w.heap.size < w3.heap.size) := hx3
    clear hv3 hb3 hb03 hl3 HOF c0 c1 HB1 HW1 hxl hx3
    have HQV : Hid (QAt w3 (.slice a l c) V) := HQ0.out.below HB3.out
    go_wp2_with (go_at_call 130; refine (HP2.out _ m _ HQM.out (Nat.le_trans (digQ_mono (HU10.out _ X)) HA.out)).mono ?_; clear HP2; rintro e w4 ⟨v4, rfl, hv4, hb4⟩; have HB4 : Hid (Below w.heap.size w w4) := HB3.out.trans (hb4.mono HB3.out.size); have HQV4 : Hid (QAt w4 (.slice a l c) V) := HQV.out.below hb4; have cy1 := (hb4.cell (p := ⟨w.heap.size, 1, none⟩) HX3.out).trans cz1; obtain ⟨a4, c4, rfl⟩ := hv4.form; obtain ⟨l4, hl4⟩ : ∃ l4, l4 = (digQ (m * 2 ^ E)).length := ⟨_, rfl⟩; rw [← hl4] at hv4 ⊢; have HQM4 : Hid (QAt w4 (.slice a4 l4 c4) (m * 2 ^ E)) := hv4; clear hv4 hb4 hl4 HQM HQV)
    go_wp2_with (go_at_call 130; refine (HP10.out _ (m * 2 ^ E) _ HQM4.out HA.out).mono ?_; clear HP10; rintro e w5 ⟨v5, rfl, hv5, hb5⟩; have HB5 : Hid (Below w.heap.size w w5) := HB4.out.trans (hb5.mono HB4.out.size); have HQV5 : Hid (QAt w5 (.slice a l c) (V)) := HQV4.out.below hb5; obtain ⟨a5, c5, rfl⟩ := hv5.form; obtain ⟨l5, hl5⟩ : ∃ l5, l5 = (digQ (m * 2 ^ E * 10 ^ X)).length := ⟨_, rfl⟩; rw [← hl5] at hv5 ⊢; have HQM5 : Hid (QAt w5 (.slice a5 l5 c5) (m * 2 ^ E * 10 ^ X)) := hv5; clear hv5 hb5 hl5 HQM4 HQV4)
    go_wp2_with (go_at_call 131; refine (refCmp_any _ _ (m * 2 ^ E * 10 ^ X) (V) _ HQM5.out HQV5.out (Nat.le_trans HA.out (by decide)) (Nat.le_trans HB.out (by decide))).mono ?_; rintro e w6 ⟨rfl, hb6⟩; have HB6 : Hid (Below w.heap.size w w6) := HB5.out.trans (hb6.mono HB5.out.size); clear hb6)
    go_ret
    exact ⟨rfl, HB6.out⟩
set_option maxRecDepth 100000 in
set_option maxHeartbeats 1000000 in
theorem refBelow_np (m E X V l c : Nat) (a : Option Addr) (w : World) (h : QAt w (.slice a l c) V) (hm : m ≤ 4611686018427387904) (hE : E ≤ 100000) (hX : X ≤ 100000) (hX0 : 0 < X) 
    (hA : (digQ (m)).length ≤ 40000) (hB : (digQ (V * 2 ^ E * 10 ^ X)).length ≤ 40000) :
    Calls Tryz.prog 102 #[.int .i64 m, .int .i64 (-(E : Int)), .agg #[.slice a l c, .int .i64 (X : Int)]] w fun ee w' => ee = .returned (.int .i64 (cmpN (m) (V * 2 ^ E * 10 ^ X))) ∧ Below w.heap.size w w' := by
  have HOF : Hid (∀ W : World, Calls Tryz.prog 129 #[.int .i64 m] W fun e w' => ∃ v', e = .returned v' ∧ QAt w' v' m ∧ Below W.heap.size W w') := fun W => refOf_any m W hm
  have HQ0 : Hid (QAt w (.slice a l c) V) := h
  have HL : Hid (l = (digQ V).length) := by
    obtain ⟨a9, c9, e9, -⟩ := h
    cases e9
    rfl
  have HA : Hid ((digQ (m)).length ≤ 40000) := hA
  have HB : Hid ((digQ (V * 2 ^ E * 10 ^ X)).length ≤ 40000) := hB
  have hmx : Tryz.prog.follows .mixedOrders = true := by kernel_rfl
  have HMO : Hid (∀ M N : Nat, M * 1 ≤ M * N → M ≤ M * N) := fun M N h => by omega
  have up2 : ∀ M k : Nat, M ≤ M * 2 ^ k := fun M k => Nat.le_mul_of_pos_right _ (Nat.pow_pos (by decide))
  have up10 : ∀ M k : Nat, M ≤ M * 10 ^ k := fun M k => Nat.le_mul_of_pos_right _ (Nat.pow_pos (by decide))
  have HP2 : Hid (∀ (v : Value) (M : Nat) (W : World), QAt W v M → (digQ (M * 2 ^ E)).length ≤ 40000 → Calls Tryz.prog 130 #[v, .int .i64 2, .int .i64 E] W fun e w' => ∃ v', e = .returned v' ∧ QAt w' v' (M * 2 ^ E) ∧ Below W.heap.size W w') := fun v M W hq hl => refPow2_any v M E W hq hE hl
  have HP10 : Hid (∀ (v : Value) (M : Nat) (W : World), QAt W v M → (digQ (M * 10 ^ X)).length ≤ 40000 → Calls Tryz.prog 130 #[v, .int .i64 10, .int .i64 X] W fun e w' => ∃ v', e = .returned v' ∧ QAt w' v' (M * 10 ^ X) ∧ Below W.heap.size W w') := fun v M W hq hl => refPow10_any v M X W hq hX hl
  have HU2 : Hid (∀ M k : Nat, M ≤ M * 2 ^ k) := up2
  have HU10 : Hid (∀ M k : Nat, M ≤ M * 10 ^ k) := up10
  clear h hA hB up2 up10 HMO
  obtain ⟨W1, hW1⟩ : ∃ W1, w.alloc (.cells #[.slice a l c, .int .i64 (X : Int)] 107) = W1 := ⟨_, rfl⟩
  obtain ⟨c0, c1⟩ := num_cells (w := W1) (b := w.heap.size) (v0 := .slice a l c) (v1 := .int .i64 (X : Int)) (by rw [← hW1]; exact heap_alloc_new w _)
  have hxl : w.heap.size < W1.heap.size := by rw [← hW1]; simp
  have HB1 : Hid (Below w.heap.size w W1) := by rw [← hW1]; exact (Below.refl _ _).alloc (Nat.le_refl _) _
  have HW1 : Hid (w.alloc (.cells #[.slice a l c, .int .i64 (X : Int)] 107) = W1) := hW1
  clear hW1
  have hei : ¬ (0 : Int) < -(E : Int) := by omega
  have hxi : (0 : Int) < X := by omega
  go_enter Tryz.func102, Tryz.ntmps102
  go_wp2
  rw [HW1.out]
  go_region_with (first
    | (go_at_call 129; refine (HOF.out _).mono ?_; rintro e w3 ⟨v3, rfl, hv3, hb3⟩; have cz0 := (hb3.cell (p := ⟨w.heap.size, 0, none⟩) hxl).trans c0; have cz1 := (hb3.cell (p := ⟨w.heap.size, 1, none⟩) hxl).trans c1))
  all_goals
    have hb03 : Below w.heap.size w w3 := (below_drewN HB1.out 1).trans (hb3.mono (below_drewN HB1.out 1).size)
    have hx3 : w.heap.size < w3.heap.size := Nat.lt_of_lt_of_le hxl hb3.size
    obtain ⟨a3, c3, rfl⟩ := hv3.form
    obtain ⟨l3, hl3⟩ : ∃ l3, l3 = (digQ m).length := ⟨_, rfl⟩
    rw [← hl3] at hv3 ⊢
    have HQM : Hid (QAt w3 (.slice a3 l3 c3) m) := hv3
    have HB3 : Hid (Below w.heap.size w w3) := hb03
    have HX3 : Hid (w.heap.size < w3.heap.size) := hx3
    clear hv3 hb3 hb03 hl3 HOF c0 c1 HB1 HW1 hxl hx3
    have HQV : Hid (QAt w3 (.slice a l c) V) := HQ0.out.below HB3.out
    go_wp2_with (go_at_call 130; refine (HP2.out _ V _ HQV.out (Nat.le_trans (digQ_mono (HU10.out _ X)) HB.out)).mono ?_; clear HP2; rintro e w4 ⟨v4, rfl, hv4, hb4⟩; have HB4 : Hid (Below w.heap.size w w4) := HB3.out.trans (hb4.mono HB3.out.size); have HQM4 : Hid (QAt w4 (.slice a3 l3 c3) m) := HQM.out.below hb4; have cy1 := (hb4.cell (p := ⟨w.heap.size, 1, none⟩) HX3.out).trans cz1; obtain ⟨a4, c4, rfl⟩ := hv4.form; obtain ⟨l4, hl4⟩ : ∃ l4, l4 = (digQ (V * 2 ^ E)).length := ⟨_, rfl⟩; rw [← hl4] at hv4 ⊢; have HQV4 : Hid (QAt w4 (.slice a4 l4 c4) (V * 2 ^ E)) := hv4; clear hv4 hb4 hl4 HQM HQV)
    go_wp2_with (go_at_call 130; refine (HP10.out _ (V * 2 ^ E) _ HQV4.out HB.out).mono ?_; clear HP10; rintro e w5 ⟨v5, rfl, hv5, hb5⟩; have HB5 : Hid (Below w.heap.size w w5) := HB4.out.trans (hb5.mono HB4.out.size); have HQM5 : Hid (QAt w5 (.slice a3 l3 c3) (m)) := HQM4.out.below hb5; obtain ⟨a5, c5, rfl⟩ := hv5.form; obtain ⟨l5, hl5⟩ : ∃ l5, l5 = (digQ (V * 2 ^ E * 10 ^ X)).length := ⟨_, rfl⟩; rw [← hl5] at hv5 ⊢; have HQV5 : Hid (QAt w5 (.slice a5 l5 c5) (V * 2 ^ E * 10 ^ X)) := hv5; clear hv5 hb5 hl5 HQM4 HQV4)
    go_wp2_with (go_at_call 131; refine (refCmp_any _ _ (m) (V * 2 ^ E * 10 ^ X) _ HQM5.out HQV5.out (Nat.le_trans HA.out (by decide)) (Nat.le_trans HB.out (by decide))).mono ?_; rintro e w6 ⟨rfl, hb6⟩; have HB6 : Hid (Below w.heap.size w w6) := HB5.out.trans (hb6.mono HB5.out.size); clear hb6)
    go_ret
    exact ⟨rfl, HB6.out⟩
set_option maxRecDepth 100000 in
set_option maxHeartbeats 1000000 in
theorem refBelow_nn (m E X V l c : Nat) (a : Option Addr) (w : World) (h : QAt w (.slice a l c) V) (hm : m ≤ 4611686018427387904) (hE : E ≤ 100000) (hX : X ≤ 100000) 
    (hA : (digQ (m * 10 ^ X)).length ≤ 40000) (hB : (digQ (V * 2 ^ E)).length ≤ 40000) :
    Calls Tryz.prog 102 #[.int .i64 m, .int .i64 (-(E : Int)), .agg #[.slice a l c, .int .i64 (-(X : Int))]] w fun ee w' => ee = .returned (.int .i64 (cmpN (m * 10 ^ X) (V * 2 ^ E))) ∧ Below w.heap.size w w' := by
  have HOF : Hid (∀ W : World, Calls Tryz.prog 129 #[.int .i64 m] W fun e w' => ∃ v', e = .returned v' ∧ QAt w' v' m ∧ Below W.heap.size W w') := fun W => refOf_any m W hm
  have HQ0 : Hid (QAt w (.slice a l c) V) := h
  have HL : Hid (l = (digQ V).length) := by
    obtain ⟨a9, c9, e9, -⟩ := h
    cases e9
    rfl
  have HA : Hid ((digQ (m * 10 ^ X)).length ≤ 40000) := hA
  have HB : Hid ((digQ (V * 2 ^ E)).length ≤ 40000) := hB
  have hmx : Tryz.prog.follows .mixedOrders = true := by kernel_rfl
  have HMO : Hid (∀ M N : Nat, M * 1 ≤ M * N → M ≤ M * N) := fun M N h => by omega
  have up2 : ∀ M k : Nat, M ≤ M * 2 ^ k := fun M k => Nat.le_mul_of_pos_right _ (Nat.pow_pos (by decide))
  have up10 : ∀ M k : Nat, M ≤ M * 10 ^ k := fun M k => Nat.le_mul_of_pos_right _ (Nat.pow_pos (by decide))
  have HP2 : Hid (∀ (v : Value) (M : Nat) (W : World), QAt W v M → (digQ (M * 2 ^ E)).length ≤ 40000 → Calls Tryz.prog 130 #[v, .int .i64 2, .int .i64 E] W fun e w' => ∃ v', e = .returned v' ∧ QAt w' v' (M * 2 ^ E) ∧ Below W.heap.size W w') := fun v M W hq hl => refPow2_any v M E W hq hE hl
  have HP10 : Hid (∀ (v : Value) (M : Nat) (W : World), QAt W v M → (digQ (M * 10 ^ X)).length ≤ 40000 → Calls Tryz.prog 130 #[v, .int .i64 10, .int .i64 X] W fun e w' => ∃ v', e = .returned v' ∧ QAt w' v' (M * 10 ^ X) ∧ Below W.heap.size W w') := fun v M W hq hl => refPow10_any v M X W hq hX hl
  have HU2 : Hid (∀ M k : Nat, M ≤ M * 2 ^ k) := up2
  have HU10 : Hid (∀ M k : Nat, M ≤ M * 10 ^ k) := up10
  clear h hA hB up2 up10 HMO
  obtain ⟨W1, hW1⟩ : ∃ W1, w.alloc (.cells #[.slice a l c, .int .i64 (-(X : Int))] 107) = W1 := ⟨_, rfl⟩
  obtain ⟨c0, c1⟩ := num_cells (w := W1) (b := w.heap.size) (v0 := .slice a l c) (v1 := .int .i64 (-(X : Int))) (by rw [← hW1]; exact heap_alloc_new w _)
  have hxl : w.heap.size < W1.heap.size := by rw [← hW1]; simp
  have HB1 : Hid (Below w.heap.size w W1) := by rw [← hW1]; exact (Below.refl _ _).alloc (Nat.le_refl _) _
  have HW1 : Hid (w.alloc (.cells #[.slice a l c, .int .i64 (-(X : Int))] 107) = W1) := hW1
  clear hW1
  have hei : ¬ (0 : Int) < -(E : Int) := by omega
  have hxi : ¬ (0 : Int) < -(X : Int) := by omega
  go_enter Tryz.func102, Tryz.ntmps102
  go_wp2
  rw [HW1.out]
  go_region_with (first
    | (go_at_call 129; refine (HOF.out _).mono ?_; rintro e w3 ⟨v3, rfl, hv3, hb3⟩; have cz0 := (hb3.cell (p := ⟨w.heap.size, 0, none⟩) hxl).trans c0; have cz1 := (hb3.cell (p := ⟨w.heap.size, 1, none⟩) hxl).trans c1))
  all_goals
    have hb03 : Below w.heap.size w w3 := (below_drewN HB1.out 1).trans (hb3.mono (below_drewN HB1.out 1).size)
    have hx3 : w.heap.size < w3.heap.size := Nat.lt_of_lt_of_le hxl hb3.size
    obtain ⟨a3, c3, rfl⟩ := hv3.form
    obtain ⟨l3, hl3⟩ : ∃ l3, l3 = (digQ m).length := ⟨_, rfl⟩
    rw [← hl3] at hv3 ⊢
    have HQM : Hid (QAt w3 (.slice a3 l3 c3) m) := hv3
    have HB3 : Hid (Below w.heap.size w w3) := hb03
    have HX3 : Hid (w.heap.size < w3.heap.size) := hx3
    clear hv3 hb3 hb03 hl3 HOF c0 c1 HB1 HW1 hxl hx3
    have HQV : Hid (QAt w3 (.slice a l c) V) := HQ0.out.below HB3.out
    go_wp2_with (go_at_call 130; refine (HP2.out _ V _ HQV.out (HB.out)).mono ?_; clear HP2; rintro e w4 ⟨v4, rfl, hv4, hb4⟩; have HB4 : Hid (Below w.heap.size w w4) := HB3.out.trans (hb4.mono HB3.out.size); have HQM4 : Hid (QAt w4 (.slice a3 l3 c3) m) := HQM.out.below hb4; have cy1 := (hb4.cell (p := ⟨w.heap.size, 1, none⟩) HX3.out).trans cz1; obtain ⟨a4, c4, rfl⟩ := hv4.form; obtain ⟨l4, hl4⟩ : ∃ l4, l4 = (digQ (V * 2 ^ E)).length := ⟨_, rfl⟩; rw [← hl4] at hv4 ⊢; have HQV4 : Hid (QAt w4 (.slice a4 l4 c4) (V * 2 ^ E)) := hv4; clear hv4 hb4 hl4 HQM HQV)
    go_wp2_with (go_at_call 130; refine (HP10.out _ (m) _ HQM4.out HA.out).mono ?_; clear HP10; rintro e w5 ⟨v5, rfl, hv5, hb5⟩; have HB5 : Hid (Below w.heap.size w w5) := HB4.out.trans (hb5.mono HB4.out.size); have HQV5 : Hid (QAt w5 (.slice a4 l4 c4) (V * 2 ^ E)) := HQV4.out.below hb5; obtain ⟨a5, c5, rfl⟩ := hv5.form; obtain ⟨l5, hl5⟩ : ∃ l5, l5 = (digQ (m * 10 ^ X)).length := ⟨_, rfl⟩; rw [← hl5] at hv5 ⊢; have HQM5 : Hid (QAt w5 (.slice a5 l5 c5) (m * 10 ^ X)) := hv5; clear hv5 hb5 hl5 HQM4 HQV4)
    go_wp2_with (go_at_call 131; refine (refCmp_any _ _ (m * 10 ^ X) (V * 2 ^ E) _ HQM5.out HQV5.out (Nat.le_trans HA.out (by decide)) (Nat.le_trans HB.out (by decide))).mono ?_; rintro e w6 ⟨rfl, hb6⟩; have HB6 : Hid (Below w.heap.size w w6) := HB5.out.trans (hb6.mono HB5.out.size); clear hb6)
    go_ret
    exact ⟨rfl, HB6.out⟩
end Go.Proofs.YtfckdleahljdeaaGreatDoor.Nu
