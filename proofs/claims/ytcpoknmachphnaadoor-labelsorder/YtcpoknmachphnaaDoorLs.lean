/- LabelsOrder, walked. -/
import Derived.Test.YtcpoknmachphnaaDoorLr
import Derived.Test.YtcpoknmachphnaaDoorLn
namespace Go.Proofs.YtcpoknmachphnaaDoor
open Go.RowKit

theorem eqL_iff (s t : List Lb) : eqL s t = (cmpL s t == 0) := by
  unfold eqL
  rw [Bool.eq_iff_iff, decide_eq_true_iff, beq_iff_eq]
  exact (tcL.zero s t).symm
theorem tcL_up {s t u : List Lb} (h1 : 0 ≤ cmpL s t) (h2 : 0 ≤ cmpL t u) : 0 ≤ cmpL s u := by
  have h3 := tcL.tr u t s (by have := tcL.anti t u; omega) (by have := tcL.anti s t; omega)
  have := tcL.anti s u
  omega

/-- What is asked of three sets' order, with the answers as numbers. -/
structure Nums (p q z : Int) : Prop where
  p3 : p = -1 ∨ p = 0 ∨ p = 1
  q3 : q = -1 ∨ q = 0 ∨ q = 1
  z3 : z = -1 ∨ z = 0 ∨ z = 1
  lo : p ≤ 0 → q ≤ 0 → z ≤ 0
  hi : 0 ≤ p → 0 ≤ q → 0 ≤ z
theorem nums (s t u : List Lb) : Nums (cmpL s t) (cmpL t u) (cmpL s u) := ⟨tcL.rng _ _, tcL.rng _ _, tcL.rng _ _, tcL.tr _ _ _, tcL_up⟩

set_option maxRecDepth 100000 in
set_option maxHeartbeats 4000000 in
theorem order_any (va vb vc : Value) (la lb lc : List Lb) (w : World) (ha : LabsAt w va la) (hza : Sized la) (hb : LabsAt w vb lb) (hzb : Sized lb) (hc : LabsAt w vc lc) (hzc : Sized lc) (hT : Tabs w) :
    Calls Tryd.prog 5 #[va, vb, vc] w fun e w' => e = .returned (.bool true) ∧ Below w.heap.size w w' := by
  have hset : ∀ (v : Value) (ls : List Lb), LabsAt w v ls → Sized ls → ∀ W, Below w.heap.size w W → Calls Tryd.prog 18 #[v] W fun e w' => ∃ a c, e = .returned (.slice a (setL ls).length c) ∧ LabsAt w' (.slice a (setL ls).length c) (setL ls) ∧ Below W.heap.size W w' := fun v ls hv hz W hW => (set_any v ls W (hv.below hW) hz).mono fun e w' ⟨v', he, hr, hb'⟩ => by
    obtain ⟨a, c, rfl⟩ := slice_of_row hr
    exact ⟨a, c, he, LabsAt.of_row hr, hb'⟩
  have HA : Hid (∀ W, Below w.heap.size w W → Calls Tryd.prog 18 #[va] W fun e w' => ∃ a c, e = .returned (.slice a (setL la).length c) ∧ LabsAt w' (.slice a (setL la).length c) (setL la) ∧ Below W.heap.size W w') := hset va la ha hza
  have HB : Hid (∀ W, Below w.heap.size w W → Calls Tryd.prog 18 #[vb] W fun e w' => ∃ a c, e = .returned (.slice a (setL lb).length c) ∧ LabsAt w' (.slice a (setL lb).length c) (setL lb) ∧ Below W.heap.size W w') := hset vb lb hb hzb
  have HC : Hid (∀ W, Below w.heap.size w W → Calls Tryd.prog 18 #[vc] W fun e w' => ∃ a c, e = .returned (.slice a (setL lc).length c) ∧ LabsAt w' (.slice a (setL lc).length c) (setL lc) ∧ Below W.heap.size W w') := hset vc lc hc hzc
  obtain ⟨a, c, rfl, -, -⟩ := id ha
  obtain ⟨a2, c2, rfl, -, -⟩ := id hb
  obtain ⟨a3, c3, rfl, -, -⟩ := id hc
  have hl1 := setL_length la
  have hl2 := setL_length lb
  have hl3 := setL_length lc
  generalize setL la = s at *
  generalize setL lb = t at *
  generalize setL lc = u at *
  have HT : Hid (Tabs w) := hT
  clear hset ha hb hc hza hzb hzc hT
  go_enter Tryd.func5, Tryd.ntmps5
  go_wp2_with (go_at_call 18; first
    | (refine (HA.out _ (Below.refl _ _)).mono ?_; clear HA; rintro e w1 ⟨x, cx, rfl, hx1, hb1⟩; have HX1 : Hid (LabsAt w1 (.slice x s.length cx) s) := hx1; have HB1 : Hid (Below w.heap.size w w1) := hb1; clear hx1 hb1)
    | (refine (HB.out _ HB1.out).mono ?_; clear HB; rintro e w2 ⟨y, cy, rfl, hy2, hb2⟩; have HX2 : Hid (LabsAt w2 (.slice x s.length cx) s) := HX1.out.below hb2; have HY2 : Hid (LabsAt w2 (.slice y t.length cy) t) := hy2; have HB2 : Hid (Below w.heap.size w w2) := HB1.out.trans (hb2.mono HB1.out.size); clear hy2 hb2 HX1 HB1)
    | (refine (HC.out _ HB2.out).mono ?_; clear HC; rintro e w3 ⟨z, cz, rfl, hz3, hb3⟩; have HX3 : Hid (LabsAt w3 (.slice x s.length cx) s) := HX2.out.below hb3; have HY3 : Hid (LabsAt w3 (.slice y t.length cy) t) := HY2.out.below hb3; have HZ3 : Hid (LabsAt w3 (.slice z u.length cz) u) := hz3; have HB3 : Hid (Below w.heap.size w w3) := HB2.out.trans (hb3.mono HB2.out.size); clear hz3 hb3 HX2 HY2 HB2))
  have hcmp : ∀ (v1 v2 : Value) (l1 l2 : List Lb), LabsAt w3 v1 l1 → LabsAt w3 v2 l2 → l1.length ≤ 64 → l2.length ≤ 64 → ∀ W, Below w3.heap.size w3 W → Calls Tryd.prog 31 #[v1, v2] W fun e w' => e = .returned (.int .i64 (cmpL l1 l2)) ∧ Below w3.heap.size w3 w' := fun v1 v2 l1 l2 h1 h2 g1 g2 W hW => (compare_sets v1 v2 l1 l2 W (h1.below hW) (h2.below hW) (by omega) (by omega)).mono fun e w' ⟨he, hb⟩ => ⟨he, hW.trans (hb.mono hW.size)⟩
  have HXY : Hid (∀ W, Below w3.heap.size w3 W → Calls Tryd.prog 31 #[.slice x s.length cx, .slice y t.length cy] W fun e w' => e = .returned (.int .i64 (cmpL s t)) ∧ Below w3.heap.size w3 w') := hcmp _ _ s t HX3.out HY3.out hl1 hl2
  have HYZ : Hid (∀ W, Below w3.heap.size w3 W → Calls Tryd.prog 31 #[.slice y t.length cy, .slice z u.length cz] W fun e w' => e = .returned (.int .i64 (cmpL t u)) ∧ Below w3.heap.size w3 w') := hcmp _ _ t u HY3.out HZ3.out hl2 hl3
  have HYX : Hid (∀ W, Below w3.heap.size w3 W → Calls Tryd.prog 31 #[.slice y t.length cy, .slice x s.length cx] W fun e w' => e = .returned (.int .i64 (- cmpL s t)) ∧ Below w3.heap.size w3 w') := by
    have h := hcmp _ _ t s HY3.out HX3.out hl2 hl1
    rw [tcL.anti s t] at h
    exact h
  have HXX : Hid (∀ W, Below w3.heap.size w3 W → Calls Tryd.prog 31 #[.slice x s.length cx, .slice x s.length cx] W fun e w' => e = .returned (.int .i64 0) ∧ Below w3.heap.size w3 w') := by
    have h := hcmp _ _ s s HX3.out HX3.out hl1 hl1
    rw [tcL.self s] at h
    exact h
  have HXZ : Hid (∀ W, Below w3.heap.size w3 W → Calls Tryd.prog 31 #[.slice x s.length cx, .slice z u.length cz] W fun e w' => e = .returned (.int .i64 (cmpL s u)) ∧ Below w3.heap.size w3 w') := hcmp _ _ s u HX3.out HZ3.out hl1 hl3
  have HREF : Hid (∀ W, Below w3.heap.size w3 W → Calls Tryd.prog 32 #[.slice x s.length cx, .slice y t.length cy] W fun e w' => e = .returned (.int .i64 (cmpL s t)) ∧ Below w3.heap.size w3 w') := fun W hW => (refCompare_any _ _ s t W (HX3.out.below hW) (HY3.out.below hW) (by omega) (by omega)).mono fun e w' ⟨he, hb⟩ => ⟨he, hW.trans (hb.mono hW.size)⟩
  have HEQ : Hid (∀ W, Below w3.heap.size w3 W → Calls Tryd.prog 14 #[.slice x s.length cx, .slice y t.length cy] W fun e w' => e = .returned (.bool (cmpL s t == 0)) ∧ Below w3.heap.size w3 w') := fun W hW => (alike_any _ _ s t W (HX3.out.below hW) (HY3.out.below hW) (by omega) (by omega)).mono fun e w' ⟨he, q, hq⟩ => ⟨by rw [← eqL_iff]; exact he, by rw [hq]; exact below_drewN hW q⟩
  have HWK : Hid (∀ W, Below w3.heap.size w3 W → Calls Tryd.prog 17 #[] W fun e w' => e = .returned (.bool true) ∧ Below w.heap.size w w') := fun W hW => by
    have hbw : Below w.heap.size w W := HB3.out.trans (hW.mono HB3.out.size)
    exact (wakes_any W (HT.out.below hbw)).mono fun e w' ⟨he, hb⟩ => ⟨he, hbw.trans (hb.mono hbw.size)⟩
  have hN := nums s t u
  have HR : Hid (Below w3.heap.size w3 w3) := Below.refl _ _
  clear hcmp HX3 HY3 HZ3 HB3 HT
  generalize cmpL s t = p at *
  generalize cmpL t u = q at *
  generalize cmpL s u = r at *
  obtain ⟨p3, q3, r3, lo, hi⟩ := hN
  have hp1 : -1 ≤ p ∧ p ≤ 1 := by omega
  have hq1 : -1 ≤ q ∧ q ≤ 1 := by omega
  have hr1 : -1 ≤ r ∧ r ≤ 1 := by omega
  obtain ⟨hp1, hp2⟩ := hp1
  obtain ⟨hq1, hq2⟩ := hq1
  obtain ⟨hr1, hr2⟩ := hr1
  have LO : Hid (p ≤ 0 → q ≤ 0 → r ≤ 0) := lo
  have HI : Hid (0 ≤ p → 0 ≤ q → 0 ≤ r) := hi
  clear lo hi p3 q3 r3
  go_wp2_with (first
    | (go_at_call 31; refine (HXY.out _ HR.out).mono ?_; clear HXY; rintro e w4 ⟨rfl, hb4⟩)
    | (go_at_call 31; refine (HYZ.out _ hb4).mono ?_; clear HYZ; rintro e w5 ⟨rfl, hb5⟩; clear hb4)
    | (go_at_call 32; refine (HREF.out _ hb5).mono ?_; clear HREF; rintro e w6 ⟨rfl, hb6⟩; clear hb5)
    | (go_at_call 31; refine (HYX.out _ hb6).mono ?_; clear HYX; rintro e w7 ⟨rfl, hb7⟩; clear hb6)
    | (go_at_call 31; refine (HXX.out _ hb7).mono ?_; clear HXX; rintro e w8 ⟨rfl, hb8⟩; clear hb7)
    | (go_at_call 14; refine (HEQ.out _ hb8).mono ?_; clear HEQ; rintro e w9 ⟨rfl, hb9⟩; clear hb8)
    | (go_at_call 31; first
      | (refine (HXZ.out _ hb9).mono ?_; rintro e w10 ⟨rfl, hb10⟩)
      | (refine (HXZ.out _ hb10).mono ?_; rintro e w11 ⟨rfl, hb11⟩))
    | (go_at_call 17; refine (HWK.out _ (by first | exact hb9 | exact hb10 | exact hb11)).mono ?_; rintro e w12 ⟨rfl, hb12⟩))
  all_goals first
    | (exfalso; have h9 := LO.out (by omega) (by omega); omega)
    | (exfalso; have h9 := HI.out (by omega) (by omega); omega)
    | (go_ret; exact ⟨rfl, hb12⟩)

end Go.Proofs.YtcpoknmachphnaaDoor
