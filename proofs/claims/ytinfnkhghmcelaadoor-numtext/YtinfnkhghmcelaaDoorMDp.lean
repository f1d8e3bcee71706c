/- A float's span. -/
import Derived.Test.YtinfnkhghmcelaaDoorMDo
namespace Go.Proofs.YtinfnkhghmcelaaDoor
open Go.RowKit Go.Maps

theorem apart_later {w w' w'' : World} {base N M : Nat} {u v : Value} (h1 : Big w base u N) (h2 : Big w' w''.heap.size v M) (h : w.heap.size ≤ w''.heap.size) : Apart u v := fun k hk hk' => by
  have q1 := (h1.lt k hk).2
  have q2 := (h2.lt k hk').1
  omega
theorem small_B {x : Nat} (h : x ≤ 18446744073709551616) : x < B 1000 := by
  have h1 := B_lt (show 2 < 1000 by decide)
  have : B 2 = 18446744073709551616 := rfl
  omega
theorem res_span (tmps : Array Value) (b : Nat) (hp : tmps.getD 4 undef = .pointer (some ⟨b, 0, none⟩)) (W : World) (v0 v1 v2 v3 v4 : Value) (hb : W.heap[b]? = some (.cells #[v0, v1, v2, v3, v4] 68 (0, 0))) :
    (results Tryd.f33 tmps).run Tryd.prog W = .ok (.agg #[v0, v1, v2, v3, v4]) W := by
  have hp' : tmps[4]?.getD undef = .pointer (some ⟨b, 0, none⟩) := by simpa using hp
  have hc0 : W.cell? ⟨b, 0, none⟩ = some v0 := by simp [World.cell?, hb]
  have hc1 : W.cell? ⟨b, 1, none⟩ = some v1 := by simp [World.cell?, hb]
  have hc2 : W.cell? ⟨b, 2, none⟩ = some v2 := by simp [World.cell?, hb]
  have hc3 : W.cell? ⟨b, 3, none⟩ = some v3 := by simp [World.cell?, hb]
  have hc4 : W.cell? ⟨b, 4, none⟩ = some v4 := by simp [World.cell?, hb]
  simp [results, Tryd.results33, hp', go_sem, hc0, hc1, hc2, hc3, hc4]
theorem nats_set {w w' : World} {base b : Nat} {v1 v2 v3 v4 : Value} {V Bl A W : Nat} {cs : Array Value} (hb : w.heap[b]? = some (.cells cs 68 (0, 0))) (hn : Nats w base v1 v2 v3 v4 V Bl A W) (hk : Kept (fun k => k = b) w w') : Nats w' base v1 v2 v3 v4 V Bl A W :=
  hn.keep hk (fun k hk e => big_not_at sp_ne hb hn.b1 (by rw [← e]; exact hk)) (fun k hk e => big_not_at sp_ne hb hn.b2 (by rw [← e]; exact hk)) (fun k hk e => big_not_at sp_ne hb hn.b3 (by rw [← e]; exact hk)) (fun k hk e => big_not_at sp_ne hb hn.b4 (by rw [← e]; exact hk))
/-- Naturals that were made one behind the other. -/
theorem span_chain {w0 w w1 w2 w3 w4 w5 w6 w7 w8 : World} {v1 v2 v3 v4 : Value} {V Bl A W : Nat} (h0 : Below w0.heap.size w0 w) (h1 : Below w.heap.size w w1) (h2 : Big w2 w1.heap.size v1 V) (h3 : Below w1.heap.size w1 w2) (h4 : Below w2.heap.size w2 w3) (h5 : Big w4 w3.heap.size v2 Bl) (h6 : Below w3.heap.size w3 w4) (h7 : Below w4.heap.size w4 w5) (h8 : Big w6 w5.heap.size v3 A) (h9 : Below w5.heap.size w5 w6) (h10 : Below w6.heap.size w6 w7) (h11 : Big w8 w7.heap.size v4 W) (h12 : Below w7.heap.size w7 w8) :
    Nats w8 w0.heap.size v1 v2 v3 v4 V Bl A W ∧ Below w0.heap.size w0 w8 ∧ Below w.heap.size w w8 := by
  have b28 : Below w2.heap.size w2 w8 := ((((h4.trans (h6.mono h4.size)).trans (h7.mono (Nat.le_trans h4.size h6.size))).trans (h9.mono (Nat.le_trans (Nat.le_trans h4.size h6.size) h7.size))).trans (h10.mono (Nat.le_trans (Nat.le_trans (Nat.le_trans h4.size h6.size) h7.size) h9.size))).trans (h12.mono (Nat.le_trans (Nat.le_trans (Nat.le_trans (Nat.le_trans h4.size h6.size) h7.size) h9.size) h10.size))
  have b48 : Below w4.heap.size w4 w8 := ((h7.trans (h9.mono h7.size)).trans (h10.mono (Nat.le_trans h7.size h9.size))).trans (h12.mono (Nat.le_trans (Nat.le_trans h7.size h9.size) h10.size))
  have b68 : Below w6.heap.size w6 w8 := h10.trans (h12.mono h10.size)
  have b08 : Below w.heap.size w w8 := (h1.trans (h3.mono h1.size)).trans (b28.mono (Nat.le_trans h1.size h3.size))
  have s1 := h1.size
  have s3 := h3.size
  have s4 := h4.size
  have s6 := h6.size
  have s7 := h7.size
  have s9 := h9.size
  have s10 := h10.size
  have s0 := h0.size
  refine ⟨⟨(h2.below b28).base (by omega), (h5.below b48).base (by omega), (h8.below b68).base (by omega), h11.base (by omega), apart_later h2 h5 (by omega), apart_later h2 h8 (by omega), apart_later h2 h11 (by omega), apart_later h5 h8 (by omega), apart_later h5 h11 (by omega), apart_later h8 h11 (by omega)⟩, h0.trans (b08.mono s0), b08⟩

set_option maxRecDepth 100000 in
set_option maxHeartbeats 2000000 in
theorem span_walk (count up down : Nat) (p : Int) (w : World) (hcl : count < 18446744073709551616) (hup : up = p.toNat) (hdn : down = (-p).toNat) (hp1 : -1074 ≤ p) (hp2 : p ≤ 971) :
    Calls Tryd.prog 33 #[.int .u64 count, .int .i64 p] w fun e w' => ∃ v1 v2 v3 v4, e = .returned (.agg #[v1, v2, v3, v4, .bool ((count : Int) % 2 == 0)]) ∧ Nats w' w.heap.size v1 v2 v3 v4 (count * 2 ^ (up + 2)) ((if count = 4503599627370496 ∧ -1074 < p then 1 else 2) * 2 ^ up) (2 * 2 ^ up) (4 * 2 ^ down) ∧ Below w.heap.size w w' := by
  have HNO : Hid (∀ (n : Nat) (W : World), n < 18446744073709551616 → Calls Tryd.prog 50 #[.int .u64 n] W fun e w' => ∃ v', e = .returned v' ∧ Big w' W.heap.size v' n ∧ Below W.heap.size W w') := fun n W h => naturalOf_any n W h
  have HSH : Hid (∀ (v : Value) (N n : Nat) (z : Int) (W : World), BigAt W v N → z = n → N ≤ 18446744073709551616 → n ≤ 30000 → Calls Tryd.prog 59 #[v, .int .i64 z] W fun e w' => ∃ a q k, e = .returned (.slice a q k) ∧ Big w' W.heap.size (.slice a q k) (N * 2 ^ n) ∧ Below W.heap.size W w') := fun v N n z W h1 hz h2 h3 => by
    subst hz
    exact (shifted_any v N n W h1 (small_B h2) h3).mono (by
      rintro e' w' ⟨v', rfl, h3, h4⟩
      obtain ⟨a2, c2, d2, rfl, -⟩ := id h3
      exact ⟨_, _, _, rfl, h3, h4⟩)
  have hcl2 := hcl
  have hm1 : max p 0 = (up : Int) := by omega
  have hm2 : max (-p) 0 = (down : Int) := by omega
  have hul : up ≤ 971 := by omega
  have hdl : down ≤ 1074 := by omega
  clear hup hdn
  by_cases hb : count = 4503599627370496
  · subst hb
    by_cases hb2 : -1074 < p
    · have HIF : Hid ((if (4503599627370496 : Nat) = 4503599627370496 ∧ -1074 < p then 1 else 2 : Nat) = 1) := if_pos ⟨rfl, hb2⟩
      have hbll : (1 : Nat) < 18446744073709551616 := by decide
      have h2l : (2 : Nat) < 18446744073709551616 := by decide
      have h4l : (4 : Nat) < 18446744073709551616 := by decide
      go_enter Tryd.func33, Tryd.ntmps33
      go_wp2_with (first
        | (go_at_call 50; refine (HNO.out _ _ hcl).mono ?_; clear hcl; rintro e w1 ⟨n1, rfl, hn1, hb1⟩; have hu1 : Hid _ := hn1.at; have HB1 : Hid _ := hb1; clear hn1 hb1)
        | (go_at_call 59; refine (HSH.out n1 _ (up + 2) _ _ hu1.out (by omega) (by omega) (by omega)).mono ?_; clear hu1; rintro e w2 ⟨a1, q1, k1, rfl, hv1, hb2⟩; have HV1 : Hid _ := hv1; have HB2 : Hid (Below w1.heap.size w1 w2) := hb2; clear hv1 hb2)
        | (go_at_call 50; refine (HNO.out _ _ hbll).mono ?_; clear hbll; rintro e w3 ⟨n2, rfl, hn2, hb3⟩; have hu2 : Hid _ := hn2.at; have HB3 : Hid (Below w2.heap.size w2 w3) := hb3; clear hn2 hb3)
        | (go_at_call 59; refine (HSH.out n2 _ up _ _ hu2.out (by omega) (by omega) (by omega)).mono ?_; clear hu2; rintro e w4 ⟨a2, q2, k2, rfl, hv2, hb4⟩; have HV2 : Hid _ := hv2; have HB4 : Hid (Below w3.heap.size w3 w4) := hb4; clear hv2 hb4)
        | (go_at_call 50; refine (HNO.out _ _ h2l).mono ?_; clear h2l; rintro e w5 ⟨n3, rfl, hn3, hb5⟩; have hu3 : Hid _ := hn3.at; have HB5 : Hid (Below w4.heap.size w4 w5) := hb5; clear hn3 hb5)
        | (go_at_call 59; refine (HSH.out n3 _ up _ _ hu3.out (by omega) (by omega) (by omega)).mono ?_; clear hu3; rintro e w6 ⟨a3, q3, k3, rfl, hv3, hb6⟩; have HV3 : Hid _ := hv3; have HB6 : Hid (Below w5.heap.size w5 w6) := hb6; clear hv3 hb6)
        | (go_at_call 50; refine (HNO.out _ _ h4l).mono ?_; clear h4l; rintro e w7 ⟨n4, rfl, hn4, hb7⟩; have hu4 : Hid _ := hn4.at; have HB7 : Hid (Below w6.heap.size w6 w7) := hb7; clear hn4 hb7)
        | (go_at_call 59; refine (HSH.out n4 _ down _ _ hu4.out (by omega) (by omega) (by omega)).mono ?_; clear hu4; rintro e w8 ⟨a4, q4, k4, rfl, hv4, hb8⟩; have HV4 : Hid _ := hv4; have HB8 : Hid (Below w7.heap.size w7 w8) := hb8; clear hv4 hb8; obtain ⟨HNT, HBL, HBK⟩ := span_chain ((Below.refl w.heap.size w).alloc (Nat.le_refl _) _) HB1.out HV1.out HB2.out HB3.out HV2.out HB4.out HB5.out HV3.out HB6.out HB7.out HV4.out HB8.out; have HNT : Hid _ := HNT; have HBL : Hid _ := HBL; have hbk := span_cells ((HBK.block w.heap.size (by simp)).trans (heap_alloc_new w _)); have HBK2 : Hid _ := (HBK.block w.heap.size (by simp)).trans (heap_alloc_new w _); clear HBK; have hf4 : w8.frozen? ⟨w.heap.size, 4, none⟩ = false := (by simp [World.frozen?, HBK2.out])))
      obtain ⟨W9, hW9⟩ : ∃ W9, W9 = ((((w8.setCell ⟨w.heap.size, 0, none⟩ (.slice a1 q1 k1)).setCell ⟨w.heap.size, 1, none⟩ (.slice a2 q2 k2)).setCell ⟨w.heap.size, 2, none⟩ (.slice a3 q3 k3)).setCell ⟨w.heap.size, 3, none⟩ (.slice a4 q4 k4)).setCell ⟨w.heap.size, 4, none⟩ (.bool (true)) := ⟨_, rfl⟩
      rw [← hW9]
      have h9 : W9.heap[w.heap.size]? = some (.cells #[.slice a1 q1 k1, .slice a2 q2 k2, .slice a3 q3 k3, .slice a4 q4 k4, .bool (true)] 68 (0, 0)) := by rw [hW9]; exact heap_setCell_same (i := 4) (heap_setCell_same (i := 3) (heap_setCell_same (i := 2) (heap_setCell_same (i := 1) (heap_setCell_same (i := 0) HBK2.out _) _) _) _) _
      have hk : Kept (fun k => k = w.heap.size) w8 W9 := by rw [hW9]; exact (((((Kept.refl (fun k => k = w.heap.size) w8).setCell (p := ⟨w.heap.size, 0, none⟩) (fun _ => rfl) _).setCell (p := ⟨w.heap.size, 1, none⟩) (fun _ => rfl) _).setCell (p := ⟨w.heap.size, 2, none⟩) (fun _ => rfl) _).setCell (p := ⟨w.heap.size, 3, none⟩) (fun _ => rfl) _).setCell (p := ⟨w.heap.size, 4, none⟩) (fun _ => rfl) _
      have hsp := nats_set HBK2.out HNT.out hk
      refine bodyPost_ret (res_span _ _ rfl _ _ _ _ _ _ h9) rfl ⟨_, _, _, _, rfl, ?_, HBL.out.trans (hk.toBelow HBL.out.size (fun i e => by rw [e]; exact Nat.le_refl _))⟩
      (try rw [Nat.one_mul] at hsp)
      exact hsp

      all_goals exact absurd (show True ∧ -1074 < p from ⟨trivial, hb2⟩) (by assumption)
    · have HIF : Hid ((if (4503599627370496 : Nat) = 4503599627370496 ∧ -1074 < p then 1 else 2 : Nat) = 2) := if_neg (fun h => hb2 h.2)
      have hb3 : decide (-1074 < p) = false := by simp; omega
      have hbll : (2 : Nat) < 18446744073709551616 := by decide
      have h2l : (2 : Nat) < 18446744073709551616 := by decide
      have h4l : (4 : Nat) < 18446744073709551616 := by decide
      go_enter Tryd.func33, Tryd.ntmps33
      go_wp2_with (first
        | (go_at_call 50; refine (HNO.out _ _ hcl).mono ?_; clear hcl; rintro e w1 ⟨n1, rfl, hn1, hb1⟩; have hu1 : Hid _ := hn1.at; have HB1 : Hid _ := hb1; clear hn1 hb1)
        | (go_at_call 59; refine (HSH.out n1 _ (up + 2) _ _ hu1.out (by omega) (by omega) (by omega)).mono ?_; clear hu1; rintro e w2 ⟨a1, q1, k1, rfl, hv1, hb2⟩; have HV1 : Hid _ := hv1; have HB2 : Hid (Below w1.heap.size w1 w2) := hb2; clear hv1 hb2)
        | (go_at_call 50; refine (HNO.out _ _ hbll).mono ?_; clear hbll; rintro e w3 ⟨n2, rfl, hn2, hb3⟩; have hu2 : Hid _ := hn2.at; have HB3 : Hid (Below w2.heap.size w2 w3) := hb3; clear hn2 hb3)
        | (go_at_call 59; refine (HSH.out n2 _ up _ _ hu2.out (by omega) (by omega) (by omega)).mono ?_; clear hu2; rintro e w4 ⟨a2, q2, k2, rfl, hv2, hb4⟩; have HV2 : Hid _ := hv2; have HB4 : Hid (Below w3.heap.size w3 w4) := hb4; clear hv2 hb4)
        | (go_at_call 50; refine (HNO.out _ _ h2l).mono ?_; clear h2l; rintro e w5 ⟨n3, rfl, hn3, hb5⟩; have hu3 : Hid _ := hn3.at; have HB5 : Hid (Below w4.heap.size w4 w5) := hb5; clear hn3 hb5)
        | (go_at_call 59; refine (HSH.out n3 _ up _ _ hu3.out (by omega) (by omega) (by omega)).mono ?_; clear hu3; rintro e w6 ⟨a3, q3, k3, rfl, hv3, hb6⟩; have HV3 : Hid _ := hv3; have HB6 : Hid (Below w5.heap.size w5 w6) := hb6; clear hv3 hb6)
        | (go_at_call 50; refine (HNO.out _ _ h4l).mono ?_; clear h4l; rintro e w7 ⟨n4, rfl, hn4, hb7⟩; have hu4 : Hid _ := hn4.at; have HB7 : Hid (Below w6.heap.size w6 w7) := hb7; clear hn4 hb7)
        | (go_at_call 59; refine (HSH.out n4 _ down _ _ hu4.out (by omega) (by omega) (by omega)).mono ?_; clear hu4; rintro e w8 ⟨a4, q4, k4, rfl, hv4, hb8⟩; have HV4 : Hid _ := hv4; have HB8 : Hid (Below w7.heap.size w7 w8) := hb8; clear hv4 hb8; obtain ⟨HNT, HBL, HBK⟩ := span_chain ((Below.refl w.heap.size w).alloc (Nat.le_refl _) _) HB1.out HV1.out HB2.out HB3.out HV2.out HB4.out HB5.out HV3.out HB6.out HB7.out HV4.out HB8.out; have HNT : Hid _ := HNT; have HBL : Hid _ := HBL; have hbk := span_cells ((HBK.block w.heap.size (by simp)).trans (heap_alloc_new w _)); have HBK2 : Hid _ := (HBK.block w.heap.size (by simp)).trans (heap_alloc_new w _); clear HBK; have hf4 : w8.frozen? ⟨w.heap.size, 4, none⟩ = false := (by simp [World.frozen?, HBK2.out])))
      obtain ⟨W9, hW9⟩ : ∃ W9, W9 = ((((w8.setCell ⟨w.heap.size, 0, none⟩ (.slice a1 q1 k1)).setCell ⟨w.heap.size, 1, none⟩ (.slice a2 q2 k2)).setCell ⟨w.heap.size, 2, none⟩ (.slice a3 q3 k3)).setCell ⟨w.heap.size, 3, none⟩ (.slice a4 q4 k4)).setCell ⟨w.heap.size, 4, none⟩ (.bool (true)) := ⟨_, rfl⟩
      rw [← hW9]
      have h9 : W9.heap[w.heap.size]? = some (.cells #[.slice a1 q1 k1, .slice a2 q2 k2, .slice a3 q3 k3, .slice a4 q4 k4, .bool (true)] 68 (0, 0)) := by rw [hW9]; exact heap_setCell_same (i := 4) (heap_setCell_same (i := 3) (heap_setCell_same (i := 2) (heap_setCell_same (i := 1) (heap_setCell_same (i := 0) HBK2.out _) _) _) _) _
      have hk : Kept (fun k => k = w.heap.size) w8 W9 := by rw [hW9]; exact (((((Kept.refl (fun k => k = w.heap.size) w8).setCell (p := ⟨w.heap.size, 0, none⟩) (fun _ => rfl) _).setCell (p := ⟨w.heap.size, 1, none⟩) (fun _ => rfl) _).setCell (p := ⟨w.heap.size, 2, none⟩) (fun _ => rfl) _).setCell (p := ⟨w.heap.size, 3, none⟩) (fun _ => rfl) _).setCell (p := ⟨w.heap.size, 4, none⟩) (fun _ => rfl) _
      have hsp := nats_set HBK2.out HNT.out hk
      refine bodyPost_ret (res_span _ _ rfl _ _ _ _ _ _ h9) rfl ⟨_, _, _, _, rfl, ?_, HBL.out.trans (hk.toBelow HBL.out.size (fun i e => by rw [e]; exact Nat.le_refl _))⟩
      (try rw [Nat.one_mul] at hsp)
      exact hsp

  · have HIF : Hid ((if count = 4503599627370496 ∧ -1074 < p then 1 else 2 : Nat) = 2) := if_neg (fun h => hb h.1)
    have hb' : ((count : Int) == 4503599627370496) = false := by rw [beq_eq_false_iff_ne]; omega
    have hbll : (2 : Nat) < 18446744073709551616 := by decide
    have h2l : (2 : Nat) < 18446744073709551616 := by decide
    have h4l : (4 : Nat) < 18446744073709551616 := by decide
    go_enter Tryd.func33, Tryd.ntmps33
    go_wp2_with (first
      | (go_at_call 50; refine (HNO.out _ _ hcl).mono ?_; clear hcl; rintro e w1 ⟨n1, rfl, hn1, hb1⟩; have hu1 : Hid _ := hn1.at; have HB1 : Hid _ := hb1; clear hn1 hb1)
      | (go_at_call 59; refine (HSH.out n1 _ (up + 2) _ _ hu1.out (by omega) (by omega) (by omega)).mono ?_; clear hu1; rintro e w2 ⟨a1, q1, k1, rfl, hv1, hb2⟩; have HV1 : Hid _ := hv1; have HB2 : Hid (Below w1.heap.size w1 w2) := hb2; clear hv1 hb2)
      | (go_at_call 50; refine (HNO.out _ _ hbll).mono ?_; clear hbll; rintro e w3 ⟨n2, rfl, hn2, hb3⟩; have hu2 : Hid _ := hn2.at; have HB3 : Hid (Below w2.heap.size w2 w3) := hb3; clear hn2 hb3)
      | (go_at_call 59; refine (HSH.out n2 _ up _ _ hu2.out (by omega) (by omega) (by omega)).mono ?_; clear hu2; rintro e w4 ⟨a2, q2, k2, rfl, hv2, hb4⟩; have HV2 : Hid _ := hv2; have HB4 : Hid (Below w3.heap.size w3 w4) := hb4; clear hv2 hb4)
      | (go_at_call 50; refine (HNO.out _ _ h2l).mono ?_; clear h2l; rintro e w5 ⟨n3, rfl, hn3, hb5⟩; have hu3 : Hid _ := hn3.at; have HB5 : Hid (Below w4.heap.size w4 w5) := hb5; clear hn3 hb5)
      | (go_at_call 59; refine (HSH.out n3 _ up _ _ hu3.out (by omega) (by omega) (by omega)).mono ?_; clear hu3; rintro e w6 ⟨a3, q3, k3, rfl, hv3, hb6⟩; have HV3 : Hid _ := hv3; have HB6 : Hid (Below w5.heap.size w5 w6) := hb6; clear hv3 hb6)
      | (go_at_call 50; refine (HNO.out _ _ h4l).mono ?_; clear h4l; rintro e w7 ⟨n4, rfl, hn4, hb7⟩; have hu4 : Hid _ := hn4.at; have HB7 : Hid (Below w6.heap.size w6 w7) := hb7; clear hn4 hb7)
      | (go_at_call 59; refine (HSH.out n4 _ down _ _ hu4.out (by omega) (by omega) (by omega)).mono ?_; clear hu4; rintro e w8 ⟨a4, q4, k4, rfl, hv4, hb8⟩; have HV4 : Hid _ := hv4; have HB8 : Hid (Below w7.heap.size w7 w8) := hb8; clear hv4 hb8; obtain ⟨HNT, HBL, HBK⟩ := span_chain ((Below.refl w.heap.size w).alloc (Nat.le_refl _) _) HB1.out HV1.out HB2.out HB3.out HV2.out HB4.out HB5.out HV3.out HB6.out HB7.out HV4.out HB8.out; have HNT : Hid _ := HNT; have HBL : Hid _ := HBL; have hbk := span_cells ((HBK.block w.heap.size (by simp)).trans (heap_alloc_new w _)); have HBK2 : Hid _ := (HBK.block w.heap.size (by simp)).trans (heap_alloc_new w _); clear HBK; have hf4 : w8.frozen? ⟨w.heap.size, 4, none⟩ = false := (by simp [World.frozen?, HBK2.out])))
    obtain ⟨W9, hW9⟩ : ∃ W9, W9 = ((((w8.setCell ⟨w.heap.size, 0, none⟩ (.slice a1 q1 k1)).setCell ⟨w.heap.size, 1, none⟩ (.slice a2 q2 k2)).setCell ⟨w.heap.size, 2, none⟩ (.slice a3 q3 k3)).setCell ⟨w.heap.size, 3, none⟩ (.slice a4 q4 k4)).setCell ⟨w.heap.size, 4, none⟩ (.bool (((count : Nat) : Int) % 2 == 0)) := ⟨_, rfl⟩
    rw [← hW9]
    have h9 : W9.heap[w.heap.size]? = some (.cells #[.slice a1 q1 k1, .slice a2 q2 k2, .slice a3 q3 k3, .slice a4 q4 k4, .bool (((count : Nat) : Int) % 2 == 0)] 68 (0, 0)) := by rw [hW9]; exact heap_setCell_same (i := 4) (heap_setCell_same (i := 3) (heap_setCell_same (i := 2) (heap_setCell_same (i := 1) (heap_setCell_same (i := 0) HBK2.out _) _) _) _) _
    have hk : Kept (fun k => k = w.heap.size) w8 W9 := by rw [hW9]; exact (((((Kept.refl (fun k => k = w.heap.size) w8).setCell (p := ⟨w.heap.size, 0, none⟩) (fun _ => rfl) _).setCell (p := ⟨w.heap.size, 1, none⟩) (fun _ => rfl) _).setCell (p := ⟨w.heap.size, 2, none⟩) (fun _ => rfl) _).setCell (p := ⟨w.heap.size, 3, none⟩) (fun _ => rfl) _).setCell (p := ⟨w.heap.size, 4, none⟩) (fun _ => rfl) _
    have hsp := nats_set HBK2.out HNT.out hk
    refine bodyPost_ret (res_span _ _ rfl _ _ _ _ _ _ h9) rfl ⟨_, _, _, _, rfl, ?_, HBL.out.trans (hk.toBelow HBL.out.size (fun i e => by rw [e]; exact Nat.le_refl _))⟩
    (try rw [Nat.one_mul] at hsp)
    exact hsp

end Go.Proofs.YtinfnkhghmcelaaDoor
