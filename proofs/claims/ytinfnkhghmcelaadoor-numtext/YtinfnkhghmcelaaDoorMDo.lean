/- The shortest digits, walked. -/
import Derived.Test.YtinfnkhghmcelaaDoorMDn
import Derived.WalkMore
namespace Go.Proofs.YtinfnkhghmcelaaDoor
open Go.RowKit Go.Maps

theorem row_keepN {w w' : World} {base b n : Nat} {v : Value} {xs : List Value} (h : w.ownsRow base 5 1 v n xs) (hk : KeepN b w w') {cs : Array Value} (hb : w.heap[b]? = some (.cells cs 68 (0, 0))) : w'.ownsRow base 5 1 v n xs := by
  refine ⟨h.1, ?_⟩
  rcases h.2 with h1 | ⟨g, cap, cur, e, h2, h3, h4⟩
  · exact Or.inl h1
  · refine Or.inr ⟨g, cap, cur, e, h2, hk g _ _ _ (fun e => ?_) (by decide) h3, h4⟩
    subst e
    rw [hb] at h3
    injection h3 with h9
    injection h9 with _ h8
    exact absurd h8 (by decide)
theorem SpAt.keepr {w w' : World} {base b n : Nat} {v1 v2 v3 v4 v : Value} {cl : Bool} {V Bl A W : Nat} {xs : List Value} (h : SpAt w base b v1 v2 v3 v4 cl V Bl A W) (hr : w.ownsRow base 5 1 v n xs) (hk : Kept (fun k => v.ownBlock = some k) w w') : SpAt w' base b v1 v2 v3 v4 cl V Bl A W := by
  have hne : ∀ {u : Value} {N : Nat}, Big w base u N → ∀ k, u.ownBlock = some k → ¬ v.ownBlock = some k := fun {u} {N} hu k h1 h2 => by
    rcases hr.2 with ⟨rfl, _⟩ | ⟨g, cap, cur, rfl, _, hg, _⟩
    · cases h2
    · obtain rfl : g = k := by simpa [Value.ownBlock] using h2
      exact big_not_at (by decide) hg hu h1
  refine ⟨hk.heap h.blk (fun e => ?_), h.le, h.nats.keep hk (hne h.nats.b1) (hne h.nats.b2) (hne h.nats.b3) (hne h.nats.b4)⟩
  rcases hr.2 with ⟨rfl, _⟩ | ⟨g, cap, cur, rfl, _, hg, _⟩
  · cases e
  · obtain rfl : g = b := by simpa [Value.ownBlock] using e
    rw [h.blk] at hg
    injection hg with h9
    injection h9 with _ h8
    exact absurd h8 (by decide)
theorem len_short {Bl k m : Nat} (h : Bl * 10 ^ k < B m) (h0 : 0 < Bl) : k ≤ 32 * m := by
  rcases Nat.lt_or_ge (32 * m) k with h1 | h1
  · exfalso
    have hB : B m = 2 ^ (32 * m) := by unfold B; rw [Nat.pow_mul]
    have h2 : 2 ^ (32 * m) ≤ 2 ^ k := Nat.pow_le_pow_right (by decide) (by omega)
    have h3 : 2 ^ k ≤ 10 ^ k := Nat.pow_le_pow_left (by decide) k
    have h4 : 1 * 10 ^ k ≤ Bl * 10 ^ k := Nat.mul_le_mul_right _ h0
    omega
  · exact h1
theorem room_900 {x : Nat} (h : x < B 900 * 100) : x < B 999 := by
  have e : B 999 = B 900 * B 99 := (B_add 900 99).symm
  have h6 : 4294967296 ≤ B 99 := B_mono (show 1 ≤ 99 by decide)
  have h8 : B 900 * 4294967296 ≤ B 900 * B 99 := Nat.mul_le_mul_left _ h6
  rw [e]
  omega

set_option maxRecDepth 100000 in
set_option maxHeartbeats 4000000 in
theorem shortest_any (base b : Nat) (v1 v2 v3 v4 : Value) (cl : Bool) (V Bl A W : Nat) (w : World) (h : SpAt w base b v1 v2 v3 v4 cl V Bl A W) (hb : base ≤ w.heap.size) (hVW : V < W) (hBW : Bl ≤ W) (hAB : A ≤ 2 * Bl) (hB0 : 0 < Bl) (hW : W < B 900) :
    Calls Tryd.prog 36 #[.pointer (some ⟨b, 0, none⟩)] w fun e w' => ∃ a c l n, e = .returned (.slice a l.length c) ∧ shortF n V Bl A W cl = some l ∧ w'.ownsRow base 5 1 (.slice a l.length c) l.length (u8s l) ∧ Below base w w' := by
  have HS0 : Hid (SpAt w base b v1 v2 v3 v4 cl V Bl A W) := h
  have HNUM : Hid (V < W ∧ Bl ≤ W ∧ A ≤ 2 * Bl ∧ 0 < Bl ∧ W < B 900) := ⟨hVW, hBW, hAB, hB0, hW⟩
  clear h hVW hBW hAB hB0 hW
  go_enter Tryd.func36, Tryd.ntmps36
  go_wp2
  go_step3
  go_wp2
  go_step3
  go_wp2
  go_loopw [3, 4] (fun o d wr => ∃ (ds : List UInt8) (ao : Option Addr) (co : Nat) (y : Int), o = .slice ao ds.length co ∧ d = .int .u8 y ∧ ds.length ≤ 28800 ∧ Hid (∃ (u1 u2 u3 : Value) (V1 Bl1 A1 : Nat), wr.ownsRow base 5 1 (.slice ao ds.length co) ds.length (u8s ds) ∧ SpAt wr base b u1 u2 u3 v4 cl V1 Bl1 A1 W ∧ Below base w wr ∧ V1 < W ∧ Bl1 ≤ W ∧ A1 ≤ 2 * Bl1 ∧ Bl1 = Bl * 10 ^ ds.length ∧ ∀ n l, shortF n V1 Bl1 A1 W cl = some l → shortF (n + ds.length) V Bl A W cl = some (ds ++ l))) (fun o _ _ => match o with | .slice _ n _ => W + 1 - Bl * 10 ^ n | _ => 0)
  case atStart =>
    obtain ⟨h1, h2, h3, h4, h5⟩ := HNUM.out
    exact ⟨[], none, 0, 0, rfl, rfl, Nat.zero_le _, v1, v2, v3, V, Bl, A, World.ownsRow_nil _ _ _ _, HS0.out, Below.refl _ _, h1, h2, h3, by simp, fun n l h => by simpa using h⟩
  case round =>
    obtain ⟨ds, ao, co, y, rfl, rfl, hdl, hI⟩ := hrel
    obtain ⟨u1, u20, u30, V1, Bl1, A1, hrow, hsp, hbl, g1, g2, g3, g4, g5⟩ := hI.out
    clear hI HS0
    obtain ⟨-, -, -, k4, k5⟩ := HNUM.out
    have HG : Hid (V1 < W ∧ Bl1 ≤ W ∧ A1 ≤ 2 * Bl1 ∧ Bl1 = Bl * 10 ^ ds.length ∧ ∀ n l, shortF n V1 Bl1 A1 W cl = some l → shortF (n + ds.length) V Bl A W cl = some (ds ++ l)) := ⟨g1, g2, g3, g4, g5⟩
    have hgr := grow_ten base b u1 u20 u30 v4 cl V1 Bl1 A1 W wr hsp (Nat.lt_trans (room_900 (by omega)) (B_lt (by decide))) (Nat.lt_trans (room_900 (by omega)) (B_lt (by decide))) (Nat.lt_trans (room_900 (by omega)) (B_lt (by decide))) (Nat.le_trans hb hbl.size)
    have HR0 : Hid (∀ w', KeepN b wr w' → w'.ownsRow base 5 1 (.slice ao ds.length co) ds.length (u8s ds)) := fun w' hk => row_keepN hrow hk hsp.blk
    have HBL : Hid (Below base w wr) := hbl
    have HLT : Hid (W < B 900) := k5
    clear hrow hsp hbl g1 g2 g3 g4 g5 k4 k5
    go_wp2_with (go_at_call 60; refine hgr.mono ?_; clear hgr; rintro e2 w2 ⟨rfl, ⟨x0, u2, u3, hS2⟩, hb2, hk2⟩; have HS2 : Hid (SpAt w2 base b x0 u2 u3 v4 cl (V1 * 10) (Bl1 * 10) (A1 * 10) W) := hS2; have HB2 : Hid (Below base w w2) := HBL.out.trans hb2; have HR2 : Hid (w2.ownsRow base 5 1 (.slice ao ds.length co) ds.length (u8s ds)) := HR0.out _ hk2; clear hS2 hb2 hk2 HR0 HBL)
    go_loopw [4] (fun d wi => ∃ (j : Nat) (x1 : Value), d = .int .u8 ((48 + j : Nat) : Int) ∧ j ≤ 9 ∧ Hid (∃ T, SpAt wi base b x1 u2 u3 v4 cl T (Bl1 * 10) (A1 * 10) W ∧ T + j * W = V1 * 10 ∧ Below base w wi ∧ wi.ownsRow base 5 1 (.slice ao ds.length co) ds.length (u8s ds))) (fun d _ => 100 - (intOf d).toNat)
    case atStart => exact ⟨0, x0, rfl, by omega, _, HS2.out, by omega, HB2.out, HR2.out⟩
    case round =>
      obtain ⟨j, x1, rfl, hj, hI⟩ := hrel
      obtain ⟨T, hS, hT, hbw, hrow⟩ := hI.out
      have HS : Hid (SpAt wr base b x1 u2 u3 v4 cl T (Bl1 * 10) (A1 * 10) W) := hS
      have HB : Hid (Below base w wr) := hbw
      have HROW : Hid (wr.ownsRow base 5 1 (.slice ao ds.length co) ds.length (u8s ds)) := hrow
      have hg1 := HG.out.1
      have hg2 := HG.out.2.1
      have hg3 := HG.out.2.2.1
      have hlt := HLT.out
      have hTl : T < B 999 := room_900 (by omega)
      have hWl : W < B 999 := room_900 (by omega)
      have hBl : Bl1 * 10 < B 999 := room_900 (by omega)
      have hAl : A1 * 10 < B 999 := room_900 (by omega)
      have hsum : T + A1 * 10 < B 999 := room_900 (by omega)
      have h99 : B 999 < B 1000 := B_lt (by decide)
      have HCM : Hid (∀ (W5 : World) (v u : Value), BigAt W5 v T → BigAt W5 u W → Calls Tryd.prog 62 #[v, u] W5 fun e' w' => e' = .returned (.int .i64 (cmpN T W)) ∧ ∃ q, w' = W5.drewN q) := fun W5 v u h1 h2 => compare_any v u T W W5 h1 h2 (Nat.lt_trans hTl h99) (Nat.lt_trans hWl h99)
      obtain ⟨d0, d1, d2, d3, d4, dg0, dg1, dg2, dg3⟩ := span_cells HS.out.blk
      by_cases hle : W ≤ T
      · have hj8 : j ≤ 8 := by
          rcases Nat.lt_or_ge j 9 with h9 | h9
          · omega
          · have : j = 9 := by omega
            subst this
            omega
        have hc := cmp_ge hle
        have HMI : Hid (∀ W5 : World, Big W5 base x1 T → Big W5 base v4 W → Calls Tryd.prog 64 #[x1, v4] W5 fun e' w' => ∃ a n c, e' = .returned (.slice a n c) ∧ Big w' base (.slice a n c) (T - W) ∧ Step W5 w' x1 (.slice a n c)) := fun W5 h1 h2 => (minus_any base x1 v4 T W W5 h1 h2.at HS.out.nats.a14.symm hle (Nat.lt_trans hTl h99)).mono (by
          rintro e' w' ⟨v', rfl, h3, h4⟩
          obtain ⟨a2, c2, d2, rfl, -⟩ := id h3
          exact ⟨_, _, _, rfl, h3, h4⟩)
        have HT2 : Hid (T - W + (j + 1) * W = V1 * 10) := by
          show _ = _
          rw [Nat.add_mul, Nat.one_mul]
          omega
        generalize cmpN T W = c at *
        clear hI hS hT hbw hrow hg1 hg2 hg3 hlt hTl hWl hBl hAl hsum h99
        go_wp2
        refine wp_region_M 999 (fun w' => w'.cell? ⟨b, 0, none⟩ = some x1 ∧ w'.cell? ⟨b, 3, none⟩ = some v4) (by kernel_rfl) ⟨d0, d3⟩ (fun hHeld => ?_)
        refine takeP (i := 0) (v := ?_) 9 rfl rfl (by kernel_rfl) (by kernel_rfl) (by kernel_rfl) (fun _ _ _ h => h) (by kernel_rfl) (Or.inl ⟨by rfl, ?_⟩) hHeld ?_
        rotate_left
        focus (intro w _; go_simp; try (with_reducible rfl))
        try simp only [Act.put, List.setIfInBounds_toArray, List.set_cons_zero, List.set_cons_succ]
        refine takeP (i := 1) (v := ?_) 10 rfl rfl (by kernel_rfl) (by kernel_rfl) (by kernel_rfl) (fun _ _ _ h => h) (by kernel_rfl) (Or.inl ⟨by rfl, ?_⟩) hHeld ?_
        rotate_left
        focus (intro w _; go_simp; try (with_reducible rfl))
        try simp only [Act.put, List.setIfInBounds_toArray, List.set_cons_zero, List.set_cons_succ]
        refine takeP (i := 2) (v := ?_) 11 rfl rfl (by kernel_rfl) (by kernel_rfl) (by kernel_rfl) (fun _ _ _ h => h) (by kernel_rfl) (Or.inl ⟨by rfl, ?_⟩) hHeld ?_
        rotate_left
        focus (intro w _; go_simp; try (with_reducible rfl))
        try simp only [Act.put, List.setIfInBounds_toArray, List.set_cons_zero, List.set_cons_succ]
        refine takeL (i := 3) (v := ?_) 12 rfl rfl (by kernel_rfl) (by kernel_rfl) (by kernel_rfl) (fun _ _ _ h => h) (by kernel_rfl) (by kernel_rfl) (Or.inl ⟨by rfl, ?_⟩) hHeld ?_
        rotate_left
        focus (intro w hSw; (try dsimp only at hSw); go_simp; try (with_reducible rfl))
        try simp only [Act.put, List.setIfInBounds_toArray, List.set_cons_zero, List.set_cons_succ]
        refine takeP (i := 4) (v := ?_) 13 rfl rfl (by kernel_rfl) (by kernel_rfl) (by kernel_rfl) (fun _ _ _ h => h) (by kernel_rfl) (Or.inl ⟨by rfl, ?_⟩) hHeld ?_
        rotate_left
        focus (intro w _; go_simp; try (with_reducible rfl))
        try simp only [Act.put, List.setIfInBounds_toArray, List.set_cons_zero, List.set_cons_succ]
        refine takeP (i := 5) (v := ?_) 14 rfl rfl (by kernel_rfl) (by kernel_rfl) (by kernel_rfl) (fun _ _ _ h => h) (by kernel_rfl) (Or.inl ⟨by rfl, ?_⟩) hHeld ?_
        rotate_left
        focus (intro w _; go_simp; try (with_reducible rfl))
        try simp only [Act.put, List.setIfInBounds_toArray, List.set_cons_zero, List.set_cons_succ]
        refine takeP (i := 6) (v := ?_) 15 rfl rfl (by kernel_rfl) (by kernel_rfl) (by kernel_rfl) (fun _ _ _ h => h) (by kernel_rfl) (Or.inl ⟨by rfl, ?_⟩) hHeld ?_
        rotate_left
        focus (intro w _; go_simp; try (with_reducible rfl))
        try simp only [Act.put, List.setIfInBounds_toArray, List.set_cons_zero, List.set_cons_succ]
        refine takeL (i := 7) (v := ?_) 16 rfl rfl (by kernel_rfl) (by kernel_rfl) (by kernel_rfl) (fun _ _ _ h => h) (by kernel_rfl) (by kernel_rfl) (Or.inl ⟨by rfl, ?_⟩) hHeld ?_
        rotate_left
        focus (intro w hSw; (try dsimp only at hSw); go_simp; try (with_reducible rfl))
        try simp only [Act.put, List.setIfInBounds_toArray, List.set_cons_zero, List.set_cons_succ]
        refine nextS (i := 8) (by kernel_rfl) rfl (fun K hK => ?_)
        go_simp
        go_at_call 62; refine (HCM.out _ _ _ (Nats.below HS.out.nats (below_drewN (Below.refl _ _) 1)).b1.at (Nats.below HS.out.nats (below_drewN (Below.refl _ _) 1)).b4.at).mono ?_; rintro e4 w5 ⟨rfl, q, rfl⟩
        go_wp2_with fail
        refine hK.out _ _ ⟨d0, d3⟩ (fun hHeld => ?_)
        clear hK K
        try simp only [Act.put, List.setIfInBounds_toArray, List.set_cons_zero, List.set_cons_succ]
        refine takeP (i := 9) (v := ?_) 18 rfl rfl (by kernel_rfl) (by kernel_rfl) (by kernel_rfl) (fun _ _ _ h => h) (by kernel_rfl) (Or.inl ⟨by rfl, ?_⟩) hHeld ?_
        rotate_left
        focus (intro w _; go_simp; try (with_reducible rfl))
        try simp only [Act.put, List.setIfInBounds_toArray, List.set_cons_zero, List.set_cons_succ]
        clear hHeld
        refine endM (by kernel_rfl) ?_ _
        go_wp2_with fail
        refine wp_region_M 10 (fun w' => w'.cell? ⟨b, 0, none⟩ = some x1 ∧ w'.cell? ⟨b, 3, none⟩ = some v4) (by kernel_rfl) ⟨d0, d3⟩ (fun hHeld => ?_)
        refine takeP (i := 0) (v := ?_) 19 rfl rfl (by kernel_rfl) (by kernel_rfl) (by kernel_rfl) (fun _ _ _ h => h) (by kernel_rfl) (Or.inl ⟨by rfl, ?_⟩) hHeld ?_
        rotate_left
        focus (intro w _; go_simp; try (with_reducible rfl))
        try simp only [Act.put, List.setIfInBounds_toArray, List.set_cons_zero, List.set_cons_succ]
        refine takeP (i := 1) (v := ?_) 20 rfl rfl (by kernel_rfl) (by kernel_rfl) (by kernel_rfl) (fun _ _ _ h => h) (by kernel_rfl) (Or.inl ⟨by rfl, ?_⟩) hHeld ?_
        rotate_left
        focus (intro w _; go_simp; try (with_reducible rfl))
        try simp only [Act.put, List.setIfInBounds_toArray, List.set_cons_zero, List.set_cons_succ]
        refine takeP (i := 2) (v := ?_) 21 rfl rfl (by kernel_rfl) (by kernel_rfl) (by kernel_rfl) (fun _ _ _ h => h) (by kernel_rfl) (Or.inl ⟨by rfl, ?_⟩) hHeld ?_
        rotate_left
        focus (intro w _; go_simp; try (with_reducible rfl))
        try simp only [Act.put, List.setIfInBounds_toArray, List.set_cons_zero, List.set_cons_succ]
        refine takeP (i := 3) (v := ?_) 22 rfl rfl (by kernel_rfl) (by kernel_rfl) (by kernel_rfl) (fun _ _ _ h => h) (by kernel_rfl) (Or.inl ⟨by rfl, ?_⟩) hHeld ?_
        rotate_left
        focus (intro w _; go_simp; try (with_reducible rfl))
        try simp only [Act.put, List.setIfInBounds_toArray, List.set_cons_zero, List.set_cons_succ]
        refine takeL (i := 4) (v := ?_) 23 rfl rfl (by kernel_rfl) (by kernel_rfl) (by kernel_rfl) (fun _ _ _ h => h) (by kernel_rfl) (by kernel_rfl) (Or.inl ⟨by rfl, ?_⟩) hHeld ?_
        rotate_left
        focus (intro w hSw; (try dsimp only at hSw); go_simp; try (with_reducible rfl))
        try simp only [Act.put, List.setIfInBounds_toArray, List.set_cons_zero, List.set_cons_succ]
        refine takeP (i := 5) (v := ?_) 24 rfl rfl (by kernel_rfl) (by kernel_rfl) (by kernel_rfl) (fun _ _ _ h => h) (by kernel_rfl) (Or.inl ⟨by rfl, ?_⟩) hHeld ?_
        rotate_left
        focus (intro w _; go_simp; try (with_reducible rfl))
        try simp only [Act.put, List.setIfInBounds_toArray, List.set_cons_zero, List.set_cons_succ]
        refine takeP (i := 6) (v := ?_) 25 rfl rfl (by kernel_rfl) (by kernel_rfl) (by kernel_rfl) (fun _ _ _ h => h) (by kernel_rfl) (Or.inl ⟨by rfl, ?_⟩) hHeld ?_
        rotate_left
        focus (intro w _; go_simp; try (with_reducible rfl))
        try simp only [Act.put, List.setIfInBounds_toArray, List.set_cons_zero, List.set_cons_succ]
        refine takeP (i := 7) (v := ?_) 26 rfl rfl (by kernel_rfl) (by kernel_rfl) (by kernel_rfl) (fun _ _ _ h => h) (by kernel_rfl) (Or.inl ⟨by rfl, ?_⟩) hHeld ?_
        rotate_left
        focus (intro w _; go_simp; try (with_reducible rfl))
        try simp only [Act.put, List.setIfInBounds_toArray, List.set_cons_zero, List.set_cons_succ]
        refine takeL (i := 8) (v := ?_) 27 rfl rfl (by kernel_rfl) (by kernel_rfl) (by kernel_rfl) (fun _ _ _ h => h) (by kernel_rfl) (by kernel_rfl) (Or.inl ⟨by rfl, ?_⟩) hHeld ?_
        rotate_left
        focus (intro w hSw; (try dsimp only at hSw); go_simp; try (with_reducible rfl))
        try simp only [Act.put, List.setIfInBounds_toArray, List.set_cons_zero, List.set_cons_succ]
        refine nextS (i := 9) (by kernel_rfl) rfl (fun K hK => ?_)
        go_simp
        go_at_call 64; refine (HMI.out _ (Nats.below HS.out.nats (below_drewN (Below.refl _ _) (1 + q + 1))).b1 (Nats.below HS.out.nats (below_drewN (Below.refl _ _) (1 + q + 1))).b4).mono ?_; clear HMI; rintro e6 w6 ⟨a6, n6, k6, rfl, hu6, hs6⟩; have HX6 : Hid (w6.heap[b]? = some (.cells #[x1, u2, u3, v4, .bool cl] 68 (0, 0))) := hs6.1.heap (w := wr.drewN (1 + q + 1)) HS.out.blk (big_not_at (w := wr.drewN (1 + q + 1)) sp_ne HS.out.blk (Nats.below HS.out.nats (below_drewN (Below.refl _ _) (1 + q + 1))).b1); have HN6 : Hid (Nats w6 base (.slice a6 n6 k6) u2 u3 v4 (T - W) (Bl1 * 10) (A1 * 10) W) := (Nats.below HS.out.nats (below_drewN (Below.refl _ _) (1 + q + 1))).s1 hu6 hs6; have HK6 : Hid (KeepN b wr w6) := KeepN.trans (KeepN.drewN (KeepN.refl b wr) (1 + q + 1)) (KeepN.step (Nats.below HS.out.nats (below_drewN (Below.refl _ _) (1 + q + 1))).b1 hs6); have HB6 : Hid (Below base w w6) := (below_drewN HB.out (1 + q + 1)).trans (hs6.below (Nats.below HS.out.nats (below_drewN (Below.refl _ _) (1 + q + 1))).b1 (Nat.le_trans hb HB.out.size)); clear hu6 hs6; obtain ⟨i0, i1, i2, i3, i4, j0, j1, j2, j3⟩ := span_cells HX6.out
        go_wp2_with fail
        refine hK.out _ _ ⟨i0, i3⟩ (fun hHeld => ?_)
        clear hK K
        try simp only [Act.put, List.setIfInBounds_toArray, List.set_cons_zero, List.set_cons_succ]
        refine nextT (i := 10) (by kernel_rfl) (by kernel_rfl) rfl (fun K hK => ?_)
        go_simp
        refine hK.out _ _ ?_
        clear hK K
        try simp only [Act.put, List.setIfInBounds_toArray, List.set_cons_zero, List.set_cons_succ]
        refine nextT (i := 11) (by kernel_rfl) (by kernel_rfl) rfl (fun K hK => ?_)
        go_simp
        refine hK.out _ _ ?_
        clear hK K
        try simp only [Act.put, List.setIfInBounds_toArray, List.set_cons_zero, List.set_cons_succ]
        refine nextT (i := 12) (by kernel_rfl) (by kernel_rfl) rfl (fun K hK => ?_)
        go_simp
        refine hK.out _ _ ?_
        clear hK K
        try simp only [Act.put, List.setIfInBounds_toArray, List.set_cons_zero, List.set_cons_succ]
        clear hHeld
        refine endM (by kernel_rfl) ?_ _
        go_wp2_with fail
        go_roundw
        case rel =>
          have hk := (Kept.refl (fun k => k = b) w6).setCell (p := ⟨b, 0, none⟩) (fun _ => rfl) (.slice a6 n6 k6)
          exact ⟨j + 1, .slice a6 n6 k6, by go_num, by omega, _, SpAt.set HX6.out HS.out.le HN6.out hk (heap_set_at0 HX6.out), HT2.out, HB6.out.trans (hk.toBelow (Nat.le_trans hb HB6.out.size) (fun i e => by rw [e]; exact HS.out.le)), row_keepN (row_keepN HROW.out HK6.out HS.out.blk) (KeepN.set hk) HX6.out⟩
        case measure => simp [intOf]; omega
      · have hc : cmpN T W < 0 := by rw [cmp_lt (by omega)]; decide
        have hq1 : V1 * 10 / W = j := by
          rw [← hT, Nat.add_mul_div_right _ _ (show 0 < W by omega), Nat.div_eq_of_lt (show T < W by omega), Nat.zero_add]
        have hq2 : V1 * 10 % W = T := by
          rw [← hT, Nat.add_mul_mod_self_right, Nat.mod_eq_of_lt (show T < W by omega)]
        obtain ⟨D, hD⟩ : ∃ D, D = downB T (Bl1 * 10) cl := ⟨_, rfl⟩
        obtain ⟨U, hU⟩ : ∃ U, U = upB T (A1 * 10) W cl := ⟨_, rfl⟩
        obtain ⟨NB, hNB⟩ : ∃ NB, NB = nearY T W (48 + j) := ⟨_, rfl⟩
        have HF : Hid (∀ n, shortF (n + 1) V1 Bl1 A1 W cl = if (U && !(D && NB)) = true then some [UInt8.ofNat (49 + j)] else if D = true then some [UInt8.ofNat (48 + j)] else (shortF n T (Bl1 * 10) (A1 * 10) W cl).map (fun l => UInt8.ofNat (48 + j) :: l)) := fun n => by
          rw [shortF, hq1, hq2, hD, hU, hNB]
          have : nearB T W j = nearY T W (48 + j) := by unfold nearB nearY; congr 3; simp; omega
          rw [this]
        have HDN : Hid (D = false → Bl1 * 10 ≤ T) := fun h9 => by
          rw [hD] at h9
          unfold downB at h9
          simp at h9
          omega
        have HCB : Hid (∀ (W5 : World) (v u : Value), BigAt W5 v T → BigAt W5 u (Bl1 * 10) → Calls Tryd.prog 62 #[v, u] W5 fun e' w' => e' = .returned (.int .i64 (cmpN T (Bl1 * 10))) ∧ ∃ q, w' = W5.drewN q) := fun W5 v u h1 h2 => compare_any v u _ _ W5 h1 h2 (Nat.lt_trans hTl h99) (Nat.lt_trans hBl h99)
        have HWD : Hid (∀ W5 : World, W5.cell? ⟨b, 4, none⟩ = some (.bool cl) → Calls Tryd.prog 65 #[.pointer (some ⟨b, 0, none⟩), .int .i64 (cmpN T (Bl1 * 10))] W5 fun e' w' => e' = .returned (.bool D) ∧ w' = W5) := fun W5 h1 => by
          have h9 := within_any b (cmpN T (Bl1 * 10)) cl W5 h1
          rw [within_down, ← hD] at h9
          exact h9
        have HPL : Hid (∀ (W5 : World) (v u : Value), BigAt W5 v T → BigAt W5 u (A1 * 10) → Calls Tryd.prog 66 #[v, u] W5 fun e' w' => ∃ v', e' = .returned v' ∧ Big w' W5.heap.size v' (T + A1 * 10) ∧ Below W5.heap.size W5 w') := fun W5 v u h1 h2 => plus_any v u T (A1 * 10) W5 h1 h2 (Nat.lt_trans hTl h99) (Nat.lt_trans hAl h99)
        have HCU : Hid (∀ (W5 : World) (v u : Value), BigAt W5 v W → BigAt W5 u (T + A1 * 10) → Calls Tryd.prog 62 #[v, u] W5 fun e' w' => e' = .returned (.int .i64 (cmpN W (T + A1 * 10))) ∧ ∃ q, w' = W5.drewN q) := fun W5 v u h1 h2 => compare_any v u _ _ W5 h1 h2 (Nat.lt_trans hWl h99) (Nat.lt_trans hsum h99)
        have HWU : Hid (∀ W5 : World, W5.cell? ⟨b, 4, none⟩ = some (.bool cl) → Calls Tryd.prog 65 #[.pointer (some ⟨b, 0, none⟩), .int .i64 (cmpN W (T + A1 * 10))] W5 fun e' w' => e' = .returned (.bool U) ∧ w' = W5) := fun W5 h1 => by
          have h9 := within_any b (cmpN W (T + A1 * 10)) cl W5 h1
          rw [within_up, ← hU] at h9
          exact h9
        have HNR : Hid (∀ W5 : World, SpAt W5 base b x1 u2 u3 v4 cl T (Bl1 * 10) (A1 * 10) W → Calls Tryd.prog 67 #[.pointer (some ⟨b, 0, none⟩), .int .u8 (48 + (j : Int))] W5 fun e' w' => e' = .returned (.bool NB) ∧ Below W5.heap.size W5 w') := fun W5 h1 => by
          have h9 := near_any base b x1 u2 u3 v4 cl T (Bl1 * 10) (A1 * 10) W (48 + j) W5 h1 hTl hWl (by omega)
          rw [← hNB] at h9
          exact h9
        have hTW : T < W := by omega
        generalize cmpN T W = c at *
        generalize cmpN T (Bl1 * 10) = c2 at *
        generalize cmpN W (T + A1 * 10) = c3 at *
        clear hI hS hbw hrow hg1 hg2 hg3 hlt hTl hWl hBl hAl hsum h99 hD hU hNB hq1 hq2 hT hle
        go_wp2
        refine wp_region_M 999 (fun w' => w'.cell? ⟨b, 0, none⟩ = some x1 ∧ w'.cell? ⟨b, 3, none⟩ = some v4) (by kernel_rfl) ⟨d0, d3⟩ (fun hHeld => ?_)
        refine takeP (i := 0) (v := ?_) 9 rfl rfl (by kernel_rfl) (by kernel_rfl) (by kernel_rfl) (fun _ _ _ h => h) (by kernel_rfl) (Or.inl ⟨by rfl, ?_⟩) hHeld ?_
        rotate_left
        focus (intro w _; go_simp; try (with_reducible rfl))
        try simp only [Act.put, List.setIfInBounds_toArray, List.set_cons_zero, List.set_cons_succ]
        refine takeP (i := 1) (v := ?_) 10 rfl rfl (by kernel_rfl) (by kernel_rfl) (by kernel_rfl) (fun _ _ _ h => h) (by kernel_rfl) (Or.inl ⟨by rfl, ?_⟩) hHeld ?_
        rotate_left
        focus (intro w _; go_simp; try (with_reducible rfl))
        try simp only [Act.put, List.setIfInBounds_toArray, List.set_cons_zero, List.set_cons_succ]
        refine takeP (i := 2) (v := ?_) 11 rfl rfl (by kernel_rfl) (by kernel_rfl) (by kernel_rfl) (fun _ _ _ h => h) (by kernel_rfl) (Or.inl ⟨by rfl, ?_⟩) hHeld ?_
        rotate_left
        focus (intro w _; go_simp; try (with_reducible rfl))
        try simp only [Act.put, List.setIfInBounds_toArray, List.set_cons_zero, List.set_cons_succ]
        refine takeL (i := 3) (v := ?_) 12 rfl rfl (by kernel_rfl) (by kernel_rfl) (by kernel_rfl) (fun _ _ _ h => h) (by kernel_rfl) (by kernel_rfl) (Or.inl ⟨by rfl, ?_⟩) hHeld ?_
        rotate_left
        focus (intro w hSw; (try dsimp only at hSw); go_simp; try (with_reducible rfl))
        try simp only [Act.put, List.setIfInBounds_toArray, List.set_cons_zero, List.set_cons_succ]
        refine takeP (i := 4) (v := ?_) 13 rfl rfl (by kernel_rfl) (by kernel_rfl) (by kernel_rfl) (fun _ _ _ h => h) (by kernel_rfl) (Or.inl ⟨by rfl, ?_⟩) hHeld ?_
        rotate_left
        focus (intro w _; go_simp; try (with_reducible rfl))
        try simp only [Act.put, List.setIfInBounds_toArray, List.set_cons_zero, List.set_cons_succ]
        refine takeP (i := 5) (v := ?_) 14 rfl rfl (by kernel_rfl) (by kernel_rfl) (by kernel_rfl) (fun _ _ _ h => h) (by kernel_rfl) (Or.inl ⟨by rfl, ?_⟩) hHeld ?_
        rotate_left
        focus (intro w _; go_simp; try (with_reducible rfl))
        try simp only [Act.put, List.setIfInBounds_toArray, List.set_cons_zero, List.set_cons_succ]
        refine takeP (i := 6) (v := ?_) 15 rfl rfl (by kernel_rfl) (by kernel_rfl) (by kernel_rfl) (fun _ _ _ h => h) (by kernel_rfl) (Or.inl ⟨by rfl, ?_⟩) hHeld ?_
        rotate_left
        focus (intro w _; go_simp; try (with_reducible rfl))
        try simp only [Act.put, List.setIfInBounds_toArray, List.set_cons_zero, List.set_cons_succ]
        refine takeL (i := 7) (v := ?_) 16 rfl rfl (by kernel_rfl) (by kernel_rfl) (by kernel_rfl) (fun _ _ _ h => h) (by kernel_rfl) (by kernel_rfl) (Or.inl ⟨by rfl, ?_⟩) hHeld ?_
        rotate_left
        focus (intro w hSw; (try dsimp only at hSw); go_simp; try (with_reducible rfl))
        try simp only [Act.put, List.setIfInBounds_toArray, List.set_cons_zero, List.set_cons_succ]
        refine nextS (i := 8) (by kernel_rfl) rfl (fun K hK => ?_)
        go_simp
        go_at_call 62; refine (HCM.out _ _ _ (Nats.below HS.out.nats (below_drewN (Below.refl _ _) 1)).b1.at (Nats.below HS.out.nats (below_drewN (Below.refl _ _) 1)).b4.at).mono ?_; rintro e4 w5 ⟨rfl, q, rfl⟩
        go_wp2_with fail
        refine hK.out _ _ ⟨d0, d3⟩ (fun hHeld => ?_)
        clear hK K
        try simp only [Act.put, List.setIfInBounds_toArray, List.set_cons_zero, List.set_cons_succ]
        refine takeP (i := 9) (v := ?_) 18 rfl rfl (by kernel_rfl) (by kernel_rfl) (by kernel_rfl) (fun _ _ _ h => h) (by kernel_rfl) (Or.inl ⟨by rfl, ?_⟩) hHeld ?_
        rotate_left
        focus (intro w _; go_simp; try (with_reducible rfl))
        try simp only [Act.put, List.setIfInBounds_toArray, List.set_cons_zero, List.set_cons_succ]
        clear hHeld
        refine endM (by kernel_rfl) ?_ _
        go_wp2_with fail
        refine wp_region_M 999 (fun w' => w'.cell? ⟨b, 0, none⟩ = some x1 ∧ w'.cell? ⟨b, 1, none⟩ = some u2 ∧ w'.cell? ⟨b, 4, none⟩ = some (.bool cl)) (by kernel_rfl) ⟨d0, d1, d4⟩ (fun hHeld => ?_)
        refine takeP (i := 0) (v := ?_) 33 rfl rfl (by kernel_rfl) (by kernel_rfl) (by kernel_rfl) (fun _ _ _ h => h) (by kernel_rfl) (Or.inl ⟨by rfl, ?_⟩) hHeld ?_
        rotate_left
        focus (intro w _; go_simp; try (with_reducible rfl))
        try simp only [Act.put, List.setIfInBounds_toArray, List.set_cons_zero, List.set_cons_succ]
        refine takeP (i := 1) (v := ?_) 34 rfl rfl (by kernel_rfl) (by kernel_rfl) (by kernel_rfl) (fun _ _ _ h => h) (by kernel_rfl) (Or.inl ⟨by rfl, ?_⟩) hHeld ?_
        rotate_left
        focus (intro w _; go_simp; try (with_reducible rfl))
        try simp only [Act.put, List.setIfInBounds_toArray, List.set_cons_zero, List.set_cons_succ]
        refine takeP (i := 2) (v := ?_) 35 rfl rfl (by kernel_rfl) (by kernel_rfl) (by kernel_rfl) (fun _ _ _ h => h) (by kernel_rfl) (Or.inl ⟨by rfl, ?_⟩) hHeld ?_
        rotate_left
        focus (intro w _; go_simp; try (with_reducible rfl))
        try simp only [Act.put, List.setIfInBounds_toArray, List.set_cons_zero, List.set_cons_succ]
        refine takeP (i := 3) (v := ?_) 36 rfl rfl (by kernel_rfl) (by kernel_rfl) (by kernel_rfl) (fun _ _ _ h => h) (by kernel_rfl) (Or.inl ⟨by rfl, ?_⟩) hHeld ?_
        rotate_left
        focus (intro w _; go_simp; try (with_reducible rfl))
        try simp only [Act.put, List.setIfInBounds_toArray, List.set_cons_zero, List.set_cons_succ]
        refine takeL (i := 4) (v := ?_) 37 rfl rfl (by kernel_rfl) (by kernel_rfl) (by kernel_rfl) (fun _ _ _ h => h) (by kernel_rfl) (by kernel_rfl) (Or.inl ⟨by rfl, ?_⟩) hHeld ?_
        rotate_left
        focus (intro w hSw; (try dsimp only at hSw); go_simp; try (with_reducible rfl))
        try simp only [Act.put, List.setIfInBounds_toArray, List.set_cons_zero, List.set_cons_succ]
        refine takeP (i := 5) (v := ?_) 38 rfl rfl (by kernel_rfl) (by kernel_rfl) (by kernel_rfl) (fun _ _ _ h => h) (by kernel_rfl) (Or.inl ⟨by rfl, ?_⟩) hHeld ?_
        rotate_left
        focus (intro w _; go_simp; try (with_reducible rfl))
        try simp only [Act.put, List.setIfInBounds_toArray, List.set_cons_zero, List.set_cons_succ]
        refine takeP (i := 6) (v := ?_) 39 rfl rfl (by kernel_rfl) (by kernel_rfl) (by kernel_rfl) (fun _ _ _ h => h) (by kernel_rfl) (Or.inl ⟨by rfl, ?_⟩) hHeld ?_
        rotate_left
        focus (intro w _; go_simp; try (with_reducible rfl))
        try simp only [Act.put, List.setIfInBounds_toArray, List.set_cons_zero, List.set_cons_succ]
        refine takeP (i := 7) (v := ?_) 40 rfl rfl (by kernel_rfl) (by kernel_rfl) (by kernel_rfl) (fun _ _ _ h => h) (by kernel_rfl) (Or.inl ⟨by rfl, ?_⟩) hHeld ?_
        rotate_left
        focus (intro w _; go_simp; try (with_reducible rfl))
        try simp only [Act.put, List.setIfInBounds_toArray, List.set_cons_zero, List.set_cons_succ]
        refine takeL (i := 8) (v := ?_) 41 rfl rfl (by kernel_rfl) (by kernel_rfl) (by kernel_rfl) (fun _ _ _ h => h) (by kernel_rfl) (by kernel_rfl) (Or.inl ⟨by rfl, ?_⟩) hHeld ?_
        rotate_left
        focus (intro w hSw; (try dsimp only at hSw); go_simp; try (with_reducible rfl))
        try simp only [Act.put, List.setIfInBounds_toArray, List.set_cons_zero, List.set_cons_succ]
        refine nextS (i := 9) (by kernel_rfl) rfl (fun K hK => ?_)
        go_simp
        go_at_call 62; refine (HCB.out _ _ _ (Nats.below HS.out.nats (below_drewN (Below.refl _ _) (1 + q + 1))).b1.at (Nats.below HS.out.nats (below_drewN (Below.refl _ _) (1 + q + 1))).b2.at).mono ?_; clear HCB; rintro e7 w7 ⟨rfl, q7, rfl⟩
        go_wp2_with fail
        refine hK.out _ _ ⟨d0, d1, d4⟩ (fun hHeld => ?_)
        clear hK K
        try simp only [Act.put, List.setIfInBounds_toArray, List.set_cons_zero, List.set_cons_succ]
        refine nextS (i := 10) (by kernel_rfl) rfl (fun K hK => ?_)
        go_simp
        go_at_call 65; refine (HWD.out _ (by exact d4)).mono ?_; clear HWD; rintro e8 w8 ⟨rfl, hw8⟩; have hw8 := hw8.symm; subst hw8
        go_wp2_with fail
        refine hK.out _ _ ⟨d0, d1, d4⟩ (fun hHeld => ?_)
        clear hK K
        try simp only [Act.put, List.setIfInBounds_toArray, List.set_cons_zero, List.set_cons_succ]
        refine nextS (i := 11) (by kernel_rfl) rfl (fun K hK => ?_)
        go_simp
        refine hK.out _ _ hHeld (fun hHeld => ?_)
        clear hK K
        try simp only [Act.put, List.setIfInBounds_toArray, List.set_cons_zero, List.set_cons_succ]
        clear hHeld
        refine endM (by kernel_rfl) ?_ _
        go_wp2_with fail
        refine wp_region_M 999 (fun w' => w'.cell? ⟨b, 0, none⟩ = some x1 ∧ w'.cell? ⟨b, 2, none⟩ = some u3 ∧ w'.cell? ⟨b, 3, none⟩ = some v4 ∧ w'.cell? ⟨b, 4, none⟩ = some (.bool cl)) (by kernel_rfl) ⟨d0, d2, d3, d4⟩ (fun hHeld => ?_)
        refine takeP (i := 0) (v := ?_) 44 rfl rfl (by kernel_rfl) (by kernel_rfl) (by kernel_rfl) (fun _ _ _ h => h) (by kernel_rfl) (Or.inl ⟨by rfl, ?_⟩) hHeld ?_
        rotate_left
        focus (intro w _; go_simp; try (with_reducible rfl))
        try simp only [Act.put, List.setIfInBounds_toArray, List.set_cons_zero, List.set_cons_succ]
        refine takeP (i := 1) (v := ?_) 45 rfl rfl (by kernel_rfl) (by kernel_rfl) (by kernel_rfl) (fun _ _ _ h => h) (by kernel_rfl) (Or.inl ⟨by rfl, ?_⟩) hHeld ?_
        rotate_left
        focus (intro w _; go_simp; try (with_reducible rfl))
        try simp only [Act.put, List.setIfInBounds_toArray, List.set_cons_zero, List.set_cons_succ]
        refine takeP (i := 2) (v := ?_) 46 rfl rfl (by kernel_rfl) (by kernel_rfl) (by kernel_rfl) (fun _ _ _ h => h) (by kernel_rfl) (Or.inl ⟨by rfl, ?_⟩) hHeld ?_
        rotate_left
        focus (intro w _; go_simp; try (with_reducible rfl))
        try simp only [Act.put, List.setIfInBounds_toArray, List.set_cons_zero, List.set_cons_succ]
        refine takeP (i := 3) (v := ?_) 47 rfl rfl (by kernel_rfl) (by kernel_rfl) (by kernel_rfl) (fun _ _ _ h => h) (by kernel_rfl) (Or.inl ⟨by rfl, ?_⟩) hHeld ?_
        rotate_left
        focus (intro w _; go_simp; try (with_reducible rfl))
        try simp only [Act.put, List.setIfInBounds_toArray, List.set_cons_zero, List.set_cons_succ]
        refine takeL (i := 4) (v := ?_) 48 rfl rfl (by kernel_rfl) (by kernel_rfl) (by kernel_rfl) (fun _ _ _ h => h) (by kernel_rfl) (by kernel_rfl) (Or.inl ⟨by rfl, ?_⟩) hHeld ?_
        rotate_left
        focus (intro w hSw; (try dsimp only at hSw); go_simp; try (with_reducible rfl))
        try simp only [Act.put, List.setIfInBounds_toArray, List.set_cons_zero, List.set_cons_succ]
        refine takeP (i := 5) (v := ?_) 49 rfl rfl (by kernel_rfl) (by kernel_rfl) (by kernel_rfl) (fun _ _ _ h => h) (by kernel_rfl) (Or.inl ⟨by rfl, ?_⟩) hHeld ?_
        rotate_left
        focus (intro w _; go_simp; try (with_reducible rfl))
        try simp only [Act.put, List.setIfInBounds_toArray, List.set_cons_zero, List.set_cons_succ]
        refine takeP (i := 6) (v := ?_) 50 rfl rfl (by kernel_rfl) (by kernel_rfl) (by kernel_rfl) (fun _ _ _ h => h) (by kernel_rfl) (Or.inl ⟨by rfl, ?_⟩) hHeld ?_
        rotate_left
        focus (intro w _; go_simp; try (with_reducible rfl))
        try simp only [Act.put, List.setIfInBounds_toArray, List.set_cons_zero, List.set_cons_succ]
        refine takeP (i := 7) (v := ?_) 51 rfl rfl (by kernel_rfl) (by kernel_rfl) (by kernel_rfl) (fun _ _ _ h => h) (by kernel_rfl) (Or.inl ⟨by rfl, ?_⟩) hHeld ?_
        rotate_left
        focus (intro w _; go_simp; try (with_reducible rfl))
        try simp only [Act.put, List.setIfInBounds_toArray, List.set_cons_zero, List.set_cons_succ]
        refine takeL (i := 8) (v := ?_) 52 rfl rfl (by kernel_rfl) (by kernel_rfl) (by kernel_rfl) (fun _ _ _ h => h) (by kernel_rfl) (by kernel_rfl) (Or.inl ⟨by rfl, ?_⟩) hHeld ?_
        rotate_left
        focus (intro w hSw; (try dsimp only at hSw); go_simp; try (with_reducible rfl))
        try simp only [Act.put, List.setIfInBounds_toArray, List.set_cons_zero, List.set_cons_succ]
        refine takeP (i := 9) (v := ?_) 53 rfl rfl (by kernel_rfl) (by kernel_rfl) (by kernel_rfl) (fun _ _ _ h => h) (by kernel_rfl) (Or.inl ⟨by rfl, ?_⟩) hHeld ?_
        rotate_left
        focus (intro w _; go_simp; try (with_reducible rfl))
        try simp only [Act.put, List.setIfInBounds_toArray, List.set_cons_zero, List.set_cons_succ]
        refine takeP (i := 10) (v := ?_) 54 rfl rfl (by kernel_rfl) (by kernel_rfl) (by kernel_rfl) (fun _ _ _ h => h) (by kernel_rfl) (Or.inl ⟨by rfl, ?_⟩) hHeld ?_
        rotate_left
        focus (intro w _; go_simp; try (with_reducible rfl))
        try simp only [Act.put, List.setIfInBounds_toArray, List.set_cons_zero, List.set_cons_succ]
        refine takeP (i := 11) (v := ?_) 55 rfl rfl (by kernel_rfl) (by kernel_rfl) (by kernel_rfl) (fun _ _ _ h => h) (by kernel_rfl) (Or.inl ⟨by rfl, ?_⟩) hHeld ?_
        rotate_left
        focus (intro w _; go_simp; try (with_reducible rfl))
        try simp only [Act.put, List.setIfInBounds_toArray, List.set_cons_zero, List.set_cons_succ]
        refine takeL (i := 12) (v := ?_) 56 rfl rfl (by kernel_rfl) (by kernel_rfl) (by kernel_rfl) (fun _ _ _ h => h) (by kernel_rfl) (by kernel_rfl) (Or.inl ⟨by rfl, ?_⟩) hHeld ?_
        rotate_left
        focus (intro w hSw; (try dsimp only at hSw); go_simp; try (with_reducible rfl))
        try simp only [Act.put, List.setIfInBounds_toArray, List.set_cons_zero, List.set_cons_succ]
        refine nextS (i := 13) (by kernel_rfl) rfl (fun K hK => ?_)
        go_simp
        go_at_call 66; refine (HPL.out _ _ _ (Nats.below HS.out.nats (below_drewN (Below.refl _ _) (1 + q + 1 + q7 + 1))).b1.at (Nats.below HS.out.nats (below_drewN (Below.refl _ _) (1 + q + 1 + q7 + 1))).b3.at).mono ?_; clear HPL; rintro e9 w9 ⟨u9, rfl, hu9, hb9⟩; have HU9 : Hid (BigAt w9 u9 (T + A1 * 10)) := hu9.at; have HB9 : Hid (Below wr.heap.size wr w9) := (below_drewN (Below.refl _ _) (1 + q + 1 + q7 + 1)).trans hb9; have HS9 : Hid (SpAt w9 base b x1 u2 u3 v4 cl T (Bl1 * 10) (A1 * 10) W) := ⟨(HB9.out.block b (Array.getElem?_eq_some_iff.1 HS.out.blk).1).trans HS.out.blk, HS.out.le, HS.out.nats.below HB9.out⟩; clear hu9 hb9; obtain ⟨y0, y1, y2, y3, y4, z0, z1, z2, z3⟩ := span_cells HS9.out.blk
        go_wp2_with fail
        refine hK.out _ _ ⟨y0, y2, y3, y4⟩ (fun hHeld => ?_)
        clear hK K
        try simp only [Act.put, List.setIfInBounds_toArray, List.set_cons_zero, List.set_cons_succ]
        refine nextS (i := 14) (by kernel_rfl) rfl (fun K hK => ?_)
        go_simp
        go_at_call 62; refine (HCU.out _ _ _ HS9.out.nats.b4.at HU9.out).mono ?_; clear HCU; rintro e10 w10 ⟨rfl, q10, rfl⟩
        go_wp2_with fail
        refine hK.out _ _ ⟨y0, y2, y3, y4⟩ (fun hHeld => ?_)
        clear hK K
        try simp only [Act.put, List.setIfInBounds_toArray, List.set_cons_zero, List.set_cons_succ]
        refine nextS (i := 15) (by kernel_rfl) rfl (fun K hK => ?_)
        go_simp
        go_at_call 65; refine (HWU.out _ (by exact y4)).mono ?_; clear HWU; rintro e11 w11 ⟨rfl, hw11⟩; have hw11 := hw11.symm; subst hw11
        go_wp2_with fail
        refine hK.out _ _ ⟨y0, y2, y3, y4⟩ (fun hHeld => ?_)
        clear hK K
        try simp only [Act.put, List.setIfInBounds_toArray, List.set_cons_zero, List.set_cons_succ]
        refine nextS (i := 16) (by kernel_rfl) rfl (fun K hK => ?_)
        go_simp
        refine hK.out _ _ hHeld (fun hHeld => ?_)
        clear hK K
        try simp only [Act.put, List.setIfInBounds_toArray, List.set_cons_zero, List.set_cons_succ]
        clear hHeld
        refine endM (by kernel_rfl) ?_ _
        have HRW : Hid ((w9.drewN q10).ownsRow base 5 1 (.slice ao ds.length co) ds.length (u8s ds)) := row_below HROW.out (below_drewN HB9.out q10)
        have HBW : Hid (Below base w (w9.drewN q10)) := HB.out.trans (Below.mono (below_drewN HB9.out q10) (Nat.le_trans hb HB.out.size))
        have HS10 : Hid (SpAt (w9.drewN q10) base b x1 u2 u3 v4 cl T (Bl1 * 10) (A1 * 10) W) := ⟨HS9.out.blk, HS9.out.le, HS9.out.nats.below (below_drewN (Below.refl _ _) q10)⟩
        clear d0 d1 d2 d3 d4 dg0 dg1 dg2 dg3 y0 y1 y2 y3 y4 z0 z1 z2 z3
        cases U with
        | false =>
          cases D with
          | true =>
            go_wp2_with (at_builtin; refine wpList_append_byte _ rfl _ _ rfl base ao ds.length co ds rfl (World.ownsRow.alloc HRW.out _) w9.heap.size (48 + (j : Int)) (by omega) (by omega) rfl (heap_alloc_new _ _) (by omega) (Nat.le_trans (Nat.le_trans hb HBW.out.size) (by simp)) ?_; intro a12 c12 w12 hr12 hg12)
            try rw [Exit.noGoto_ret]
            go_ret
            have hfl := HG.out.2.2.2.2 1 [UInt8.ofNat (48 + j)] (by rw [HF.out 0]; rfl)
            have hlen : (ds ++ [UInt8.ofNat (48 + j)]).length = ds.length + 1 := by simp
            refine ⟨a12, c12, ds ++ [UInt8.ofNat (48 + j)], _, by rw [hlen]; rfl, hfl, ?_, (HBW.out.alloc (Nat.le_trans hb HBW.out.size) _).grown hg12 (Nat.le_trans (Nat.le_trans hb HBW.out.size) (by simp)) (fun k hk => ?_)⟩
            · have e9 : (48 + (j : Int)).toNat = 48 + j := by omega
              rw [e9] at hr12
              rw [hlen]
              exact hr12
            · exact (World.ownsRow.lt HRW.out k hk).1

          | false =>
            go_wp2_with (at_builtin; refine wpList_append_byte _ rfl _ _ rfl base ao ds.length co ds rfl (World.ownsRow.alloc HRW.out _) w9.heap.size (48 + (j : Int)) (by omega) (by omega) rfl (heap_alloc_new _ _) (by omega) (Nat.le_trans (Nat.le_trans hb HBW.out.size) (by simp)) ?_; intro a12 c12 w12 hr12 hg12)
            go_roundw
            case rel =>
              have hlen : (ds ++ [UInt8.ofNat (48 + j)]).length = ds.length + 1 := by simp
              have e9 : (48 + (j : Int)).toNat = 48 + j := by omega
              rw [e9, ← hlen] at hr12
              have hnum := HNUM.out
              have hg := HG.out
              have hdn := HDN.out rfl
              have hpow : Bl1 * 10 = Bl * 10 ^ (ds ++ [UInt8.ofNat (48 + j)]).length := by rw [hlen, Nat.pow_succ, ← Nat.mul_assoc, ← hg.2.2.2.1]
              have hkp : Kept (fun k => (Value.slice ao ds.length co).ownBlock = some k) (w9.drewN q10) w12 := Kept.grown ((Kept.refl _ _).alloc _) hg12 (fun k _ e => e)
              have hl9 : (ds ++ [UInt8.ofNat (48 + j)]).length ≤ 28800 := len_short (m := 900) (Bl := Bl) (by rw [← hpow]; omega) hnum.2.2.2.1
              refine ⟨ds ++ [UInt8.ofNat (48 + j)], a12, c12, 48 + (j : Int), by rw [hlen], rfl, hl9, x1, u2, u3, T, Bl1 * 10, A1 * 10, hr12, HS10.out.keepr HRW.out hkp, (HBW.out.alloc (Nat.le_trans hb HBW.out.size) _).grown hg12 (Nat.le_trans (Nat.le_trans hb HBW.out.size) (by simp)) (fun k hk => (World.ownsRow.lt HRW.out k hk).1), hTW, by omega, by omega, hpow, fun n l hl => ?_⟩
              have h8 := HG.out.2.2.2.2 (n + 1) (UInt8.ofNat (48 + j) :: l) (by rw [HF.out n]; simp [hl])
              rw [hlen, show n + (ds.length + 1) = n + 1 + ds.length by omega, List.append_assoc]
              exact h8
            case measure =>
              have hnum := HNUM.out
              have hg := HG.out
              have hdn := HDN.out rfl
              have hpow : Bl * 10 ^ (ds.length + 1) = Bl1 * 10 := by rw [Nat.pow_succ, ← Nat.mul_assoc, ← hg.2.2.2.1]
              have hp2 : 0 < Bl1 := by rw [hg.2.2.2.1]; exact Nat.mul_pos hnum.2.2.2.1 (Nat.pow_pos (by decide))
              show W + 1 - Bl * 10 ^ (ds.length + 1) < W + 1 - Bl * 10 ^ ds.length
              rw [hpow, ← hg.2.2.2.1]
              omega
        | true =>
          cases D with
          | true =>
            cases NB with
            | true =>
              go_wp2_with (first | (go_at_call 67; refine (HNR.out _ HS10.out).mono ?_; clear HNR; rintro e13 w13 ⟨rfl, hb13⟩; have HRW2 : Hid (w13.ownsRow base 5 1 (.slice ao ds.length co) ds.length (u8s ds)) := row_below HRW.out hb13; have HBW2 : Hid (Below base w w13) := HBW.out.trans (hb13.mono (Nat.le_trans hb HBW.out.size)); clear hb13) | (at_builtin; refine wpList_append_byte _ rfl _ _ rfl base ao ds.length co ds rfl (World.ownsRow.alloc HRW2.out _) w13.heap.size (48 + (j : Int)) (by omega) (by omega) rfl (heap_alloc_new _ _) (by omega) (Nat.le_trans (Nat.le_trans hb HBW2.out.size) (by simp)) ?_; intro a12 c12 w12 hr12 hg12))
              try rw [Exit.noGoto_ret]
              go_ret
              have hfl := HG.out.2.2.2.2 1 [UInt8.ofNat (48 + j)] (by rw [HF.out 0]; rfl)
              have hlen : (ds ++ [UInt8.ofNat (48 + j)]).length = ds.length + 1 := by simp
              refine ⟨a12, c12, ds ++ [UInt8.ofNat (48 + j)], _, by rw [hlen]; rfl, hfl, ?_, (HBW2.out.alloc (Nat.le_trans hb HBW2.out.size) _).grown hg12 (Nat.le_trans (Nat.le_trans hb HBW2.out.size) (by simp)) (fun k hk => ?_)⟩
              · have e9 : (48 + (j : Int)).toNat = 48 + j := by omega
                rw [e9] at hr12
                rw [hlen]
                exact hr12
              · exact (World.ownsRow.lt HRW2.out k hk).1

            | false =>
              go_wp2_with (first | (go_at_call 67; refine (HNR.out _ HS10.out).mono ?_; clear HNR; rintro e13 w13 ⟨rfl, hb13⟩; have HRW2 : Hid (w13.ownsRow base 5 1 (.slice ao ds.length co) ds.length (u8s ds)) := row_below HRW.out hb13; have HBW2 : Hid (Below base w w13) := HBW.out.trans (hb13.mono (Nat.le_trans hb HBW.out.size)); clear hb13) | (at_builtin; refine wpList_append_byte _ rfl _ _ rfl base ao ds.length co ds rfl (World.ownsRow.alloc HRW2.out _) w13.heap.size (48 + (j : Int) + 1) (by omega) (by omega) rfl (heap_alloc_new _ _) (by omega) (Nat.le_trans (Nat.le_trans hb HBW2.out.size) (by simp)) ?_; intro a12 c12 w12 hr12 hg12))
              try rw [Exit.noGoto_ret]
              go_ret
              have hfl := HG.out.2.2.2.2 1 [UInt8.ofNat (49 + j)] (by rw [HF.out 0]; rfl)
              have hlen : (ds ++ [UInt8.ofNat (49 + j)]).length = ds.length + 1 := by simp
              refine ⟨a12, c12, ds ++ [UInt8.ofNat (49 + j)], _, by rw [hlen]; rfl, hfl, ?_, (HBW2.out.alloc (Nat.le_trans hb HBW2.out.size) _).grown hg12 (Nat.le_trans (Nat.le_trans hb HBW2.out.size) (by simp)) (fun k hk => ?_)⟩
              · have e9 : (48 + (j : Int) + 1).toNat = 49 + j := by omega
                rw [e9] at hr12
                rw [hlen]
                exact hr12
              · exact (World.ownsRow.lt HRW2.out k hk).1

          | false =>
            go_wp2_with (at_builtin; refine wpList_append_byte _ rfl _ _ rfl base ao ds.length co ds rfl (World.ownsRow.alloc HRW.out _) w9.heap.size (48 + (j : Int) + 1) (by omega) (by omega) rfl (heap_alloc_new _ _) (by omega) (Nat.le_trans (Nat.le_trans hb HBW.out.size) (by simp)) ?_; intro a12 c12 w12 hr12 hg12)
            try rw [Exit.noGoto_ret]
            go_ret
            have hfl := HG.out.2.2.2.2 1 [UInt8.ofNat (49 + j)] (by rw [HF.out 0]; rfl)
            have hlen : (ds ++ [UInt8.ofNat (49 + j)]).length = ds.length + 1 := by simp
            refine ⟨a12, c12, ds ++ [UInt8.ofNat (49 + j)], _, by rw [hlen]; rfl, hfl, ?_, (HBW.out.alloc (Nat.le_trans hb HBW.out.size) _).grown hg12 (Nat.le_trans (Nat.le_trans hb HBW.out.size) (by simp)) (fun k hk => ?_)⟩
            · have e9 : (48 + (j : Int) + 1).toNat = 49 + j := by omega
              rw [e9] at hr12
              rw [hlen]
              exact hr12
            · exact (World.ownsRow.lt HRW.out k hk).1

end Go.Proofs.YtinfnkhghmcelaaDoor
