/- A span is scaled. -/
import Derived.Test.YtinfnkhghmcelaaDoorMDl
namespace Go.Proofs.YtinfnkhghmcelaaDoor
open Go.RowKit Go.Maps

theorem goOn {S G : World → Prop} {W : World} (h : S W) (k : ∀ W1, S W1 → G W1) : G W := k W h
theorem heap_set_at3 {w : World} {b : Nat} {v1 v2 v3 v4 v5 u : Value} {t : TypeId} (h : w.heap[b]? = some (.cells #[v1, v2, v3, v4, v5] t (0, 0))) : (w.setCell ⟨b, 3, none⟩ u).heap[b]? = some (.cells #[v1, v2, v3, u, v5] t (0, 0)) := heap_setCell_same (i := 3) h u
theorem heap_set_at0 {w : World} {b : Nat} {v1 v2 v3 v4 v5 u : Value} {t : TypeId} (h : w.heap[b]? = some (.cells #[v1, v2, v3, v4, v5] t (0, 0))) : (w.setCell ⟨b, 0, none⟩ u).heap[b]? = some (.cells #[u, v2, v3, v4, v5] t (0, 0)) := heap_setCell_same (i := 0) h u
theorem SpAt.keepx {w w' : World} {base b x : Nat} {v1 v2 v3 v4 : Value} {cl : Bool} {V Bl A W : Nat} {n : Int} (h : SpAt w base b v1 v2 v3 v4 cl V Bl A W) (hx : w.heap[x]? = some (.cells #[.int .i64 n] 3 (0, 0))) (hk : Kept (fun k => k = x) w w') : SpAt w' base b v1 v2 v3 v4 cl V Bl A W :=
  ⟨hk.heap h.blk (fun e => sp_x h.blk hx e.symm), h.le, h.nats.keep hk (fun k hk e => big_not_at i64_ne hx h.nats.b1 (by rw [← e]; exact hk)) (fun k hk e => big_not_at i64_ne hx h.nats.b2 (by rw [← e]; exact hk)) (fun k hk e => big_not_at i64_ne hx h.nats.b3 (by rw [← e]; exact hk)) (fun k hk e => big_not_at i64_ne hx h.nats.b4 (by rw [← e]; exact hk))⟩
/-- The power of ten, and the whole. -/
def scaleE (V W : Nat) (e : Int) : Int := if W * 10 ^ e.toNat ≤ V * 10 ^ (-e).toNat then e + 1 else e
def scaleW (V W : Nat) (e : Int) : Nat := if W * 10 ^ e.toNat ≤ V * 10 ^ (-e).toNat then W * 10 ^ e.toNat * 10 else W * 10 ^ e.toNat

set_option maxRecDepth 100000 in
set_option maxHeartbeats 2000000 in
theorem scale_any (base b : Nat) (v1 v2 v3 v4 : Value) (cl : Bool) (V Bl A W : Nat) (top : Int) (w : World) (h : SpAt w base b v1 v2 v3 v4 cl V Bl A W) (hb : base ≤ w.heap.size) (ht1 : -1100 ≤ top) (ht2 : top ≤ 1100)
    (hV : V * 10 ^ (-expE top).toNat < B 999) (hBl : Bl * 10 ^ (-expE top).toNat < B 999) (hA : A * 10 ^ (-expE top).toNat < B 999) (hW : W * 10 ^ (expE top).toNat < B 999) :
    Calls Tryd.prog 34 #[.pointer (some ⟨b, 0, none⟩), .int .i64 top] w fun e w' => e = .returned (.int .i64 (scaleE V W (expE top))) ∧ (∃ u1 u2 u3 u4, SpAt w' base b u1 u2 u3 u4 cl (V * 10 ^ (-expE top).toNat) (Bl * 10 ^ (-expE top).toNat) (A * 10 ^ (-expE top).toNat) (scaleW V W (expE top))) ∧ Below base w w' := by
  have HS0 : Hid (SpAt w base b v1 v2 v3 v4 cl V Bl A W) := h
  clear h
  have HE : Hid (expE top = top * 1292913986 / 4294967296 + 1) := rfl
  obtain ⟨e, he⟩ : ∃ e, e = expE top := ⟨_, rfl⟩
  have he1 : -1000 ≤ e ∧ e ≤ 1000 := by rw [he, HE.out]; omega
  have HTE : Hid (∀ (W1 : World), Big W1 base v4 W → base ≤ W1.heap.size → Calls Tryd.prog 49 #[v4, .int .i64 e] W1 fun e' w' => ∃ a n c, e' = .returned (.slice a n c) ∧ Big w' base (.slice a n c) (W * 10 ^ e.toNat) ∧ Step W1 w' v4 (.slice a n c)) := fun W1 h1 h2 => (tens_any base v4 W e W1 h1 (by omega) (by omega) (by rw [he]; exact hW) h2).mono (by
    rintro e' w' ⟨v', rfl, h3, h4⟩
    obtain ⟨a2, c2, d2, rfl, -⟩ := id h3
    exact ⟨_, _, _, rfl, h3, h4⟩)
  have HEQ : Hid (top * 1292913986 / 4294967296 + 1 = e) := by show _ = _; rw [he]; rfl
  rw [← he] at hV hBl hA hW ⊢
  have HV : Hid (V * 10 ^ (-e).toNat < B 999 ∧ Bl * 10 ^ (-e).toNat < B 999 ∧ A * 10 ^ (-e).toNat < B 999 ∧ W * 10 ^ e.toNat < B 999) := ⟨hV, hBl, hA, hW⟩
  clear he hV hBl hA hW HE
  go_enter Tryd.func34, Tryd.ntmps34
  go_wp2
  rw [HEQ.out]
  obtain ⟨x, hx⟩ : ∃ x, x = w.heap.size := ⟨_, rfl⟩
  rw [← hx]
  refine goOn (S := fun W1 => SpAt W1 base b v1 v2 v3 v4 cl V Bl A W ∧ W1.heap[x]? = some (.cells #[.int .i64 e] 3 (0, 0)) ∧ Below base w W1) ⟨⟨(Below.heap_alloc w _ b (Array.getElem?_eq_some_iff.1 HS0.out.blk).1).trans HS0.out.blk, HS0.out.le, HS0.out.nats.below ((Below.refl _ _).alloc (Nat.le_refl _) _)⟩, by rw [hx]; exact heap_alloc_new w _, (Below.refl _ _).alloc hb _⟩ ?_
  rintro W1 ⟨hS1, hx1, hb1⟩
  have HS1 : Hid (SpAt W1 base b v1 v2 v3 v4 cl V Bl A W) := hS1
  have HX1 : Hid (W1.heap[x]? = some (.cells #[.int .i64 e] 3 (0, 0))) := hx1
  have HB1 : Hid (Below base w W1) := hb1
  have hxb0 : base ≤ x := by omega
  clear hS1 hx1 hb1 hx HS0 HEQ
  obtain ⟨d0, d1, d2, d3, d4, g0, g1, g2, g3⟩ := span_cells (w := W1.drew) HS1.out.blk
  have y0 := cell_of_int (w := W1.drew) HX1.out
  refine wp_region_M 7 (fun w' => w'.cell? ⟨b, 3, none⟩ = some v4 ∧ w'.cell? ⟨x, 0, none⟩ = some (.int .i64 e)) (by kernel_rfl) ⟨d3, y0⟩ (fun hHeld => ?_)
  refine takeP (i := 0) (v := ?_) 10 rfl rfl (by kernel_rfl) (by kernel_rfl) (by kernel_rfl) (fun _ _ _ h => h) (by kernel_rfl) (Or.inl ⟨by rfl, ?_⟩) hHeld ?_
  rotate_left
  focus (intro w _; go_simp; try (with_reducible rfl))
  try simp only [Act.put, List.setIfInBounds_toArray, List.set_cons_zero, List.set_cons_succ]
  refine takeP (i := 1) (v := ?_) 11 rfl rfl (by kernel_rfl) (by kernel_rfl) (by kernel_rfl) (fun _ _ _ h => h) (by kernel_rfl) (Or.inl ⟨by rfl, ?_⟩) hHeld ?_
  rotate_left
  focus (intro w _; go_simp; try (with_reducible rfl))
  try simp only [Act.put, List.setIfInBounds_toArray, List.set_cons_zero, List.set_cons_succ]
  refine takeP (i := 2) (v := ?_) 12 rfl rfl (by kernel_rfl) (by kernel_rfl) (by kernel_rfl) (fun _ _ _ h => h) (by kernel_rfl) (Or.inl ⟨by rfl, ?_⟩) hHeld ?_
  rotate_left
  focus (intro w _; go_simp; try (with_reducible rfl))
  try simp only [Act.put, List.setIfInBounds_toArray, List.set_cons_zero, List.set_cons_succ]
  refine takeP (i := 3) (v := ?_) 13 rfl rfl (by kernel_rfl) (by kernel_rfl) (by kernel_rfl) (fun _ _ _ h => h) (by kernel_rfl) (Or.inl ⟨by rfl, ?_⟩) hHeld ?_
  rotate_left
  focus (intro w _; go_simp; try (with_reducible rfl))
  try simp only [Act.put, List.setIfInBounds_toArray, List.set_cons_zero, List.set_cons_succ]
  refine takeL (i := 4) (v := ?_) 14 rfl rfl (by kernel_rfl) (by kernel_rfl) (by kernel_rfl) (fun _ _ _ h => h) (by kernel_rfl) (by kernel_rfl) (Or.inl ⟨by rfl, ?_⟩) hHeld ?_
  rotate_left
  focus (intro w hSw; (try dsimp only at hSw); go_simp; try (with_reducible rfl))
  try simp only [Act.put, List.setIfInBounds_toArray, List.set_cons_zero, List.set_cons_succ]
  refine takeL (i := 5) (v := ?_) 15 rfl rfl (by kernel_rfl) (by kernel_rfl) (by kernel_rfl) (fun _ _ _ h => h) (by kernel_rfl) (by kernel_rfl) (Or.inl ⟨by rfl, ?_⟩) hHeld ?_
  rotate_left
  focus (intro w hSw; (try dsimp only at hSw); go_simp; try (with_reducible rfl))
  try simp only [Act.put, List.setIfInBounds_toArray, List.set_cons_zero, List.set_cons_succ]
  refine nextS (i := 6) (by kernel_rfl) rfl (fun K hK => ?_)
  go_simp
  go_at_call 49; refine (HTE.out _ (Nats.below HS1.out.nats (below_drewN (Below.refl _ _) 1)).b4 (Nat.le_trans hb HB1.out.size)).mono ?_; clear HTE; rintro e2 w2 ⟨a4, n4, k4, rfl, hu4, hs4⟩; have HX2 : Hid (w2.heap[b]? = some (.cells #[v1, v2, v3, v4, .bool cl] 68 (0, 0))) := hs4.1.heap (w := W1.drew) HS1.out.blk (big_not_at (w := W1.drew) sp_ne HS1.out.blk (Nats.below HS1.out.nats (below_drewN (Below.refl _ _) 1)).b4); have HN2 : Hid (Nats w2 base v1 v2 v3 (.slice a4 n4 k4) V Bl A (W * 10 ^ e.toNat)) := (Nats.below HS1.out.nats (below_drewN (Below.refl _ _) 1)).s4 hu4 hs4; have HC2 : Hid (w2.heap[x]? = some (.cells #[.int .i64 e] 3 (0, 0))) := hs4.1.heap (w := W1.drew) HX1.out (big_not_at (w := W1.drew) i64_ne HX1.out (Nats.below HS1.out.nats (below_drewN (Below.refl _ _) 1)).b4); have HB2 : Hid (Below base w w2) := (below_drewN HB1.out 1).trans (hs4.below (Nats.below HS1.out.nats (below_drewN (Below.refl _ _) 1)).b4 (Nat.le_trans hb HB1.out.size)); clear hu4 hs4; obtain ⟨i0, i1, i2, i3, i4, j0, j1, j2, j3⟩ := span_cells HX2.out; have y2 := cell_of_int HC2.out
  go_wp2_with fail
  refine hK.out _ _ ⟨i3, y2⟩ (fun hHeld => ?_)
  clear hK K
  try simp only [Act.put, List.setIfInBounds_toArray, List.set_cons_zero, List.set_cons_succ]
  refine nextT (i := 7) (by kernel_rfl) (by kernel_rfl) rfl (fun K hK => ?_)
  go_simp
  refine hK.out _ _ ?_
  clear hK K
  try simp only [Act.put, List.setIfInBounds_toArray, List.set_cons_zero, List.set_cons_succ]
  refine nextT (i := 8) (by kernel_rfl) (by kernel_rfl) rfl (fun K hK => ?_)
  go_simp
  refine hK.out _ _ ?_
  clear hK K
  try simp only [Act.put, List.setIfInBounds_toArray, List.set_cons_zero, List.set_cons_succ]
  refine nextT (i := 9) (by kernel_rfl) (by kernel_rfl) rfl (fun K hK => ?_)
  go_simp
  refine hK.out _ _ ?_
  clear hK K
  try simp only [Act.put, List.setIfInBounds_toArray, List.set_cons_zero, List.set_cons_succ]
  clear hHeld
  refine endM (by kernel_rfl) ?_ _
  have hmf : ∀ (fn : Fn) (first cap : Array Value) (w : World), (Instr.makeFunc fn first cap).run Tryd.prog w = .ok (.func fn first cap) w := fun _ _ _ _ => rfl
  go_wp2_with fail
  obtain ⟨W3, hW3⟩ : ∃ W3, W3 = w2.setCell ⟨b, 3, none⟩ (.slice a4 n4 k4) := ⟨_, rfl⟩
  rw [← hW3]
  obtain ⟨hS3, hx3, hb3⟩ : SpAt W3 base b v1 v2 v3 (.slice a4 n4 k4) cl V Bl A (W * 10 ^ e.toNat) ∧ W3.heap[x]? = some (.cells #[.int .i64 e] 3 (0, 0)) ∧ Below base w W3 := by
    rw [hW3]
    have hk := (Kept.refl (fun k => k = b) w2).setCell (p := ⟨b, 3, none⟩) (fun _ => rfl) (.slice a4 n4 k4)
    exact ⟨SpAt.set HX2.out HS1.out.le HN2.out hk (heap_set_at3 HX2.out), hk.heap HC2.out (sp_x HX2.out HC2.out), HB2.out.trans (hk.toBelow (Nat.le_trans hb HB2.out.size) (fun i e => by rw [e]; exact HS1.out.le))⟩
  clear d0 d1 d2 d3 d4 g0 g1 g2 g3 y0 i0 i1 i2 i3 i4 j0 j1 j2 j3 y2 HX2 HN2 HC2 HB2 HS1 HX1 HB1 hW3
  obtain ⟨P, hP⟩ : ∃ P, P = 10 ^ (-e).toNat := ⟨_, rfl⟩
  obtain ⟨Wp, hWp⟩ : ∃ Wp, Wp = W * 10 ^ e.toNat := ⟨_, rfl⟩
  have HVP : Hid (V * P < B 999 ∧ Bl * P < B 999 ∧ A * P < B 999 ∧ Wp < B 999) := by rw [hP, hWp]; exact HV.out
  rw [← hWp] at hS3
  have hgr := grow_tens base b v1 v2 v3 (.slice a4 n4 k4) cl V Bl A Wp e x P W3 hS3 hx3 (by omega) (by omega) hP HVP.out.1 HVP.out.2.1 HVP.out.2.2.1 (Nat.le_trans hb hb3.size)
  have HB3 : Hid (Below base w W3) := hb3
  obtain ⟨V', hV'⟩ : ∃ V', V' = V * P := ⟨_, rfl⟩
  obtain ⟨Bl', hBl'⟩ : ∃ Bl', Bl' = Bl * P := ⟨_, rfl⟩
  obtain ⟨A', hA'⟩ : ∃ A', A' = A * P := ⟨_, rfl⟩
  have HR : Hid (scaleE V W e = (if Wp ≤ V' then e + 1 else e) ∧ scaleW V W e = (if Wp ≤ V' then Wp * 10 else Wp) ∧ V * 10 ^ (-e).toNat = V' ∧ Bl * 10 ^ (-e).toNat = Bl' ∧ A * 10 ^ (-e).toNat = A') := by
    unfold scaleE scaleW
    rw [← hP, ← hWp, hV', hBl', hA']
    exact ⟨rfl, rfl, rfl, rfl, rfl⟩
  rw [← hV', ← hBl', ← hA'] at hgr HVP
  clear hS3 hx3 hb3 hP hWp HV hV' hBl' hA'
  refine hgr.mono ?_; clear hgr; rintro e3 w4 ⟨rfl, ⟨u1, u2, u3, hS4⟩, hb4, hx4⟩; have HS4 : Hid (SpAt w4 base b u1 u2 u3 (.slice a4 n4 k4) cl V' Bl' A' Wp) := hS4; have HB4 : Hid (Below base w w4) := HB3.out.trans hb4; have HX4 : Hid (w4.heap[x]? = some (.cells #[.int .i64 e] 3 (0, 0))) := hx4; clear hS4 hb4 hx4 HB3
  go_wp2_with fail
  obtain ⟨l0, l1, l2, l3, l4, m0, m1, m2, m3⟩ := span_cells (w := w4.drew) HS4.out.blk
  have p0 := span_cells (w := w4) HS4.out.blk
  have z4 := cell_of_int (w := w4) HX4.out
  have HB999 : Hid (B 999 < B 1000) := B_lt (by decide)
  have HCM : Hid (∀ (W5 : World) (v u : Value), BigAt W5 v V' → BigAt W5 u Wp → Calls Tryd.prog 62 #[v, u] W5 fun e' w' => e' = .returned (.int .i64 (cmpN V' Wp)) ∧ ∃ q, w' = W5.drewN q) := fun W5 v u h1 h2 => compare_any v u V' Wp W5 h1 h2 (Nat.lt_trans HVP.out.1 HB999.out) (Nat.lt_trans HVP.out.2.2.2 HB999.out)
  by_cases hle : Wp ≤ V'
  · have hc := cmp_ge hle
    rw [if_pos hle, if_pos hle] at HR
    generalize cmpN V' Wp = c at *
    have HGR : Hid (∀ (W5 : World), Big W5 base (.slice a4 n4 k4) Wp → base ≤ W5.heap.size → Calls Tryd.prog 48 #[.slice a4 n4 k4, .int .u32 10, .int .u32 0] W5 fun e' w' => ∃ a n c, e' = .returned (.slice a n c) ∧ Big w' base (.slice a n c) (Wp * 10) ∧ Step W5 w' (.slice a4 n4 k4) (.slice a n c)) := fun W5 h1 h2 => (grown_any base _ Wp 10 0 W5 h1 (by decide) (by decide) (by decide) (Nat.lt_trans HVP.out.2.2.2 HB999.out) h2).mono (by
      rintro e' w' ⟨v', rfl, h3, h4⟩
      obtain ⟨a2, c2, d2, rfl, -⟩ := id h3
      exact ⟨_, _, _, rfl, h3, h4⟩)
    refine wp_region_M 999 (fun w' => w'.cell? ⟨b, 0, none⟩ = some u1 ∧ w'.cell? ⟨b, 3, none⟩ = some (.slice a4 n4 k4)) (by kernel_rfl) ⟨l0, l3⟩ (fun hHeld => ?_)
    refine takeP (i := 0) (v := ?_) 22 rfl rfl (by kernel_rfl) (by kernel_rfl) (by kernel_rfl) (fun _ _ _ h => h) (by kernel_rfl) (Or.inl ⟨by rfl, ?_⟩) hHeld ?_
    rotate_left
    focus (intro w _; go_simp; try (with_reducible rfl))
    try simp only [Act.put, List.setIfInBounds_toArray, List.set_cons_zero, List.set_cons_succ]
    refine takeP (i := 1) (v := ?_) 23 rfl rfl (by kernel_rfl) (by kernel_rfl) (by kernel_rfl) (fun _ _ _ h => h) (by kernel_rfl) (Or.inl ⟨by rfl, ?_⟩) hHeld ?_
    rotate_left
    focus (intro w _; go_simp; try (with_reducible rfl))
    try simp only [Act.put, List.setIfInBounds_toArray, List.set_cons_zero, List.set_cons_succ]
    refine takeP (i := 2) (v := ?_) 24 rfl rfl (by kernel_rfl) (by kernel_rfl) (by kernel_rfl) (fun _ _ _ h => h) (by kernel_rfl) (Or.inl ⟨by rfl, ?_⟩) hHeld ?_
    rotate_left
    focus (intro w _; go_simp; try (with_reducible rfl))
    try simp only [Act.put, List.setIfInBounds_toArray, List.set_cons_zero, List.set_cons_succ]
    refine takeL (i := 3) (v := ?_) 25 rfl rfl (by kernel_rfl) (by kernel_rfl) (by kernel_rfl) (fun _ _ _ h => h) (by kernel_rfl) (by kernel_rfl) (Or.inl ⟨by rfl, ?_⟩) hHeld ?_
    rotate_left
    focus (intro w hSw; (try dsimp only at hSw); go_simp; try (with_reducible rfl))
    try simp only [Act.put, List.setIfInBounds_toArray, List.set_cons_zero, List.set_cons_succ]
    refine takeP (i := 4) (v := ?_) 26 rfl rfl (by kernel_rfl) (by kernel_rfl) (by kernel_rfl) (fun _ _ _ h => h) (by kernel_rfl) (Or.inl ⟨by rfl, ?_⟩) hHeld ?_
    rotate_left
    focus (intro w _; go_simp; try (with_reducible rfl))
    try simp only [Act.put, List.setIfInBounds_toArray, List.set_cons_zero, List.set_cons_succ]
    refine takeP (i := 5) (v := ?_) 27 rfl rfl (by kernel_rfl) (by kernel_rfl) (by kernel_rfl) (fun _ _ _ h => h) (by kernel_rfl) (Or.inl ⟨by rfl, ?_⟩) hHeld ?_
    rotate_left
    focus (intro w _; go_simp; try (with_reducible rfl))
    try simp only [Act.put, List.setIfInBounds_toArray, List.set_cons_zero, List.set_cons_succ]
    refine takeP (i := 6) (v := ?_) 28 rfl rfl (by kernel_rfl) (by kernel_rfl) (by kernel_rfl) (fun _ _ _ h => h) (by kernel_rfl) (Or.inl ⟨by rfl, ?_⟩) hHeld ?_
    rotate_left
    focus (intro w _; go_simp; try (with_reducible rfl))
    try simp only [Act.put, List.setIfInBounds_toArray, List.set_cons_zero, List.set_cons_succ]
    refine takeL (i := 7) (v := ?_) 29 rfl rfl (by kernel_rfl) (by kernel_rfl) (by kernel_rfl) (fun _ _ _ h => h) (by kernel_rfl) (by kernel_rfl) (Or.inl ⟨by rfl, ?_⟩) hHeld ?_
    rotate_left
    focus (intro w hSw; (try dsimp only at hSw); go_simp; try (with_reducible rfl))
    try simp only [Act.put, List.setIfInBounds_toArray, List.set_cons_zero, List.set_cons_succ]
    refine nextS (i := 8) (by kernel_rfl) rfl (fun K hK => ?_)
    go_simp
    go_at_call 62; refine (HCM.out _ _ _ (Nats.below HS4.out.nats (below_drewN (Below.refl _ _) 1)).b1.at (Nats.below HS4.out.nats (below_drewN (Below.refl _ _) 1)).b4.at).mono ?_; clear HCM; rintro e4 w5 ⟨rfl, q, rfl⟩
    go_wp2_with fail
    refine hK.out _ _ ⟨l0, l3⟩ (fun hHeld => ?_)
    clear hK K
    try simp only [Act.put, List.setIfInBounds_toArray, List.set_cons_zero, List.set_cons_succ]
    refine takeP (i := 9) (v := ?_) 31 rfl rfl (by kernel_rfl) (by kernel_rfl) (by kernel_rfl) (fun _ _ _ h => h) (by kernel_rfl) (Or.inl ⟨by rfl, ?_⟩) hHeld ?_
    rotate_left
    focus (intro w _; go_simp; try (with_reducible rfl))
    try simp only [Act.put, List.setIfInBounds_toArray, List.set_cons_zero, List.set_cons_succ]
    clear hHeld
    refine endM (by kernel_rfl) ?_ _
    clear l0 l1 l2 l3 l4 m0 m1 m2 m3
    have HN5 : Hid (Nats (w4.drewN (1 + q)) base u1 u2 u3 (.slice a4 n4 k4) V' Bl' A' Wp) := HS4.out.nats.below (below_drewN (Below.refl _ _) _)
    go_wp2_with (go_at_call 48; refine (HGR.out _ HN5.out.b4 (Nat.le_trans hb HB4.out.size)).mono ?_; clear HGR; rintro e6 w6 ⟨a6, n6, k6, rfl, hu6, hs6⟩; have HX6 : Hid (w6.heap[b]? = some (.cells #[u1, u2, u3, .slice a4 n4 k4, .bool cl] 68 (0, 0))) := hs6.1.heap (w := w4.drewN (1 + q)) HS4.out.blk (big_not_at (w := w4.drewN (1 + q)) sp_ne HS4.out.blk HN5.out.b4); have HN6 : Hid (Nats w6 base u1 u2 u3 (.slice a6 n6 k6) V' Bl' A' (Wp * 10)) := HN5.out.s4 hu6 hs6; have HC6 : Hid (w6.heap[x]? = some (.cells #[.int .i64 e] 3 (0, 0))) := hs6.1.heap (w := w4.drewN (1 + q)) HX4.out (big_not_at (w := w4.drewN (1 + q)) i64_ne HX4.out HN5.out.b4); have HB6 : Hid (Below base w w6) := (below_drewN HB4.out (1 + q)).trans (hs6.below HN5.out.b4 (Nat.le_trans hb HB4.out.size)); clear hu6 hs6 p0 z4; have p6 := span_cells HX6.out; have z6 := cell_of_int HC6.out; have hxb := sp_x HX6.out HC6.out; have hfx : w6.frozen? ⟨x, 0, none⟩ = false := (by simp [World.frozen?, HC6.out]); have hxl : x < w6.heap.size := (Array.getElem?_eq_some_iff.1 HC6.out).1)
    go_ret
    have hk1 := (Kept.refl (fun k => k = b) w6).setCell (p := ⟨b, 3, none⟩) (fun _ => rfl) (.slice a6 n6 k6)
    have hS7 := SpAt.set HX6.out HS4.out.le HN6.out hk1 (heap_set_at3 HX6.out)
    have hx7 := hk1.heap HC6.out (sp_x HX6.out HC6.out)
    have hk2 := (Kept.refl (fun k => k = x) (w6.setCell ⟨b, 3, none⟩ (.slice a6 n6 k6))).setCell (p := ⟨x, 0, none⟩) (fun _ => rfl) (.int .i64 (e + 1))
    have hS8 := hS7.keepx hx7 hk2
    have hbl1 := hk1.toBelow (Nat.le_trans hb HB6.out.size) (fun i e => by rw [e]; exact HS4.out.le)
    have hbl2 := hk2.toBelow (Nat.le_trans (Nat.le_trans hb HB6.out.size) hbl1.size) (fun i e => by rw [e]; exact hxb0)
    obtain ⟨e1, e2, e3, e4, e5⟩ := HR.out
    rw [e1, e2, e3, e4, e5]
    exact ⟨rfl, ⟨_, _, _, _, hS8⟩, (HB6.out.trans hbl1).trans hbl2⟩
  · have hc : cmpN V' Wp < 0 := by rw [cmp_lt (by omega)]; decide
    rw [if_neg hle, if_neg hle] at HR
    generalize cmpN V' Wp = c at *
    refine wp_region_M 999 (fun w' => w'.cell? ⟨b, 0, none⟩ = some u1 ∧ w'.cell? ⟨b, 3, none⟩ = some (.slice a4 n4 k4)) (by kernel_rfl) ⟨l0, l3⟩ (fun hHeld => ?_)
    refine takeP (i := 0) (v := ?_) 22 rfl rfl (by kernel_rfl) (by kernel_rfl) (by kernel_rfl) (fun _ _ _ h => h) (by kernel_rfl) (Or.inl ⟨by rfl, ?_⟩) hHeld ?_
    rotate_left
    focus (intro w _; go_simp; try (with_reducible rfl))
    try simp only [Act.put, List.setIfInBounds_toArray, List.set_cons_zero, List.set_cons_succ]
    refine takeP (i := 1) (v := ?_) 23 rfl rfl (by kernel_rfl) (by kernel_rfl) (by kernel_rfl) (fun _ _ _ h => h) (by kernel_rfl) (Or.inl ⟨by rfl, ?_⟩) hHeld ?_
    rotate_left
    focus (intro w _; go_simp; try (with_reducible rfl))
    try simp only [Act.put, List.setIfInBounds_toArray, List.set_cons_zero, List.set_cons_succ]
    refine takeP (i := 2) (v := ?_) 24 rfl rfl (by kernel_rfl) (by kernel_rfl) (by kernel_rfl) (fun _ _ _ h => h) (by kernel_rfl) (Or.inl ⟨by rfl, ?_⟩) hHeld ?_
    rotate_left
    focus (intro w _; go_simp; try (with_reducible rfl))
    try simp only [Act.put, List.setIfInBounds_toArray, List.set_cons_zero, List.set_cons_succ]
    refine takeL (i := 3) (v := ?_) 25 rfl rfl (by kernel_rfl) (by kernel_rfl) (by kernel_rfl) (fun _ _ _ h => h) (by kernel_rfl) (by kernel_rfl) (Or.inl ⟨by rfl, ?_⟩) hHeld ?_
    rotate_left
    focus (intro w hSw; (try dsimp only at hSw); go_simp; try (with_reducible rfl))
    try simp only [Act.put, List.setIfInBounds_toArray, List.set_cons_zero, List.set_cons_succ]
    refine takeP (i := 4) (v := ?_) 26 rfl rfl (by kernel_rfl) (by kernel_rfl) (by kernel_rfl) (fun _ _ _ h => h) (by kernel_rfl) (Or.inl ⟨by rfl, ?_⟩) hHeld ?_
    rotate_left
    focus (intro w _; go_simp; try (with_reducible rfl))
    try simp only [Act.put, List.setIfInBounds_toArray, List.set_cons_zero, List.set_cons_succ]
    refine takeP (i := 5) (v := ?_) 27 rfl rfl (by kernel_rfl) (by kernel_rfl) (by kernel_rfl) (fun _ _ _ h => h) (by kernel_rfl) (Or.inl ⟨by rfl, ?_⟩) hHeld ?_
    rotate_left
    focus (intro w _; go_simp; try (with_reducible rfl))
    try simp only [Act.put, List.setIfInBounds_toArray, List.set_cons_zero, List.set_cons_succ]
    refine takeP (i := 6) (v := ?_) 28 rfl rfl (by kernel_rfl) (by kernel_rfl) (by kernel_rfl) (fun _ _ _ h => h) (by kernel_rfl) (Or.inl ⟨by rfl, ?_⟩) hHeld ?_
    rotate_left
    focus (intro w _; go_simp; try (with_reducible rfl))
    try simp only [Act.put, List.setIfInBounds_toArray, List.set_cons_zero, List.set_cons_succ]
    refine takeL (i := 7) (v := ?_) 29 rfl rfl (by kernel_rfl) (by kernel_rfl) (by kernel_rfl) (fun _ _ _ h => h) (by kernel_rfl) (by kernel_rfl) (Or.inl ⟨by rfl, ?_⟩) hHeld ?_
    rotate_left
    focus (intro w hSw; (try dsimp only at hSw); go_simp; try (with_reducible rfl))
    try simp only [Act.put, List.setIfInBounds_toArray, List.set_cons_zero, List.set_cons_succ]
    refine nextS (i := 8) (by kernel_rfl) rfl (fun K hK => ?_)
    go_simp
    go_at_call 62; refine (HCM.out _ _ _ (Nats.below HS4.out.nats (below_drewN (Below.refl _ _) 1)).b1.at (Nats.below HS4.out.nats (below_drewN (Below.refl _ _) 1)).b4.at).mono ?_; clear HCM; rintro e4 w5 ⟨rfl, q, rfl⟩
    go_wp2_with fail
    refine hK.out _ _ ⟨l0, l3⟩ (fun hHeld => ?_)
    clear hK K
    try simp only [Act.put, List.setIfInBounds_toArray, List.set_cons_zero, List.set_cons_succ]
    refine takeP (i := 9) (v := ?_) 31 rfl rfl (by kernel_rfl) (by kernel_rfl) (by kernel_rfl) (fun _ _ _ h => h) (by kernel_rfl) (Or.inl ⟨by rfl, ?_⟩) hHeld ?_
    rotate_left
    focus (intro w _; go_simp; try (with_reducible rfl))
    try simp only [Act.put, List.setIfInBounds_toArray, List.set_cons_zero, List.set_cons_succ]
    clear hHeld
    refine endM (by kernel_rfl) ?_ _
    clear l0 l1 l2 l3 l4 m0 m1 m2 m3
    go_wp2_with fail
    go_ret
    obtain ⟨e1, e2, e3, e4, e5⟩ := HR.out
    rw [e1, e2, e3, e4, e5]
    exact ⟨rfl, ⟨_, _, _, _, HS4.out.blk, HS4.out.le, HS4.out.nats.below (below_drewN (Below.refl _ _) _)⟩, below_drewN HB4.out _⟩
end Go.Proofs.YtinfnkhghmcelaaDoor
