/- A span grows. -/
import Derived.Test.YtinfnkhghmcelaaDoorMDi
import Derived.Test.YtinfnkhghmcelaaDoorRg
namespace Go.Proofs.YtinfnkhghmcelaaDoor
open Go.RowKit Go.Maps

theorem heap_set3 {w : World} {b : Nat} {v1 v2 v3 v4 v5 u1 u2 u3 : Value} {t : TypeId} (h : w.heap[b]? = some (.cells #[v1, v2, v3, v4, v5] t (0, 0))) :
    (((w.setCell ⟨b, 0, none⟩ u1).setCell ⟨b, 1, none⟩ u2).setCell ⟨b, 2, none⟩ u3).heap[b]? = some (.cells #[u1, u2, u3, v4, v5] t (0, 0)) := by
  have h1 := heap_setCell_same (i := 0) h u1
  have h2 := heap_setCell_same (i := 1) h1 u2
  have h3 := heap_setCell_same (i := 2) h2 u3
  exact h3

set_option maxRecDepth 100000 in
set_option maxHeartbeats 2000000 in
theorem grow_ten (base b : Nat) (v1 v2 v3 v4 : Value) (cl : Bool) (V Bl A W : Nat) (w : World) (h : SpAt w base b v1 v2 v3 v4 cl V Bl A W) (hV : V < B 1000) (hB : Bl < B 1000) (hA : A < B 1000) (hb : base ≤ w.heap.size) :
    Calls Tryd.prog 60 #[.pointer (some ⟨b, 0, none⟩), .func (.func 63) #[] #[]] w fun e w' => e = .returned (.tuple #[]) ∧ (∃ u1 u2 u3, SpAt w' base b u1 u2 u3 v4 cl (V * 10) (Bl * 10) (A * 10) W) ∧ Below base w w' ∧ KeepN b w w' := by
  have HT : Hid (∀ (w' : World) (v : Value) (N : Nat), Big w' base v N → N < B 1000 → base ≤ w'.heap.size → Calls Tryd.prog 63 #[v] w' fun e w'' => ∃ a n c, e = .returned (.slice a n c) ∧ Big w'' base (.slice a n c) (N * 10) ∧ Step w' w'' v (.slice a n c)) := fun w' v N h1 h2 h3 => ten_any base v N w' h1 h2 h3
  have HN0 : Hid (Nats w.drew base v1 v2 v3 v4 V Bl A W) := h.nats.below (below_drewN (Below.refl _ _) 1)
  have HX0 : Hid (w.drew.heap[b]? = some (.cells #[v1, v2, v3, v4, .bool cl] 68 (0, 0))) := h.blk
  have HB0 : Hid (Below base w w.drew) := below_drewN (Below.refl _ _) 1
  have HLE : Hid (base ≤ b) := h.le
  obtain ⟨c0, c1, c2, c3, c4, f0, f1, f2, f3⟩ := span_cells h.blk
  have s0 := span_cells HX0.out
  clear h
  go_enter Tryd.func60, Tryd.ntmps60
  refine wp_region_M 21 (fun w' => w'.cell? ⟨b, 0, none⟩ = some v1 ∧ w'.cell? ⟨b, 1, none⟩ = some v2 ∧ w'.cell? ⟨b, 2, none⟩ = some v3) (by kernel_rfl) ⟨s0.1, s0.2.1, s0.2.2.1⟩ (fun hHeld => ?_)
  refine takeP (i := 0) (v := ?_) 4 rfl rfl (by kernel_rfl) (by kernel_rfl) (by kernel_rfl) (fun _ _ _ h => h) (by kernel_rfl) (Or.inl ⟨by rfl, ?_⟩) hHeld ?_
  rotate_left
  focus (intro w _; go_simp; try (with_reducible rfl))
  try simp only [Act.put, List.setIfInBounds_toArray, List.set_cons_zero, List.set_cons_succ]
  refine takeP (i := 1) (v := ?_) 5 rfl rfl (by kernel_rfl) (by kernel_rfl) (by kernel_rfl) (fun _ _ _ h => h) (by kernel_rfl) (Or.inl ⟨by rfl, ?_⟩) hHeld ?_
  rotate_left
  focus (intro w _; go_simp; try (with_reducible rfl))
  try simp only [Act.put, List.setIfInBounds_toArray, List.set_cons_zero, List.set_cons_succ]
  refine takeP (i := 2) (v := ?_) 6 rfl rfl (by kernel_rfl) (by kernel_rfl) (by kernel_rfl) (fun _ _ _ h => h) (by kernel_rfl) (Or.inl ⟨by rfl, ?_⟩) hHeld ?_
  rotate_left
  focus (intro w _; go_simp; try (with_reducible rfl))
  try simp only [Act.put, List.setIfInBounds_toArray, List.set_cons_zero, List.set_cons_succ]
  refine takeP (i := 3) (v := ?_) 7 rfl rfl (by kernel_rfl) (by kernel_rfl) (by kernel_rfl) (fun _ _ _ h => h) (by kernel_rfl) (Or.inl ⟨by rfl, ?_⟩) hHeld ?_
  rotate_left
  focus (intro w _; go_simp; try (with_reducible rfl))
  try simp only [Act.put, List.setIfInBounds_toArray, List.set_cons_zero, List.set_cons_succ]
  refine takeP (i := 4) (v := ?_) 8 rfl rfl (by kernel_rfl) (by kernel_rfl) (by kernel_rfl) (fun _ _ _ h => h) (by kernel_rfl) (Or.inl ⟨by rfl, ?_⟩) hHeld ?_
  rotate_left
  focus (intro w _; go_simp; try (with_reducible rfl))
  try simp only [Act.put, List.setIfInBounds_toArray, List.set_cons_zero, List.set_cons_succ]
  refine takeP (i := 5) (v := ?_) 9 rfl rfl (by kernel_rfl) (by kernel_rfl) (by kernel_rfl) (fun _ _ _ h => h) (by kernel_rfl) (Or.inl ⟨by rfl, ?_⟩) hHeld ?_
  rotate_left
  focus (intro w _; go_simp; try (with_reducible rfl))
  try simp only [Act.put, List.setIfInBounds_toArray, List.set_cons_zero, List.set_cons_succ]
  refine takeP (i := 6) (v := ?_) 10 rfl rfl (by kernel_rfl) (by kernel_rfl) (by kernel_rfl) (fun _ _ _ h => h) (by kernel_rfl) (Or.inl ⟨by rfl, ?_⟩) hHeld ?_
  rotate_left
  focus (intro w _; go_simp; try (with_reducible rfl))
  try simp only [Act.put, List.setIfInBounds_toArray, List.set_cons_zero, List.set_cons_succ]
  refine takeL (i := 7) (v := ?_) 11 rfl rfl (by kernel_rfl) (by kernel_rfl) (by kernel_rfl) (fun _ _ _ h => h) (by kernel_rfl) (by kernel_rfl) (Or.inl ⟨by rfl, ?_⟩) hHeld ?_
  rotate_left
  focus (intro w hSw; (try dsimp only at hSw); go_simp; try (with_reducible rfl))
  try simp only [Act.put, List.setIfInBounds_toArray, List.set_cons_zero, List.set_cons_succ]
  refine takeP (i := 9) (v := ?_) 13 rfl rfl (by kernel_rfl) (by kernel_rfl) (by kernel_rfl) (fun _ _ _ h => h) (by kernel_rfl) (Or.inl ⟨by rfl, ?_⟩) hHeld ?_
  rotate_left
  focus (intro w _; go_simp; try (with_reducible rfl))
  try simp only [Act.put, List.setIfInBounds_toArray, List.set_cons_zero, List.set_cons_succ]
  refine takeP (i := 10) (v := ?_) 14 rfl rfl (by kernel_rfl) (by kernel_rfl) (by kernel_rfl) (fun _ _ _ h => h) (by kernel_rfl) (Or.inl ⟨by rfl, ?_⟩) hHeld ?_
  rotate_left
  focus (intro w _; go_simp; try (with_reducible rfl))
  try simp only [Act.put, List.setIfInBounds_toArray, List.set_cons_zero, List.set_cons_succ]
  refine takeP (i := 11) (v := ?_) 15 rfl rfl (by kernel_rfl) (by kernel_rfl) (by kernel_rfl) (fun _ _ _ h => h) (by kernel_rfl) (Or.inl ⟨by rfl, ?_⟩) hHeld ?_
  rotate_left
  focus (intro w _; go_simp; try (with_reducible rfl))
  try simp only [Act.put, List.setIfInBounds_toArray, List.set_cons_zero, List.set_cons_succ]
  refine takeP (i := 12) (v := ?_) 16 rfl rfl (by kernel_rfl) (by kernel_rfl) (by kernel_rfl) (fun _ _ _ h => h) (by kernel_rfl) (Or.inl ⟨by rfl, ?_⟩) hHeld ?_
  rotate_left
  focus (intro w _; go_simp; try (with_reducible rfl))
  try simp only [Act.put, List.setIfInBounds_toArray, List.set_cons_zero, List.set_cons_succ]
  refine takeL (i := 13) (v := ?_) 17 rfl rfl (by kernel_rfl) (by kernel_rfl) (by kernel_rfl) (fun _ _ _ h => h) (by kernel_rfl) (by kernel_rfl) (Or.inl ⟨by rfl, ?_⟩) hHeld ?_
  rotate_left
  focus (intro w hSw; (try dsimp only at hSw); go_simp; try (with_reducible rfl))
  try simp only [Act.put, List.setIfInBounds_toArray, List.set_cons_zero, List.set_cons_succ]
  refine takeP (i := 15) (v := ?_) 19 rfl rfl (by kernel_rfl) (by kernel_rfl) (by kernel_rfl) (fun _ _ _ h => h) (by kernel_rfl) (Or.inl ⟨by rfl, ?_⟩) hHeld ?_
  rotate_left
  focus (intro w _; go_simp; try (with_reducible rfl))
  try simp only [Act.put, List.setIfInBounds_toArray, List.set_cons_zero, List.set_cons_succ]
  refine takeP (i := 16) (v := ?_) 20 rfl rfl (by kernel_rfl) (by kernel_rfl) (by kernel_rfl) (fun _ _ _ h => h) (by kernel_rfl) (Or.inl ⟨by rfl, ?_⟩) hHeld ?_
  rotate_left
  focus (intro w _; go_simp; try (with_reducible rfl))
  try simp only [Act.put, List.setIfInBounds_toArray, List.set_cons_zero, List.set_cons_succ]
  refine takeP (i := 17) (v := ?_) 21 rfl rfl (by kernel_rfl) (by kernel_rfl) (by kernel_rfl) (fun _ _ _ h => h) (by kernel_rfl) (Or.inl ⟨by rfl, ?_⟩) hHeld ?_
  rotate_left
  focus (intro w _; go_simp; try (with_reducible rfl))
  try simp only [Act.put, List.setIfInBounds_toArray, List.set_cons_zero, List.set_cons_succ]
  refine takeP (i := 18) (v := ?_) 22 rfl rfl (by kernel_rfl) (by kernel_rfl) (by kernel_rfl) (fun _ _ _ h => h) (by kernel_rfl) (Or.inl ⟨by rfl, ?_⟩) hHeld ?_
  rotate_left
  focus (intro w _; go_simp; try (with_reducible rfl))
  try simp only [Act.put, List.setIfInBounds_toArray, List.set_cons_zero, List.set_cons_succ]
  refine takeL (i := 19) (v := ?_) 23 rfl rfl (by kernel_rfl) (by kernel_rfl) (by kernel_rfl) (fun _ _ _ h => h) (by kernel_rfl) (by kernel_rfl) (Or.inl ⟨by rfl, ?_⟩) hHeld ?_
  rotate_left
  focus (intro w hSw; (try dsimp only at hSw); go_simp; try (with_reducible rfl))
  try simp only [Act.put, List.setIfInBounds_toArray, List.set_cons_zero, List.set_cons_succ]
  refine nextS (i := 8) (by kernel_rfl) rfl (fun K hK => ?_)
  go_simp
  go_at_call 63; refine (HT.out _ _ V HN0.out.b1 hV (Nat.le_trans hb HB0.out.size)).mono ?_; rintro e w1 ⟨a1, n1, k1, rfl, hu1, hs1⟩; have HN1 : Hid (Nats w1 base (.slice a1 n1 k1) v2 v3 v4 (V * 10) Bl A W) := HN0.out.s1 hu1 hs1; have HX1 : Hid (w1.heap[b]? = some (.cells #[v1, v2, v3, v4, .bool cl] 68 (0, 0))) := hs1.1.heap HX0.out (big_not_at sp_ne HX0.out HN0.out.b1); have HB1 : Hid (Below base w w1) := HB0.out.trans (hs1.below HN0.out.b1 (Nat.le_trans hb HB0.out.size)); have HK1 : Hid (KeepN b w w1) := KeepN.trans (KeepN.drewN (KeepN.refl b w) 1) (KeepN.step HN0.out.b1 hs1); have s1 := span_cells HX1.out; clear hu1 hs1
  go_wp2_with fail
  refine hK.out _ _ ⟨s1.1, s1.2.1, s1.2.2.1⟩ (fun hHeld => ?_)
  clear hK K
  try simp only [Act.put, List.setIfInBounds_toArray, List.set_cons_zero, List.set_cons_succ]
  refine nextS (i := 14) (by kernel_rfl) rfl (fun K hK => ?_)
  go_simp
  go_at_call 63; refine (HT.out _ _ Bl HN1.out.b2 hB (Nat.le_trans hb HB1.out.size)).mono ?_; rintro e w2 ⟨a2, n2, k2, rfl, hu2, hs2⟩; have HN2 : Hid (Nats w2 base (.slice a1 n1 k1) (.slice a2 n2 k2) v3 v4 (V * 10) (Bl * 10) A W) := HN1.out.s2 hu2 hs2; have HX2 : Hid (w2.heap[b]? = some (.cells #[v1, v2, v3, v4, .bool cl] 68 (0, 0))) := hs2.1.heap HX1.out (big_not_at sp_ne HX1.out HN1.out.b2); have HB2 : Hid (Below base w w2) := HB1.out.trans (hs2.below HN1.out.b2 (Nat.le_trans hb HB1.out.size)); have HK2 : Hid (KeepN b w w2) := HK1.out.trans (KeepN.step HN1.out.b2 hs2); have s2 := span_cells HX2.out; clear hu2 hs2
  go_wp2_with fail
  refine hK.out _ _ ⟨s2.1, s2.2.1, s2.2.2.1⟩ (fun hHeld => ?_)
  clear hK K
  try simp only [Act.put, List.setIfInBounds_toArray, List.set_cons_zero, List.set_cons_succ]
  refine nextS (i := 20) (by kernel_rfl) rfl (fun K hK => ?_)
  go_simp
  go_at_call 63; refine (HT.out _ _ A HN2.out.b3 hA (Nat.le_trans hb HB2.out.size)).mono ?_; rintro e w3 ⟨a3, n3, k3, rfl, hu3, hs3⟩; have HN3 : Hid (Nats w3 base (.slice a1 n1 k1) (.slice a2 n2 k2) (.slice a3 n3 k3) v4 (V * 10) (Bl * 10) (A * 10) W) := HN2.out.s3 hu3 hs3; have HX3 : Hid (w3.heap[b]? = some (.cells #[v1, v2, v3, v4, .bool cl] 68 (0, 0))) := hs3.1.heap HX2.out (big_not_at sp_ne HX2.out HN2.out.b3); have HB3 : Hid (Below base w w3) := HB2.out.trans (hs3.below HN2.out.b3 (Nat.le_trans hb HB2.out.size)); have HK3 : Hid (KeepN b w w3) := HK2.out.trans (KeepN.step HN2.out.b3 hs3); obtain ⟨i0, i1, i2, i3, i4, j0, j1, j2, j3⟩ := span_cells HX3.out; clear hu3 hs3
  go_wp2_with fail
  refine hK.out _ _ ⟨i0, i1, i2⟩ (fun hHeld => ?_)
  clear hK K
  try simp only [Act.put, List.setIfInBounds_toArray, List.set_cons_zero, List.set_cons_succ]
  clear hHeld s0 s1 s2
  refine nextT (i := 21) (by kernel_rfl) (by kernel_rfl) rfl (fun K hK => ?_)
  go_simp
  refine hK.out _ _ ?_
  clear hK K
  try simp only [Act.put, List.setIfInBounds_toArray, List.set_cons_zero, List.set_cons_succ]
  refine nextT (i := 22) (by kernel_rfl) (by kernel_rfl) rfl (fun K hK => ?_)
  go_simp
  refine hK.out _ _ ?_
  clear hK K
  try simp only [Act.put, List.setIfInBounds_toArray, List.set_cons_zero, List.set_cons_succ]
  refine nextT (i := 23) (by kernel_rfl) (by kernel_rfl) rfl (fun K hK => ?_)
  go_simp
  refine hK.out _ _ ?_
  clear hK K
  try simp only [Act.put, List.setIfInBounds_toArray, List.set_cons_zero, List.set_cons_succ]
  refine nextT (i := 24) (by kernel_rfl) (by kernel_rfl) rfl (fun K hK => ?_)
  go_simp
  refine hK.out _ _ ?_
  clear hK K
  try simp only [Act.put, List.setIfInBounds_toArray, List.set_cons_zero, List.set_cons_succ]
  refine nextT (i := 25) (by kernel_rfl) (by kernel_rfl) rfl (fun K hK => ?_)
  go_simp
  refine hK.out _ _ ?_
  clear hK K
  try simp only [Act.put, List.setIfInBounds_toArray, List.set_cons_zero, List.set_cons_succ]
  refine nextT (i := 26) (by kernel_rfl) (by kernel_rfl) rfl (fun K hK => ?_)
  go_simp
  refine hK.out _ _ ?_
  clear hK K
  try simp only [Act.put, List.setIfInBounds_toArray, List.set_cons_zero, List.set_cons_succ]
  refine nextT (i := 27) (by kernel_rfl) (by kernel_rfl) rfl (fun K hK => ?_)
  go_simp
  refine hK.out _ _ ?_
  clear hK K
  try simp only [Act.put, List.setIfInBounds_toArray, List.set_cons_zero, List.set_cons_succ]
  refine nextT (i := 28) (by kernel_rfl) (by kernel_rfl) rfl (fun K hK => ?_)
  go_simp
  refine hK.out _ _ ?_
  clear hK K
  try simp only [Act.put, List.setIfInBounds_toArray, List.set_cons_zero, List.set_cons_succ]
  refine nextT (i := 29) (by kernel_rfl) (by kernel_rfl) rfl (fun K hK => ?_)
  go_simp
  refine hK.out _ _ ?_
  clear hK K
  try simp only [Act.put, List.setIfInBounds_toArray, List.set_cons_zero, List.set_cons_succ]
  refine endM (by kernel_rfl) ?_ _
  go_wp2
  go_end0
  have hk := (((Kept.refl (fun k => k = b) w3).setCell (p := ⟨b, 0, none⟩) (fun _ => rfl) (.slice a1 n1 k1)).setCell (p := ⟨b, 1, none⟩) (fun _ => rfl) (.slice a2 n2 k2)).setCell (p := ⟨b, 2, none⟩) (fun _ => rfl) (.slice a3 n3 k3)
  exact ⟨rfl, ⟨_, _, _, SpAt.set HX3.out HLE.out HN3.out hk (heap_set3 HX3.out)⟩, HB3.out.trans (hk.toBelow (Nat.le_trans hb HB3.out.size) (fun i e => by rw [e]; exact HLE.out)), HK3.out.trans (KeepN.set hk)⟩

end Go.Proofs.YtinfnkhghmcelaaDoor
