/- Texts that belong together. -/
import Derived.Test.YtjnjmpfldbkciaaGreatYr
import Derived.Test.YtjnjmpfldbkciaaGreatMYh
/- slices.Values of one series; what it tells. -/
namespace Go.Proofs.YtjnjmpfldbkciaaGreat
open Go.RowKit Go.Shelf Go.Maps
attribute [local go_sem] Oper.semAt_some

set_option maxRecDepth 100000 in
set_option maxHeartbeats 2000000 in
theorem values1_tells (Bs : Nat) (v vl vs : Value) (z : Ser) (W0 : World) (hBs : Bs < W0.heap.size) (hc : W0.cell? ⟨Bs, 0, none⟩ = some v) (h : RowAt W0 v 2 1 [vl, vs]) (h1 : LbAt W0 vl z.1) (h2 : SmAt W0 vs z.2) (h3 : ∀ b, blkOf vl = some b → b < W0.heap.size) (h4 : ∀ b, blkOf vs = some b → b < W0.heap.size) :
    Tells1 Tryz.prog 70 #[.pointer (some ⟨Bs, 0, none⟩)] z W0 False := by
  intro l W R hW hRa hY
  have cW : W.cell? ⟨Bs, 0, none⟩ = some v := (hW.cell (p := ⟨Bs, 0, none⟩) hBs).trans hc
  have h := RowAt.below h hW
  have h1 := RowAt.below h1 hW
  have h2 := RowAt.below h2 hW
  obtain ⟨a, c, rfl, -⟩ := id h
  obtain ⟨b, o, e, q0⟩ := RowAt.one h (j := 0) rfl
  subst e
  obtain ⟨b', o', e, q1⟩ := RowAt.one h (j := 1) rfl
  cases e
  have q0 := q0 W (Below.refl _ _)
  have q1 := q1 W (Below.refl _ _)
  rw [Nat.add_zero] at q0
  have hal : Below W.heap.size W (W.alloc (.cells #[vl, vs] 36)) := (Below.refl _ _).alloc (Nat.le_refl _) _
  obtain ⟨fn, tmps, assign, body, hyy, hR⟩ := yieldAt_anyDepth (F := Fence.wide) rfl 9 (hY (W.alloc (.cells #[vl, vs] 36)) vl vs hal ⟨RowAt.below h1 hal, RowAt.below h2 hal, Or.inr ⟨h3, h4⟩⟩)
  obtain ⟨a1, c1, rfl, -⟩ := id h1
  obtain ⟨a2, c2, rfl, -⟩ := id h2
  have HRA : Hid _ := hRa
  have HAL : Hid _ := hal
  clear hRa hY hW h h1 h2 h3 h4 hc hal
  refine (callsIn_wide (n := 10)).1 ?_
  refine callsIn_of_wp Tryz.func70 rfl trivial ?_ rfl
  simp only [Tryz.ntmps70, List.size_toArray, List.length_cons, List.length_nil, Nat.reduceAdd, Nat.reduceSub, Array.replicate_succ, Array.replicate_zero, List.push_toArray, List.append_toArray, List.nil_append, List.cons_append]
  gi_wp2
  gi_loopw [7] (fun i wr => (i = .int .i64 0 ∧ wr = W) ∨ (i = .int .i64 1 ∧ Hid (R (W.alloc (.cells #[.slice a1 z.1.length c1, .slice a2 z.2.length c2] 36)) wr))) (fun i _ => 1 - (intOf i).toNat)
  case atStart => exact Or.inl ⟨rfl, rfl⟩
  case round =>
    rcases hrel with ⟨rfl, rfl⟩ | ⟨rfl, hrel⟩
    · gi_wp2
      refine hR.mono ?_
      rintro e W3 ⟨rfl, hk3, hr3⟩
      gi_wp2
      go_roundw
      case rel => exact Or.inr ⟨by go_num, hr3⟩
      case measure => simp [intOf]
    · gi_wp2
      go_end0
      exact ⟨⟨_, rfl⟩, _, HAL.out, hrel.out⟩

set_option maxHeartbeats 1000000 in
theorem values_any (a : Option Addr) (len cap : Nat) (w : World) :
    Calls Tryz.prog 47 #[.slice a len cap] w fun e w' => e = .returned (.func (.func 70) #[] #[.pointer (some ⟨w.heap.size, 0, none⟩)]) ∧ w' = w.alloc (.cells #[.slice a len cap] 22) := by
  go_enter Tryz.func47, Tryz.ntmps47
  go_wp2
  go_ret
  exact ⟨rfl, rfl⟩

set_option maxHeartbeats 1000000 in
theorem both_any (f1 f2 : Value) (g1 g2 : Nat) (l1 l2 : Array Value) (w : World) (e1 : f1 = .func (.func g1) #[] l1) (e2 : f2 = .func (.func g2) #[] l2) :
    Calls Tryz.prog 75 #[f1, f2] w fun e w' => e = .returned (.func (.func 90) #[] #[.pointer (some ⟨w.heap.size + 1, 0, none⟩), .pointer (some ⟨w.heap.size, 0, none⟩)]) ∧ w' = (w.alloc (.cells #[f1] 59)).alloc (.cells #[f2] 59) := by
  subst e1 e2
  go_enter Tryz.func75, Tryz.ntmps75
  go_wp2
  go_ret
  exact ⟨rfl, rfl⟩

end Go.Proofs.YtjnjmpfldbkciaaGreat

/- slices.Collect of an iterator that tells one series. -/
namespace Go.Proofs.YtjnjmpfldbkciaaGreat
open Go.RowKit Go.Shelf Go.Maps
attribute [local go_sem] Oper.semAt_some

/-- What has been appended. -/
def AppR (w w0 : World) (z : Ser) (W1 A : World) : Prop := ∃ g c vl vs, A.heap[w.heap.size]? = some (.cells #[.slice (some ⟨g, 0, none⟩) 1 c] 22) ∧ W1.heap.size ≤ g ∧ A.ownsRow w.heap.size 36 2 (.slice (some ⟨g, 0, none⟩) 1 c) 1 [vl, vs] ∧ LbAt A vl z.1 ∧ SmAt A vs z.2 ∧ ((∀ b, blkOf vl = some b → b < w0.heap.size) ∧ ∀ b, blkOf vs = some b → b < w0.heap.size) ∧ Below w.heap.size w A

set_option maxRecDepth 100000 in
set_option maxHeartbeats 2000000 in
theorem appendSeq1 (gf : Nat) (lb : Array Value) (z : Ser) (w0 w : World) (hT : Tells1 Tryz.prog gf lb z w0 False) (hb : Below w0.heap.size w0 w) (eg : ∀ args w, (callFunc gf args).run Tryz.prog w = .ok (.enter gf args) w) :
    Calls Tryz.prog 99 #[.slice none 0 0, .func (.func gf) #[] lb] w fun e w' => ∃ v, e = .returned v ∧ OneAt w.heap.size 0 w' v z ∧ Below w.heap.size w w' := by
  refine (callsIn_wide (n := 10)).1 ?_
  refine callsIn_of_wp_marks Tryz.func99 rfl trivial ?_ rfl
  simp only [Tryz.ntmps99, List.size_toArray, List.length_cons, List.length_nil, Nat.reduceAdd, Nat.reduceSub, Array.replicate_succ, Array.replicate_zero, List.push_toArray, List.append_toArray, List.nil_append, List.cons_append]
  gi_wp2
  obtain ⟨W, hW⟩ : ∃ W, w.alloc (.cells #[.slice none 0 0] 22) = W := ⟨_, rfl⟩
  have hsW : W.heap.size = w.heap.size + 1 := by rw [← hW]; simp
  have hbW : Below w.heap.size w W := by rw [← hW]; exact (Below.refl _ _).alloc (Nat.le_refl _) _
  have hbox : W.heap[w.heap.size]? = some (.cells #[.slice none 0 0] 22) := by rw [← hW]; exact heap_alloc_new w _
  rw [hW]
  clear hW
  have hs0 := hb.size
  refine range_one (T := 36) (by omega) (gf := gf) (lb := lb) rfl eg z hT (hb.trans (hbW.mono hs0)) rfl
    (AppR w w0 z) ?abide
    (fun vl vs W1 => { tmps := #[.slice none 0 0, .func (.func gf) #[] lb, .pointer (some ⟨w.heap.size, 0, none⟩), undef, .slice none 0 0, .pointer (some ⟨W1.heap.size, 0, none⟩), .func (.func gf) #[] lb, .agg #[vl, vs], undef, undef, undef, undef, undef], defers := [] }) ?assign ?body ?done
  case abide =>
    rintro W1 A A' ⟨g, c, vl, vs, h1, h2, h3, h4, h5, ⟨h6, h7⟩, h8⟩ hsz hk
    have hkk := hk.mono (O' := fun i => w.heap.size + 1 ≤ i ∧ i < w.heap.size + 3) (fun i _ hi => by rcases hi with hi | hi <;> first | omega | exact hi.1.elim)
    refine ⟨g, c, vl, vs, hkk.heap h1 (by omega), h2, hkk.ownsRow h3 (fun b hb' => by simp [Value.ownBlock] at hb'; omega), RowAt.kept h4 hkk (fun b hb' => by have := h6 b hb'; omega), RowAt.kept h5 hkk (fun b hb' => by have := h7 b hb'; omega), ⟨h6, h7⟩, h8.trans (hkk.toBelow h8.size (fun i hi => by omega))⟩
  case assign =>
    rintro l vl vs W1 K ⟨a1, n1, c1, rfl⟩ ⟨a2, n2, c2, rfl⟩ hK
    gi_wp2
    exact hK
  case body =>
    rintro l vl vs W1 Wb rfl hb1 hsz hkb ⟨hl, hs, htd⟩
    have htd := htd.resolve_left id
    obtain ⟨a1, c1, rfl, -⟩ := id hl
    obtain ⟨a2, c2, rfl, -⟩ := id hs
    have hbx : Wb.heap[w.heap.size]? = some (.cells #[.slice none 0 0] 22) := hkb.heap ((Below.heap_alloc W1 _ _ (by omega)).trans ((hb1.block _ (by omega)).trans hbox)) (by omega)
    have hxx : Wb.heap[W1.heap.size]? = some (.cells #[.slice a1 z.1.length c1, .slice a2 z.2.length c2] 36) := hkb.heap (heap_alloc_new W1 _) (by omega)
    have hszb : W1.heap.size + 1 ≤ Wb.heap.size := by have := hkb.size; simpa using this
    have cS : Wb.cell? ⟨w.heap.size, 0, none⟩ = some (.slice none 0 0) := by rw [cell_of_heap hbx]; rfl
    have cX0 : Wb.cell? ⟨W1.heap.size, 0, none⟩ = some (.slice a1 z.1.length c1) := by rw [cell_of_heap hxx]; rfl
    have cX1 : Wb.cell? ⟨W1.heap.size, 1, none⟩ = some (.slice a2 z.2.length c2) := by rw [cell_of_heap hxx]; rfl
    have HBX : Hid _ := hbx
    have HWB : Hid (Below w.heap.size w Wb) := ((hbW.trans (hb1.mono (by omega))).alloc (by omega) _).trans (hkb.toBelow (by simp; omega) (fun i hi => by omega))
    have HL : Hid (LbAt Wb (.slice a1 z.1.length c1) z.1) := hl
    have HS : Hid (SmAt Wb (.slice a2 z.2.length c2) z.2) := hs
    have HTD : Hid _ := htd
    clear hl hs htd hkb hxx hbx
    gi_wp2_with (gi_at_builtin; refine wpListIn_append_row appSr _ rfl _ _ rfl Wb.heap.size (.slice none 0 0) 0 [] rfl (World.ownsRow_nil _ _ _ _) _ 1 [.slice a1 z.1.length c1, .slice a2 z.2.length c2] rfl (RowAt.of_block (cs := #[.slice a1 z.1.length c1, .slice a2 z.2.length c2]) (heap_alloc_new Wb _) rfl (by decide)) (by simp [Value.oneCell']) (by omega) (by simp) ?_; intro a5 c5 w5 hr5 hg5 hw5; have hbx5 : w5.heap[w.heap.size]? = some (.cells #[.slice none 0 0] 22) := (hg5.block _ (by simp; omega) (by simp [Value.ownBlock])).trans ((Below.heap_alloc Wb _ _ (by omega)).trans HBX.out); have cS5 : w5.cell? ⟨w.heap.size, 0, none⟩ = some (.slice none 0 0) := (by rw [cell_of_heap hbx5]; rfl); have fS5 : w5.frozen? ⟨w.heap.size, 0, none⟩ = false := frozen_of_heap hbx5; have HB5 : Hid (w5.heap[w.heap.size]? = some (.cells #[.slice none 0 0] 22)) := hbx5; clear hbx5)
    obtain ⟨g5, c9, cur5, e9, hg5', hh5⟩ := row_some hr5 (by omega)
    cases e9
    have hal : Below Wb.heap.size Wb (Wb.alloc (.cells #[.slice a1 z.1.length c1, .slice a2 z.2.length c2] 36)) := (Below.refl _ _).alloc (Nat.le_refl _) _
    have hb5 : Below Wb.heap.size Wb w5 := hal.grown hg5 hal.size (fun k hk => by cases hk)
    have hks : Kept (fun i => i = w.heap.size) w5 (w5.setCell ⟨w.heap.size, 0, none⟩ (.slice (some ⟨g5, 0, none⟩) 1 c5)) := (Kept.refl (fun i => i = w.heap.size) _).setCell (fun _ => rfl) _
    have hr5' : w5.ownsRow Wb.heap.size 36 2 (.slice (some ⟨g5, 0, none⟩) 1 c5) 1 [.slice a1 z.1.length c1, .slice a2 z.2.length c2] := by simpa using hr5
    refine ⟨(((Kept.refl _ Wb).below hb5).setCell (fun _ => Or.inl ⟨hs0, Nat.lt_succ_self w.heap.size⟩) _), g5, c5, .slice a1 z.1.length c1, .slice a2 z.2.length c2, heap_setCell_same HB5.out _, by omega, row_mono (hks.ownsRow hr5' (fun b hb' => by simp [Value.ownBlock] at hb'; omega)) (by omega), RowAt.kept (RowAt.below HL.out hb5) hks (fun b hb' => by have := HTD.out.1 b hb'; omega), RowAt.kept (RowAt.below HS.out hb5) hks (fun b hb' => by have := HTD.out.2 b hb'; omega), HTD.out, (HWB.out.trans (hb5.mono HWB.out.size)).setCell (Nat.le_refl _) _⟩
  case done =>
    rintro W1 A hb1 hsz ⟨g, c, vl, vs, h1, h2, h3, h4, h5, ⟨h6, h7⟩, h8⟩ hdef
    have cS : A.cell? ⟨w.heap.size, 0, none⟩ = some (.slice (some ⟨g, 0, none⟩) 1 c) := by rw [cell_of_heap h1]; rfl
    have H3 : Hid (A.ownsRow w.heap.size 36 2 (.slice (some ⟨g, 0, none⟩) 1 c) 1 [vl, vs]) := h3
    have H4 : Hid _ := h4
    have H5 : Hid _ := h5
    have H6 : Hid _ := h6
    have H7 : Hid _ := h7
    have H8 : Hid _ := h8
    clear h1 h3 h4 h5 h6 h7 h8
    gi_wp2
    refine ⟨by simp, .inl ⟨_, _, rfl, run_takeDeferred hdef, ?_⟩⟩
    have hks : Kept (fun i => i = W.heap.size) A (A.putObj W.heap.size (.deferred none)) := (Kept.refl (fun i => i = W.heap.size) _).putObj (fun _ => rfl) _
    have hsA := H8.out.size
    refine ⟨_, results_tmp rfl _ _ _, .slice (some ⟨g, 0, none⟩) 1 c, rfl, ⟨g, c, vl, vs, rfl, hks.ownsRow H3.out (fun b hb' => by simp [Value.ownBlock] at hb'; omega), RowAt.kept H4.out hks (fun b hb' => by have := H6.out b hb'; omega), RowAt.kept H5.out hks (fun b hb' => by have := H7.out b hb'; omega), fun b hb' => ⟨Nat.zero_le _, by have := H6.out b hb'; have := hks.size; omega⟩, fun b hb' => ⟨Nat.zero_le _, by have := H7.out b hb'; have := hks.size; omega⟩⟩, H8.out.trans (hks.toBelow hsA (fun i hi => by omega))⟩

set_option maxHeartbeats 1000000 in
theorem collect1 (gf : Nat) (lb : Array Value) (z : Ser) (w0 w : World) (hT : Tells1 Tryz.prog gf lb z w0 False) (hb : Below w0.heap.size w0 w) (eg : ∀ args w, (callFunc gf args).run Tryz.prog w = .ok (.enter gf args) w) :
    Calls Tryz.prog 91 #[.func (.func gf) #[] lb] w fun e w' => ∃ v, e = .returned v ∧ OneAt w.heap.size 0 w' v z ∧ Below w.heap.size w w' := by
  have h := appendSeq1 gf lb z w0 w hT hb eg
  clear hT hb eg
  go_enter Tryz.func91, Tryz.ntmps91
  go_wp2_with (go_at_call 99; refine h.mono ?_; clear h; rintro e w1 ⟨v, rfl, ho, hb1⟩)
  go_ret
  exact ⟨_, rfl, ho, hb1⟩

end Go.Proofs.YtjnjmpfldbkciaaGreat
