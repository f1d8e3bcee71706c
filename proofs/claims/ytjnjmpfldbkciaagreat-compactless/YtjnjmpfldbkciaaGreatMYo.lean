/- Collect of an iterator that tells one series. -/
import Derived.Test.YtjnjmpfldbkciaaGreatMYn
import Derived.RecoverIn
namespace Go.Proofs.YtjnjmpfldbkciaaGreat
open Go.RowKit Go.Shelf Go.Maps
attribute [local go_sem] Oper.semAt_some

theorem catch_idle (n : Nat) (w : World) : CallsDIn Fence.wide n Tryz.prog 52 #[] .returning w fun e u' w' => e = .returned (.tuple #[]) ∧ u' = .returning ∧ w' = w := by
  refine callsDIn_of_wpSIn Tryz.func52 rfl trivial fun c₀ cs hu => ?_
  apply wpSIn_region
  cases c₀
  simp_all [wpOpsSIn, go_sem, recoverD, Tryz.ntmps52, bodyPostS, results, Tryz.results52, Oper.about]

theorem seq_nil (g : Nat) (l : Array Value) (W : World) : (binOp .eql 59 (.func (.func g) #[] l) Value.nilFunc).run Tryz.prog W = .ok (.bool false) W := by kernel_rfl

/-- What has been collected. -/
def ColR (w : World) (z : Ser) (W1 A : World) : Prop := ∃ g c vl vs, A.heap[w.heap.size]? = some (.cells #[.slice (some ⟨g, 0, none⟩) 1 c] 22) ∧ A.ownsRow W1.heap.size 36 2 (.slice (some ⟨g, 0, none⟩) 1 c) 1 [vl, vs] ∧ LbAt A vl z.1 ∧ SmAt A vs z.2 ∧ ((∀ b, blkOf vl = some b → W1.heap.size ≤ b) ∧ ∀ b, blkOf vs = some b → W1.heap.size ≤ b) ∧ Below w.heap.size w A ∧ W1.heap.size ≤ g

set_option maxRecDepth 100000 in
set_option maxHeartbeats 4000000 in
theorem collectC1 (gf : Nat) (lb : Array Value) (z : Ser) (w0 w : World) (hT : Tells1 Tryz.prog gf lb z w0 True) (hb : Below w0.heap.size w0 w) (eg : ∀ args w, (callFunc gf args).run Tryz.prog w = .ok (.enter gf args) w) (hl1 : z.1.length ≤ 1000) (hl2 : z.2.length ≤ 100000) :
    Calls Tryz.prog 33 #[.func (.func gf) #[] lb] w fun e w' => ∃ v g c vl vs, e = .returned v ∧ v = .slice (some ⟨g, 0, none⟩) 1 c ∧ RowAt w' v 2 1 [vl, vs] ∧ LbAt w' vl z.1 ∧ SmAt w' vs z.2 ∧ Below w.heap.size w w' := by
  have mixed : Tryz.prog.follows .mixedOrders = true := by kernel_rfl
  have hnil := fun W => seq_nil gf lb W
  refine (callsIn_wide (n := 10)).1 ?_
  refine callsIn_of_wp_marks Tryz.func33 rfl trivial ?_ rfl
  simp only [Tryz.ntmps33, List.size_toArray, List.length_cons, List.length_nil, Nat.reduceAdd, Nat.reduceSub, Array.replicate_succ, Array.replicate_zero, List.push_toArray, List.append_toArray, List.nil_append, List.cons_append]
  have hs0 := hb.size
  have HT : Hid _ := hT
  have HB : Hid _ := hb
  clear hT hb
  gi_wp2
  obtain ⟨W, hW⟩ : ∃ W, w.alloc (.cells #[.slice none 0 0] 22) = W := ⟨_, rfl⟩
  have hsW : W.heap.size = w.heap.size + 1 := by rw [← hW]; simp
  have hbW : Below w.heap.size w W := by rw [← hW]; exact (Below.refl _ _).alloc (Nat.le_refl _) _
  have hbox : W.heap[w.heap.size]? = some (.cells #[.slice none 0 0] 22) := by rw [← hW]; exact heap_alloc_new w _
  rw [hW]
  clear hW
  refine range_one (T := 36) (w0 := w0) (by omega) (gf := gf) (lb := lb) rfl eg z HT.out (HB.out.trans (hbW.mono hs0)) rfl
    (ColR w z) ?abide
    (fun vl vs W1 => { tmps := #[.func (.func gf) #[] lb, undef, .pointer (some ⟨w.heap.size, 0, none⟩), .pointer (some ⟨W1.heap.size, 0, none⟩), .func (.func gf) #[] lb, .bool false, .func (.func gf) #[] lb, .agg #[vl, vs], undef, undef, undef, undef, undef, undef], defers := [] }) ?assign ?body ?done
  case abide =>
    rintro W1 A A' ⟨g, c, vl, vs, h1, h3, h4, h5, ⟨h6, h7⟩, h8, h2⟩ hsz hk
    have hkk := hk.mono (O' := fun i => w.heap.size + 1 ≤ i ∧ i < W1.heap.size) (fun i _ hi => by rcases hi with hi | hi <;> omega)
    exact ⟨g, c, vl, vs, hkk.heap h1 (by omega), hkk.ownsRow h3 (fun b hb' => by simp [Value.ownBlock] at hb'; omega), RowAt.kept h4 hkk (fun b hb' => by have := h6 b hb'; omega), RowAt.kept h5 hkk (fun b hb' => by have := h7 b hb'; omega), ⟨h6, h7⟩, h8.trans (hkk.toBelow h8.size (fun i hi => by omega)), h2⟩
  case assign =>
    rintro l vl vs W1 K ⟨a1, n1, c1, rfl⟩ ⟨a2, n2, c2, rfl⟩ hK
    gi_wp2
    exact hK
  case body =>
    rintro l1 vl vs W1 Wb rfl hb3 hsz hkb ⟨hl, hs, htd⟩
    obtain ⟨a1, c1, rfl, -⟩ := id hl
    obtain ⟨a2, c2, rfl, -⟩ := id hs
    have hox : Wb.heap[w.heap.size]? = some (.cells #[.slice none 0 0] 22) := hkb.heap ((Below.heap_alloc W1 _ _ (by omega)).trans ((hb3.block _ (by omega)).trans hbox)) (by omega)
    have hxx : Wb.heap[W1.heap.size]? = some (.cells #[.slice a1 z.1.length c1, .slice a2 z.2.length c2] 36) := hkb.heap (heap_alloc_new W1 _) (by omega)
    have hszb : Wb.heap.size ≥ W1.heap.size + 1 := by have := hkb.size; simpa using this
    have hbB : Below w.heap.size w Wb := ((hbW.trans (hb3.mono (by omega))).alloc (by omega) _).trans (hkb.toBelow (by simp; omega) (fun i hi => by omega))
    have HK : Hid (∀ X, Below Wb.heap.size Wb X → X.cell? ⟨w.heap.size, 0, none⟩ = some (.slice none 0 0) ∧ X.cell? ⟨W1.heap.size, 0, none⟩ = some (.slice a1 z.1.length c1) ∧ X.cell? ⟨W1.heap.size, 1, none⟩ = some (.slice a2 z.2.length c2) ∧ X.frozen? ⟨w.heap.size, 0, none⟩ = false ∧ Hid (X.heap[w.heap.size]? = some (.cells #[.slice none 0 0] 22))) := fun X hX => by
      have k1 : X.heap[w.heap.size]? = _ := (hX.block _ (by omega)).trans hox
      have k2 : X.heap[W1.heap.size]? = _ := (hX.block _ (by omega)).trans hxx
      exact ⟨World.news_of_block k1 0 _ rfl, World.news_of_block k2 0 _ rfl, World.news_of_block k2 1 _ rfl, frozen_of_heap k1, k1⟩
    have HCP : Hid (∀ X, Below Wb.heap.size Wb X → Calls Tryz.prog 51 #[.agg #[.slice a1 z.1.length c1, .slice a2 z.2.length c2]] X fun e w' => ∃ v, e = .returned v ∧ Fresh X w' v z ∧ Below X.heap.size X w') := fun X hX => copied_any _ _ z X (RowAt.below hl hX) (RowAt.below hs hX) (by omega) (by omega)
    have HBB : Hid (Below w.heap.size w Wb) := hbB
    obtain ⟨r0, r1, r2, r3, -⟩ := HK.out Wb (Below.refl _ _)
    clear hl hs htd hkb hb3 hox hxx hbB HT hbox hbW
    gi_wp2_with fail
    have fin : ∀ (w' : World) a3 c3 a4 c4 (w5 : World) a5 c5, Below Wb.heap.size Wb w' → w'.ownsRow Wb.heap.size 53 2 (.slice a3 z.1.length c3) z.1.length (lbC z.1) → w'.ownsRow Wb.heap.size 42 2 (.slice a4 z.2.length c4) z.2.length (smC z.2) → Below w'.heap.size w' w5 → w5.ownsRow w'.heap.size 36 2 (.slice a5 1 c5) 1 [.slice a3 z.1.length c3, .slice a4 z.2.length c4] → w5.heap[w.heap.size]? = some (.cells #[.slice none 0 0] 22) →
        Kept (fun i => (w0.heap.size ≤ i ∧ i < w.heap.size + 1) ∨ i = W1.heap.size) Wb (w5.setCell ⟨w.heap.size, 0, none⟩ (.slice a5 1 c5)) ∧ ColR w z W1 (w5.setCell ⟨w.heap.size, 0, none⟩ (.slice a5 1 c5)) := by
      intro w' a3 c3 a4 c4 w5 a5 c5 hb' h1 h2 hb5 hr5 hh
      have hs' := hb'.size
      have hs5 := hb5.size
      obtain ⟨g5, c9, cur5, e9, hg5', hh5⟩ := row_some hr5 (by omega)
      cases e9
      have hks : Kept (fun i => i = w.heap.size) w5 (w5.setCell ⟨w.heap.size, 0, none⟩ (.slice (some ⟨g5, 0, none⟩) 1 c5)) := (Kept.refl (fun i => i = w.heap.size) _).setCell (fun _ => rfl) _
      have hbw5 : Below Wb.heap.size Wb w5 := hb'.trans (hb5.mono hs')
      refine ⟨((Kept.refl _ Wb).below hbw5).setCell (fun _ => Or.inl ⟨hs0, Nat.lt_succ_self w.heap.size⟩) _, g5, c5, _, _, heap_setCell_same hh _, row_mono (hks.ownsRow hr5 (fun b hb' => by simp [Value.ownBlock] at hb'; omega)) (by omega), RowAt.kept (RowAt.below (RowAt.of_row h1) hb5) hks (fun b hb' => by have := row_base h1 b hb'; omega), RowAt.kept (RowAt.below (RowAt.of_row h2) hb5) hks (fun b hb' => by have := row_base h2 b hb'; omega), ⟨fun b hb' => by have := row_base h1 b hb'; omega, fun b hb' => by have := row_base h2 b hb'; omega⟩, (HBB.out.trans (hbw5.mono HBB.out.size)).setCell (Nat.le_refl _) _, by omega⟩
    refine wpIn_asThen (fun K1 hK1 => ?_)
    refine wpIn_region_any (by assumption) ?_
    try (change wpAnyIn _ _ _ _ _ _ _ _ _ (World.drew _))
    refine wpAnyIn_ready (rs := [0, 1]) (by kernel_rfl) (by simp) ?_
    refine AllReadyIn.cons rfl (fun K hK => ?_) ?_
    · go_simp
      refine hK _ _ ?_
      clear hK K
      refine wpAnyIn_ready (rs := [1]) (by kernel_rfl) (by simp) ?_
      refine AllReadyIn.cons rfl (fun K hK => ?_) ?_
      · go_simp
        refine hK _ _ ?_
        clear hK K
        refine wpAnyIn_ready (rs := [2]) (by kernel_rfl) (by simp) ?_
        refine AllReadyIn.cons rfl (fun K hK => ?_) ?_
        · go_simp
          refine ⟨trivial, ?_⟩
          refine (CallsIn.inRound _ (callsIn_wide.2 (HCP.out _ (by exact ⟨rfl, rfl, rfl, Nat.le_refl _, fun _ _ => rfl⟩)))).mono ?_
          rintro e w' ⟨v, rfl, ⟨a3, c3, a4, c4, rfl, hra, hrb⟩, hb'⟩
          have hbb : Below Wb.heap.size Wb w' := ⟨hb'.os, hb'.tape, hb'.output, hb'.size, hb'.block⟩
          have hbs := hbb.size
          obtain ⟨t0, t1, t2, t3, -⟩ := HK.out w' hbb
          have hal : Below w'.heap.size w' (w'.alloc (.cells #[.slice a3 z.1.length c3, .slice a4 z.2.length c4] 36)) := (Below.refl _ _).alloc (Nat.le_refl _) _
          obtain ⟨v0, v1, v2, v3, -⟩ := HK.out _ (hbb.trans (hal.mono hbs))
          have HRA : Hid (w'.ownsRow Wb.heap.size 53 2 (.slice a3 z.1.length c3) z.1.length (lbC z.1)) := hra
          have HRB : Hid (w'.ownsRow Wb.heap.size 42 2 (.slice a4 z.2.length c4) z.2.length (smC z.2)) := hrb
          have HBW : Hid (Below Wb.heap.size Wb w') := hbb
          have HAL : Hid _ := hal
          clear hra hrb hb' hbb hal
          refine hK _ _ ?_
          clear hK K
          refine wpAnyIn_ready (rs := [3]) (by kernel_rfl) (by simp) ?_
          refine AllReadyIn.cons rfl (fun K hK => ?_) ?_
          · go_simp
            refine hK _ _ ?_
            clear hK K
            refine wpAnyIn_ready (rs := [4]) (by kernel_rfl) (by simp) ?_
            refine AllReadyIn.cons rfl (fun K hK => ?_) ?_
            · refine stepIn_append_row appSr _ (by rfl) _ _ (by rfl) w'.heap.size (.slice none 0 0) 0 [] (by rfl) (World.ownsRow_nil _ _ _ _) _ 1 [.slice a3 z.1.length c3, .slice a4 z.2.length c4] (by rfl) (RowAt.of_block (cs := #[.slice a3 z.1.length c3, .slice a4 z.2.length c4]) (heap_alloc_new w' _) rfl (by decide)) (by simp [Value.oneCell']) (by omega) (by simp) ?_
              intro a5 c5 w5 hr5 hg5 hw5
              have hb5 : Below w'.heap.size w' w5 := HAL.out.grown hg5 HAL.out.size (fun k hk => by cases hk)
              obtain ⟨x0, x1, x2, x3, X4⟩ := HK.out w5 (HBW.out.trans (hb5.mono hbs))
              have HR5 : Hid (w5.ownsRow w'.heap.size 36 2 (.slice a5 1 c5) 1 [.slice a3 z.1.length c3, .slice a4 z.2.length c4]) := by show World.ownsRow _ _ _ _ _ _ _; simpa using hr5
              have HB5 : Hid (Below w'.heap.size w' w5) := hb5
              clear hr5 hb5 hg5 hw5
              refine hK _ _ ?_
              clear hK K
              refine wpAnyIn_ready (rs := [5]) (by kernel_rfl) (by simp) ?_
              refine AllReadyIn.cons rfl (fun K hK => ?_) ?_
              · go_simp
                refine hK _ _ ?_
                clear hK K
                refine wpAnyIn_done (by kernel_rfl) ?_ _
                refine hK1 _ _ ?_
                have F9 : Hid _ := fin w' a3 c3 a4 c4 w5 a5 c5 HBW.out HRA.out HRB.out HB5.out HR5.out X4.out
                clear fin
                gi_wp2
                exact F9.out
              exact AllReadyIn.nil
            exact AllReadyIn.nil
          exact AllReadyIn.nil
        exact AllReadyIn.nil
      exact AllReadyIn.nil
    refine AllReadyIn.cons rfl (fun K hK => ?_) ?_
    · go_simp
      refine hK _ _ ?_
      clear hK K
      refine wpAnyIn_ready (rs := [0, 2]) (by kernel_rfl) (by simp) ?_
      refine AllReadyIn.cons rfl (fun K hK => ?_) ?_
      · go_simp
        refine hK _ _ ?_
        clear hK K
        refine wpAnyIn_ready (rs := [2]) (by kernel_rfl) (by simp) ?_
        refine AllReadyIn.cons rfl (fun K hK => ?_) ?_
        · go_simp
          refine ⟨trivial, ?_⟩
          refine (CallsIn.inRound _ (callsIn_wide.2 (HCP.out _ (by exact ⟨rfl, rfl, rfl, Nat.le_refl _, fun _ _ => rfl⟩)))).mono ?_
          rintro e w' ⟨v, rfl, ⟨a3, c3, a4, c4, rfl, hra, hrb⟩, hb'⟩
          have hbb : Below Wb.heap.size Wb w' := ⟨hb'.os, hb'.tape, hb'.output, hb'.size, hb'.block⟩
          have hbs := hbb.size
          obtain ⟨t0, t1, t2, t3, -⟩ := HK.out w' hbb
          have hal : Below w'.heap.size w' (w'.alloc (.cells #[.slice a3 z.1.length c3, .slice a4 z.2.length c4] 36)) := (Below.refl _ _).alloc (Nat.le_refl _) _
          obtain ⟨v0, v1, v2, v3, -⟩ := HK.out _ (hbb.trans (hal.mono hbs))
          have HRA : Hid (w'.ownsRow Wb.heap.size 53 2 (.slice a3 z.1.length c3) z.1.length (lbC z.1)) := hra
          have HRB : Hid (w'.ownsRow Wb.heap.size 42 2 (.slice a4 z.2.length c4) z.2.length (smC z.2)) := hrb
          have HBW : Hid (Below Wb.heap.size Wb w') := hbb
          have HAL : Hid _ := hal
          clear hra hrb hb' hbb hal
          refine hK _ _ ?_
          clear hK K
          refine wpAnyIn_ready (rs := [3]) (by kernel_rfl) (by simp) ?_
          refine AllReadyIn.cons rfl (fun K hK => ?_) ?_
          · go_simp
            refine hK _ _ ?_
            clear hK K
            refine wpAnyIn_ready (rs := [4]) (by kernel_rfl) (by simp) ?_
            refine AllReadyIn.cons rfl (fun K hK => ?_) ?_
            · refine stepIn_append_row appSr _ (by rfl) _ _ (by rfl) w'.heap.size (.slice none 0 0) 0 [] (by rfl) (World.ownsRow_nil _ _ _ _) _ 1 [.slice a3 z.1.length c3, .slice a4 z.2.length c4] (by rfl) (RowAt.of_block (cs := #[.slice a3 z.1.length c3, .slice a4 z.2.length c4]) (heap_alloc_new w' _) rfl (by decide)) (by simp [Value.oneCell']) (by omega) (by simp) ?_
              intro a5 c5 w5 hr5 hg5 hw5
              have hb5 : Below w'.heap.size w' w5 := HAL.out.grown hg5 HAL.out.size (fun k hk => by cases hk)
              obtain ⟨x0, x1, x2, x3, X4⟩ := HK.out w5 (HBW.out.trans (hb5.mono hbs))
              have HR5 : Hid (w5.ownsRow w'.heap.size 36 2 (.slice a5 1 c5) 1 [.slice a3 z.1.length c3, .slice a4 z.2.length c4]) := by show World.ownsRow _ _ _ _ _ _ _; simpa using hr5
              have HB5 : Hid (Below w'.heap.size w' w5) := hb5
              clear hr5 hb5 hg5 hw5
              refine hK _ _ ?_
              clear hK K
              refine wpAnyIn_ready (rs := [5]) (by kernel_rfl) (by simp) ?_
              refine AllReadyIn.cons rfl (fun K hK => ?_) ?_
              · go_simp
                refine hK _ _ ?_
                clear hK K
                refine wpAnyIn_done (by kernel_rfl) ?_ _
                refine hK1 _ _ ?_
                have F9 : Hid _ := fin w' a3 c3 a4 c4 w5 a5 c5 HBW.out HRA.out HRB.out HB5.out HR5.out X4.out
                clear fin
                gi_wp2
                exact F9.out
              exact AllReadyIn.nil
            exact AllReadyIn.nil
          exact AllReadyIn.nil
        exact AllReadyIn.nil
      refine AllReadyIn.cons rfl (fun K hK => ?_) ?_
      · go_simp
        refine ⟨trivial, ?_⟩
        refine (CallsIn.inRound _ (callsIn_wide.2 (HCP.out _ (by exact ⟨rfl, rfl, rfl, Nat.le_refl _, fun _ _ => rfl⟩)))).mono ?_
        rintro e w' ⟨v, rfl, ⟨a3, c3, a4, c4, rfl, hra, hrb⟩, hb'⟩
        have hbb : Below Wb.heap.size Wb w' := ⟨hb'.os, hb'.tape, hb'.output, hb'.size, hb'.block⟩
        have hbs := hbb.size
        obtain ⟨t0, t1, t2, t3, -⟩ := HK.out w' hbb
        have hal : Below w'.heap.size w' (w'.alloc (.cells #[.slice a3 z.1.length c3, .slice a4 z.2.length c4] 36)) := (Below.refl _ _).alloc (Nat.le_refl _) _
        obtain ⟨v0, v1, v2, v3, -⟩ := HK.out _ (hbb.trans (hal.mono hbs))
        have HRA : Hid (w'.ownsRow Wb.heap.size 53 2 (.slice a3 z.1.length c3) z.1.length (lbC z.1)) := hra
        have HRB : Hid (w'.ownsRow Wb.heap.size 42 2 (.slice a4 z.2.length c4) z.2.length (smC z.2)) := hrb
        have HBW : Hid (Below Wb.heap.size Wb w') := hbb
        have HAL : Hid _ := hal
        clear hra hrb hb' hbb hal
        refine hK _ _ ?_
        clear hK K
        refine wpAnyIn_ready (rs := [0, 3]) (by kernel_rfl) (by simp) ?_
        refine AllReadyIn.cons rfl (fun K hK => ?_) ?_
        · go_simp
          refine hK _ _ ?_
          clear hK K
          refine wpAnyIn_ready (rs := [3]) (by kernel_rfl) (by simp) ?_
          refine AllReadyIn.cons rfl (fun K hK => ?_) ?_
          · go_simp
            refine hK _ _ ?_
            clear hK K
            refine wpAnyIn_ready (rs := [4]) (by kernel_rfl) (by simp) ?_
            refine AllReadyIn.cons rfl (fun K hK => ?_) ?_
            · refine stepIn_append_row appSr _ (by rfl) _ _ (by rfl) w'.heap.size (.slice none 0 0) 0 [] (by rfl) (World.ownsRow_nil _ _ _ _) _ 1 [.slice a3 z.1.length c3, .slice a4 z.2.length c4] (by rfl) (RowAt.of_block (cs := #[.slice a3 z.1.length c3, .slice a4 z.2.length c4]) (heap_alloc_new w' _) rfl (by decide)) (by simp [Value.oneCell']) (by omega) (by simp) ?_
              intro a5 c5 w5 hr5 hg5 hw5
              have hb5 : Below w'.heap.size w' w5 := HAL.out.grown hg5 HAL.out.size (fun k hk => by cases hk)
              obtain ⟨x0, x1, x2, x3, X4⟩ := HK.out w5 (HBW.out.trans (hb5.mono hbs))
              have HR5 : Hid (w5.ownsRow w'.heap.size 36 2 (.slice a5 1 c5) 1 [.slice a3 z.1.length c3, .slice a4 z.2.length c4]) := by show World.ownsRow _ _ _ _ _ _ _; simpa using hr5
              have HB5 : Hid (Below w'.heap.size w' w5) := hb5
              clear hr5 hb5 hg5 hw5
              refine hK _ _ ?_
              clear hK K
              refine wpAnyIn_ready (rs := [5]) (by kernel_rfl) (by simp) ?_
              refine AllReadyIn.cons rfl (fun K hK => ?_) ?_
              · go_simp
                refine hK _ _ ?_
                clear hK K
                refine wpAnyIn_done (by kernel_rfl) ?_ _
                refine hK1 _ _ ?_
                have F9 : Hid _ := fin w' a3 c3 a4 c4 w5 a5 c5 HBW.out HRA.out HRB.out HB5.out HR5.out X4.out
                clear fin
                gi_wp2
                exact F9.out
              exact AllReadyIn.nil
            exact AllReadyIn.nil
          exact AllReadyIn.nil
        refine AllReadyIn.cons rfl (fun K hK => ?_) ?_
        · go_simp
          refine hK _ _ ?_
          clear hK K
          refine wpAnyIn_ready (rs := [0]) (by kernel_rfl) (by simp) ?_
          refine AllReadyIn.cons rfl (fun K hK => ?_) ?_
          · go_simp
            refine hK _ _ ?_
            clear hK K
            refine wpAnyIn_ready (rs := [4]) (by kernel_rfl) (by simp) ?_
            refine AllReadyIn.cons rfl (fun K hK => ?_) ?_
            · refine stepIn_append_row appSr _ (by rfl) _ _ (by rfl) w'.heap.size (.slice none 0 0) 0 [] (by rfl) (World.ownsRow_nil _ _ _ _) _ 1 [.slice a3 z.1.length c3, .slice a4 z.2.length c4] (by rfl) (RowAt.of_block (cs := #[.slice a3 z.1.length c3, .slice a4 z.2.length c4]) (heap_alloc_new w' _) rfl (by decide)) (by simp [Value.oneCell']) (by omega) (by simp) ?_
              intro a5 c5 w5 hr5 hg5 hw5
              have hb5 : Below w'.heap.size w' w5 := HAL.out.grown hg5 HAL.out.size (fun k hk => by cases hk)
              obtain ⟨x0, x1, x2, x3, X4⟩ := HK.out w5 (HBW.out.trans (hb5.mono hbs))
              have HR5 : Hid (w5.ownsRow w'.heap.size 36 2 (.slice a5 1 c5) 1 [.slice a3 z.1.length c3, .slice a4 z.2.length c4]) := by show World.ownsRow _ _ _ _ _ _ _; simpa using hr5
              have HB5 : Hid (Below w'.heap.size w' w5) := hb5
              clear hr5 hb5 hg5 hw5
              refine hK _ _ ?_
              clear hK K
              refine wpAnyIn_ready (rs := [5]) (by kernel_rfl) (by simp) ?_
              refine AllReadyIn.cons rfl (fun K hK => ?_) ?_
              · go_simp
                refine hK _ _ ?_
                clear hK K
                refine wpAnyIn_done (by kernel_rfl) ?_ _
                refine hK1 _ _ ?_
                have F9 : Hid _ := fin w' a3 c3 a4 c4 w5 a5 c5 HBW.out HRA.out HRB.out HB5.out HR5.out X4.out
                clear fin
                gi_wp2
                exact F9.out
              exact AllReadyIn.nil
            exact AllReadyIn.nil
          exact AllReadyIn.nil
        exact AllReadyIn.nil
      exact AllReadyIn.nil
    exact AllReadyIn.nil
  case done =>
    rintro W1 A hb1 hsz ⟨g, c, vl, vs, h1, h3, h4, h5, ⟨h6, h7⟩, h8, h2⟩ hdef
    have cS : A.cell? ⟨w.heap.size, 0, none⟩ = some (.slice (some ⟨g, 0, none⟩) 1 c) := by rw [cell_of_heap h1]; rfl
    have fS : A.frozen? ⟨w.heap.size, 0, none⟩ = false := frozen_of_heap h1
    have H1 : Hid (A.heap[w.heap.size]? = some (.cells #[.slice (some ⟨g, 0, none⟩) 1 c] 22)) := h1
    have H3 : Hid (A.ownsRow W1.heap.size 36 2 (.slice (some ⟨g, 0, none⟩) 1 c) 1 [vl, vs]) := h3
    have H4 : Hid _ := h4
    have H5 : Hid _ := h5
    have H6 : Hid _ := h6
    have H7 : Hid _ := h7
    have H8 : Hid _ := h8
    clear h1 h3 h4 h5 h6 h7 h8 HT
    gi_wp2
    have hdef' : (A.setCell ⟨w.heap.size, 0, none⟩ (.slice (some ⟨g, 0, none⟩) 1 c)).heap[W.heap.size]? = some (.deferred (some [])) := (Below.heap_setCell A ⟨w.heap.size, 0, none⟩ _ _ (by show W.heap.size ≠ w.heap.size; omega)).trans hdef
    refine ⟨by simp, .inl ⟨_, _, rfl, run_takeDeferred hdef', ?_⟩⟩
    refine ⟨by simp, .inr ⟨fun _ => by omega, .func 52, #[], 52, #[], rfl, ?_, fun g _ => trivial, (catch_idle _ _).mono ?_⟩⟩
    · simp [invoke, go_sem]
    rintro e u' w' ⟨rfl, rfl, rfl⟩
    have hks : Kept (fun i => i = w.heap.size ∨ i = W.heap.size) A ((A.setCell ⟨w.heap.size, 0, none⟩ (.slice (some ⟨g, 0, none⟩) 1 c)).putObj W.heap.size (.deferred none)) := ((Kept.refl (fun i => i = w.heap.size ∨ i = W.heap.size) _).setCell (fun _ => Or.inl rfl) _).putObj (fun _ => Or.inr rfl) _
    have hf : ((A.setCell ⟨w.heap.size, 0, none⟩ (.slice (some ⟨g, 0, none⟩) 1 c)).putObj W.heap.size (.deferred none)).heap[w.heap.size]? = some (.cells #[.slice (some ⟨g, 0, none⟩) 1 c] 22) := (World.putObj_heap_other (by omega)).trans (heap_setCell_same H1.out _)
    generalize (A.setCell ⟨w.heap.size, 0, none⟩ (.slice (some ⟨g, 0, none⟩) 1 c)).putObj W.heap.size (.deferred none) = Z at hks hf
    have cZ : Z.cell? ⟨w.heap.size, 0, none⟩ = some (.slice (some ⟨g, 0, none⟩) 1 c) := by rw [cell_of_heap hf]; rfl
    refine ⟨.slice (some ⟨g, 0, none⟩) 1 c, ?_, _, g, c, vl, vs, rfl, rfl, RowAt.of_row (hks.ownsRow H3.out (fun b hb' => by simp [Value.ownBlock] at hb'; omega)), RowAt.kept H4.out hks (fun b hb' => by have := H6.out b hb'; omega), RowAt.kept H5.out hks (fun b hb' => by have := H7.out b hb'; omega), H8.out.trans (hks.toBelow H8.out.size (fun i hi => by omega))⟩
    simp [results, Tryz.results33, go_sem, cZ]

end Go.Proofs.YtjnjmpfldbkciaaGreat
