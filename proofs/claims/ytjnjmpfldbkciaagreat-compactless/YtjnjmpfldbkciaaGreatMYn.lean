/- What Merge's closure tells of one that tells one series. -/
import Derived.Test.YtjnjmpfldbkciaaGreatMYm
namespace Go.Proofs.YtjnjmpfldbkciaaGreat
open Go.RowKit Go.Shelf Go.Maps
attribute [local go_sem] Oper.semAt_some

def MergeR (R : World → World → Prop) (W : World) (W1 A : World) : Prop := ∃ Wy, Below W.heap.size W Wy ∧ W1.heap.size ≤ Wy.heap.size ∧ R Wy A

set_option maxRecDepth 100000 in
set_option maxHeartbeats 4000000 in
theorem merge1_tells (Bm gm : Nat) (lm : Array Value) (z : Ser) (W0 : World) (hBm : Bm < W0.heap.size) (cm : W0.cell? ⟨Bm, 0, none⟩ = some (.func (.func gm) #[] lm))
    (hTm : Tells1 Tryz.prog gm lm z W0 True) (egm : ∀ args w, (callFunc gm args).run Tryz.prog w = .ok (.enter gm args) w) (hl1 : z.1.length ≤ 1000) (hl2 : z.2.length ≤ 100000) :
    Tells1 Tryz.prog 50 #[.pointer (some ⟨Bm, 0, none⟩)] z W0 True := by
  intro l W R hW hRa hY
  have mixed : Tryz.prog.follows .mixedOrders = true := by kernel_rfl
  have hs0 := hW.size
  have cm1 : (W.alloc (.cells #[.func (.yield l) #[] #[]] 77)).cell? ⟨Bm, 0, none⟩ = some (.func (.func gm) #[] lm) := ((hW.alloc hs0 _).cell (p := ⟨Bm, 0, none⟩) hBm).trans cm
  refine (callsIn_wide (n := 10)).1 ?_
  refine callsIn_of_wp_marks Tryz.func50 rfl trivial ?_ rfl
  simp only [Tryz.ntmps50, List.size_toArray, List.length_cons, List.length_nil, Nat.reduceAdd, Nat.reduceSub, Array.replicate_succ, Array.replicate_zero, List.push_toArray, List.append_toArray, List.nil_append, List.cons_append]
  have HHW : Hid (Below W0.heap.size W0 W) := hW
  have HRA : Hid _ := hRa
  have HYY : Hid _ := hY
  have HTM : Hid _ := hTm
  clear hRa hY hTm cm hW
  gi_wp2
  obtain ⟨Y, hY⟩ : ∃ Y, W.alloc (.cells #[.func (.yield l) #[] #[]] 77) = Y := ⟨_, rfl⟩
  have hsY : Y.heap.size = W.heap.size + 1 := by rw [← hY]; simp
  have hbY : Below W.heap.size W Y := by rw [← hY]; exact (Below.refl _ _).alloc (Nat.le_refl _) _
  have hyb : Y.heap[W.heap.size]? = some (.cells #[.func (.yield l) #[] #[]] 77) := by rw [← hY]; exact heap_alloc_new W _
  rw [hY]
  clear hY cm1
  refine range_one (T := 36) (w0 := W0) (by omega) (gf := gm) (lb := lm) rfl egm z HTM.out (HHW.out.trans (hbY.mono hs0)) rfl
    (MergeR R W) ?abide
    (fun vl vs W1 => { tmps := #[.func (.yield l) #[] #[], .pointer (some ⟨Bm, 0, none⟩), .pointer (some ⟨W.heap.size, 0, none⟩), .pointer (some ⟨W1.heap.size, 0, none⟩), .func (.func gm) #[] lm, .agg #[vl, vs], undef, undef, undef, undef, undef], defers := [] }) ?assign ?body ?done
  case abide =>
    rintro W1 A A' ⟨Wy, h1, h2, h3⟩ hsz hk
    exact ⟨Wy, h1, h2, HRA.out _ _ _ h3 h1.size (hk.mono (fun i _ hi => ⟨trivial, by omega, by omega⟩))⟩
  case assign =>
    rintro l vl vs W1 K ⟨a1, n1, c1, rfl⟩ ⟨a2, n2, c2, rfl⟩ hK
    gi_wp2
    exact hK
  case done =>
    rintro W1 A hb3 hsz ⟨Wy, h1, h2, h3⟩ hdef
    have H1 : Hid _ := h1
    have H3 : Hid (R Wy A) := h3
    clear h1 h3 HTM HYY hyb
    gi_wp2
    refine ⟨by simp, .inl ⟨_, _, rfl, run_takeDeferred hdef, ?_⟩⟩
    exact ⟨_, results_none rfl _ _ _, ⟨_, rfl⟩, Wy, H1.out, HRA.out _ _ _ H3.out H1.out.size ((Kept.refl _ _).putObj (fun _ => ⟨trivial, by omega, by omega⟩) _)⟩
  case body =>
    rintro l1 vl vs W1 Wb rfl hb3 hsz hkb ⟨hl, hs, htd⟩
    obtain ⟨a1, c1, rfl, -⟩ := id hl
    obtain ⟨a2, c2, rfl, -⟩ := id hs
    have hyx : Wb.heap[W.heap.size]? = some (.cells #[.func (.yield l) #[] #[]] 77) := hkb.heap ((Below.heap_alloc W1 _ _ (by omega)).trans ((hb3.block _ (by omega)).trans hyb)) (by omega)
    have hxx : Wb.heap[W1.heap.size]? = some (.cells #[.slice a1 z.1.length c1, .slice a2 z.2.length c2] 36) := hkb.heap (heap_alloc_new W1 _) (by omega)
    have hszb : Wb.heap.size ≥ W1.heap.size + 1 := by have := hkb.size; simpa using this
    have hbW : Below W.heap.size W Wb := ((hbY.trans (hb3.mono (by omega))).alloc (by omega) _).trans (hkb.toBelow (by simp; omega) (fun i hi => by omega))
    have HK : Hid (∀ X, Below Wb.heap.size Wb X → X.cell? ⟨W.heap.size, 0, none⟩ = some (.func (.yield l) #[] #[]) ∧ X.cell? ⟨W1.heap.size, 0, none⟩ = some (.slice a1 z.1.length c1) ∧ X.cell? ⟨W1.heap.size, 1, none⟩ = some (.slice a2 z.2.length c2)) := fun X hX => by
      have k1 : X.heap[W.heap.size]? = _ := (hX.block _ (by omega)).trans hyx
      have k2 : X.heap[W1.heap.size]? = _ := (hX.block _ (by omega)).trans hxx
      exact ⟨World.news_of_block k1 0 _ rfl, World.news_of_block k2 0 _ rfl, World.news_of_block k2 1 _ rfl⟩
    have HCP : Hid (∀ X, Below Wb.heap.size Wb X → Calls Tryz.prog 51 #[.agg #[.slice a1 z.1.length c1, .slice a2 z.2.length c2]] X fun e w' => ∃ v, e = .returned v ∧ Fresh X w' v z ∧ Below X.heap.size X w') := fun X hX => copied_any _ _ z X (RowAt.below hl hX) (RowAt.below hs hX) (by omega) (by omega)
    have HBW : Hid (Below W.heap.size W Wb) := hbW
    have HYD : Hid (∀ (X : World) a3 c3 a4 c4, Below Wb.heap.size Wb X → X.ownsRow Wb.heap.size 53 2 (.slice a3 z.1.length c3) z.1.length (lbC z.1) → X.ownsRow Wb.heap.size 42 2 (.slice a4 z.2.length c4) z.2.length (smC z.2) → YieldAt Fence.wide 9 Tryz.prog l #[.agg #[.slice a3 z.1.length c3, .slice a4 z.2.length c4]] X fun e W2 => e = .returned (.bool true) ∧ Kept (fun i => W0.heap.size ≤ i ∧ i < W.heap.size) X W2 ∧ R X W2) := fun X a3 c3 a4 c4 hX h1 h2 => yieldAt_anyDepth (F := Fence.wide) rfl 9 (HYY.out X _ _ (hbW.trans (hX.mono hbW.size)) ⟨RowAt.of_row h1, RowAt.of_row h2, Or.inl trivial⟩)
    obtain ⟨r0, r1, r2⟩ := HK.out Wb (Below.refl _ _)
    clear hl hs htd hkb hb3 hyx hxx hbW HTM HYY hyb hbY
    gi_wp2_with fail
    gi_region_with_o (first
      | (refine ⟨trivial, ?_⟩; gi_at_call 51; refine (CallsIn.inRound _ (callsIn_wide.2 (HCP.out _ (by exact ⟨rfl, rfl, rfl, Nat.le_refl _, fun _ _ => rfl⟩)))).mono ?_; rintro e w' ⟨v, rfl, ⟨a3, c3, a4, c4, rfl, hra, hrb⟩, hb'⟩; have hbb : Below Wb.heap.size Wb w' := ⟨hb'.os, hb'.tape, hb'.output, hb'.size, hb'.block⟩; obtain ⟨t0, t1, t2⟩ := HK.out w' hbb; obtain ⟨fn, tmps, assign, body, hyy, hR⟩ := HYD.out w' a3 c3 a4 c4 hbb hra hrb; have HBB : Hid (Below Wb.heap.size Wb w') := hbb; clear hra hrb hb' hbb)
      | (refine RoundIn.mono (F := Fence.wide.inRound (Y.heap.size + 1)) hR ?_; rintro e W3 ⟨rfl, hk3, hr3⟩; have K3 : Hid (Kept (fun i => W0.heap.size ≤ i ∧ i < W.heap.size) w' W3) := hk3; have HR3 : Hid (R w' W3) := hr3; clear hk3 hr3))
    all_goals
      gi_wp2
      have hsb := HBB.out.size
      exact ⟨((Kept.of_below HBB.out (fun i => (W0.heap.size ≤ i ∧ i < W.heap.size + 1) ∨ i = W1.heap.size) (fun i h1 h2 => absurd h2 (by omega))).trans K3.out (fun i _ hi => Or.inl ⟨hi.1, by omega⟩)), w', HBW.out.trans (HBB.out.mono HBW.out.size), by omega, HR3.out⟩

end Go.Proofs.YtjnjmpfldbkciaaGreat
