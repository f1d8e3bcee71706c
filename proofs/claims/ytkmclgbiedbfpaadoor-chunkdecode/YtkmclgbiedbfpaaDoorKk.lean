/- Decode. -/
import Derived.Test.YtkmclgbiedbfpaaDoorKj
import Derived.Maps.OwnIn
namespace Go.Proofs.YtkmclgbiedbfpaaDoor
open Go.RowKit Go.Shelf Go.Maps
attribute [local go_sem] Oper.semAt_some
attribute [local go_sem] run_store_float

/-- The boxed list of samples that Decode gathers. -/
def Got (w : World) (B : Nat) (pre : List Sm) (W : World) : Prop :=
  (∃ a c, W.heap[B]? = some (.cells #[.slice a pre.length c] 22) ∧ W.ownsRow w.heap.size 35 2 (.slice a pre.length c) pre.length (smCells pre)) ∧ Below w.heap.size w W
theorem Got.calm (w : World) (B C : Nat) (hC : w.heap.size ≤ C) : Calm C (Got w B) := by
  refine ⟨?_, ?_⟩
  · rintro s W k o o' ⟨⟨a, c, h1, h2⟩, h3⟩ hk ho hc
    have keep : ∀ (i : Nat) (cs : Array Value) (t : TypeId) (fr : Nat × Nat), W.heap[i]? = some (.cells cs t fr) → (W.putObj k o').heap[i]? = some (.cells cs t fr) := fun i cs t fr hi => (World.putObj_heap_other (fun e => by
      subst e
      rw [ho] at hi
      cases hi
      cases hc)).trans hi
    refine ⟨⟨a, c, keep _ _ _ _ h1, h2.1, ?_⟩, h3.trans (below_putObj W k o' (by omega))⟩
    rcases h2.2 with h4 | ⟨g, cap, cur, e, hg, hh, r⟩
    · exact Or.inl h4
    · exact Or.inr ⟨g, cap, cur, e, hg, keep _ _ _ _ hh, r⟩
  · rintro s W W' row ⟨⟨a, c, h1, h2⟩, h3⟩ hg hr
    have keep : ∀ (i : Nat) (cs : Array Value) (t : TypeId) (fr : Nat × Nat), t ≠ 93 → W.heap[i]? = some (.cells cs t fr) → W'.heap[i]? = some (.cells cs t fr) := fun i cs t fr ht hi => (hg.block i (Array.getElem?_eq_some_iff.1 hi).1 (fun e => by
      obtain ⟨_, cs', fr', h9⟩ := hr i e.symm
      rw [hi] at h9
      cases h9
      exact ht rfl)).trans hi
    refine ⟨⟨a, c, keep _ _ _ _ (by decide) h1, h2.1, ?_⟩, h3.grown hg h3.size (fun j hj => by have := (hr j hj).1; omega)⟩
    rcases h2.2 with h4 | ⟨g, cap, cur, e, hgb, hh, r⟩
    · exact Or.inl h4
    · exact Or.inr ⟨g, cap, cur, e, hgb, keep _ _ _ _ (by decide) hh, r⟩

set_option maxRecDepth 100000 in
set_option maxHeartbeats 2000000 in
theorem decode_any (v : Value) (raw : List UInt8) (w : World) (h : BytesAt w v raw) (hl : raw.length ≤ 100000) (hL : Laid w w.heap.size) :
    Calls Tryd.prog 20 #[v] w fun e w' => Below w.heap.size w w' ∧
      if (decR raw).length ≤ 120 ∧ encR (decR raw) = raw then ∃ v', e = .returned (.tuple #[v', .int .i64 0]) ∧ w'.ownsRow w.heap.size 35 2 v' (decR raw).length (smCells (decR raw))
      else e = .returned (.tuple #[.slice none 0 0, .int .i64 8]) := by
  obtain ⟨R, hR⟩ : ∃ R : Ending → World → Prop, R = fun e w' => Below w.heap.size w w' ∧
      if (decR raw).length ≤ 120 ∧ encR (decR raw) = raw then ∃ v', e = .returned (.tuple #[v', .int .i64 0]) ∧ w'.ownsRow w.heap.size 35 2 v' (decR raw).length (smCells (decR raw))
      else e = .returned (.tuple #[.slice none 0 0, .int .i64 8]) := ⟨_, rfl⟩
  rw [← hR]
  have HYES : Hid ((decR raw).length ≤ 120 → encR (decR raw) = raw → ∀ v' w', Below w.heap.size w w' → w'.ownsRow w.heap.size 35 2 v' (decR raw).length (smCells (decR raw)) → R (.returned (.tuple #[v', .int .i64 0])) w') := fun h1 h2 v' w' h3 h4 => by
    rw [hR]
    exact ⟨h3, by rw [if_pos ⟨h1, h2⟩]; exact ⟨v', rfl, h4⟩⟩
  have HNO : Hid (¬ ((decR raw).length ≤ 120 ∧ encR (decR raw) = raw) → ∀ w', Below w.heap.size w w' → R (.returned (.tuple #[.slice none 0 0, .int .i64 8])) w') := fun h1 w' h3 => by
    rw [hR]
    exact ⟨h3, by rw [if_neg h1]⟩
  clear hR
  obtain ⟨a, c, rfl, -, -, -⟩ := id h
  have HB : Hid (BytesAt w (.slice a raw.length c) raw) := h
  have HL : Hid (Laid w w.heap.size) := hL
  have heach := fun W => each_any a raw.length c W
  clear h hL
  refine (callsIn_wide (n := 9)).1 ?_
  have t5 : Fence.wide.fn 38 := trivial
  refine callsIn_of_wp_marks Tryd.func20 rfl trivial ?_ rfl
  simp only [Tryd.ntmps20, List.size_toArray, List.length_cons, List.length_nil, Nat.reduceAdd, Nat.reduceSub, Array.replicate_succ, Array.replicate_zero, List.push_toArray, List.append_toArray, List.nil_append, List.cons_append]
  gi_wp2_with (gi_at_call 38; refine (callsIn_wide.2 (heach _)).mono ?_; clear heach; rintro e w3 ⟨rfl, rfl⟩)
  obtain ⟨W0, hW0⟩ : ∃ W0, (w.alloc (.cells #[.slice none 0 0] 22)).alloc (.cells #[.slice a raw.length c] 24) = W0 := ⟨_, rfl⟩
  have hs0 : W0.heap.size = w.heap.size + 2 := by rw [← hW0]; simp
  have hBw0 : Below w.heap.size w W0 := by rw [← hW0]; exact ((Below.refl _ _).alloc (Nat.le_refl _) _).alloc (by simp) _
  have hbox : W0.heap[w.heap.size]? = some (.cells #[.slice none 0 0] 22) := by rw [← hW0]; exact heap_alloc2_old w _ _
  have hcap : W0.cell? ⟨w.heap.size + 1, 0, none⟩ = some (.slice a raw.length c) := by rw [← hW0, cell_of_heap (heap_alloc2_new w _ _)]; rfl
  rw [hW0]
  clear hW0
  obtain ⟨i0, hi0, hz0, hz1, hz2⟩ := info_parts infoSm
  refine range_calm (w0 := w) rfl (by omega) (gf := 49) (lb := #[.pointer (some ⟨w.heap.size + 1, 0, none⟩)]) rfl trivial (enters_of Tryd.func49 (by kernel_rfl) rfl) (by omega) (decR raw) 65536
    (fun l J Jx W hbW hJ hY hj0 => each_seq 8 (by omega) (w.heap.size + 1) w W0 (.slice a raw.length c) raw HB.out hl HL.out.steps hBw0 hcap l J Jx W hbW hJ hY hj0)
    (fun _ => rfl) (Got w w.heap.size) (Got.calm w _ _ (by omega)) ⟨⟨none, 0, hbox, rfl, Or.inl ⟨rfl, rfl⟩⟩, hBw0⟩
    (fun z => { tmps := #[.slice a raw.length c, undef, .slice none 0 0, .int .i64 0, .pointer (some ⟨w.heap.size, 0, none⟩), .int .i64 (sg z.1), .float .f64 z.2.toNat, undef, undef, .slice a raw.length c, .func (.func 49) #[] #[.pointer (some ⟨w.heap.size + 1, 0, none⟩)], .int .i64 (sg z.1), .float .f64 z.2.toNat, undef, undef, undef, undef, undef, undef, undef, undef, undef, undef, undef, undef, undef, undef, undef, undef, undef, undef, undef, undef], defers := [] }) ?assign ?body ?done
  case assign =>
    intro l z W K hK
    dsimp only [encP]
    gi_wp2
    exact hK
  case body =>
    rintro l pre z W ⟨⟨la, lc, hbx, hrow⟩, hbel⟩ hpl
    have cL : W.cell? ⟨w.heap.size, 0, none⟩ = some (.slice la pre.length lc) := by rw [cell_of_heap hbx]; rfl
    have HBX : Hid (W.heap[w.heap.size]? = some (.cells #[.slice la pre.length lc] 22)) := hbx
    have HROW : Hid (W.ownsRow w.heap.size 35 2 (.slice la pre.length lc) pre.length (smCells pre)) := hrow
    have HBEL : Hid (Below w.heap.size w W) := hbel
    have hsz := hbel.size
    have HV : Hid (smCells (pre ++ [z]) = smCells pre ++ [.int .i64 (sg z.1), .float .f64 z.2.toNat]) := by show _ = _; rw [smCells_append]; rfl
    have hsi := sg_in z.1
    clear hbx hrow hbel hbox hcap hBw0
    generalize sg z.1 = A at *
    generalize z.2.toNat = Bv at *
    gi_wp2_with (gi_at_builtin; refine wpListIn_append_own_at _ rfl _ _ 22 rfl w.heap.size 35 i0 _ 2 16 Tryd.underlying22 hi0 hz0 hz1 hz2 rfl (by decide) (.slice la pre.length lc) pre.length (smCells pre) rfl (World.ownsRow.alloc HROW.out _) ⟨W.heap.size, 0, none⟩ 1 1 [.int .i64 A, .float .f64 Bv] rfl rfl (World.news_of_block (cs := #[.int .i64 A, .float .f64 Bv]) (t := 35) (fr := (0, 0)) (heap_alloc_new W _)) (by simp [Value.oneCell']) (by unfold maxLen; omega) (by omega) (Nat.le_trans hsz (by simp)) ?_; intro v2 w2 hr2 hg2 hnil2 hloc2; obtain ⟨a2, c2, rfl⟩ := slice_of_row hr2; have hbx2 : w2.heap[w.heap.size]? = some (.cells #[.slice la pre.length lc] 22) := (hg2.block w.heap.size (by simp; have := (Array.getElem?_eq_some_iff.1 HBX.out).1; omega) (row_ne HROW.out HBX.out (by decide)).symm).trans ((Below.heap_alloc W _ _ (Array.getElem?_eq_some_iff.1 HBX.out).1).trans HBX.out); have cL2 : w2.cell? ⟨w.heap.size, 0, none⟩ = some (.slice la pre.length lc) := (by rw [cell_of_heap hbx2]; rfl); have fL2 : w2.frozen? ⟨w.heap.size, 0, none⟩ = false := frozen_of_heap hbx2; have HBX2 : Hid (w2.heap[w.heap.size]? = some (.cells #[.slice la pre.length lc] 22)) := hbx2; have HR2 : Hid (w2.ownsRow w.heap.size 35 2 (.slice a2 (pre.length + 1) c2) (pre.length + 1) (smCells pre ++ [.int .i64 A, .float .f64 Bv])) := hr2; have HG2 : Hid ((W.alloc (.cells #[.int .i64 A, .float .f64 Bv] 35)).grownBy w2 (Value.slice la pre.length lc).ownBlock) := hg2; clear hbx2 hr2 hg2 hloc2 hnil2)
    have hB1 : w.heap.size < W.heap.size := (Array.getElem?_eq_some_iff.1 HBX.out).1
    have keep : ∀ (k : Nat) (o : Obj), W.heap[k]? = some o → (∀ cs fr, o ≠ .cells cs 22 fr) → (∀ cs fr, o ≠ .cells cs 35 fr) → (w2.setCell ⟨w.heap.size, 0, none⟩ (.slice a2 (pre.length + 1) c2)).heap[k]? = some o := fun k o hk n1 n2 => by
      have hkl : k < W.heap.size := (Array.getElem?_eq_some_iff.1 hk).1
      have kB : k ≠ w.heap.size := fun e => by
        subst e
        rw [HBX.out] at hk
        exact n1 _ _ (Option.some.inj hk).symm
      have kr : some k ≠ (Value.slice la pre.length lc).ownBlock := fun e => by
        rcases HROW.out.2 with ⟨e1, _⟩ | ⟨g, cap, cur, e1, _, hg, _⟩
        · rw [e1] at e; cases e
        · rw [e1] at e
          have : k = g := by simpa [Value.ownBlock] using e
          subst this
          rw [hk] at hg
          exact n2 _ _ (Option.some.inj hg)
      exact (Below.heap_setCell w2 ⟨w.heap.size, 0, none⟩ _ k kB).trans ((HG2.out.block k (by simp; omega) kr).trans ((Below.heap_alloc W _ k hkl).trans hk))
    have hbelW : Below w.heap.size W (w2.setCell ⟨w.heap.size, 0, none⟩ (.slice a2 (pre.length + 1) c2)) := ((((Below.refl w.heap.size W).alloc hsz _).grown HG2.out (Nat.le_trans hsz (by simp)) (fun j hj => (World.ownsRow.lt HROW.out j hj).1))).setCell (Nat.le_refl _) _
    refine ⟨⟨hbelW.size, fun k o hk ho => keep k o hk (fun cs fr e => by rw [e] at ho; cases ho) (fun cs fr e => by rw [e] at ho; cases ho)⟩, ⟨hbelW, fun k cs fr hk => keep k _ hk (fun cs' fr' e => by cases e) (fun cs' fr' e => by cases e)⟩, ⟨a2, c2, ?_, ?_⟩, HBEL.out.trans hbelW⟩
    · rw [heap_setCell_same HBX2.out]
      have : (pre ++ [z]).length = pre.length + 1 := by simp
      rw [this]
      rfl
    · have : (pre ++ [z]).length = pre.length + 1 := by simp
      rw [this, HV.out]
      exact ((Kept.refl (fun k => k = w.heap.size) w2).setCell (p := ⟨w.heap.size, 0, none⟩) (fun _ => rfl) _).ownsRow HR2.out (fun k hk e => row_ne HR2.out HBX2.out (by decide) (hk.trans (congrArg some e)))
  case done =>
    rintro D W hD ⟨⟨la, lc, hbx, hrow⟩, hbel⟩ hK
    have cL : W.cell? ⟨w.heap.size, 0, none⟩ = some (.slice la (decR raw).length lc) := by rw [cell_of_heap hbx]; rfl
    have hBl : w.heap.size < W.heap.size := (Array.getElem?_eq_some_iff.1 hbx).1
    have hDl : D < W.heap.size := (Array.getElem?_eq_some_iff.1 hK).1
    have hLW : Laid W W.heap.size := (HL.out.below hbel).mono hbel.size
    have HROW : Hid (W.ownsRow w.heap.size 35 2 (.slice la (decR raw).length lc) (decR raw).length (smCells (decR raw))) := hrow
    have HBEL : Hid (Below w.heap.size w W) := hbel
    have HK : Hid (W.heap[D]? = some (.deferred (some []))) := hK
    have tE : Fence.wide.fn 11 := trivial
    have tQ : Fence.wide.fn 39 := trivial
    by_cases h120 : (decR raw).length ≤ 120
    · have henc := encode_any _ _ W (SmpAt.of_row hrow) h120 hLW
      have HEQ : Hid (∀ w5 v5, w5.ownsRow W.heap.size 5 1 v5 (encR (decR raw)).length (byteVals (encR (decR raw))) → Below W.heap.size W w5 → Calls Tryd.prog 39 #[v5, .slice a raw.length c] w5 fun e w' => e = .returned (.bool (decide (encR (decR raw) = raw))) ∧ w' = w5) := fun w5 v5 h5 hb5 => equal_any v5 _ _ _ w5 (BytesAt.of_row h5) ((HB.out.below hbel).below hb5)
      have HC5 : Hid (∀ w5, Below W.heap.size W w5 → w5.cell? ⟨w.heap.size, 0, none⟩ = some (.slice la (decR raw).length lc) ∧ w5.heap[D]? = some (.deferred (some []))) := fun w5 hb5 => ⟨(hb5.cell (p := ⟨w.heap.size, 0, none⟩) hBl).trans cL, (hb5.block D hDl).trans hK⟩
      clear hbx hrow hbel hK hLW hbox hcap hBw0
      obtain ⟨L, hLL⟩ : ∃ L, L = encR (decR raw) := ⟨_, rfl⟩
      rw [← hLL] at henc HEQ HYES HNO
      clear hLL
      by_cases heq : L = raw
      · have hde : decide (L = raw) = true := decide_eq_true heq
        rw [hde] at HEQ
        have HIF : Hid (∀ v' w', Below w.heap.size w w' → w'.ownsRow w.heap.size 35 2 v' (decR raw).length (smCells (decR raw)) → R (.returned (.tuple #[v', .int .i64 0])) w') := HYES.out h120 heq
        clear heq hde HYES HNO
        gi_wp2_with (first
          | (gi_at_call 11; refine (callsIn_wide.2 henc).mono ?_; clear henc; rintro e w5 ⟨v5, rfl, hr5, hb5⟩; obtain ⟨a5, c5, hv5⟩ := slice_of_row hr5; subst hv5; obtain ⟨cL5, hK5⟩ := HC5.out w5 hb5; have heq5 := HEQ.out w5 _ hr5 hb5; have HK5 : Hid (w5.heap[D]? = some (.deferred (some []))) := hK5; have HB5 : Hid (Below W.heap.size W w5) := hb5; clear hr5 hb5 hK5)
          | (gi_at_call 39; refine (callsIn_wide.2 heq5).mono ?_; clear heq5; rintro e w6 ⟨rfl, hw6⟩; have hw6 := hw6.symm; subst hw6))
        refine ⟨by simp, .inl ⟨_, _, rfl, run_takeDeferred HK5.out, ?_⟩⟩
        refine ⟨_, results_tmp2 rfl _ _ _, ?_⟩
        exact HIF.out _ _ ((HBEL.out.trans (HB5.out.mono HBEL.out.size)).trans (below_putObj w5 D _ (by omega))) (ownsRow_putObj (row_below HROW.out HB5.out) _ HK5.out rfl)
      · have hde : decide (L = raw) = false := decide_eq_false heq
        rw [hde] at HEQ
        have HIF : Hid (∀ w', Below w.heap.size w w' → R (.returned (.tuple #[.slice none 0 0, .int .i64 8])) w') := HNO.out (fun h9 => heq h9.2)
        clear heq hde HYES HNO
        gi_wp2_with (first
          | (gi_at_call 11; refine (callsIn_wide.2 henc).mono ?_; clear henc; rintro e w5 ⟨v5, rfl, hr5, hb5⟩; obtain ⟨a5, c5, hv5⟩ := slice_of_row hr5; subst hv5; obtain ⟨cL5, hK5⟩ := HC5.out w5 hb5; have heq5 := HEQ.out w5 _ hr5 hb5; have HK5 : Hid (w5.heap[D]? = some (.deferred (some []))) := hK5; have HB5 : Hid (Below W.heap.size W w5) := hb5; clear hr5 hb5 hK5)
          | (gi_at_call 39; refine (callsIn_wide.2 heq5).mono ?_; clear heq5; rintro e w6 ⟨rfl, hw6⟩; have hw6 := hw6.symm; subst hw6))
        refine ⟨by simp, .inl ⟨_, _, rfl, run_takeDeferred HK5.out, ?_⟩⟩
        refine ⟨_, results_tmp2 rfl _ _ _, ?_⟩
        exact HIF.out _ ((HBEL.out.trans (HB5.out.mono HBEL.out.size)).trans (below_putObj w5 D _ (by omega)))
    · have henc := encode_many _ _ W (SmpAt.of_row hrow) (by omega)
      have HIF : Hid (∀ w', Below w.heap.size w w' → R (.returned (.tuple #[.slice none 0 0, .int .i64 8])) w') := HNO.out (fun h9 => h120 h9.1)
      clear hbx hrow hbel hK hLW hbox hcap hBw0
      gi_wp2_with (gi_at_call 11; refine (callsIn_wide.2 henc).mono ?_; clear henc; rintro e w5 ⟨rfl, hw5⟩; have hw5 := hw5.symm; subst hw5)
      refine ⟨by simp, .inl ⟨_, _, rfl, run_takeDeferred HK.out, ?_⟩⟩
      refine ⟨_, results_tmp2 rfl _ _ _, ?_⟩
      exact HIF.out _ (HBEL.out.trans (below_putObj W D _ (by omega)))

end Go.Proofs.YtkmclgbiedbfpaaDoor
