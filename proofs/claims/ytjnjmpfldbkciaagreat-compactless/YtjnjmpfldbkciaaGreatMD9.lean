/- The program's Union. -/
import Derived.Test.YtjnjmpfldbkciaaGreatMD8
import Derived.Test.YtjnjmpfldbkciaaGreatMC5
import Derived.Deep.CutRange
namespace Go.Proofs.YtjnjmpfldbkciaaGreat
open Go.RowKit Go.Maps Go.Sort

theorem LbAt.lt {w : World} {v : Value} {l : List Lb} (h : LbAt w v l) (hne : l ≠ []) {b : Nat} (hb : blkOf v = some b) : b < w.heap.size := by
  obtain ⟨a, c, rfl, h1, h2, h3⟩ := h
  cases l with
  | nil => exact absurd rfl hne
  | cons x r =>
    obtain ⟨b', o', e, hlt, -⟩ := h3 0 (.string x.1) (by simp [lbC])
    subst e
    simp [blkOf] at hb
    subst hb
    exact hlt
theorem sortG_every (a : Option Addr) (m c : Nat) (F : List Gn) (w W : World) (hW : Below w.heap.size w W) (h : W.ownsRow w.heap.size 39 3 (.slice a m c) m (gnC F)) (hn : F.length = m) (hF : ∀ x ∈ F, GOk w x) (hm : m ≤ 1000) :
    Calls Tryz.prog 20 #[.slice a m c, .func (.func 21) #[] #[]] W fun e W' => e = .returned (.tuple #[]) ∧ ∃ l' : List Gn, (l'.Perm F ∧ (l'.map Gn.p).Pairwise LeG) ∧ W'.ownsRow w.heap.size 39 3 (.slice a m c) m (gnC l') ∧ Below w.heap.size w W' := by
  rcases h.2 with ⟨e, h0⟩ | ⟨g, cap, cur, e, hg, _⟩
  · cases e
    have hF0 : F = [] := List.eq_nil_of_length_eq_zero hn
    subst hF0
    refine (sortG_none 0 W).mono ?_
    rintro e W' ⟨he, rfl⟩
    exact ⟨he, [], ⟨.refl _, List.Pairwise.nil⟩, h, hW⟩
  · cases e
    refine (sortG_any g c m F W w.heap.size h hn (fun x hx => ⟨(hF x hx).lab.below hW, (hF x hx).few, fun b hb hne e => ?_⟩) (by omega)).mono ?_
    · have := (hF x hx).lab.lt hne hb
      omega
    · rintro e W' ⟨he, l', h1, h2, h3, h4⟩
      refine ⟨he, l', ⟨h1, h2⟩, h3, hW.trans (h4.toBelow hW.size (fun i hi => ?_))⟩
      subst hi
      exact hg

set_option maxRecDepth 100000 in
set_option maxHeartbeats 8000000 in
theorem union_any (v : Value) (l : List Gn) (w : World) (h : GnAt w v l) (hl : l.length ≤ 12) :
    Calls Tryz.prog 7 #[v] w fun e w' => ∃ r, e = .returned r ∧ ∃ out s, GRow w w' r out ∧ s.Pairwise LeG ∧ s.Perm ((l.map Gn.p).filter fineB) ∧ out.map Gn.p = uF s := by
  obtain ⟨a0, c0, rfl, -⟩ := id h.1
  have HCG : Hid (Calls Tryz.prog 18 #[.slice a0 l.length c0] w fun e w' => ∃ a c, e = .returned (.slice a l.length c) ∧ w'.ownsRow w.heap.size 39 3 (.slice a l.length c) l.length (gnC l) ∧ Below w.heap.size w w') := cloneGn _ l.length (gnC l) w h.1 (gn_one h.2) (by omega)
  have HDL : Hid (∀ a c w1, w1.ownsRow w.heap.size 39 3 (.slice a l.length c) l.length (gnC l) → Below w.heap.size w w1 → Calls Tryz.prog 17 #[.slice a l.length c, .func (.func 19) #[] #[]] w1 fun e w' => ∃ m, e = .returned (.slice a m c) ∧ (m = (l.filter fineG).length ∧ w'.ownsRow w.heap.size 39 3 (.slice a m c) m (gnC (l.filter fineG)) ∧ Below w.heap.size w w')) := fun a c w1 h1 h2 => (delete_any a l.length c l w1 w.heap.size h1 rfl (fun g hg => by obtain ⟨a, c, e, -⟩ := (h.2 g hg).lab; exact ⟨a, _, c, e⟩) (by omega) h2.size).mono fun e w' ⟨m, he, h3, h4, h5⟩ => ⟨m, he, h3, h4, h2.trans h5⟩
  have HFO : Hid (∀ x ∈ l.filter fineG, GOk w x) := fun x hx => h.2 x (List.mem_filter.1 hx).1
  have HFM : Hid ((l.filter fineG).map Gn.p = (l.map Gn.p).filter fineB ∧ (l.filter fineG).length ≤ 12) := ⟨by rw [List.filter_map]; rfl, Nat.le_trans (List.length_filter_le _ _) hl⟩
  clear h
  go_enter Tryz.func7, Tryz.ntmps7
  go_upto_region 3 with (first
    | (go_at_call 18; refine HCG.out.mono ?_; rintro e w1 ⟨a, c, rfl, hr1, hb1⟩; have hD1 := HDL.out a c w1 hr1 hb1; clear hr1 hb1 HDL HCG)
    | (go_at_call 17; refine hD1.mono ?_; rintro e w2 ⟨m, rfl, hm2, hr2, hb2⟩; have hm12 : m ≤ 12 := (by rw [hm2]; exact HFM.out.2); have hS2 := sortG_every a m c (l.filter fineG) w w2 hb2 hr2 hm2.symm HFO.out (by omega); have HM2 : Hid (m = (l.filter fineG).length) := hm2; clear hm2 hr2 hb2 hD1)
    | (go_at_call 20; refine hS2.mono ?_; rintro e V ⟨rfl, S, ⟨hp3, hs3⟩, hr3, hb3⟩; clear hS2))
  have HSP : Hid ((S.map Gn.p).Pairwise LeG ∧ (S.map Gn.p).Perm ((l.map Gn.p).filter fineB)) := ⟨hs3, by rw [← HFM.out.1]; exact hp3.map _⟩
  have HSN : Hid (S.length = m) := hp3.length_eq.trans HM2.out.symm
  have HSO : Hid (∀ x ∈ S, GOk w x) := fun x hx => HFO.out x (hp3.mem_iff.1 hx)
  have HVA : Hid (RowAt V (.slice a m c) 3 m (gnC S)) := RowAt.of_row hr3
  have HVB : Hid (Below w.heap.size w V) := hb3
  clear hp3 hs3 hr3 hb3 HM2 HFO HFM
  go_wp2
  go_loopw [4, 6, 7, 15] (fun s _ _ i wr => ∃ (p k : Nat) (out : List Gn) (oa : Option Addr) (oc : Nat), p ≤ m ∧ k ≤ p ∧ Hid (out.length = k) ∧ i = .int .i64 p ∧ s = .slice oa k oc ∧ Hid (URow V wr (.slice oa k oc) out) ∧ Hid (out.map Gn.p = uF ((S.map Gn.p).take p))) (fun _ _ _ i _ => m - (intOf i).toNat)
  case atStart => exact ⟨0, 0, [], none, 0, Nat.zero_le _, Nat.zero_le _, rfl, rfl, rfl, URow.nil V, rfl⟩
  case round =>
    obtain ⟨p, k, out, oa, oc, hp, hk, HOK, rfl, rfl, hU, HUF⟩ := hrel
    by_cases hpl : p < m
    · obtain ⟨b, o, rfl, hone⟩ := row3n HVA.out HSN.out p hpl
      have s1 := HSO.out (S[p]'(by have := HSN.out; omega)) (List.getElem_mem _)
      obtain ⟨G, hGe⟩ : ∃ G, G = S[p]'(by have := HSN.out; omega) := ⟨_, rfl⟩
      rw [← hGe] at hone s1
      have HUN : Hid (uF ((S.map Gn.p).take (p + 1)) = addU (out.map Gn.p) G.p) := by
        show _ = _
        rw [List.take_succ_eq_append_getElem (by simp; have := HSN.out; omega), uF_snoc, HUF.out]
        simp [hGe]
      obtain ⟨gv, gls, glo, ghi⟩ := G
      obtain ⟨za, zc, hza, -⟩ := id s1.lab
      dsimp only at hza hone
      subst hza
      have HLV : Hid (LbAt V (.slice za gls.length zc) gls) := s1.lab.below HVB.out
      have HRG : Hid (gls.length ≤ 64 ∧ -9223372036854775808 ≤ glo ∧ glo ≤ 9223372036854775807 ∧ -9223372036854775808 ≤ ghi ∧ ghi ≤ 9223372036854775807) := ⟨s1.few, s1.lo1, s1.lo2, s1.hi1, s1.hi2⟩
      obtain ⟨g0, g1, g2⟩ := hone wr hU.out.bel
      have hpl2 : (p : Int) < (m : Int) := by omega
      obtain ⟨W1, hW1⟩ : ∃ W1, W1 = wr.alloc (.cells #[.slice za gls.length zc, .int .i64 glo, .int .i64 ghi] 39) := ⟨_, rfl⟩
      have HU1 : Hid (URow V W1 (.slice oa k oc) out) := by rw [hW1]; exact hU.out.below ((Below.refl _ wr).alloc (Nat.le_refl _) _)
      have HX1 : Hid (W1.heap[wr.heap.size]? = some (.cells #[.slice za gls.length zc, .int .i64 glo, .int .i64 ghi] 39)) := by rw [hW1]; exact heap_alloc_new wr _
      have HXV : Hid (V.heap.size ≤ wr.heap.size) := hU.out.bel.size
      have HXA : Hid (∀ kb, (Value.slice oa k oc).ownBlock = some kb → kb ≠ wr.heap.size) := fun kb e1 e2 => by have := (hU.out.row.lt kb e1).2; omega
      have HXL : Hid (wr.heap.size < W1.heap.size) := by show _ < _; rw [hW1]; simp
      clear hone s1 hGe HUF hU
      go_upto_region 8 with fail
      rw [← hW1]
      clear hW1 g0 g1 g2
      generalize wr.heap.size = X at *
      by_cases hk0 : k = 0
      · have h0 : out = [] := List.eq_nil_of_length_eq_zero (HOK.out.trans hk0)
        subst h0
        have hd1 : decide ((0 : Int) < (k : Int)) = false := decide_eq_false (by omega)
        have hd2 : decide (0 < k) = false := decide_eq_false (by omega)
        have hd3 : ¬ (0 : Int) < (k : Int) := by omega
        have HU3 : Hid (([] ++ [(⟨.slice za gls.length zc, gls, glo, ghi⟩ : Gn)] : List Gn).map Gn.p = uF ((S.map Gn.p).take (p + 1))) := by show _ = _; rw [HUN.out]; rfl
        clear hk0 HUN
        go_quiet (fail)
        generalize hW9 : W1.drewN nq = wq
        have hbq : Below W1.heap.size W1 wq := by rw [← hW9]; exact below_drewN (Below.refl _ _) nq
        clear hW9
        have HUQ : Hid (URow V wq (.slice oa k oc) []) := HU1.out.below hbq
        have HBX : Hid (wq.heap[X]? = some (.cells #[.slice za gls.length zc, .int .i64 glo, .int .i64 ghi] 39)) := (hbq.block X HXL.out).trans HX1.out
        have q0 := cell_of_heap (i := 0) HBX.out
        have q1 := cell_of_heap (i := 1) HBX.out
        have q2 := cell_of_heap (i := 2) HBX.out
        have HCL : Hid (Calls Tryz.prog 26 #[.slice za gls.length zc] wq fun e w' => ∃ a c, e = .returned (.slice a gls.length c) ∧ w'.ownsRow wq.heap.size 53 2 (.slice a gls.length c) gls.length (lbC gls) ∧ Below wq.heap.size wq w') := cloneLb _ gls.length (lbC gls) wq ((HLV.out.below HU1.out.bel).below hbq) (lbC_one _) (by have := HRG.out.1; omega)
        have HN5 : Hid (∀ (a5 : Option Addr) (c5 : Nat) (w5 : World), w5.ownsRow wq.heap.size 53 2 (.slice a5 gls.length c5) gls.length (lbC gls) → Below wq.heap.size wq w5 → w5.heap[X]? = some (.cells #[.slice za gls.length zc, .int .i64 glo, .int .i64 ghi] 39) ∧ URow V (w5.setCell ⟨X, 0, none⟩ (.slice a5 gls.length c5)) (.slice oa k oc) [] ∧ UOk V (w5.setCell ⟨X, 0, none⟩ (.slice a5 gls.length c5)) ⟨.slice a5 gls.length c5, gls, glo, ghi⟩) := fun a5 c5 w5 hr5 hb5 => by
          have h1 := HUQ.out.below hb5
          have h2 : w5.heap[X]? = some (.cells #[.slice za gls.length zc, .int .i64 glo, .int .i64 ghi] 39) := (hb5.block X (Array.getElem?_eq_some_iff.1 HBX.out).1).trans HBX.out
          have h3 := h1.box HXV.out HXA.out h2 0 (.slice a5 gls.length c5)
          exact ⟨h2, h3.1, h3.2 _ ⟨row_mono hr5 HUQ.out.bel.size, HRG.out.1, HRG.out.2.1, HRG.out.2.2.1, HRG.out.2.2.2.1, HRG.out.2.2.2.2⟩⟩
        have HA : Hid (∀ w6, URow V w6 (.slice oa k oc) [] → ∀ o, (w6.alloc o).ownsRow V.heap.size 39 3 (.slice oa k oc) k (gnC []) ∧ V.heap.size ≤ (w6.alloc o).heap.size) := fun w6 h1 o => by
          have h2 := h1.row
          rw [HOK.out] at h2
          refine ⟨h2.alloc o, ?_⟩
          have := h1.bel.size
          simp
          omega
        clear hbq HUQ HBX HX1 HU1
        go_wp2_with (first
          | (go_at_call 26; refine HCL.out.mono ?_; rintro e w5 ⟨a5, c5, rfl, hr5, hb5⟩; obtain ⟨hh5, hU6, hO6⟩ := HN5.out a5 c5 w5 hr5 hb5; have f0 := cell_of_heap (i := 0) hh5; have f1 := cell_of_heap (i := 1) hh5; have f2 := cell_of_heap (i := 2) hh5; have f3 := frozen_of_heap (i := 0) hh5; have hh6 := heap_setCell_same (i := 0) hh5 (.slice a5 gls.length c5); have j0 := cell_of_heap (i := 0) hh6; have j1 := cell_of_heap (i := 1) hh6; have j2 := cell_of_heap (i := 2) hh6; have HU6 : Hid (URow V (w5.setCell ⟨X, 0, none⟩ (.slice a5 gls.length c5)) (.slice oa k oc) []) := hU6; have HO6 : Hid (UOk V (w5.setCell ⟨X, 0, none⟩ (.slice a5 gls.length c5)) ⟨.slice a5 gls.length c5, gls, glo, ghi⟩) := hO6; clear hh5 hh6 hU6 hO6 hr5 hb5)
          | (at_builtin; refine wpList_append_row appGn _ rfl _ _ rfl V.heap.size _ k (gnC []) rfl (HA.out _ HU6.out _).1 _ 1 [.slice a5 gls.length c5, .int .i64 glo, .int .i64 ghi] rfl (RowAt.of_block (cs := #[.slice a5 gls.length c5, .int .i64 glo, .int .i64 ghi]) (heap_alloc_set _ _ _ _) rfl (by decide)) (by simp [Value.oneCell']) (by omega) (HA.out _ HU6.out _).2 ?_; intro a7 c7 w7 hr7 hg7 _; have hU7 := HU6.out.more _ HO6.out (by rw [HOK.out]; exact hr7) hg7; have HU7 : Hid (URow V w7 (.slice a7 (k + 1) c7) ([] ++ [⟨.slice a5 gls.length c5, gls, glo, ghi⟩])) := hU7; clear hU7 hr7 hg7))
        go_roundw
        case rel => exact ⟨p + 1, k + 1, [] ++ [⟨.slice a5 gls.length c5, gls, glo, ghi⟩], a7, c7, by omega, by omega, by show _ = _; rw [List.length_append, HOK.out]; rfl, by go_num, rfl, HU7, by show _ = _; rw [← HU3.out]; simp [Gn.p]⟩
        case measure => simp [intOf]; omega
      · obtain ⟨r, oo, hro⟩ : ∃ r oo, out = r ++ [oo] := by
          rcases List.eq_nil_or_concat out with h9 | ⟨r, oo, h9⟩
          · have := HOK.out
            rw [h9] at this
            exact absurd this.symm hk0
          · exact ⟨r, oo, by simpa using h9⟩
        subst hro
        obtain ⟨kk, hkk⟩ : ∃ kk, kk = r.length := ⟨_, rfl⟩
        have hk9 : k = kk + 1 := by have := HOK.out; simp at this; omega
        have HKK : Hid (kk = r.length) := hkk
        clear hkk
        have hwr9 : IntKind.i64.wrap ((k : Int) - 1) = (kk : Int) := by rw [wrap_in (by omega) (by omega)]; omega
        have hmi : (kk : Int) < (k : Int) := by omega
        have hd1 : decide ((0 : Int) < (k : Int)) = true := decide_eq_true (by omega)
        have hd2 : decide (0 < k) = true := decide_eq_true (by omega)
        have hd3 : (0 : Int) < (k : Int) := by omega
        have HK9 : Hid (k = kk + 1) := hk9
        obtain ⟨og, rfl⟩ : ∃ og, oa = some ⟨og, 0, none⟩ := by
          rcases HU1.out.row.2 with ⟨e, h0⟩ | ⟨og, cap, cur, e, _⟩
          · simp at h0
          · cases e
            exact ⟨og, rfl⟩
        have HGO0 := HU1.out.ok oo (by simp)
        obtain ⟨ov, ols, olo, ohi⟩ := oo
        obtain ⟨ya, yc, hya⟩ := slice_of_row HGO0.lab
        dsimp only at hya
        subst hya
        have HGO : Hid (UOk V W1 (⟨.slice ya ols.length yc, ols, olo, ohi⟩ : Gn)) := HGO0
        have HO : Hid (∀ W, Below W1.heap.size W1 W → W.cell? ⟨X, 0, none⟩ = some (.slice za gls.length zc) ∧ W.cell? ⟨X, 1, none⟩ = some (.int .i64 glo) ∧ W.cell? ⟨X, 2, none⟩ = some (.int .i64 ghi) ∧ W.cell? ⟨og, kk * 3, none⟩ = some (.slice ya ols.length yc) ∧ W.cell? ⟨og, kk * 3 + 1, none⟩ = some (.int .i64 olo) ∧ W.cell? ⟨og, kk * 3 + 2, none⟩ = some (.int .i64 ohi) ∧ Below W1.heap.size W1 W) := fun W hW => by
          have hx := (hW.block X HXL.out).trans HX1.out
          have hr := (HU1.out.below hW).row
          rw [HOK.out] at hr
          have h9 := row_at3 hr HOK.out (j := kk) (x := (⟨.slice ya ols.length yc, ols, olo, ohi⟩ : Gn)) (by rw [HKK.out]; simp)
          exact ⟨cell_of_heap (i := 0) hx, cell_of_heap (i := 1) hx, cell_of_heap (i := 2) hx, h9.1, h9.2.1, h9.2.2, hW⟩
        have HME : Hid (∀ W, Below W1.heap.size W1 W → Calls Tryz.prog 25 #[.agg #[.slice ya ols.length yc, .int .i64 olo, .int .i64 ohi], .agg #[.slice za gls.length zc, .int .i64 glo, .int .i64 ghi]] W fun e w' => e = .returned (.bool (metG (ols, olo, ohi) (gls, glo, ghi))) ∧ Below W1.heap.size W1 w') := fun W hW => (meets_any (⟨.slice ya ols.length yc, ols, olo, ohi⟩ : Gn) (⟨.slice za gls.length zc, gls, glo, ghi⟩ : Gn) W (HGO.out.gok.below hW) ⟨(HLV.out.below HU1.out.bel).below hW, HRG.out.1, HRG.out.2.1, HRG.out.2.2.1, HRG.out.2.2.2.1, HRG.out.2.2.2.2⟩).mono fun e w' ⟨h1, h2⟩ => ⟨h1, hW.trans (h2.mono hW.size)⟩
        have HU2 : Hid (uF ((S.map Gn.p).take (p + 1)) = if metG (ols, olo, ohi) (gls, glo, ghi) then r.map Gn.p ++ [(ols, olo, max ohi ghi)] else r.map Gn.p ++ [(ols, olo, ohi), (gls, glo, ghi)]) := by
          show _ = _
          rw [HUN.out, List.map_append, List.map_cons, List.map_nil, addU_snoc]
          rfl
        obtain ⟨x0, x1, x2, y0, y1, y2, hbr⟩ := HO.out W1 (Below.refl _ _)
        have hd : Below W1.heap.size W1 W1.drew := (Below.refl _ W1).drew
        have HDR : Hid (Below W1.heap.size W1 W1.drew) := hd
        clear HUN HGO0 hk0 hk9
        generalize metG (ols, olo, ohi) (gls, glo, ghi) = mt at *
        cases mt
        · have HU3 : Hid ((r ++ [(⟨.slice ya ols.length yc, ols, olo, ohi⟩ : Gn)] ++ [(⟨.slice za gls.length zc, gls, glo, ghi⟩ : Gn)]).map Gn.p = uF ((S.map Gn.p).take (p + 1))) := by show _ = _; rw [HU2.out]; simp [Gn.p]
          clear HU2
          go_region_held3 (fun w' => w'.cell? ⟨X, 0, none⟩ = some (.slice za gls.length zc) ∧ w'.cell? ⟨X, 1, none⟩ = some (.int .i64 glo) ∧ w'.cell? ⟨X, 2, none⟩ = some (.int .i64 ghi) ∧ w'.cell? ⟨og, kk * 3, none⟩ = some (.slice ya ols.length yc) ∧ w'.cell? ⟨og, kk * 3 + 1, none⟩ = some (.int .i64 olo) ∧ w'.cell? ⟨og, kk * 3 + 2, none⟩ = some (.int .i64 ohi) ∧ Below W1.heap.size W1 w')
            (first | (refine HO.out _ ?_; exact hd) | (refine HO.out _ ?_; assumption))
            (first | (go_at_call 25; refine (HME.out _ HDR.out).mono ?_; rintro e w2 ⟨rfl, hbq⟩))
          all_goals
            clear x0 x1 x2 y0 y1 y2 hbr hd HDR HO HME
            have HUQ : Hid (URow V w2 (.slice (some ⟨og, 0, none⟩) k oc) (r ++ [(⟨.slice ya ols.length yc, ols, olo, ohi⟩ : Gn)])) := HU1.out.below hbq
            have HBX : Hid (w2.heap[X]? = some (.cells #[.slice za gls.length zc, .int .i64 glo, .int .i64 ghi] 39)) := (hbq.block X HXL.out).trans HX1.out
            have q0 := cell_of_heap (i := 0) HBX.out
            have q1 := cell_of_heap (i := 1) HBX.out
            have q2 := cell_of_heap (i := 2) HBX.out
            have HCL : Hid (Calls Tryz.prog 26 #[.slice za gls.length zc] w2 fun e w' => ∃ a c, e = .returned (.slice a gls.length c) ∧ w'.ownsRow w2.heap.size 53 2 (.slice a gls.length c) gls.length (lbC gls) ∧ Below w2.heap.size w2 w') := cloneLb _ gls.length (lbC gls) w2 ((HLV.out.below HU1.out.bel).below hbq) (lbC_one _) (by have := HRG.out.1; omega)
            have HN5 : Hid (∀ (a5 : Option Addr) (c5 : Nat) (w5 : World), w5.ownsRow w2.heap.size 53 2 (.slice a5 gls.length c5) gls.length (lbC gls) → Below w2.heap.size w2 w5 → w5.heap[X]? = some (.cells #[.slice za gls.length zc, .int .i64 glo, .int .i64 ghi] 39) ∧ URow V (w5.setCell ⟨X, 0, none⟩ (.slice a5 gls.length c5)) (.slice (some ⟨og, 0, none⟩) k oc) (r ++ [(⟨.slice ya ols.length yc, ols, olo, ohi⟩ : Gn)]) ∧ UOk V (w5.setCell ⟨X, 0, none⟩ (.slice a5 gls.length c5)) ⟨.slice a5 gls.length c5, gls, glo, ghi⟩) := fun a5 c5 w5 hr5 hb5 => by
              have h1 := HUQ.out.below hb5
              have h2 : w5.heap[X]? = some (.cells #[.slice za gls.length zc, .int .i64 glo, .int .i64 ghi] 39) := (hb5.block X (Array.getElem?_eq_some_iff.1 HBX.out).1).trans HBX.out
              have h3 := h1.box HXV.out HXA.out h2 0 (.slice a5 gls.length c5)
              exact ⟨h2, h3.1, h3.2 _ ⟨row_mono hr5 HUQ.out.bel.size, HRG.out.1, HRG.out.2.1, HRG.out.2.2.1, HRG.out.2.2.2.1, HRG.out.2.2.2.2⟩⟩
            have HA : Hid (∀ w6, URow V w6 (.slice (some ⟨og, 0, none⟩) k oc) (r ++ [(⟨.slice ya ols.length yc, ols, olo, ohi⟩ : Gn)]) → ∀ o, (w6.alloc o).ownsRow V.heap.size 39 3 (.slice (some ⟨og, 0, none⟩) k oc) k (gnC (r ++ [(⟨.slice ya ols.length yc, ols, olo, ohi⟩ : Gn)])) ∧ V.heap.size ≤ (w6.alloc o).heap.size) := fun w6 h1 o => by
              have h2 := h1.row
              rw [HOK.out] at h2
              refine ⟨h2.alloc o, ?_⟩
              have := h1.bel.size
              simp
              omega
            clear hbq HUQ HBX HX1 HU1
            go_wp2_with (first
              | (go_at_call 26; refine HCL.out.mono ?_; rintro e w5 ⟨a5, c5, rfl, hr5, hb5⟩; obtain ⟨hh5, hU6, hO6⟩ := HN5.out a5 c5 w5 hr5 hb5; have f0 := cell_of_heap (i := 0) hh5; have f1 := cell_of_heap (i := 1) hh5; have f2 := cell_of_heap (i := 2) hh5; have f3 := frozen_of_heap (i := 0) hh5; have hh6 := heap_setCell_same (i := 0) hh5 (.slice a5 gls.length c5); have j0 := cell_of_heap (i := 0) hh6; have j1 := cell_of_heap (i := 1) hh6; have j2 := cell_of_heap (i := 2) hh6; have HU6 : Hid (URow V (w5.setCell ⟨X, 0, none⟩ (.slice a5 gls.length c5)) (.slice (some ⟨og, 0, none⟩) k oc) (r ++ [(⟨.slice ya ols.length yc, ols, olo, ohi⟩ : Gn)])) := hU6; have HO6 : Hid (UOk V (w5.setCell ⟨X, 0, none⟩ (.slice a5 gls.length c5)) ⟨.slice a5 gls.length c5, gls, glo, ghi⟩) := hO6; clear hh5 hh6 hU6 hO6 hr5 hb5)
              | (at_builtin; refine wpList_append_row appGn _ rfl _ _ rfl V.heap.size _ k (gnC (r ++ [(⟨.slice ya ols.length yc, ols, olo, ohi⟩ : Gn)])) rfl (HA.out _ HU6.out _).1 _ 1 [.slice a5 gls.length c5, .int .i64 glo, .int .i64 ghi] rfl (RowAt.of_block (cs := #[.slice a5 gls.length c5, .int .i64 glo, .int .i64 ghi]) (heap_alloc_set _ _ _ _) rfl (by decide)) (by simp [Value.oneCell']) (by omega) (HA.out _ HU6.out _).2 ?_; intro a7 c7 w7 hr7 hg7 _; have hU7 := HU6.out.more _ HO6.out (by rw [HOK.out]; exact hr7) hg7; have HU7 : Hid (URow V w7 (.slice a7 (k + 1) c7) ((r ++ [(⟨.slice ya ols.length yc, ols, olo, ohi⟩ : Gn)]) ++ [⟨.slice a5 gls.length c5, gls, glo, ghi⟩])) := hU7; clear hU7 hr7 hg7))
            go_roundw
            case rel => exact ⟨p + 1, k + 1, (r ++ [(⟨.slice ya ols.length yc, ols, olo, ohi⟩ : Gn)]) ++ [⟨.slice a5 gls.length c5, gls, glo, ghi⟩], a7, c7, by omega, by omega, by show _ = _; rw [List.length_append, HOK.out]; rfl, by go_num, rfl, HU7, by show _ = _; rw [← HU3.out]; simp [Gn.p]⟩
            case measure => simp [intOf]; omega
        · have HU3 : Hid ((r ++ [(⟨.slice ya ols.length yc, ols, olo, max ohi ghi⟩ : Gn)]).map Gn.p = uF ((S.map Gn.p).take (p + 1))) := by show _ = _; rw [HU2.out]; simp [Gn.p]
          clear HU2
          go_region_held3 (fun w' => w'.cell? ⟨X, 0, none⟩ = some (.slice za gls.length zc) ∧ w'.cell? ⟨X, 1, none⟩ = some (.int .i64 glo) ∧ w'.cell? ⟨X, 2, none⟩ = some (.int .i64 ghi) ∧ w'.cell? ⟨og, kk * 3, none⟩ = some (.slice ya ols.length yc) ∧ w'.cell? ⟨og, kk * 3 + 1, none⟩ = some (.int .i64 olo) ∧ w'.cell? ⟨og, kk * 3 + 2, none⟩ = some (.int .i64 ohi) ∧ Below W1.heap.size W1 w')
            (first | (refine HO.out _ ?_; exact hd) | (refine HO.out _ ?_; assumption))
            (first | (go_at_call 25; refine (HME.out _ HDR.out).mono ?_; rintro e w2 ⟨rfl, hbq⟩))
          all_goals
            obtain ⟨x0', x1', x2', y0', y1', y2', -⟩ := HO.out w2 hbq
            have HUW : Hid (URow V w2 (.slice (some ⟨og, 0, none⟩) k oc) (r ++ [(⟨.slice ya ols.length yc, ols, olo, ohi⟩ : Gn)])) := HU1.out.below hbq
            have y3' : w2.frozen? ⟨og, kk * 3 + 2, none⟩ = false := by
              have hr := HUW.out.row
              rw [HOK.out] at hr
              exact (row_cell hr (j := kk * 3 + 2) (by have := HK9.out; omega)).2
            have HLA : Hid (∀ q, URow V ((w2.drewN q).setCell ⟨og, kk * 3 + 2, none⟩ (.int .i64 (max ohi ghi))) (.slice (some ⟨og, 0, none⟩) k oc) (r ++ [(⟨.slice ya ols.length yc, ols, olo, max ohi ghi⟩ : Gn)])) := fun q => by
              have h1 := (HUW.out.below (below_drewN (Below.refl _ w2) q)).last (max ohi ghi) (by have := HRG.out.2.2.2.1; omega) (by have := HRG.out.2.2.2.2; have := HGO.out.hi2; dsimp only at this; omega)
              rw [← HKK.out] at h1
              exact h1
            have HOL : Hid ((r ++ [(⟨.slice ya ols.length yc, ols, olo, max ohi ghi⟩ : Gn)]).length = k) := by have := HOK.out; show _ = _; simp at this ⊢; omega
            clear x0 x1 x2 y0 y1 y2 hbr hd HDR HO HME HUW hbq HU1 HX1
            go_upto_region 9 with fail
            go_region
            all_goals
              go_wp2
              go_roundw
              case rel => exact ⟨p + 1, k, _, some ⟨og, 0, none⟩, oc, by omega, by omega, HOL, by go_num, rfl, HLA.out 1, HU3⟩
              case measure => simp [intOf]; omega
    · have e9 : (S.map Gn.p).take p = S.map Gn.p := List.take_of_length_le (by simp; have := HSN.out; omega)
      rw [e9] at HUF
      have HF : Hid (∃ out s, GRow w wr (.slice oa k oc) out ∧ s.Pairwise LeG ∧ s.Perm ((l.map Gn.p).filter fineB) ∧ out.map Gn.p = uF s) := ⟨out, S.map Gn.p, hU.out.grow HVB.out, HSP.out.1, HSP.out.2, HUF.out⟩
      clear e9 HUF HSP hU
      go_wp2
      go_ret
      exact ⟨_, rfl, HF.out⟩

end Go.Proofs.YtjnjmpfldbkciaaGreat
