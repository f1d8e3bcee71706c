/- The program's Less, walked. -/
import Derived.Test.YtjnjmpfldbkciaaGreatMG5
namespace Go.Proofs.YtjnjmpfldbkciaaGreat
open Go.RowKit Go.Maps Go.Sort

set_option maxRecDepth 100000 in
set_option maxHeartbeats 1200000 in
theorem less_any (v u : Value) (l : List Sr) (g : List Gn) (w : World) (h : SrAt w v l) (hg : GnAt w u g) (hl : l.length ≤ 12) (hgl : g.length ≤ 12) :
    Calls Tryz.prog 9 #[v, u] w fun e w' => ∃ r, e = .returned r ∧ ∃ out, SRow w w' r out ∧ out.map Sr.p = lessF (l.map Sr.p) (g.map Gn.p) := by
  obtain ⟨a, c, rfl, -⟩ := id h.1
  obtain ⟨a2, c2, rfl, -⟩ := id hg.1
  have HC : Hid (SrAt w (.slice a l.length c) l) := h
  have hUN := union_any (.slice a2 g.length c2) g w hg hgl
  clear h hg
  go_enter Tryz.func9, Tryz.ntmps9
  go_upto_region 2 with (go_at_call 7; refine hUN.mono ?_; clear hUN; rintro e V ⟨r, rfl, U, s, hG, hs, hp, hu⟩)
  obtain ⟨hcan, hcov, hlen⟩ := union_facts hs hp
  rw [← hu] at hcan hcov hlen
  have HCAN : Hid (Canon (U.map Gn.p)) := hcan
  have HLS : Hid (lessF (l.map Sr.p) (g.map Gn.p) = lessF (l.map Sr.p) (U.map Gn.p)) := (lessF_same hcov).symm
  obtain ⟨ua, uc, rfl⟩ := slice_of_row hG.row
  obtain ⟨nu, hnu⟩ : ∃ nu, nu = U.length := ⟨_, rfl⟩
  have hnu12 : nu ≤ 12 := by simp at hlen; omega
  have HUV : Hid (RowAt V (.slice ua nu uc) 3 nu (gnC U) ∧ U.length = nu ∧ ∀ x ∈ U, GOk V x) := by rw [hnu]; exact ⟨hG.at.1, rfl, hG.at.2⟩
  have HVB : Hid (Below w.heap.size w V) := hG.bel
  rw [← hnu]
  clear hcan hcov hlen hs hp hu hG hnu
  go_wp2
  go_loopw [6, 8, 9, 14] (fun s _ _ i wr => ∃ (k n : Nat) (out : List Sr) (sa : Option Addr) (sc : Nat), k ≤ l.length ∧ n ≤ k ∧ Hid (out.length = n) ∧ i = .int .i64 k ∧ s = .slice sa n sc ∧ Hid (XRow V wr (.slice sa n sc) out) ∧ Hid (out.map Sr.p = lessF ((l.map Sr.p).take k) (U.map Gn.p))) (fun _ _ _ i _ => l.length - (intOf i).toNat)
  case atStart => exact ⟨0, 0, [], none, 0, Nat.zero_le _, Nat.zero_le _, rfl, rfl, rfl, XRow.nil V, rfl⟩
  case round =>
    obtain ⟨k, n, out, sa, sc, hk, hn, HON, rfl, rfl, hX, HE⟩ := hrel
    by_cases hlt : k < l.length
    · obtain ⟨b, o, rfl, hone⟩ := HC.out.one k hlt
      have s1 := HC.out.2 l[k] (List.getElem_mem hlt)
      have HN : Hid (lessF ((l.map Sr.p).take (k + 1)) (U.map Gn.p) = out.map Sr.p ++ (lessO (U.map Gn.p) l[k].p).toList) := by
        show _ = _
        rw [lessF_take _ _ k (by simpa using hlt), HE.out]
        simp
      generalize l[k] = S at *
      obtain ⟨xl, xls, xs, xss⟩ := S
      obtain ⟨xa, xc, hxa, -⟩ := id s1.smp
      obtain ⟨ya, yc, hya, -⟩ := id s1.lab
      dsimp only at hxa hya hone
      subst hxa hya
      have hwr : Below w.heap.size w wr := HVB.out.trans (hX.out.bel.mono HVB.out.size)
      obtain ⟨q0, q1⟩ := hone wr hwr
      have hkl : (k : Int) < (l.length : Int) := by omega
      have hf40 : xss.length ≤ 40 := s1.fews
      have HF64 : Hid (xls.length ≤ 64) := s1.few
      obtain ⟨W1, hW1⟩ : ∃ W1, W1 = wr.alloc (.cells #[.slice ya xls.length yc, .slice xa xss.length xc] 36) := ⟨_, rfl⟩
      have hb1 : Below wr.heap.size wr W1 := by rw [hW1]; exact (Below.refl _ wr).alloc (Nat.le_refl _) _
      have HX1 : Hid (XRow V W1 (.slice sa n sc) out) := hX.out.below hb1
      have HBX : Hid (W1.heap[wr.heap.size]? = some (.cells #[.slice ya xls.length yc, .slice xa xss.length xc] 36)) := by rw [hW1]; exact heap_alloc_new wr _
      have HL1 : Hid (LbAt W1 (.slice ya xls.length yc) xls) := (s1.lab.below hwr).below hb1
      have HS1 : Hid (SmAt W1 (.slice xa xss.length xc) xss) := (s1.smp.below hwr).below hb1
      have HU1 : Hid (RowAt W1 (.slice ua nu uc) 3 nu (gnC U) ∧ U.length = nu ∧ ∀ x ∈ U, GOk W1 x) := ⟨RowAt.below HUV.out.1 HX1.out.bel, HUV.out.2.1, fun x hx => (HUV.out.2.2 x hx).below HX1.out.bel⟩
      have HP : Hid (∀ W, Below W1.heap.size W1 W → Calls Tryz.prog 30 #[.slice ua nu uc, .slice ya xls.length yc] W fun e w' => ∃ a' m c', e = .returned (.slice a' m c') ∧ (m = (subP U xls).length ∧ RowAt w' (.slice a' m c') 3 m (gnC (subP U xls)) ∧ Below W1.heap.size W1 w')) := fun W hW => (piecesOf_any ua nu uc U ya yc xls W (RowAt.below HU1.out.1 hW) HU1.out.2.1 (by omega) (fun x hx => (HU1.out.2.2 x hx).below hW) (HL1.out.below hW) HF64.out (canon_sort HCAN.out)).mono fun e w' ⟨a', m, c', he, h1, h2, h3⟩ => ⟨a', m, c', he, h1, h2, hW.trans (h3.mono hW.size)⟩
      have HSU : Hid ((subP U xls).length ≤ 1000) := by
        have h1 : (subP U xls).length ≤ U.length := by unfold subP; rw [List.length_drop, List.length_take]; omega
        have h2 := HU1.out.2.1
        show _ ≤ _
        omega
      have HWI : Hid (∀ W a' m c', Below W1.heap.size W1 W → m = (subP U xls).length → RowAt W (.slice a' m c') 3 m (gnC (subP U xls)) → Calls Tryz.prog 29 #[.slice xa xss.length xc, .slice a' m c'] W fun e w' => ∃ r m9 c9, e = .returned (.slice r m9 c9) ∧ (m9 = (leftR (U.map Gn.p) xls xss).length ∧ w'.ownsRow V.heap.size 42 2 (.slice r m9 c9) m9 (smC (leftR (U.map Gn.p) xls xss)) ∧ Below W1.heap.size W1 w')) := fun W a' m c' hW hm hr => by
        have h1 := without_any xa xc xss a' m c' (subP U xls) W (HS1.out.below hW) hf40 hr hm.symm (by rw [hm]; exact HSU.out) (canon_up HCAN.out xls)
        rw [leftW_sub HCAN.out] at h1
        refine h1.mono ?_
        rintro e w' ⟨r, m9, c9, he, h2, h3, h4⟩
        exact ⟨r, m9, c9, he, h2, row_mono h3 (Nat.le_trans HX1.out.bel.size hW.size), hW.trans (h4.mono hW.size)⟩
      have HO : Hid (∀ W, Below W1.heap.size W1 W → W.cell? ⟨wr.heap.size, 0, none⟩ = some (.slice ya xls.length yc) ∧ W.cell? ⟨wr.heap.size, 1, none⟩ = some (.slice xa xss.length xc) ∧ Below W1.heap.size W1 W) := fun W hW => by
        have h1 := (hW.block _ (Array.getElem?_eq_some_iff.1 HBX.out).1).trans HBX.out
        exact ⟨cell_of_heap (i := 0) h1, cell_of_heap (i := 1) h1, hW⟩
      have hlf : (leftR (U.map Gn.p) xls xss).length ≤ 40 := Nat.le_trans (leftR_len _ _ _) hf40
      have HLF : Hid (lessO (U.map Gn.p) (Sr.p ⟨.slice ya xls.length yc, xls, .slice xa xss.length xc, xss⟩) = if leftR (U.map Gn.p) xls xss = [] then none else some (xls, leftR (U.map Gn.p) xls xss)) := rfl
      obtain ⟨x0, x1, hbr⟩ := HO.out W1 (Below.refl _ _)
      have hd : Below W1.heap.size W1 W1.drew := (Below.refl _ W1).drew
      have HDR : Hid (Below W1.heap.size W1 W1.drew) := hd
      clear hone s1 HE hX hwr hb1 HBX HS1 HU1 HSU
      go_upto_region 6 with fail
      rw [← hW1]
      clear hW1 q0 q1
      generalize wr.heap.size = X at *
      generalize leftR (U.map Gn.p) xls xss = q at *
      go_region_held3 (fun W => W.cell? ⟨X, 0, none⟩ = some (.slice ya xls.length yc) ∧ W.cell? ⟨X, 1, none⟩ = some (.slice xa xss.length xc) ∧ Below W1.heap.size W1 W)
        (first | (refine HO.out _ ?_; exact hd) | (refine HO.out _ ?_; assumption))
        (first
          | (go_at_call 30; refine (HP.out _ HDR.out).mono ?_; rintro e w2 ⟨pa, pm, pc, rfl, hpm, hpr, hb2⟩; have HPM : Hid (pm = (subP U xls).length) := hpm; have HPR : Hid (RowAt w2 (.slice pa pm pc) 3 pm (gnC (subP U xls))) := hpr; clear hpm hpr)
          | (go_at_call 29; refine (HWI.out _ pa pm pc hb2 HPM.out HPR.out).mono ?_; rintro e w3 ⟨ra, m9, c9, rfl, hm9, hr9, hb3⟩; have HM9 : Hid (m9 = q.length) := hm9; have HR9 : Hid (w3.ownsRow V.heap.size 42 2 (.slice ra m9 c9) m9 (smC q)) := hr9; clear hm9 hr9))
      all_goals
        obtain ⟨z0, z1, -⟩ := HO.out w3 hb3
        have HX3 : Hid (XRow V w3 (.slice sa n sc) out) := HX1.out.below hb3
        have hm40 : m9 ≤ 40 := by have := HM9.out; omega
        have HCL : Hid (Calls Tryz.prog 26 #[.slice ya xls.length yc] w3 fun e w' => ∃ a c, e = .returned (.slice a xls.length c) ∧ w'.ownsRow w3.heap.size 53 2 (.slice a xls.length c) xls.length (lbC xls) ∧ Below w3.heap.size w3 w') := cloneLb _ xls.length (lbC xls) w3 (HL1.out.below hb3) (lbC_one _) (by have := HF64.out; omega)
        have HQ4 : Hid (∀ (a4 : Option Addr) (c4 : Nat) (w4 : World), w4.ownsRow w3.heap.size 53 2 (.slice a4 xls.length c4) xls.length (lbC xls) → Below w3.heap.size w3 w4 → XRow V w4 (.slice sa n sc) out ∧ XOk V w4 ⟨.slice a4 xls.length c4, xls, .slice ra m9 c9, q⟩ ∧ ∀ o, (w4.alloc o).ownsRow V.heap.size 36 2 (.slice sa n sc) n (srC out) ∧ V.heap.size ≤ (w4.alloc o).heap.size) := fun a4 c4 w4 hr4 hb4 => by
          have h1 := HX3.out.below hb4
          have h2 := h1.row
          rw [HON.out] at h2
          have h3 := row_below HR9.out hb4
          rw [HM9.out] at h3
          refine ⟨h1, ⟨row_mono hr4 HX3.out.bel.size, HF64.out, ?_, by dsimp only; have := HM9.out; omega⟩, fun o => ⟨h2.alloc o, Nat.le_trans h1.bel.size ((Below.refl _ w4).alloc (Nat.le_refl _) o).size⟩⟩
          dsimp only
          rw [HM9.out]
          exact h3
        clear hb3 hb2 HPM HPR x0 x1 hbr hd HDR HO HP HWI HX1 HL1
        by_cases hm0 : 0 < m9
        · have hm1 : (0 : Int) < (m9 : Int) := by omega
          have HN2 : Hid (lessF ((l.map Sr.p).take (k + 1)) (U.map Gn.p) = out.map Sr.p ++ [(xls, q)]) := by
            show _ = _
            rw [HN.out, HLF.out, if_neg (by intro e; have := HM9.out; rw [e] at this; simp at this; omega)]
            rfl
          clear HN HLF
          go_wp2_with (first
            | (go_at_call 26; refine HCL.out.mono ?_; rintro e w4 ⟨a4, c4, rfl, hr4, hb4⟩; obtain ⟨hX4, hO4, hA4⟩ := HQ4.out a4 c4 w4 hr4 hb4; have HX4 : Hid (XRow V w4 (.slice sa n sc) out) := hX4; have HO4 : Hid (XOk V w4 ⟨.slice a4 xls.length c4, xls, .slice ra m9 c9, q⟩) := hO4; have HA4 : Hid (∀ o, (w4.alloc o).ownsRow V.heap.size 36 2 (.slice sa n sc) n (srC out) ∧ V.heap.size ≤ (w4.alloc o).heap.size) := hA4; clear hX4 hO4 hA4 hr4 hb4)
            | (at_builtin; refine wpList_append_row appSr _ rfl _ _ rfl V.heap.size _ n (srC out) rfl (HA4.out _).1 _ 1 [.slice a4 xls.length c4, .slice ra m9 c9] rfl (RowAt.of_block (cs := #[.slice a4 xls.length c4, .slice ra m9 c9]) (heap_alloc_new w4 _) rfl (by decide)) (by simp [Value.oneCell']) (by omega) (HA4.out _).2 ?_; intro a5 c5 w5 hr5 hg5 _; have hX5 := HX4.out.more _ HO4.out (by rw [HON.out]; exact hr5) hg5; have HX5 : Hid (XRow V w5 (.slice a5 (n + 1) c5) (out ++ [⟨.slice a4 xls.length c4, xls, .slice ra m9 c9, q⟩])) := hX5; clear hX5 hr5 hg5))
          go_roundw
          case rel => exact ⟨k + 1, n + 1, _, a5, c5, by omega, by omega, by show _ = _; rw [List.length_append, HON.out]; rfl, by go_num, rfl, HX5, by show _ = _; rw [HN2.out]; simp [Sr.p]⟩
          case measure => simp [intOf]; omega
        · have hm1 : ¬ (0 : Int) < (m9 : Int) := by omega
          have HN2 : Hid (lessF ((l.map Sr.p).take (k + 1)) (U.map Gn.p) = out.map Sr.p) := by
            show _ = _
            rw [HN.out, HLF.out, if_pos (List.eq_nil_of_length_eq_zero (by have := HM9.out; omega))]
            simp
          clear HN HLF hm0
          go_wp2
          go_roundw
          case rel => exact ⟨k + 1, n, out, sa, sc, by omega, by omega, HON, by go_num, rfl, HX3, HN2.out.symm⟩
          case measure => simp [intOf]; omega
    · have e9 : (l.map Sr.p).take k = l.map Sr.p := List.take_of_length_le (by simp; omega)
      rw [e9] at HE
      have HF : Hid (∃ out, SRow w wr (.slice sa n sc) out ∧ out.map Sr.p = lessF (l.map Sr.p) (g.map Gn.p)) := ⟨out, hX.out.srow HVB.out, by rw [HLS.out]; exact HE.out⟩
      clear e9 HE hX HC
      go_wp2
      go_ret
      exact ⟨_, rfl, HF.out⟩

end Go.Proofs.YtjnjmpfldbkciaaGreat
