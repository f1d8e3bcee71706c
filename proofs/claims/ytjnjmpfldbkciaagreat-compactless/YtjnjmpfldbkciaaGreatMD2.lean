/- The document's Union. -/
import Derived.Test.YtjnjmpfldbkciaaGreatMD1
import Derived.Deep.RegionHeld3
import Derived.Deep.CutRange
namespace Go.Proofs.YtjnjmpfldbkciaaGreat
open Go.RowKit Go.Maps

set_option maxRecDepth 100000 in
set_option maxHeartbeats 8000000 in
theorem refUnion_any (v : Value) (l : List Gn) (w : World) (h : GnAt w v l) (hl : l.length ≤ 12) :
    Calls Tryz.prog 11 #[v] w fun e w' => ∃ r, e = .returned r ∧ ∃ out s, GRow w w' r out ∧ s.Pairwise LeG ∧ s.Perm ((l.map Gn.p).filter fineB) ∧ out.map Gn.p = uF s := by
  obtain ⟨a, c, rfl, -⟩ := id h.1
  have HC : Hid (GnAt w (.slice a l.length c) l) := h
  clear h
  go_enter Tryz.func11, Tryz.ntmps11
  go_wp2
  go_loopw [3, 4, 5, 6] (fun s i _ _ wr => ∃ (k n : Nat) (all : List Gn) (sa : Option Addr) (sc : Nat), k ≤ l.length ∧ n ≤ k ∧ Hid (all.length = n) ∧ i = .int .i64 k ∧ s = .slice sa n sc ∧ Hid (RowAt wr (.slice sa n sc) 3 n (gnC all)) ∧ Hid (∀ g ∈ all, GOk w g) ∧ Hid ((all.map Gn.p).Pairwise LeG ∧ (all.map Gn.p).Perm (((l.map Gn.p).take k).filter fineB)) ∧ Hid (Below w.heap.size w wr)) (fun _ i _ _ _ => l.length - (intOf i).toNat)
  case atStart => exact ⟨0, 0, [], none, 0, Nat.zero_le _, Nat.zero_le _, rfl, rfl, rfl, RowAt.none3 _ _ (Nat.zero_le _), fun g hg => by simp at hg, ⟨List.Pairwise.nil, List.Perm.refl _⟩, Below.refl _ _⟩
  case round =>
    obtain ⟨k, n, all, sa, sc, hk, hn, HAN, rfl, rfl, HRA, HOK, HSP, hb⟩ := hrel
    by_cases hlt : k < l.length
    · obtain ⟨b, o, rfl, hone⟩ := HC.out.one k hlt
      have s1 := HC.out.2 l[k] (List.getElem_mem hlt)
      have HFT : Hid (((l.map Gn.p).take (k + 1)).filter fineB = ((l.map Gn.p).take k).filter fineB ++ (if fineB l[k].p then [l[k].p] else [])) := by
        show _ = _
        rw [fine_take _ k (by simpa using hlt)]
        simp
      generalize l[k] = G at *
      obtain ⟨gv, gls, glo, ghi⟩ := G
      obtain ⟨za, zc, hza, -⟩ := id s1.lab
      dsimp only at hza hone
      subst hza
      have HGX : Hid (GOk w (⟨.slice za gls.length zc, gls, glo, ghi⟩ : Gn)) := s1
      have HMW : Hid (∀ Z, Below w.heap.size w Z → Z.cell? ⟨b, o + k * 3, none⟩ = some (.slice za gls.length zc) ∧ Z.cell? ⟨b, o + k * 3 + 1, none⟩ = some (.int .i64 glo) ∧ Z.cell? ⟨b, o + k * 3 + 2, none⟩ = some (.int .i64 ghi)) := hone
      obtain ⟨g0, g1, g2⟩ := hone wr hb.out
      have hkl : (k : Int) < (l.length : Int) := by omega
      have HDN : Hid (∀ q, Below w.heap.size w (wr.drewN q)) := fun q => below_drewN hb.out q
      clear hone s1 HC
      by_cases hf : ghi < glo
      · have HP2 : Hid ((all.map Gn.p).Pairwise LeG ∧ (all.map Gn.p).Perm (((l.map Gn.p).take (k + 1)).filter fineB)) := by
          refine ⟨HSP.out.1, ?_⟩
          rw [HFT.out, show fineB (Gn.p (⟨.slice za gls.length zc, gls, glo, ghi⟩ : Gn)) = false from decide_eq_false (by show ¬ glo ≤ ghi; omega)]
          simpa using HSP.out.2
        have HR2 : Hid (∀ q, RowAt (wr.drewN q) (.slice sa n sc) 3 n (gnC all)) := fun q => RowAt.below HRA.out (below_drewN (Below.refl _ _) q)
        clear HFT HSP
        go_wp2_with fail
        go_quiet (fail)
        go_wp2
        go_roundw
        case rel => exact ⟨k + 1, n, all, sa, sc, by omega, by omega, HAN, by go_num, rfl, HR2.out _, HOK, HP2, HDN.out _⟩
        case measure => simp [intOf]; omega
      · have HFI : Hid (fineB (Gn.p (⟨.slice za gls.length zc, gls, glo, ghi⟩ : Gn)) = true) := decide_eq_true (by show glo ≤ ghi; omega)
        go_wp2_with fail
        go_quiet (fail)
        go_wp2
        generalize hV9 : wr.drewN nq = V
        have HVW : Hid (Below w.heap.size w V) := by rw [← hV9]; exact HDN.out nq
        have HVA : Hid (RowAt V (.slice sa n sc) 3 n (gnC all)) := by rw [← hV9]; exact RowAt.below HRA.out (below_drewN (Below.refl _ _) nq)
        clear hV9 HDN HRA g0 g1 g2 hb
        go_loopw [5] (fun i wm => ∃ j : Nat, j ≤ n ∧ i = .int .i64 j ∧ Hid (∀ i (h : i < all.length), i < j → aheadF (Gn.p (⟨.slice za gls.length zc, gls, glo, ghi⟩ : Gn)) all[i].p = false) ∧ Hid (Below V.heap.size V wm)) (fun i _ => n - (intOf i).toNat)
        case atStart => exact ⟨0, Nat.zero_le _, rfl, fun i _ h => absurd h (Nat.not_lt_zero i), Below.refl _ _⟩
        case round =>
          obtain ⟨j, hj, rfl, hall, hbv⟩ := hrel
          have HPUT0 : Hid (∀ (_ : ∀ (h : j < all.length), aheadF (Gn.p (⟨.slice za gls.length zc, gls, glo, ghi⟩ : Gn)) all[j].p = true), ((all.take j ++ [(⟨.slice za gls.length zc, gls, glo, ghi⟩ : Gn)] ++ all.drop j).map Gn.p).Pairwise LeG ∧ ((all.take j ++ [(⟨.slice za gls.length zc, gls, glo, ghi⟩ : Gn)] ++ all.drop j).map Gn.p).Perm (((l.map Gn.p).take (k + 1)).filter fineB)) := fun h9 => by
            have e9 : (all.take j ++ [(⟨.slice za gls.length zc, gls, glo, ghi⟩ : Gn)] ++ all.drop j).map Gn.p = (all.map Gn.p).take j ++ [Gn.p (⟨.slice za gls.length zc, gls, glo, ghi⟩ : Gn)] ++ (all.map Gn.p).drop j := by simp
            rw [e9]
            refine ⟨ins_sorted HSP.out.1 (fun i hi hij => ?_) (fun hi => ?_), (ins_perm _ _ _).trans ?_⟩
            · have := hall.out i (by simpa using hi) hij
              simpa using this
            · have := h9 (by simpa using hi)
              simpa using this
            · rw [HFT.out, HFI.out, if_pos rfl]
              exact HSP.out.2.append_right _
          have HOKN : Hid (∀ g ∈ all.take j ++ [(⟨.slice za gls.length zc, gls, glo, ghi⟩ : Gn)] ++ all.drop j, GOk w g) := fun g hg => by
            rw [(ins_perm all _ j).mem_iff] at hg
            rcases List.mem_append.1 hg with h | h
            · exact HOK.out g h
            · simp at h
              subst h
              exact HGX.out
          have HBWr : Hid (Below w.heap.size w wr) := HVW.out.trans (hbv.out.mono HVW.out.size)
          obtain ⟨g0, g1, g2⟩ := HMW.out wr HBWr.out
          by_cases hjl : j < n
          · obtain ⟨b3, o3, rfl, hone3⟩ := row3n HVA.out HAN.out j hjl
            have s3 := HOK.out (all[j]'(by have := HAN.out; omega)) (List.getElem_mem _)
            obtain ⟨Y, hY⟩ : ∃ Y, Y = all[j]'(by have := HAN.out; omega) := ⟨_, rfl⟩
            rw [← hY] at hone3 s3
            have HAJ : Hid (∀ (h : j < all.length), all[j] = Y) := fun _ => hY.symm
            clear hY
            obtain ⟨yv, yls, ylo, yhi⟩ := Y
            obtain ⟨ya, yc, hya, -⟩ := id s3.lab
            dsimp only at hya hone3
            subst hya
            have HAH : Hid (∀ W, Below V.heap.size V W → Calls Tryz.prog 31 #[.agg #[.slice za gls.length zc, .int .i64 glo, .int .i64 ghi], .agg #[.slice ya yls.length yc, .int .i64 ylo, .int .i64 yhi]] W fun e w' => e = .returned (.bool (aheadF (Gn.p (⟨.slice za gls.length zc, gls, glo, ghi⟩ : Gn)) (Gn.p ⟨.slice ya yls.length yc, yls, ylo, yhi⟩))) ∧ Below V.heap.size V w') := fun W hW => (ahead_any (⟨.slice za gls.length zc, gls, glo, ghi⟩ : Gn) ⟨.slice ya yls.length yc, yls, ylo, yhi⟩ W (HGX.out.below (HVW.out.trans (hW.mono HVW.out.size))) (s3.below (HVW.out.trans (hW.mono HVW.out.size)))).mono fun e w' ⟨h1, h2⟩ => ⟨h1, hW.trans (h2.mono hW.size)⟩
            have HO : Hid (∀ W, Below V.heap.size V W → W.cell? ⟨b, o + k * 3, none⟩ = some (.slice za gls.length zc) ∧ W.cell? ⟨b, o + k * 3 + 1, none⟩ = some (.int .i64 glo) ∧ W.cell? ⟨b, o + k * 3 + 2, none⟩ = some (.int .i64 ghi) ∧ W.cell? ⟨b3, o3 + j * 3, none⟩ = some (.slice ya yls.length yc) ∧ W.cell? ⟨b3, o3 + j * 3 + 1, none⟩ = some (.int .i64 ylo) ∧ W.cell? ⟨b3, o3 + j * 3 + 2, none⟩ = some (.int .i64 yhi) ∧ Below V.heap.size V W) := fun W hW => by
              obtain ⟨f0, f1, f2⟩ := HMW.out W (HVW.out.trans (hW.mono HVW.out.size))
              obtain ⟨f3, f4, f5⟩ := hone3 W hW
              exact ⟨f0, f1, f2, f3, f4, f5, hW⟩
            obtain ⟨-, -, -, y0, y1, y2, hbr⟩ := HO.out wr hbv.out
            have hd : Below V.heap.size V wr.drew := hbv.out.drew
            have HDR : Hid (Below V.heap.size V wr.drew) := hd
            have hjl2 : (j : Int) < (n : Int) := by omega
            clear hone3 s3
            generalize hah : aheadF (Gn.p (⟨.slice za gls.length zc, gls, glo, ghi⟩ : Gn)) (Gn.p ⟨.slice ya yls.length yc, yls, ylo, yhi⟩) = ah at *
            cases ah
            · have HALL : Hid (∀ i (h : i < all.length), i < j + 1 → aheadF (Gn.p (⟨.slice za gls.length zc, gls, glo, ghi⟩ : Gn)) all[i].p = false) := fun i hi hij => by
                rcases Nat.lt_succ_iff_lt_or_eq.1 hij with h9 | h9
                · exact hall.out i hi h9
                · subst h9
                  rw [HAJ.out hi]
                  exact hah
              clear HPUT0 hall hah HAJ HOKN
              go_wp2_with fail
              go_region_held3 (fun w' => w'.cell? ⟨b, o + k * 3, none⟩ = some (.slice za gls.length zc) ∧ w'.cell? ⟨b, o + k * 3 + 1, none⟩ = some (.int .i64 glo) ∧ w'.cell? ⟨b, o + k * 3 + 2, none⟩ = some (.int .i64 ghi) ∧ w'.cell? ⟨b3, o3 + j * 3, none⟩ = some (.slice ya yls.length yc) ∧ w'.cell? ⟨b3, o3 + j * 3 + 1, none⟩ = some (.int .i64 ylo) ∧ w'.cell? ⟨b3, o3 + j * 3 + 2, none⟩ = some (.int .i64 yhi) ∧ Below V.heap.size V w')
                (first | (refine HO.out _ ?_; exact hd) | (refine HO.out _ ?_; assumption))
                (first | (go_at_call 31; refine (HAH.out _ HDR.out).mono ?_; rintro e w2 ⟨rfl, hb2⟩))
              all_goals
                go_wp2_with fail
                go_roundw
                case rel => exact ⟨j + 1, by omega, by go_num, HALL, hb2⟩
                case measure => simp [intOf]; omega
            · have HPUT : Hid (((all.take j ++ [(⟨.slice za gls.length zc, gls, glo, ghi⟩ : Gn)] ++ all.drop j).map Gn.p).Pairwise LeG ∧ ((all.take j ++ [(⟨.slice za gls.length zc, gls, glo, ghi⟩ : Gn)] ++ all.drop j).map Gn.p).Perm (((l.map Gn.p).take (k + 1)).filter fineB)) := HPUT0.out (fun h9 => by rw [HAJ.out h9]; exact hah)
              have hsc : n ≤ sc := by obtain ⟨_, _, e, h1, -⟩ := HVA.out; cases e; exact h1.1
              have hsc2 : sc ≤ 9223372036854775807 := by obtain ⟨_, _, e, h1, -⟩ := HVA.out; cases e; exact h1.2
              clear HPUT0 hall hah HAJ
              go_upto_region 7 with fail
              go_cut [42] from 27 to 44 (fun z wx => z = .bool false ∧ Below V.heap.size V wx)
              case first =>
                go_region_held3 (fun w' => w'.cell? ⟨b, o + k * 3, none⟩ = some (.slice za gls.length zc) ∧ w'.cell? ⟨b, o + k * 3 + 1, none⟩ = some (.int .i64 glo) ∧ w'.cell? ⟨b, o + k * 3 + 2, none⟩ = some (.int .i64 ghi) ∧ w'.cell? ⟨b3, o3 + j * 3, none⟩ = some (.slice ya yls.length yc) ∧ w'.cell? ⟨b3, o3 + j * 3 + 1, none⟩ = some (.int .i64 ylo) ∧ w'.cell? ⟨b3, o3 + j * 3 + 2, none⟩ = some (.int .i64 yhi) ∧ Below V.heap.size V w')
                  (first | (refine HO.out _ ?_; exact hd) | (refine HO.out _ ?_; assumption))
                  (first | (go_at_call 31; refine (HAH.out _ HDR.out).mono ?_; rintro e w2 ⟨rfl, hb2⟩))
                all_goals
                  go_wp2_with fail
                  go_meet
                  exact ⟨rfl, hb2⟩
              case rest =>
                obtain ⟨rfl, hbq⟩ := hcut
                have HBQ : Hid (Below V.heap.size V wc) := hbq
                clear hbq hbr hd HDR HO HAH g0 g1 g2 y0 y1 y2 hbv HBWr
                have HBW : Hid (Below w.heap.size w wc) := HVW.out.trans (HBQ.out.mono HVW.out.size)
                have HMC : Hid (∀ Z, Below wc.heap.size wc Z → Z.cell? ⟨b, o + k * 3, none⟩ = some (.slice za gls.length zc) ∧ Z.cell? ⟨b, o + k * 3 + 1, none⟩ = some (.int .i64 glo) ∧ Z.cell? ⟨b, o + k * 3 + 2, none⟩ = some (.int .i64 ghi)) := fun Z hZ => HMW.out Z (HBW.out.trans (hZ.mono HBW.out.size))
                have HXA : Hid (∀ Z, Below wc.heap.size wc Z → RowAt Z (.slice (some ⟨b3, o3, none⟩) n sc) 3 n (gnC all)) := fun Z hZ => RowAt.below HVA.out (HBQ.out.trans (hZ.mono HBQ.out.size))
                have HT0 : Hid (∀ Z, Below wc.heap.size wc Z → RowAt Z (.slice (some ⟨b3, o3, none⟩) j sc) 3 j (gnC (all.take j))) := fun Z hZ => row3_take (HXA.out Z hZ) HAN.out j hj
                have HT1 : Hid (∀ u ∈ gnC (all.take j), u.oneCell' = true) := gn_one (w := w) (fun g hg => HOK.out g (List.mem_of_mem_take hg))
                have HT2 : Hid (∀ u ∈ gnC (all.drop j), u.oneCell' = true) := gn_one (w := w) (fun g hg => HOK.out g (List.mem_of_mem_drop hg))
                have HD0 : Hid (∀ Z, Below wc.heap.size wc Z → RowAt Z (.slice (some ⟨b3, o3 + j * 3, none⟩) (n - j) (sc - j)) 3 (n - j) (gnC (all.drop j))) := fun Z hZ => row3_drop (HXA.out Z hZ) HAN.out j hj
                have hcj : (j : Int) ≤ (sc : Int) := by omega
                have hcj2 : ¬ (sc = j) := by omega
                clear HXA
                go_wp2_with (first
                  | (at_builtin; refine wpList_append_row appGn _ rfl _ _ rfl wc.heap.size (.slice (some ⟨wc.heap.size, 0, none⟩) 0 0) 0 [] rfl (row_empty wc _ _ (Nat.le_refl _)) _ j (gnC (all.take j)) rfl (HT0.out _ ((Below.refl _ _).alloc (Nat.le_refl _) _)) HT1.out (by omega) (by simp) ?_; intro a5 c5 w5 hr5 hg5 _; rw [Nat.zero_add, List.nil_append] at hr5; rw [Nat.zero_add]; have hb5 : Below wc.heap.size wc w5 := ((Below.refl _ wc).alloc (Nat.le_refl _) _).grown hg5 (by simp) (fun i hi => by simp [Value.ownBlock] at hi; omega); have hs5 := hb5.size; have HB5 : Hid (Below wc.heap.size wc w5) := hb5; have HR5 : Hid (w5.ownsRow wc.heap.size 39 3 (.slice a5 j c5) j (gnC (all.take j))) := hr5; obtain ⟨t0, t1, t2⟩ := HMC.out w5 hb5; clear hb5 hr5 hg5)
                  | (at_builtin; refine wpList_append_row appGn _ rfl _ _ rfl wc.heap.size (.slice a5 j c5) j (gnC (all.take j)) rfl (World.ownsRow.alloc HR5.out _) _ 1 [.slice za gls.length zc, .int .i64 glo, .int .i64 ghi] rfl (RowAt.of_block (cs := #[.slice za gls.length zc, .int .i64 glo, .int .i64 ghi]) (heap_alloc_new w5 _) rfl (by decide)) (by simp [Value.oneCell']) (by omega) (by simp; omega) ?_; intro a6 c6 w6 hr6 hg6 _; have hb6 : Below wc.heap.size wc w6 := (HB5.out.alloc hs5 _).grown hg6 (by simp; omega) (fun i hi => (World.ownsRow.lt HR5.out i hi).1); have hs6 := hb6.size; have HB6 : Hid (Below wc.heap.size wc w6) := hb6; have HR6 : Hid (w6.ownsRow wc.heap.size 39 3 (.slice a6 (j + 1) c6) (j + 1) (gnC (all.take j) ++ [.slice za gls.length zc, .int .i64 glo, .int .i64 ghi])) := hr6; clear hb6 hr6 hg6)
                  | (at_builtin; refine wpList_append_row appGn _ rfl _ _ rfl wc.heap.size (.slice a6 (j + 1) c6) (j + 1) (gnC (all.take j) ++ [.slice za gls.length zc, .int .i64 glo, .int .i64 ghi]) rfl HR6.out _ (n - j) (gnC (all.drop j)) rfl (HD0.out _ HB6.out) HT2.out (by omega) hs6 ?_; intro a7 c7 w7 hr7 hg7 _; have hb7 : Below wc.heap.size wc w7 := HB6.out.grown hg7 hs6 (fun i hi => (World.ownsRow.lt HR6.out i hi).1); have HB7 : Hid (Below wc.heap.size wc w7) := hb7; have HR7 : Hid (w7.ownsRow wc.heap.size 39 3 (.slice a7 (j + 1 + (n - j)) c7) (j + 1 + (n - j)) (gnC (all.take j) ++ [.slice za gls.length zc, .int .i64 glo, .int .i64 ghi] ++ (gnC (all.drop j)))) := hr7; clear hb7 hr7 hg7))
                all_goals
                  go_roundw
                  case rel =>
                    refine ⟨k + 1, (j + 1 + (n - j)), all.take j ++ [(⟨.slice za gls.length zc, gls, glo, ghi⟩ : Gn)] ++ all.drop j, a7, c7, by omega, by omega, by show _ = _; simp; have := HAN.out; omega, by go_num, rfl, by show RowAt _ _ _ _ _; rw [gnC_append, gnC_append]; exact RowAt.of_row HR7.out, HOKN, HPUT, HBW.out.trans (HB7.out.mono HBW.out.size)⟩
                  case measure => simp [intOf]; omega
          · have hje : j = n := by omega
            have HPUT : Hid (((all.take j ++ [(⟨.slice za gls.length zc, gls, glo, ghi⟩ : Gn)] ++ all.drop j).map Gn.p).Pairwise LeG ∧ ((all.take j ++ [(⟨.slice za gls.length zc, gls, glo, ghi⟩ : Gn)] ++ all.drop j).map Gn.p).Perm (((l.map Gn.p).take (k + 1)).filter fineB)) := HPUT0.out (fun h9 => by have := HAN.out; omega)
            have HJE : Hid (j = n) := hje
            have hsc : n ≤ sc := by obtain ⟨_, _, e, h1, -⟩ := HVA.out; cases e; exact h1.1
            have hsc2 : sc ≤ 9223372036854775807 := by obtain ⟨_, _, e, h1, -⟩ := HVA.out; cases e; exact h1.2
            have hjl2 : ¬ (j : Int) < (n : Int) := by omega
            clear HPUT0 hall hje
            go_upto_region 7 with fail
            go_quiet (fail)
            generalize hW9 : wr.drewN nq = wq
            have HBQ : Hid (Below V.heap.size V wq) := by rw [← hW9]; exact below_drewN hbv.out nq
            clear hW9 hbv HBWr g0 g1 g2
            have HBW : Hid (Below w.heap.size w wq) := HVW.out.trans (HBQ.out.mono HVW.out.size)
            have HMC : Hid (∀ Z, Below wq.heap.size wq Z → Z.cell? ⟨b, o + k * 3, none⟩ = some (.slice za gls.length zc) ∧ Z.cell? ⟨b, o + k * 3 + 1, none⟩ = some (.int .i64 glo) ∧ Z.cell? ⟨b, o + k * 3 + 2, none⟩ = some (.int .i64 ghi)) := fun Z hZ => HMW.out Z (HBW.out.trans (hZ.mono HBW.out.size))
            have HXA : Hid (∀ Z, Below wq.heap.size wq Z → RowAt Z (.slice sa n sc) 3 n (gnC all)) := fun Z hZ => RowAt.below HVA.out (HBQ.out.trans (hZ.mono HBQ.out.size))
            have HT0 : Hid (∀ Z, Below wq.heap.size wq Z → RowAt Z (.slice sa j sc) 3 j (gnC (all.take j))) := fun Z hZ => row3_take (HXA.out Z hZ) HAN.out j hj
            have HT1 : Hid (∀ u ∈ gnC (all.take j), u.oneCell' = true) := gn_one (w := w) (fun g hg => HOK.out g (List.mem_of_mem_take hg))
            have HT2 : Hid (∀ u ∈ gnC (all.drop j), u.oneCell' = true) := gn_one (w := w) (fun g hg => HOK.out g (List.mem_of_mem_drop hg))
            have hcj : (j : Int) ≤ (sc : Int) := by omega
            have hzero : n - j = 0 := by omega
            clear HXA
            cases sa with
            | none =>
              go_wp2_with (first
                | (at_builtin; refine wpList_append_row appGn _ rfl _ _ rfl wq.heap.size (.slice (some ⟨wq.heap.size, 0, none⟩) 0 0) 0 [] rfl (row_empty wq _ _ (Nat.le_refl _)) _ j (gnC (all.take j)) rfl (HT0.out _ ((Below.refl _ _).alloc (Nat.le_refl _) _)) HT1.out (by omega) (by simp) ?_; intro a5 c5 w5 hr5 hg5 _; rw [Nat.zero_add, List.nil_append] at hr5; rw [Nat.zero_add]; have hb5 : Below wq.heap.size wq w5 := ((Below.refl _ wq).alloc (Nat.le_refl _) _).grown hg5 (by simp) (fun i hi => by simp [Value.ownBlock] at hi; omega); have hs5 := hb5.size; have HB5 : Hid (Below wq.heap.size wq w5) := hb5; have HR5 : Hid (w5.ownsRow wq.heap.size 39 3 (.slice a5 j c5) j (gnC (all.take j))) := hr5; obtain ⟨t0, t1, t2⟩ := HMC.out w5 hb5; clear hb5 hr5 hg5)
                | (at_builtin; refine wpList_append_row appGn _ rfl _ _ rfl wq.heap.size (.slice a5 j c5) j (gnC (all.take j)) rfl (World.ownsRow.alloc HR5.out _) _ 1 [.slice za gls.length zc, .int .i64 glo, .int .i64 ghi] rfl (RowAt.of_block (cs := #[.slice za gls.length zc, .int .i64 glo, .int .i64 ghi]) (heap_alloc_new w5 _) rfl (by decide)) (by simp [Value.oneCell']) (by omega) (by simp; omega) ?_; intro a6 c6 w6 hr6 hg6 _; have hb6 : Below wq.heap.size wq w6 := (HB5.out.alloc hs5 _).grown hg6 (by simp; omega) (fun i hi => (World.ownsRow.lt HR5.out i hi).1); have hs6 := hb6.size; have HB6 : Hid (Below wq.heap.size wq w6) := hb6; have HR6 : Hid (w6.ownsRow wq.heap.size 39 3 (.slice a6 (j + 1) c6) (j + 1) (gnC (all.take j) ++ [.slice za gls.length zc, .int .i64 glo, .int .i64 ghi])) := hr6; clear hb6 hr6 hg6)
                | (at_builtin; refine wpList_append_row appGn _ rfl _ _ rfl wq.heap.size (.slice a6 (j + 1) c6) (j + 1) (gnC (all.take j) ++ [.slice za gls.length zc, .int .i64 glo, .int .i64 ghi]) rfl HR6.out _ 0 [] rfl (RowAt.none3 _ _ (by unfold maxLen; omega)) (by simp) (by omega) hs6 ?_; intro a7 c7 w7 hr7 hg7 _; have hb7 : Below wq.heap.size wq w7 := HB6.out.grown hg7 hs6 (fun i hi => (World.ownsRow.lt HR6.out i hi).1); have HB7 : Hid (Below wq.heap.size wq w7) := hb7; have HR7 : Hid (w7.ownsRow wq.heap.size 39 3 (.slice a7 (j + 1 + 0) c7) (j + 1 + 0) (gnC (all.take j) ++ [.slice za gls.length zc, .int .i64 glo, .int .i64 ghi] ++ [])) := hr7; clear hb7 hr7 hg7))
              all_goals
                go_roundw
                case rel =>
                  refine ⟨k + 1, (j + 1 + 0), all.take j ++ [(⟨.slice za gls.length zc, gls, glo, ghi⟩ : Gn)] ++ all.drop j, a7, c7, by omega, by omega, by show _ = _; simp; have := HAN.out; have := HJE.out; omega, by go_num, rfl, by show RowAt _ _ _ _ _; rw [List.drop_of_length_le (by have := HAN.out; have := HJE.out; omega), List.append_nil, gnC_append]; have h9 := RowAt.of_row HR7.out; rw [List.append_nil] at h9; exact h9, HOKN, HPUT, HBW.out.trans (HB7.out.mono HBW.out.size)⟩
                case measure => simp [intOf]; omega
            | some ad =>
              go_wp2_with (first
                | (at_builtin; refine wpList_append_row appGn _ rfl _ _ rfl wq.heap.size (.slice (some ⟨wq.heap.size, 0, none⟩) 0 0) 0 [] rfl (row_empty wq _ _ (Nat.le_refl _)) _ j (gnC (all.take j)) rfl (HT0.out _ ((Below.refl _ _).alloc (Nat.le_refl _) _)) HT1.out (by omega) (by simp) ?_; intro a5 c5 w5 hr5 hg5 _; rw [Nat.zero_add, List.nil_append] at hr5; rw [Nat.zero_add]; have hb5 : Below wq.heap.size wq w5 := ((Below.refl _ wq).alloc (Nat.le_refl _) _).grown hg5 (by simp) (fun i hi => by simp [Value.ownBlock] at hi; omega); have hs5 := hb5.size; have HB5 : Hid (Below wq.heap.size wq w5) := hb5; have HR5 : Hid (w5.ownsRow wq.heap.size 39 3 (.slice a5 j c5) j (gnC (all.take j))) := hr5; obtain ⟨t0, t1, t2⟩ := HMC.out w5 hb5; clear hb5 hr5 hg5)
                | (at_builtin; refine wpList_append_row appGn _ rfl _ _ rfl wq.heap.size (.slice a5 j c5) j (gnC (all.take j)) rfl (World.ownsRow.alloc HR5.out _) _ 1 [.slice za gls.length zc, .int .i64 glo, .int .i64 ghi] rfl (RowAt.of_block (cs := #[.slice za gls.length zc, .int .i64 glo, .int .i64 ghi]) (heap_alloc_new w5 _) rfl (by decide)) (by simp [Value.oneCell']) (by omega) (by simp; omega) ?_; intro a6 c6 w6 hr6 hg6 _; have hb6 : Below wq.heap.size wq w6 := (HB5.out.alloc hs5 _).grown hg6 (by simp; omega) (fun i hi => (World.ownsRow.lt HR5.out i hi).1); have hs6 := hb6.size; have HB6 : Hid (Below wq.heap.size wq w6) := hb6; have HR6 : Hid (w6.ownsRow wq.heap.size 39 3 (.slice a6 (j + 1) c6) (j + 1) (gnC (all.take j) ++ [.slice za gls.length zc, .int .i64 glo, .int .i64 ghi])) := hr6; clear hb6 hr6 hg6)
                | (at_builtin; refine wpList_append_row appGn _ rfl _ _ rfl wq.heap.size (.slice a6 (j + 1) c6) (j + 1) (gnC (all.take j) ++ [.slice za gls.length zc, .int .i64 glo, .int .i64 ghi]) rfl HR6.out _ 0 [] rfl (RowAt.none3 _ _ (by unfold maxLen; omega)) (by simp) (by omega) hs6 ?_; intro a7 c7 w7 hr7 hg7 _; have hb7 : Below wq.heap.size wq w7 := HB6.out.grown hg7 hs6 (fun i hi => (World.ownsRow.lt HR6.out i hi).1); have HB7 : Hid (Below wq.heap.size wq w7) := hb7; have HR7 : Hid (w7.ownsRow wq.heap.size 39 3 (.slice a7 (j + 1 + 0) c7) (j + 1 + 0) (gnC (all.take j) ++ [.slice za gls.length zc, .int .i64 glo, .int .i64 ghi] ++ [])) := hr7; clear hb7 hr7 hg7))
              all_goals
                go_roundw
                case rel =>
                  refine ⟨k + 1, (j + 1 + 0), all.take j ++ [(⟨.slice za gls.length zc, gls, glo, ghi⟩ : Gn)] ++ all.drop j, a7, c7, by omega, by omega, by show _ = _; simp; have := HAN.out; have := HJE.out; omega, by go_num, rfl, by show RowAt _ _ _ _ _; rw [List.drop_of_length_le (by have := HAN.out; have := HJE.out; omega), List.append_nil, gnC_append]; have h9 := RowAt.of_row HR7.out; rw [List.append_nil] at h9; exact h9, HOKN, HPUT, HBW.out.trans (HB7.out.mono HBW.out.size)⟩
                case measure => simp [intOf]; omega
    · have e9 : (l.map Gn.p).take k = l.map Gn.p := List.take_of_length_le (by simp; omega)
      rw [e9] at HSP
      have HVB : Hid (Below w.heap.size w wr) := hb
      have HVA : Hid (RowAt wr (.slice sa n sc) 3 n (gnC all)) := HRA
      clear hb HRA HC e9
      obtain ⟨V, hV⟩ : ∃ V, V = wr := ⟨_, rfl⟩
      subst hV
      go_wp2
      go_loopw [7, 8, 9] (fun s i _ wm => ∃ (p m : Nat) (out : List Gn) (oa : Option Addr) (oc : Nat), p ≤ n ∧ m ≤ p ∧ Hid (out.length = m) ∧ i = .int .i64 p ∧ s = .slice oa m oc ∧ Hid (wm.ownsRow V.heap.size 39 3 (.slice oa m oc) m (gnC out)) ∧ Hid (∀ g ∈ out, GOk w g) ∧ Hid (out.map Gn.p = uF ((all.map Gn.p).take p)) ∧ Hid (Below V.heap.size V wm)) (fun _ i _ _ => n - (intOf i).toNat)
      case atStart => exact ⟨0, 0, [], none, 0, Nat.zero_le _, Nat.zero_le _, rfl, rfl, rfl, ⟨rfl, Or.inl ⟨rfl, rfl⟩⟩, fun g hg => by simp at hg, rfl, Below.refl _ _⟩
      case round =>
        obtain ⟨p, m, out, oa, oc, hp, hm, HOM, rfl, rfl, HRO, HOO, HUF, hbv⟩ := hrel
        by_cases hpl : p < n
        · obtain ⟨b, o, rfl, hone⟩ := row3n HVA.out HAN.out p hpl
          have s1 := HOK.out (all[p]'(by have := HAN.out; omega)) (List.getElem_mem _)
          obtain ⟨G, hGe⟩ : ∃ G, G = all[p]'(by have := HAN.out; omega) := ⟨_, rfl⟩
          rw [← hGe] at hone s1
          have HU1 : Hid (uF ((all.map Gn.p).take (p + 1)) = addU (out.map Gn.p) G.p) := by
            show _ = _
            rw [List.take_succ_eq_append_getElem (by simp; have := HAN.out; omega), uF_snoc, HUF.out]
            simp [hGe]
          obtain ⟨gv, gls, glo, ghi⟩ := G
          obtain ⟨za, zc, hza, -⟩ := id s1.lab
          dsimp only at hza hone
          subst hza
          have HGX : Hid (GOk w (⟨.slice za gls.length zc, gls, glo, ghi⟩ : Gn)) := s1
          obtain ⟨g0, g1, g2⟩ := hone wr hbv.out
          have hpl2 : (p : Int) < (n : Int) := by omega
          have HA : Hid (∀ W, DrW wr W → ∀ o, (W.alloc o).ownsRow V.heap.size 39 3 (.slice oa m oc) m (gnC out) ∧ V.heap.size ≤ (W.alloc o).heap.size) := fun W hW o => by
            refine ⟨(row_below HRO.out hW.below).alloc o, ?_⟩
            have h1 := hbv.out.size
            have h2 := hW.below.size
            simp
            omega
          have HA2 : Hid (∀ W, DrW wr W → ∀ (o : Obj) (a5 : Option Addr) (c5 : Nat) (w5 : World), w5.ownsRow V.heap.size 39 3 (.slice a5 (m + 1) c5) (m + 1) (gnC out ++ [.slice za gls.length zc, .int .i64 glo, .int .i64 ghi]) → (W.alloc o).grownBy w5 (Value.slice oa m oc).ownBlock → Below V.heap.size V w5) := fun W hW o a5 c5 w5 _ hg5 => by
            have h1 := hbv.out.trans (hW.below.mono hbv.out.size)
            exact (h1.alloc h1.size o).grown hg5 (HA.out W hW o).2 (fun i hi => (HRO.out.lt i hi).1)
          clear hone s1 hGe HUF
          by_cases hm0 : m = 0
          · have h0 : out = [] := List.eq_nil_of_length_eq_zero (HOM.out.trans hm0)
            subst h0
            have hd1 : decide ((0 : Int) < (m : Int)) = false := decide_eq_false (by omega)
            have hd2 : decide (0 < m) = false := decide_eq_false (by omega)
            have hd3 : ¬ (0 : Int) < (m : Int) := by omega
            clear hm0
            have HU3 : Hid (([] ++ [(⟨.slice za gls.length zc, gls, glo, ghi⟩ : Gn)] : List Gn).map Gn.p = uF ((all.map Gn.p).take (p + 1))) := by show _ = _; rw [HU1.out]; rfl
            have HOK2 : Hid (∀ g ∈ ([] ++ [(⟨.slice za gls.length zc, gls, glo, ghi⟩ : Gn)] : List Gn), GOk w g) := fun g hg => by
              simp at hg
              subst hg
              exact HGX.out
            clear HU1
            go_wp2_with fail
            go_quiet (fail)
            generalize hW9 : wr.drewN nq = wq
            have HDQ : Hid (DrW wr wq) := by rw [← hW9]; exact ⟨nq, rfl⟩
            have t0 : wq.cell? ⟨b, o + p * 3, none⟩ = some (.slice za gls.length zc) := by rw [← hW9]; exact g0
            have t1 : wq.cell? ⟨b, o + p * 3 + 1, none⟩ = some (.int .i64 glo) := by rw [← hW9]; exact g1
            have t2 : wq.cell? ⟨b, o + p * 3 + 2, none⟩ = some (.int .i64 ghi) := by rw [← hW9]; exact g2
            clear hW9 g0 g1 g2
            go_wp2_with (at_builtin; refine wpList_append_row appGn _ rfl _ _ rfl V.heap.size _ m (gnC []) rfl (HA.out _ HDQ.out _).1 _ 1 [.slice za gls.length zc, .int .i64 glo, .int .i64 ghi] rfl (RowAt.of_block (cs := #[.slice za gls.length zc, .int .i64 glo, .int .i64 ghi]) (heap_alloc_new wq _) rfl (by decide)) (by simp [Value.oneCell']) (by omega) (HA.out _ HDQ.out _).2 ?_; intro a5 c5 w5 hr5 hg5 _; have hb5 := HA2.out _ HDQ.out _ a5 c5 w5 hr5 hg5; have HR5 : Hid (w5.ownsRow V.heap.size 39 3 (.slice a5 (m + 1) c5) (m + 1) (gnC [] ++ [.slice za gls.length zc, .int .i64 glo, .int .i64 ghi])) := hr5; have HB5 : Hid (Below V.heap.size V w5) := hb5; clear hr5 hg5 hb5)
            go_roundw
            case rel => exact ⟨p + 1, m + 1, [] ++ [(⟨.slice za gls.length zc, gls, glo, ghi⟩ : Gn)], a5, c5, by omega, by omega, by show _ = _; rw [List.length_append, HOM.out]; rfl, by go_num, rfl, by show World.ownsRow _ _ _ _ _ _ _; rw [gnC_append]; exact HR5.out, HOK2, HU3, HB5⟩
            case measure => simp [intOf]; omega
          · obtain ⟨r, oo, hro⟩ : ∃ r oo, out = r ++ [oo] := by
              rcases List.eq_nil_or_concat out with h9 | ⟨r, oo, h9⟩
              · have := HOM.out
                rw [h9] at this
                exact absurd this.symm hm0
              · exact ⟨r, oo, by simpa using h9⟩
            subst hro
            obtain ⟨mm, hmm⟩ : ∃ mm, mm = r.length := ⟨_, rfl⟩
            have hm9 : m = mm + 1 := by have := HOM.out; simp at this; omega
            have HMM : Hid (mm = r.length) := hmm
            clear hmm
            have hwr9 : IntKind.i64.wrap ((m : Int) - 1) = (mm : Int) := by rw [wrap_in (by omega) (by omega)]; omega
            have hmi : (mm : Int) < (m : Int) := by omega
            have hd1 : decide ((0 : Int) < (m : Int)) = true := decide_eq_true (by omega)
            have hd2 : decide (0 < m) = true := decide_eq_true (by omega)
            have HM9 : Hid (m = mm + 1) := hm9
            obtain ⟨og, rfl⟩ : ∃ og, oa = some ⟨og, 0, none⟩ := by
              rcases HRO.out.2 with ⟨e, h0⟩ | ⟨og, cap, cur, e, _⟩
              · exact absurd h0 hm0
              · cases e
                exact ⟨og, rfl⟩
            have HGO0 := HOO.out oo (by simp)
            obtain ⟨ov, ols, olo, ohi⟩ := oo
            obtain ⟨ya, yc, hya, -⟩ := id HGO0.lab
            dsimp only at hya
            subst hya
            have HGO : Hid (GOk w ⟨.slice ya ols.length yc, ols, olo, ohi⟩) := HGO0
            have hcl : wr.cell? ⟨og, mm * 3, none⟩ = some (.slice ya ols.length yc) ∧ wr.cell? ⟨og, mm * 3 + 1, none⟩ = some (.int .i64 olo) ∧ wr.cell? ⟨og, mm * 3 + 2, none⟩ = some (.int .i64 ohi) := by
              obtain ⟨b9, o9, e9, h9⟩ := row3n (RowAt.of_row HRO.out) HOM.out mm (by omega)
              cases e9
              have h8 := h9 wr (Below.refl _ _)
              have e8 : (r ++ [(⟨.slice ya ols.length yc, ols, olo, ohi⟩ : Gn)])[mm]'(by have := HMM.out; simp; omega) = ⟨.slice ya ols.length yc, ols, olo, ohi⟩ := by
                have := HMM.out
                subst this
                simp
              rw [e8] at h8
              simpa using h8
            obtain ⟨y0, y1, y2⟩ := hcl
            have y3 : wr.frozen? ⟨og, mm * 3 + 2, none⟩ = false := (row_cell HRO.out (j := mm * 3 + 2) (by omega)).2
            have HST0 : Hid (∀ W, DrW wr W → W.ownsRow V.heap.size 39 3 (.slice (some ⟨og, 0, none⟩) m oc) m (gnC (r ++ [⟨.slice ya ols.length yc, ols, olo, ohi⟩])) ∧ Below V.heap.size V W) := fun W hW => ⟨row_below HRO.out hW.below, hbv.out.trans (hW.below.mono hbv.out.size)⟩
            have HST : Hid (∀ W, DrW wr W → ∀ h9 : Int, (W.setCell ⟨og, mm * 3 + 2, none⟩ (.int .i64 h9)).ownsRow V.heap.size 39 3 (.slice (some ⟨og, 0, none⟩) m oc) m (gnC (r ++ [⟨.slice ya ols.length yc, ols, olo, h9⟩])) ∧ Below V.heap.size V (W.setCell ⟨og, mm * 3 + 2, none⟩ (.int .i64 h9))) := fun W hW h9 => by
              have h1 := HST0.out W hW
              have h2 := ownsRow_set h1.1 (g := og) rfl (i := mm * 3 + 2) (.int .i64 h9)
              rw [HMM.out, gnC_last, ← HMM.out] at h2
              refine ⟨h2, h1.2.trans (Kept.toBelow (O := fun k => k = og) (Kept.setCell (O := fun k => k = og) (p := ⟨og, mm * 3 + 2, none⟩) (Kept.refl _ W) (fun _ => rfl) _) h1.2.size (fun i hi => ?_))⟩
              subst hi
              exact (h1.1.lt i rfl).1
            have HU2 : Hid (uF ((all.map Gn.p).take (p + 1)) = if metG (ols, olo, ohi) (gls, glo, ghi) then r.map Gn.p ++ [(ols, olo, max ohi ghi)] else r.map Gn.p ++ [(ols, olo, ohi), (gls, glo, ghi)]) := by
              show _ = _
              rw [HU1.out, List.map_append, List.map_cons, List.map_nil, addU_snoc]
              rfl
            have HCM0 : Hid (∀ W, DrW wr W → Calls Tryz.prog 16 #[.slice ya ols.length yc, .slice za gls.length zc] W fun e w' => e = .returned (.int .i64 (cmpL ols gls)) ∧ DrW W w') := fun W hW => by
              have h1 : Below w.heap.size w W := (HVB.out.trans (hbv.out.mono HVB.out.size)).trans (hW.below.mono (HVB.out.trans (hbv.out.mono HVB.out.size)).size)
              exact refCompare_any _ _ ols gls W (HGO.out.lab.below h1) (HGX.out.lab.below h1) (by have := HGO.out.few; dsimp only at this; omega) (by have := HGX.out.few; dsimp only at this; omega)
            have hlo1 := HGX.out.lo1
            have hlo2 := HGX.out.lo2
            have hhi1 := HGO0.hi1
            have hhi2 := HGO0.hi2
            dsimp only at hlo1 hlo2 hhi1 hhi2
            have HOK3 : Hid (∀ g ∈ r ++ [⟨.slice ya ols.length yc, ols, olo, ohi⟩] ++ [(⟨.slice za gls.length zc, gls, glo, ghi⟩ : Gn)], GOk w g) := fun g hg => by
              rcases List.mem_append.1 hg with h9 | h9
              · exact HOO.out g h9
              · simp at h9
                subst h9
                exact HGX.out
            clear HU1 HGO0 hm0 hm9
            generalize hcz : cmpL ols gls = cz at *
            by_cases e0 : cz = 0
            · have HCM : Hid (∀ W, DrW wr W → Calls Tryz.prog 16 #[.slice ya ols.length yc, .slice za gls.length zc] W fun e w' => e = .returned (.int .i64 0) ∧ DrW W w') := fun W hW => by have := HCM0.out W hW; rw [e0] at this; exact this
              have hee : ols = gls := (tcL.zero _ _).1 (by rw [hcz]; exact e0)
              have HEE : Hid (ols = gls) := hee
              clear HCM0 e0 hcz hee
              by_cases e1 : glo ≤ ohi
              · have HMT : metG (ols, olo, ohi) (gls, glo, ghi) = true := by simp only [metG, Bool.and_eq_true, decide_eq_true_eq]; exact ⟨HEE.out, by omega⟩
                have d1 : decide (glo ≤ ohi) = true := decide_eq_true e1
                have HMT' : Hid (metG (ols, olo, ohi) (gls, glo, ghi) = true) := HMT
                clear HMT HOK3 HA HA2
                by_cases e5 : ohi < ghi
                · have HU3 : Hid ((r ++ [(⟨.slice ya ols.length yc, ols, olo, ghi⟩ : Gn)]).map Gn.p = uF ((all.map Gn.p).take (p + 1))) := by
                    show _ = _
                    rw [HU2.out, HMT'.out, if_pos rfl, Int.max_eq_right (by omega)]
                    simp [Gn.p]
                  have HOK2 : Hid (∀ g ∈ r ++ [(⟨.slice ya ols.length yc, ols, olo, ghi⟩ : Gn)], GOk w g) := fun g hg => by
                    rcases List.mem_append.1 hg with h9 | h9
                    · exact HOO.out g (List.mem_append.2 (Or.inl h9))
                    · simp at h9
                      subst h9
                      exact ⟨HGO.out.lab, HGO.out.few, HGO.out.lo1, HGO.out.lo2, HGX.out.hi1, HGX.out.hi2⟩
                  go_wp2_with fail
                  go_quiet (first | (go_at_call 16; exact Calls.quiet_of (HCM.out _ ⟨_, rfl⟩)))
                  go_wp2_with fail
                  go_quiet (fail)
                  go_wp2
                  go_roundw
                  case rel =>
                    refine ⟨p + 1, m, _, some ⟨og, 0, none⟩, oc, by omega, by omega, by show _ = _; have := HOM.out; simp at this ⊢; omega, by go_num, rfl, (HST.out _ ?_ ghi).1, HOK2, HU3, (HST.out _ ?_ ghi).2⟩ <;> first | exact DrW.drewN (DrW.refl wr) _ | exact DrW.drewN (DrW.drewN (DrW.refl wr) _) _
                  case measure => simp [intOf]; omega
                · have HU3 : Hid ((r ++ [(⟨.slice ya ols.length yc, ols, olo, ohi⟩ : Gn)]).map Gn.p = uF ((all.map Gn.p).take (p + 1))) := by
                    show _ = _
                    rw [HU2.out, HMT'.out, if_pos rfl, Int.max_eq_left (by omega)]
                    simp [Gn.p]
                  go_wp2_with fail
                  go_quiet (first | (go_at_call 16; exact Calls.quiet_of (HCM.out _ ⟨_, rfl⟩)))
                  go_wp2_with fail
                  go_quiet (fail)
                  go_wp2
                  go_roundw
                  case rel =>
                    refine ⟨p + 1, m, _, some ⟨og, 0, none⟩, oc, by omega, by omega, HOM, by go_num, rfl, (HST0.out _ ?_).1, HOO, HU3, (HST0.out _ ?_).2⟩ <;> first | exact DrW.drewN (DrW.refl wr) _ | exact DrW.drewN (DrW.drewN (DrW.refl wr) _) _
                  case measure => simp [intOf]; omega
              · have d1 : decide (glo ≤ ohi) = false := decide_eq_false e1
                have hw2 : IntKind.i64.wrap (glo - 1) = glo - 1 := wrap_in (by omega) (by omega)
                by_cases e2 : glo - 1 = ohi
                · have HMT : metG (ols, olo, ohi) (gls, glo, ghi) = true := by simp only [metG, Bool.and_eq_true, decide_eq_true_eq]; exact ⟨HEE.out, by omega⟩
                  have d2 : decide (glo - 1 = ohi) = true := decide_eq_true e2
                  have d3 : (glo - 1 == ohi) = true := by simpa using e2
                  have HMT' : Hid (metG (ols, olo, ohi) (gls, glo, ghi) = true) := HMT
                  clear HMT HOK3 HA HA2
                  by_cases e5 : ohi < ghi
                  · have HU3 : Hid ((r ++ [(⟨.slice ya ols.length yc, ols, olo, ghi⟩ : Gn)]).map Gn.p = uF ((all.map Gn.p).take (p + 1))) := by
                      show _ = _
                      rw [HU2.out, HMT'.out, if_pos rfl, Int.max_eq_right (by omega)]
                      simp [Gn.p]
                    have HOK2 : Hid (∀ g ∈ r ++ [(⟨.slice ya ols.length yc, ols, olo, ghi⟩ : Gn)], GOk w g) := fun g hg => by
                      rcases List.mem_append.1 hg with h9 | h9
                      · exact HOO.out g (List.mem_append.2 (Or.inl h9))
                      · simp at h9
                        subst h9
                        exact ⟨HGO.out.lab, HGO.out.few, HGO.out.lo1, HGO.out.lo2, HGX.out.hi1, HGX.out.hi2⟩
                    go_wp2_with fail
                    go_quiet (first | (go_at_call 16; exact Calls.quiet_of (HCM.out _ ⟨_, rfl⟩)))
                    go_wp2_with fail
                    go_quiet (fail)
                    go_wp2
                    go_roundw
                    case rel =>
                      refine ⟨p + 1, m, _, some ⟨og, 0, none⟩, oc, by omega, by omega, by show _ = _; have := HOM.out; simp at this ⊢; omega, by go_num, rfl, (HST.out _ ?_ ghi).1, HOK2, HU3, (HST.out _ ?_ ghi).2⟩ <;> first | exact DrW.drewN (DrW.refl wr) _ | exact DrW.drewN (DrW.drewN (DrW.refl wr) _) _
                    case measure => simp [intOf]; omega
                  · have HU3 : Hid ((r ++ [(⟨.slice ya ols.length yc, ols, olo, ohi⟩ : Gn)]).map Gn.p = uF ((all.map Gn.p).take (p + 1))) := by
                      show _ = _
                      rw [HU2.out, HMT'.out, if_pos rfl, Int.max_eq_left (by omega)]
                      simp [Gn.p]
                    go_wp2_with fail
                    go_quiet (first | (go_at_call 16; exact Calls.quiet_of (HCM.out _ ⟨_, rfl⟩)))
                    go_wp2_with fail
                    go_quiet (fail)
                    go_wp2
                    go_roundw
                    case rel =>
                      refine ⟨p + 1, m, _, some ⟨og, 0, none⟩, oc, by omega, by omega, HOM, by go_num, rfl, (HST0.out _ ?_).1, HOO, HU3, (HST0.out _ ?_).2⟩ <;> first | exact DrW.drewN (DrW.refl wr) _ | exact DrW.drewN (DrW.drewN (DrW.refl wr) _) _
                    case measure => simp [intOf]; omega
                · have HU3 : Hid ((r ++ [(⟨.slice ya ols.length yc, ols, olo, ohi⟩ : Gn)] ++ [(⟨.slice za gls.length zc, gls, glo, ghi⟩ : Gn)]).map Gn.p = uF ((all.map Gn.p).take (p + 1))) := by
                    show _ = _
                    rw [HU2.out, if_neg (by simp only [metG, Bool.and_eq_true, decide_eq_true_eq]; rintro ⟨-, h9⟩; omega)]
                    simp [Gn.p]
                  have HOK2 := HOK3
                  have d2 : decide (glo - 1 = ohi) = false := decide_eq_false e2
                  have d3 : (glo - 1 == ohi) = false := by simpa using e2
                  clear HU2 HST HST0
                  go_wp2_with fail
                  go_quiet (first | (go_at_call 16; exact Calls.quiet_of (HCM.out _ ⟨_, rfl⟩)))
                  generalize hW9 : wr.drewN nq = wq
                  have HDQ : Hid (DrW wr wq) := by rw [← hW9]; exact ⟨nq, rfl⟩
                  have t0 : wq.cell? ⟨b, o + p * 3, none⟩ = some (.slice za gls.length zc) := by rw [← hW9]; exact g0
                  have t1 : wq.cell? ⟨b, o + p * 3 + 1, none⟩ = some (.int .i64 glo) := by rw [← hW9]; exact g1
                  have t2 : wq.cell? ⟨b, o + p * 3 + 2, none⟩ = some (.int .i64 ghi) := by rw [← hW9]; exact g2
                  clear hW9 g0 g1 g2
                  go_wp2_with (at_builtin; refine wpList_append_row appGn _ rfl _ _ rfl V.heap.size _ m (gnC (r ++ [⟨.slice ya ols.length yc, ols, olo, ohi⟩])) rfl (HA.out _ HDQ.out _).1 _ 1 [.slice za gls.length zc, .int .i64 glo, .int .i64 ghi] rfl (RowAt.of_block (cs := #[.slice za gls.length zc, .int .i64 glo, .int .i64 ghi]) (heap_alloc_new wq _) rfl (by decide)) (by simp [Value.oneCell']) (by omega) (HA.out _ HDQ.out _).2 ?_; intro a5 c5 w5 hr5 hg5 _; have hb5 := HA2.out _ HDQ.out _ a5 c5 w5 hr5 hg5; have HR5 : Hid (w5.ownsRow V.heap.size 39 3 (.slice a5 (m + 1) c5) (m + 1) (gnC (r ++ [⟨.slice ya ols.length yc, ols, olo, ohi⟩]) ++ [.slice za gls.length zc, .int .i64 glo, .int .i64 ghi])) := hr5; have HB5 : Hid (Below V.heap.size V w5) := hb5; clear hr5 hg5 hb5)
                  go_roundw
                  case rel => exact ⟨p + 1, m + 1, (r ++ [⟨.slice ya ols.length yc, ols, olo, ohi⟩]) ++ [(⟨.slice za gls.length zc, gls, glo, ghi⟩ : Gn)], a5, c5, by omega, by omega, by show _ = _; rw [List.length_append, HOM.out]; rfl, by go_num, rfl, by show World.ownsRow _ _ _ _ _ _ _; rw [gnC_append]; exact HR5.out, HOK2, HU3, HB5⟩
                  case measure => simp [intOf]; omega
            · have HU3 : Hid ((r ++ [(⟨.slice ya ols.length yc, ols, olo, ohi⟩ : Gn)] ++ [(⟨.slice za gls.length zc, gls, glo, ghi⟩ : Gn)]).map Gn.p = uF ((all.map Gn.p).take (p + 1))) := by
                show _ = _
                rw [HU2.out, if_neg (by simp only [metG, Bool.and_eq_true, decide_eq_true_eq]; rintro ⟨h9, -⟩; exact e0 (by rw [← hcz]; exact (tcL.zero _ _).2 h9))]
                simp [Gn.p]
              have HCM := HCM0
              have HOK2 := HOK3
              have d0 : decide (cz = 0) = false := decide_eq_false e0
              have d0' : (cz == 0) = false := by simpa using e0
              clear HU2 HST HST0 HCM0 hcz
              go_wp2_with fail
              go_quiet (first | (go_at_call 16; exact Calls.quiet_of (HCM.out _ ⟨_, rfl⟩)))
              generalize hW9 : wr.drewN nq = wq
              have HDQ : Hid (DrW wr wq) := by rw [← hW9]; exact ⟨nq, rfl⟩
              have t0 : wq.cell? ⟨b, o + p * 3, none⟩ = some (.slice za gls.length zc) := by rw [← hW9]; exact g0
              have t1 : wq.cell? ⟨b, o + p * 3 + 1, none⟩ = some (.int .i64 glo) := by rw [← hW9]; exact g1
              have t2 : wq.cell? ⟨b, o + p * 3 + 2, none⟩ = some (.int .i64 ghi) := by rw [← hW9]; exact g2
              clear hW9 g0 g1 g2
              go_wp2_with (at_builtin; refine wpList_append_row appGn _ rfl _ _ rfl V.heap.size _ m (gnC (r ++ [⟨.slice ya ols.length yc, ols, olo, ohi⟩])) rfl (HA.out _ HDQ.out _).1 _ 1 [.slice za gls.length zc, .int .i64 glo, .int .i64 ghi] rfl (RowAt.of_block (cs := #[.slice za gls.length zc, .int .i64 glo, .int .i64 ghi]) (heap_alloc_new wq _) rfl (by decide)) (by simp [Value.oneCell']) (by omega) (HA.out _ HDQ.out _).2 ?_; intro a5 c5 w5 hr5 hg5 _; have hb5 := HA2.out _ HDQ.out _ a5 c5 w5 hr5 hg5; have HR5 : Hid (w5.ownsRow V.heap.size 39 3 (.slice a5 (m + 1) c5) (m + 1) (gnC (r ++ [⟨.slice ya ols.length yc, ols, olo, ohi⟩]) ++ [.slice za gls.length zc, .int .i64 glo, .int .i64 ghi])) := hr5; have HB5 : Hid (Below V.heap.size V w5) := hb5; clear hr5 hg5 hb5)
              go_roundw
              case rel => exact ⟨p + 1, m + 1, (r ++ [⟨.slice ya ols.length yc, ols, olo, ohi⟩]) ++ [(⟨.slice za gls.length zc, gls, glo, ghi⟩ : Gn)], a5, c5, by omega, by omega, by show _ = _; rw [List.length_append, HOM.out]; rfl, by go_num, rfl, by show World.ownsRow _ _ _ _ _ _ _; rw [gnC_append]; exact HR5.out, HOK2, HU3, HB5⟩
              case measure => simp [intOf]; omega
        · have e9 : (all.map Gn.p).take p = all.map Gn.p := List.take_of_length_le (by simp; have := HAN.out; omega)
          rw [e9] at HUF
          have HF : Hid (∃ out s, GRow w wr (.slice oa m oc) out ∧ s.Pairwise LeG ∧ s.Perm ((l.map Gn.p).filter fineB) ∧ out.map Gn.p = uF s) := ⟨out, all.map Gn.p, ⟨by rw [HOM.out]; exact row_mono HRO.out HVB.out.size, fun g hg => (HOO.out g hg).inn, HVB.out.trans (hbv.out.mono HVB.out.size)⟩, HSP.out.1, HSP.out.2, HUF.out⟩
          clear e9 HUF HSP HRO HOO hbv
          go_wp2
          go_ret
          exact ⟨_, rfl, HF.out⟩

end Go.Proofs.YtjnjmpfldbkciaaGreat
