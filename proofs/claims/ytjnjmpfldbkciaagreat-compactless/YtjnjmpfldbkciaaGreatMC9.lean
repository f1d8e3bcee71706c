/- The document's Less, walked. -/
import Derived.Test.YtjnjmpfldbkciaaGreatMC8
import Derived.Test.YtjnjmpfldbkciaaGreatC7
namespace Go.Proofs.YtjnjmpfldbkciaaGreat
open Go.RowKit Go.Maps
attribute [local go_sem] run_store_fl

set_option maxRecDepth 100000 in
set_option maxHeartbeats 8000000 in
theorem refLess_any (v u : Value) (l : List Sr) (g : List Gn) (w : World) (h : SrAt w v l) (hg : GnAt w u g) (hl : l.length ≤ 12) (hgl : g.length ≤ 12) :
    Calls Tryz.prog 6 #[v, u] w fun e w' => ∃ r, e = .returned r ∧ ∃ out, SRow w w' r out ∧ out.map Sr.p = lessF (l.map Sr.p) (g.map Gn.p) := by
  obtain ⟨a, c, rfl, -⟩ := id h.1
  obtain ⟨a2, c2, rfl, -⟩ := id hg.1
  have HC : Hid (SrAt w (.slice a l.length c) l) := h
  have HG : Hid (GnAt w (.slice a2 g.length c2) g) := hg
  clear h hg
  go_enter Tryz.func6, Tryz.ntmps6
  go_wp2
  go_loopw [5, 6, 7, 8, 9, 10, 11] (fun s i _ _ _ _ _ wr => ∃ (k n : Nat) (out : List Sr) (sa : Option Addr) (sc : Nat), k ≤ l.length ∧ n ≤ k ∧ Hid (out.length = n) ∧ i = .int .i64 k ∧ s = .slice sa n sc ∧ Hid (SRow w wr (.slice sa n sc) out) ∧ Hid (out.map Sr.p = lessF ((l.map Sr.p).take k) (g.map Gn.p))) (fun _ i _ _ _ _ _ _ => l.length - (intOf i).toNat)
  case atStart => exact ⟨0, 0, [], none, 0, Nat.zero_le _, Nat.zero_le _, rfl, rfl, rfl, SRow.nil (Below.refl _ _), rfl⟩
  case round =>
    obtain ⟨k, n, out, sa, sc, hk, hn, HON, rfl, rfl, hG, HE⟩ := hrel
    by_cases hlt : k < l.length
    · obtain ⟨b, o, rfl, hone⟩ := HC.out.one k hlt
      have s1 := HC.out.2 l[k] (List.getElem_mem hlt)
      have HN : Hid (lessF ((l.map Sr.p).take (k + 1)) (g.map Gn.p) = out.map Sr.p ++ (lessO (g.map Gn.p) l[k].p).toList) := by
        show _ = _
        rw [lessF_take _ _ k (by simpa using hlt), HE.out]
        simp
      generalize l[k] = S at *
      obtain ⟨xl, xls, xs, xss⟩ := S
      obtain ⟨xa, xc, hxa, -⟩ := id s1.smp
      obtain ⟨ya, yc, hya, -⟩ := id s1.lab
      dsimp only at hxa hya hone
      subst hxa hya
      have H1 : Hid (SmAt w (.slice xa xss.length xc) xss) := s1.smp
      have HLB : Hid (LbAt w (.slice ya xls.length yc) xls ∧ xls.length ≤ 64) := ⟨s1.lab, s1.few⟩
      have hf40 : xss.length ≤ 40 := s1.fews
      have HO : Hid (∀ W, Below w.heap.size w W → W.cell? ⟨b, o + k * 2, none⟩ = some (.slice ya xls.length yc) ∧ W.cell? ⟨b, o + k * 2 + 1, none⟩ = some (.slice xa xss.length xc)) := fun W hW => hone W hW
      obtain ⟨q0, q1⟩ := hone wr hG.out.bel
      have hkl : (k : Int) < (l.length : Int) := by omega
      have HST : Hid (LSt w (wr.alloc (.cells #[.slice ya xls.length yc, .slice none 0 0] 36)) (.slice sa n sc) out wr.heap.size (.slice ya xls.length yc) [] (.slice none 0 0)) := LSt.start hG.out _
      clear hone s1 HE hG HC
      go_wp2
      generalize wr.heap.size = X at *
      go_loopw [8, 9, 10, 11] (fun i _ _ _ wm => ∃ (j m : Nat) (q : List Sm) (qa : Option Addr) (qc : Nat), j ≤ xss.length ∧ m ≤ j ∧ Hid (q.length = m) ∧ i = .int .i64 j ∧ Hid (LSt w wm (.slice sa n sc) out X (.slice ya xls.length yc) q (.slice qa m qc)) ∧ Hid (q = leftR (g.map Gn.p) xls (xss.take j))) (fun i _ _ _ _ => xss.length - (intOf i).toNat)
      case atStart => exact ⟨0, 0, [], none, 0, Nat.zero_le _, Nat.zero_le _, rfl, rfl, HST, rfl⟩
      case round =>
        obtain ⟨j, m, q, qa, qc, hj, hm, HQN, rfl, hL, HQ⟩ := hrel
        obtain ⟨r0, r1⟩ := HO.out wr hL.out.srow.bel
        obtain ⟨x0, x1, x2⟩ := hL.out.cells
        by_cases hjl : j < xss.length
        · obtain ⟨b2, o2, rfl, hone2⟩ := H1.out.one j hjl
          obtain ⟨g0, g1⟩ := hone2 wr hL.out.srow.bel
          have HQ2 : Hid (leftR (g.map Gn.p) xls (xss.take (j + 1)) = q ++ (if hitR (g.map Gn.p) xls xss[j].1 = true then [] else [xss[j]])) := by show _ = _; rw [leftR_take _ _ _ j hjl, HQ.out]
          generalize xss[j] = x at *
          obtain ⟨t, fl⟩ := x
          dsimp only at g0 g1 HQ2
          have hjl2 : (j : Int) < (xss.length : Int) := by omega
          have HL2 : Hid (LSt w (wr.alloc (.cells #[.int .i64 t, .float .f64 fl] 42)) (.slice sa n sc) out X (.slice ya xls.length yc) q (.slice qa m qc)) := hL.out.below ((Below.refl _ wr).alloc (Nat.le_refl _) _)
          have HX2 : Hid ((wr.alloc (.cells #[.int .i64 t, .float .f64 fl] 42)).heap[wr.heap.size]? = some (.cells #[.int .i64 t, .float .f64 fl] 42)) := heap_alloc_new wr _
          clear hone2 HQ hL HST x0 x1 x2
          go_wp2
          generalize wr.alloc (.cells #[.int .i64 t, .float .f64 fl] 42) = w1 at *
          generalize wr.heap.size = Y at *
          go_loopw [10, 11] (fun z i wi => ∃ (p : Nat) (hb : Bool), p ≤ g.length ∧ i = .int .i64 p ∧ z = .bool hb ∧ Hid (hitR ((g.map Gn.p).take p) xls t = hb) ∧ Hid (DrW w1 wi)) (fun _ i _ => g.length - (intOf i).toNat)
          case atStart => exact ⟨0, false, Nat.zero_le _, rfl, rfl, rfl, DrW.refl _⟩
          case round =>
            obtain ⟨p, hb, hp, rfl, rfl, HH, hD⟩ := hrel
            by_cases hpl : p < g.length
            · have hLi := HL2.out.below hD.out.below
              obtain ⟨b3, o3, rfl, hone3⟩ := HG.out.one p hpl
              have s3 := HG.out.2 g[p] (List.getElem_mem hpl)
              have HH2 : Hid (hitR ((g.map Gn.p).take (p + 1)) xls t = (hb || hitG xls t g[p].p)) := by
                show _ = _
                rw [hitR_take _ _ _ p (by simpa using hpl), HH.out]
                simp
              generalize g[p] = G at *
              obtain ⟨gv, gls, glo, ghi⟩ := G
              obtain ⟨za, zc, hza, -⟩ := id s3.lab
              dsimp only at hza hone3
              subst hza
              obtain ⟨c0, c1, c2⟩ := hone3 wr hLi.srow.bel
              obtain ⟨x0, x1, -⟩ := hLi.cells
              have hY := (hD.out.below.block _ (Array.getElem?_eq_some_iff.1 HX2.out).1).trans HX2.out
              have y0 := cell_of_heap (i := 0) hY
              have hpl2 : (p : Int) < (g.length : Int) := by omega
              have HCM : Hid (∀ W, DrW wr W → Calls Tryz.prog 16 #[.slice za gls.length zc, .slice ya xls.length yc] W fun e w' => e = .returned (.int .i64 (cmpL gls xls)) ∧ DrW W w') := fun W hW => refCompare_any _ _ gls xls W ((s3.lab.below hLi.srow.bel).below hW.below) ((HLB.out.1.below hLi.srow.bel).below hW.below) (by have := s3.few; dsimp only at this; omega) (by have := HLB.out.2; omega)
              have HDN : Hid (∀ n, DrW w1 (wr.drewN n)) := fun n => hD.out.drewN n
              have HZ : Hid (hitG xls t (Gn.p ⟨.slice za gls.length zc, gls, glo, ghi⟩) = (decide (cmpL gls xls = 0) && (decide (glo ≤ t) && decide (t ≤ ghi)))) := by
                show (decide (gls = xls) && (decide (glo ≤ t) && decide (t ≤ ghi))) = _
                rw [show decide (gls = xls) = decide (cmpL gls xls = 0) from decide_eq_decide.2 (tcL.zero _ _).symm]
              clear hone3 s3 HH hLi hY x1 hD HL2 HX2 HG HQ2 HN HLB H1
              generalize hcz : cmpL gls xls = cz at *
              cases hb
              · by_cases e0 : cz = 0
                · have HCM' : Hid (∀ W, DrW wr W → Calls Tryz.prog 16 #[.slice za gls.length zc, .slice ya xls.length yc] W fun e w' => e = .returned (.int .i64 0) ∧ DrW W w') := fun W hW => by have := HCM.out W hW; rw [e0] at this; exact this
                  by_cases e1 : glo ≤ t
                  · have d1 : decide (glo ≤ t) = true := decide_eq_true e1
                    by_cases e2 : t ≤ ghi
                    · have HF : Hid (hitR ((g.map Gn.p).take (p + 1)) xls t = true) := by show _ = _; rw [HH2.out, HZ.out, decide_eq_true e0, decide_eq_true e1, decide_eq_true e2]; rfl
                      have d2 : decide (t ≤ ghi) = true := decide_eq_true e2
                      clear HH2 HZ HCM e0 hcz
                      go_wp2_with fail
                      go_quiet (first | (go_at_call 16; exact Calls.quiet_of (HCM'.out _ ⟨_, rfl⟩)))
                      go_wp2
                      go_roundw
                      case rel => exact ⟨p + 1, true, by omega, by go_num, rfl, HF, HDN.out _⟩
                      case measure => simp [intOf]; omega
                    · have HF : Hid (hitR ((g.map Gn.p).take (p + 1)) xls t = false) := by show _ = _; rw [HH2.out, HZ.out, decide_eq_false e2]; simp
                      have d2 : decide (t ≤ ghi) = false := decide_eq_false e2
                      clear HH2 HZ HCM e0 hcz
                      go_wp2_with fail
                      go_quiet (first | (go_at_call 16; exact Calls.quiet_of (HCM'.out _ ⟨_, rfl⟩)))
                      go_wp2
                      go_roundw
                      case rel => exact ⟨p + 1, false, by omega, by go_num, rfl, HF, HDN.out _⟩
                      case measure => simp [intOf]; omega
                  · have d1 : decide (glo ≤ t) = false := decide_eq_false e1
                    have HF : Hid (hitR ((g.map Gn.p).take (p + 1)) xls t = false) := by show _ = _; rw [HH2.out, HZ.out, decide_eq_false e1]; simp
                    clear HH2 HZ HCM e0 hcz
                    go_wp2_with fail
                    go_quiet (first | (go_at_call 16; exact Calls.quiet_of (HCM'.out _ ⟨_, rfl⟩)))
                    go_wp2
                    go_roundw
                    case rel => exact ⟨p + 1, false, by omega, by go_num, rfl, HF, HDN.out _⟩
                    case measure => simp [intOf]; omega
                · have HF : Hid (hitR ((g.map Gn.p).take (p + 1)) xls t = false) := by show _ = _; rw [HH2.out, HZ.out, decide_eq_false e0]; simp
                  have d0 : decide (cz = 0) = false := decide_eq_false e0
                  have d0' : (cz == 0) = false := by simpa using e0
                  clear HH2 HZ hcz
                  go_wp2_with fail
                  go_quiet (first | (go_at_call 16; exact Calls.quiet_of (HCM.out _ ⟨_, rfl⟩)))
                  go_wp2
                  go_roundw
                  case rel => exact ⟨p + 1, false, by omega, by go_num, rfl, HF, HDN.out _⟩
                  case measure => simp [intOf]; omega
              · have HF : Hid (hitR ((g.map Gn.p).take (p + 1)) xls t = true) := by show _ = _; rw [HH2.out]; rfl
                clear HH2 HZ HCM hcz
                go_wp2_with fail
                go_quiet (fail)
                go_wp2
                go_roundw
                case rel => exact ⟨p + 1, true, by omega, by go_num, rfl, HF, HDN.out _⟩
                case measure => simp [intOf]; omega
            · have e : (g.map Gn.p).take p = g.map Gn.p := List.take_of_length_le (by simp; omega)
              rw [e] at HH
              have hLi := HL2.out.below hD.out.below
              have hY := (hD.out.below.block _ (Array.getElem?_eq_some_iff.1 HX2.out).1).trans HX2.out
              have y0 := cell_of_heap (i := 0) hY
              have y1 := cell_of_heap (i := 1) hY
              obtain ⟨x0, x1, x2⟩ := hLi.cells
              clear e hD HL2 HX2 hY
              cases hb
              · have HQ3 : Hid (leftR (g.map Gn.p) xls (xss.take (j + 1)) = q ++ [(t, fl)]) := by show _ = _; rw [HQ2.out, HH.out]; simp
                have HA : Hid (∀ o, (wr.alloc o).ownsRow X 42 2 (.slice qa m qc) m (smC q) ∧ X ≤ (wr.alloc o).heap.size) := fun o => by
                  have h2 := hLi.samp
                  rw [HQN.out] at h2
                  refine ⟨h2.alloc o, ?_⟩
                  have := hLi.xlt
                  simp
                  omega
                have HD3 : Hid (∀ (o : Obj) (a5 : Option Addr) (c5 : Nat) (w5 : World), w5.ownsRow X 42 2 (.slice a5 (m + 1) c5) (m + 1) (smC q ++ [.int .i64 t, .float .f64 fl]) → (wr.alloc o).grownBy w5 (Value.slice qa m qc).ownBlock → LSt w (w5.setCell ⟨X, 1, none⟩ (.slice a5 (m + 1) c5)) (.slice sa n sc) out X (.slice ya xls.length yc) (q ++ [(t, fl)]) (.slice a5 (m + 1) c5) ∧ w5.heap[X]? = some (.cells #[.slice ya xls.length yc, .slice qa m qc] 36)) := fun o a5 c5 w5 hr5 hg5 => hLi.add (x := (t, fl)) (by rw [HQN.out]; exact hr5) hg5
                clear HQ2 HH hLi x2
                go_wp2_with (at_builtin; refine wpList_append_row appSm _ rfl _ _ rfl X _ m (smC q) rfl (HA.out _).1 _ 1 [.int .i64 t, .float .f64 fl] rfl (RowAt.of_block (cs := #[.int .i64 t, .float .f64 fl]) (heap_alloc_new wr _) rfl (by decide)) (by simp [Value.oneCell']) (by omega) (HA.out _).2 ?_; intro a5 c5 w5 hr5 hg5 _; obtain ⟨hL5, hh5⟩ := HD3.out _ a5 c5 w5 hr5 hg5; have z1 := cell_of_heap (i := 1) hh5; have z2 := frozen_of_heap (i := 1) hh5)
                go_roundw
                case rel => exact ⟨j + 1, m + 1, q ++ [(t, fl)], a5, c5, by omega, by omega, by show _ = _; rw [List.length_append, HQN.out]; rfl, by go_num, hL5, HQ3.out.symm⟩
                case measure => simp [intOf]; omega
              · have HQ3 : Hid (leftR (g.map Gn.p) xls (xss.take (j + 1)) = q) := by show _ = _; rw [HQ2.out, HH.out]; simp
                have HLI : Hid (LSt w wr (.slice sa n sc) out X (.slice ya xls.length yc) q (.slice qa m qc)) := hLi
                clear HQ2 HH hLi
                go_wp2
                go_roundw
                case rel => exact ⟨j + 1, m, q, qa, qc, by omega, by omega, HQN, by go_num, HLI, HQ3.out.symm⟩
                case measure => simp [intOf]; omega
        · have e : xss.take j = xss := List.take_of_length_le (by omega)
          have HQ2 : Hid (q = leftR (g.map Gn.p) xls xss) := by show _ = _; rw [HQ.out, e]
          clear e HQ
          by_cases hm0 : 0 < m
          · have HN2 : Hid (lessF ((l.map Sr.p).take (k + 1)) (g.map Gn.p) = out.map Sr.p ++ [(xls, q)]) := by
              show _ = _
              rw [HN.out]
              unfold lessO Sr.p
              dsimp only
              rw [← HQ2.out, if_neg (by intro e; have := HQN.out; rw [e] at this; simp at this; omega)]
              rfl
            have hm1 : (0 : Int) < (m : Int) := by omega
            have HA : Hid (∀ o, (wr.alloc o).ownsRow w.heap.size 36 2 (.slice sa n sc) n (srC out) ∧ w.heap.size ≤ (wr.alloc o).heap.size) := fun o => by
              have h2 := hL.out.srow.row
              rw [HON.out] at h2
              refine ⟨h2.alloc o, ?_⟩
              have := hL.out.srow.bel.size
              simp
              omega
            have HD3 : Hid (∀ (o : Obj) (a5 : Option Addr) (c5 : Nat) (w5 : World), w5.ownsRow w.heap.size 36 2 (.slice a5 (n + 1) c5) (n + 1) (srC out ++ [.slice ya xls.length yc, .slice qa m qc]) → (wr.alloc o).grownBy w5 (Value.slice sa n sc).ownBlock → SRow w w5 (.slice a5 (n + 1) c5) (out ++ [⟨.slice ya xls.length yc, xls, .slice qa m qc, q⟩])) := fun o a5 c5 w5 hr5 hg5 => hL.out.done (Or.inl HLB.out.1) HLB.out.2 (by rw [HQN.out]; omega) (by rw [HON.out]; exact hr5) hg5
            clear HN hL hm0 HST x2
            go_wp2_with (at_builtin; refine wpList_append_row appSr _ rfl _ _ rfl w.heap.size _ n (srC out) rfl (HA.out _).1 _ 1 [.slice ya xls.length yc, .slice qa m qc] rfl (RowAt.of_block (cs := #[.slice ya xls.length yc, .slice qa m qc]) (heap_alloc_new wr _) rfl (by decide)) (by simp [Value.oneCell']) (by omega) (HA.out _).2 ?_; intro a5 c5 w5 hr5 hg5 _; have hS5 := HD3.out _ a5 c5 w5 hr5 hg5)
            go_roundw
            case rel => exact ⟨k + 1, n + 1, _, a5, c5, by omega, by omega, by show _ = _; rw [List.length_append, HON.out]; rfl, by go_num, rfl, hS5, by show _ = _; rw [HN2.out]; simp [Sr.p]⟩
            case measure => simp [intOf]; omega
          · have hm1 : ¬ (0 : Int) < (m : Int) := by omega
            have HN2 : Hid (lessF ((l.map Sr.p).take (k + 1)) (g.map Gn.p) = out.map Sr.p) := by
              show _ = _
              rw [HN.out]
              unfold lessO Sr.p
              dsimp only
              rw [← HQ2.out, if_pos (List.eq_nil_of_length_eq_zero (by have := HQN.out; omega))]
              simp
            have HSR : Hid (SRow w wr (.slice sa n sc) out) := hL.out.srow
            clear HN hL hm0 HST x2
            go_wp2
            go_roundw
            case rel => exact ⟨k + 1, n, out, sa, sc, by omega, by omega, HON, by go_num, rfl, HSR, HN2.out.symm⟩
            case measure => simp [intOf]; omega
    · have e : (l.map Sr.p).take k = l.map Sr.p := List.take_of_length_le (by simp; omega)
      rw [e] at HE
      have HF : Hid (∃ out, SRow w wr (.slice sa n sc) out ∧ out.map Sr.p = lessF (l.map Sr.p) (g.map Gn.p)) := ⟨out, hG.out, HE.out⟩
      clear e HE hG HC HG
      go_wp2
      go_ret
      exact ⟨_, rfl, HF.out⟩

end Go.Proofs.YtjnjmpfldbkciaaGreat
