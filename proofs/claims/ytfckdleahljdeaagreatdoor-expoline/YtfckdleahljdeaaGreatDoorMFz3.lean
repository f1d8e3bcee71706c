/- The document's numbers: the set. -/
import Derived.Test.YtfckdleahljdeaaGreatDoorMFz1
namespace Go.Proofs.YtfckdleahljdeaaGreatDoor
open Go.RowKit Go.Maps
attribute [local go_sem] run_store_float

theorem take_push {l : List Lb} {k : Nat} (h : k < l.length) (x : Lb) : x :: l.take (k + 1) = (x :: l.take k) ++ [l[k]] := by rw [List.take_succ_eq_append_getElem h]; rfl

set_option maxRecDepth 100000 in
set_option maxHeartbeats 4000000 in
theorem refNumbers_main (X : Nat) (s name : ByteArray) (i q V : Nat) (e bh : Int) (a1 a2 : Option Addr) (d1 d2 : Nat) (ls : List Lb) (w : World) (h : LnAt w X s i false q e (.slice a1 ls.length d1) (.slice a2 ls.length d2))
    (hn : w.ownsRow (X + 1) 9 1 (.slice a1 ls.length d1) ls.length (txCells (ls.map Prod.fst))) (hv : w.ownsRow (X + 1) 9 1 (.slice a2 ls.length d2) ls.length (txCells (ls.map Prod.snd)))
    (hi : i < s.size) (hs : s.size ≤ 4000) (hA : (i : Int) ≠ bh) (hP : Nu.parseR (s.extract i (tokP s.data.toList i)) = (V, 0)) (hlen : ls.length ≤ 800) (hz : Sized ((nameB, name) :: ls)) :
    Calls Tryz.prog 28 #[.pointer (some ⟨X, 0, none⟩), .string name, .int .i64 bh] w fun en w' => RdP w (numsB s name ls V (skipP s.data.toList (tokP s.data.toList i))) en w' ∧ Kept (fun k => k = X) w w' := by
  have hX : X < w.heap.size := h.lt
  have HX : Hid (X < w.heap.size) := hX
  obtain ⟨nm, hnm⟩ : ∃ nm, nm = Value.slice a1 ls.length d1 := ⟨_, rfl⟩
  obtain ⟨vl, hvl⟩ : ∃ vl, vl = Value.slice a2 ls.length d2 := ⟨_, rfl⟩
  have HNV : Hid (nm = Value.slice a1 ls.length d1 ∧ vl = Value.slice a2 ls.length d2) := ⟨hnm, hvl⟩
  rw [← hnm, ← hvl] at h
  have HS : Hid (NuS w X s q e nm vl ((w.alloc (.cells #[.slice none 0 0, .float .f64 0, .int .i64 0, .bool false] 28)).alloc (.cells #[.slice none 0 0, .float .f64 0, .int .i64 0, .bool false] 28)) i (some (0, 0, false)) none) := NuS.start h
  have HS0 : Hid (NuS w X s q e nm vl (w.alloc (.cells #[.slice none 0 0, .float .f64 0, .int .i64 0, .bool false] 28)) i none none) := NuS.start0 h
  have HTX : Hid (∀ W k, Kept (fun j => j = X) w W → (hk : k < ls.length) → (∃ g, a1 = some ⟨g, 0, none⟩ ∧ W.cell? ⟨g, k, none⟩ = some (.string ls[k].1)) ∧ (∃ g, a2 = some ⟨g, 0, none⟩ ∧ W.cell? ⟨g, k, none⟩ = some (.string ls[k].2))) := fun W k hK hk => by
    have r1 := row_txt (hK.ownsRow hn (fun j hj e => by have := row_lo hn j hj; omega)) (by simp) k hk
    have r2 := row_txt (hK.ownsRow hv (fun j hj e => by have := row_lo hv j hj; omega)) (by simp) k hk
    rw [List.getElem_map] at r1 r2
    exact ⟨r1, r2⟩
  have hAb : ((i : Int) == bh) = false := by simpa using hA
  have hii : (i : Int) < s.size := by omega
  have t1 := to_ge s i
  have t2 := to_le (s := s) (i := i) (by omega)
  obtain ⟨j, hj⟩ : ∃ j, j = tokP s.data.toList i := ⟨_, rfl⟩
  rw [← hj] at t1 t2 hP ⊢
  have t3 := sk_le t2
  obtain ⟨k, hk⟩ : ∃ k, k = skipP s.data.toList j := ⟨_, rfl⟩
  rw [← hk] at t3 ⊢
  have HTK : Hid (∀ W, Calls Tryz.prog 46 #[.string s, .int .i64 i] W fun e w' => e = .returned (.int .i64 j) ∧ w' = W) := fun W => by
    rw [hj]
    exact refToken_any s i W (by omega) (by omega)
  have HPA : Hid (∀ W, Calls Tryz.prog 47 #[.string (s.extract i j)] W fun e w' => e = .returned (.tuple #[.float .f64 V, .int .i64 0]) ∧ Below W.heap.size W w') := fun W => by
    have := Nu.refParse_any (s.extract i j) W (by rw [ByteArray.size_extract]; unfold maxLen; omega)
    rw [hP] at this
    exact this
  have HSK : Hid (∀ W, Calls Tryz.prog 25 #[.string s, .int .i64 j] W fun e w' => e = .returned (.int .i64 k) ∧ w' = W) := fun W => by
    rw [hk]
    exact refSkip_any s j W t2 (by omega)
  obtain ⟨R, hR⟩ : ∃ R, R = numsB s name ls V k := ⟨_, rfl⟩
  rw [← hR]
  have HR : Hid (R = numsB s name ls V k) := hR
  have HZ : Hid (Sized ((nameB, name) :: ls)) := hz
  obtain ⟨c0, c1, c2, c3, c4, c5, c6, f1, f2, f3, f4, f5, f6⟩ := HS0.out.ln.x
  clear h hj hP hA HS0 hn hv hk hR hz hnm hvl
  go_enter Tryz.func28, Tryz.ntmps28
  go_upto_if 81 with (first
    | (go_at_call 46; refine (HTK.out _).mono ?_; clear HTK c0 c1 c2 c3 c4 c5 c6 f1 f2 f3 f4 f5 f6; rintro e w1 ⟨rfl, hw⟩; subst hw; obtain ⟨c0, c1, c2, c3, c4, c5, c6, f1, f2, f3, f4, f5, f6⟩ := HS.out.ln.x)
    | (go_at_call 47; refine (HPA.out _).mono ?_; clear HPA c0 c1 c2 c3 c4 c5 c6 f1 f2 f3 f4 f5 f6; rintro e w2 ⟨rfl, hb⟩; have hl := HS.out.below hb; obtain ⟨z0, z1, z2, z3, x0, x1, x2, x3⟩ := hl.ox; clear hb HS; have HS : Hid (NuS w X s q _ nm vl (w2.setCell ⟨w.heap.size + 1, 1, none⟩ (.float .f64 V)) i (some (V, 0, false)) none) := hl.setV HX.out V; clear hl; obtain ⟨c0, c1, c2, c3, c4, c5, c6, f1, f2, f3, f4, f5, f6⟩ := HS.out.ln.x)
    | (go_at_call 25; refine (HSK.out _).mono ?_; clear HSK c0 c2 c3 c4 c5 c6 f2 f3 f4 f5 f6; rintro e w3 ⟨rfl, hw⟩; subst hw; have hl := HS.out.setp HX.out k (v := .int .i64 k) rfl; clear HS z0 z1 z2 z3 x0 x1 x2 x3; have HS : Hid (NuS w X s q _ nm vl _ k (some (V, 0, false)) none) := hl; clear hl; obtain ⟨c0, c1, c2, c3, c4, c5, c6, k1, k2, k3, k4, k5, k6⟩ := HS.out.ln.x))
  go_cut [] from 81 to 134 (fun wx => ∃ (p : Nat) (T : Int) (h : Bool), Hid (R = setR name ls V T h) ∧ Hid (NuS w X s q e nm vl wx p (some (V, T, h)) none))
  case first =>
    obtain ⟨WB, HWB⟩ : ∃ WB, WB = (w2.setCell ⟨w.heap.size + 1, 1, none⟩ (.float .f64 V)).setCell ⟨X, 1, none⟩ (.int .i64 k) := ⟨_, rfl⟩
    rw [← HWB]
    rw [← HWB] at HS
    clear c0 c1 c2 c3 c4 c5 c6 k1 k2 k3 k4 k5 k6 f1
    clear HWB
    obtain ⟨c0, c1, c2, c3, c4, c5, c6, k1, k2, k3, k4, k5, k6⟩ := HS.out.ln.x
    by_cases hk : k < s.size
    · have hki : (k : Int) < s.size := by omega
      have t1 := to_ge s k
      have t2 := to_le (s := s) (i := k) (by omega)
      obtain ⟨j2, hj⟩ : ∃ j, j = tokP s.data.toList k := ⟨_, rfl⟩
      rw [← hj] at t1 t2
      have HTK : Hid (∀ W, Calls Tryz.prog 46 #[.string s, .int .i64 k] W fun e w' => e = .returned (.int .i64 j2) ∧ w' = W) := fun W => by
        rw [hj]
        exact refToken_any s k W (by omega) (by omega)
      have HIN : Hid (∀ W, Calls Tryz.prog 48 #[.string (s.extract k j2)] W fun e w' => e = .returned (.tuple #[.int .i64 (Nu.intR (s.extract k j2)).1, .int .i64 (Nu.intR (s.extract k j2)).2]) ∧ Below W.heap.size W w') := fun W => Nu.refInt_any _ W (by rw [ByteArray.size_extract]; omega)
      have HRB : Hid ((Nu.intR (s.extract k j2)).2 ≠ 0 ∨ (Nu.intR (s.extract k j2)).1 < -9007199254740992 ∨ 9007199254740992 < (Nu.intR (s.extract k j2)).1 → R = .bad k 8) := fun hb => by
        rw [HR.out]
        exact numsB_bad hk (by rw [← hj]; exact hb)
      have HRO : Hid (∀ T, Nu.intR (s.extract k j2) = (T, 0) → -9007199254740992 ≤ T → T ≤ 9007199254740992 → R = numsE s name ls V T true j2) := fun T hT h1 h2 => by
        rw [HR.out, hj]
        exact numsB_time hk (by rw [← hj]; exact hT) h1 h2
      obtain ⟨IR, hIR⟩ : ∃ IR, IR = Nu.intR (s.extract k j2) := ⟨_, rfl⟩
      rw [← hIR] at HIN HRB HRO
      obtain ⟨T, E⟩ := IR
      dsimp only at HIN HRB
      clear hIR hj
      by_cases hbad : E ≠ 0 ∨ T < -9007199254740992 ∨ 9007199254740992 < T
      · have HX2 : Hid (R = .bad k 8) := HRB.out hbad
        clear HRB HRO HR
        by_cases hE : E = 0
        · subst hE
          by_cases h1 : T < -9007199254740992
          · clear hbad
            go_wp2_with (first
              | (go_at_call 46; refine (HTK.out _).mono ?_; clear HTK; rintro e w5 ⟨rfl, hw⟩; have hw := hw.symm; subst hw)
              | (go_at_call 48; refine (HIN.out _).mono ?_; clear HIN c0 c1 c2 c3 c4 c5 c6 k1 k2 k3 k4 k5 k6; rintro e w6 ⟨rfl, hb⟩; have hl := HS.out.below hb; clear hb HS; have HS : Hid (NuS w X s q _ nm vl w6 k (some (V, 0, false)) none) := hl; clear hl; obtain ⟨c0, c1, c2, c3, c4, c5, c6, k1, k2, k3, k4, k5, k6⟩ := HS.out.ln.x; obtain ⟨y0, y1, y2, y3, g0, g1, g2, g3⟩ := HS.out.bx))
            go_region
            all_goals go_wp2
            all_goals
              have HF := HS.out.again HX.out (.slice none 0 0) (.float .f64 0) (.int .i64 0) (.bool false)
              refine bodyPost_ret (res_num _ w.heap.size k 8 rfl rfl rfl _ _ _ _ _ HF.1) rfl ?_
              rw [HX2.out]
              exact ⟨⟨rfl, by decide⟩, HF.2.drewN 1⟩
          · have h2 : 9007199254740992 < T := by omega
            clear hbad
            go_wp2_with (first
              | (go_at_call 46; refine (HTK.out _).mono ?_; clear HTK; rintro e w5 ⟨rfl, hw⟩; have hw := hw.symm; subst hw)
              | (go_at_call 48; refine (HIN.out _).mono ?_; clear HIN c0 c1 c2 c3 c4 c5 c6 k1 k2 k3 k4 k5 k6; rintro e w6 ⟨rfl, hb⟩; have hl := HS.out.below hb; clear hb HS; have HS : Hid (NuS w X s q _ nm vl w6 k (some (V, 0, false)) none) := hl; clear hl; obtain ⟨c0, c1, c2, c3, c4, c5, c6, k1, k2, k3, k4, k5, k6⟩ := HS.out.ln.x; obtain ⟨y0, y1, y2, y3, g0, g1, g2, g3⟩ := HS.out.bx))
            go_region
            all_goals go_wp2
            all_goals
              have HF := HS.out.again HX.out (.slice none 0 0) (.float .f64 0) (.int .i64 0) (.bool false)
              refine bodyPost_ret (res_num _ w.heap.size k 8 rfl rfl rfl _ _ _ _ _ HF.1) rfl ?_
              rw [HX2.out]
              exact ⟨⟨rfl, by decide⟩, HF.2.drewN 1⟩
        · have q1 := no_eq hE
          have q2 := ne_eq hE
          clear hbad hE
          go_wp2_with (first
            | (go_at_call 46; refine (HTK.out _).mono ?_; clear HTK; rintro e w5 ⟨rfl, hw⟩; have hw := hw.symm; subst hw)
            | (go_at_call 48; refine (HIN.out _).mono ?_; clear HIN c0 c1 c2 c3 c4 c5 c6 k1 k2 k3 k4 k5 k6; rintro e w6 ⟨rfl, hb⟩; have hl := HS.out.below hb; clear hb HS; have HS : Hid (NuS w X s q _ nm vl w6 k (some (V, 0, false)) none) := hl; clear hl; obtain ⟨c0, c1, c2, c3, c4, c5, c6, k1, k2, k3, k4, k5, k6⟩ := HS.out.ln.x; obtain ⟨y0, y1, y2, y3, g0, g1, g2, g3⟩ := HS.out.bx))
          go_region
          all_goals go_wp2
          all_goals
            have HF := HS.out.again HX.out (.slice none 0 0) (.float .f64 0) (.int .i64 0) (.bool false)
            refine bodyPost_ret (res_num _ w.heap.size k 8 rfl rfl rfl _ _ _ _ _ HF.1) rfl ?_
            rw [HX2.out]
            exact ⟨⟨rfl, by decide⟩, HF.2.drewN 1⟩
      · have hE : E = 0 := by omega
        subst hE
        have hT1 : -9007199254740992 ≤ T := by omega
        have hT2 : T ≤ 9007199254740992 := by omega
        have HR2 : Hid (R = numsE s name ls V T true j2) := HRO.out T rfl hT1 hT2
        clear HRB HRO HR hbad
        have t3 := sk_le t2
        obtain ⟨kk, hk2⟩ : ∃ k, k = skipP s.data.toList j2 := ⟨_, rfl⟩
        rw [← hk2] at t3
        have HSK : Hid (∀ W, Calls Tryz.prog 25 #[.string s, .int .i64 j2] W fun e w' => e = .returned (.int .i64 kk) ∧ w' = W) := fun W => by
          rw [hk2]
          exact refSkip_any s j2 W t2 (by omega)
        by_cases hl2 : kk < s.size
        · have hl2i : (kk : Int) < s.size := by omega
          have HX2 : Hid (R = .bad kk 8) := by
            show _ = _
            rw [HR2.out, hk2]
            exact numsE_more (by rw [← hk2]; exact hl2)
          clear HR2 hk2
          go_wp2_with (first
            | (go_at_call 46; refine (HTK.out _).mono ?_; clear HTK; rintro e w5 ⟨rfl, hw⟩; have hw := hw.symm; subst hw)
            | (go_at_call 48; refine (HIN.out _).mono ?_; clear HIN c0 c1 c2 c3 c4 c5 c6 k1 k2 k3 k4 k5 k6; rintro e w6 ⟨rfl, hb⟩; have hl := HS.out.below hb; clear hb HS; have HS : Hid (NuS w X s q _ nm vl w6 k (some (V, 0, false)) none) := hl; clear hl; obtain ⟨c0, c1, c2, c3, c4, c5, c6, n1, n2, n3, n4, n5, n6⟩ := HS.out.ln.x; obtain ⟨y0, y1, y2, y3, g0, g1, g2, g3⟩ := HS.out.bx; obtain ⟨z0, z1, z2, z3, x0, x1, x2, x3⟩ := HS.out.ox)
            | (go_at_call 25; refine (HSK.out _).mono ?_; clear HSK c0 c2 c3 c4 c5 c6 n2 n3 n4 n5 n6 y0 y1 y2 y3 g0 g1 g2 g3 z0 z1 z2 z3 x0 x1 x2 x3; rintro e w7 ⟨rfl, hw⟩; have hw := hw.symm; subst hw; have hl := HS.out.setp HX.out kk (v := .int .i64 kk) rfl; clear HS; have HS : Hid (NuS w X s q _ nm vl _ kk (some (V, 0, false)) none) := hl; clear hl; obtain ⟨c0, c1, c2, c3, c4, c5, c6, m1, m2, m3, m4, m5, m6⟩ := HS.out.ln.x; obtain ⟨y0, y1, y2, y3, g0, g1, g2, g3⟩ := HS.out.bx; obtain ⟨z0, z1, z2, z3, x0, x1, x2, x3⟩ := HS.out.ox))
          go_region
          all_goals go_wp2
          all_goals
            have HF := HS.out.again HX.out (.slice none 0 0) (.float .f64 0) (.int .i64 0) (.bool false)
            refine bodyPost_ret (res_num _ w.heap.size kk 8 rfl rfl rfl _ _ _ _ _ HF.1) rfl ?_
            rw [HX2.out]
            exact ⟨⟨rfl, by decide⟩, HF.2.drewN 1⟩
        · have hl2i : ¬ (kk : Int) < s.size := by omega
          have HX2 : Hid (R = setR name ls V T true) := by
            show _ = _
            rw [HR2.out]
            exact numsE_end (by rw [← hk2]; omega)
          clear HR2 hk2
          go_wp2_with (first
            | (go_at_call 46; refine (HTK.out _).mono ?_; clear HTK; rintro e w5 ⟨rfl, hw⟩; have hw := hw.symm; subst hw)
            | (go_at_call 48; refine (HIN.out _).mono ?_; clear HIN c0 c1 c2 c3 c4 c5 c6 k1 k2 k3 k4 k5 k6; rintro e w6 ⟨rfl, hb⟩; have hl := HS.out.below hb; clear hb HS; have HS : Hid (NuS w X s q _ nm vl w6 k (some (V, 0, false)) none) := hl; clear hl; obtain ⟨c0, c1, c2, c3, c4, c5, c6, n1, n2, n3, n4, n5, n6⟩ := HS.out.ln.x; obtain ⟨y0, y1, y2, y3, g0, g1, g2, g3⟩ := HS.out.bx; obtain ⟨z0, z1, z2, z3, x0, x1, x2, x3⟩ := HS.out.ox)
            | (go_at_call 25; refine (HSK.out _).mono ?_; clear HSK c0 c2 c3 c4 c5 c6 n2 n3 n4 n5 n6 y0 y1 y2 y3 g0 g1 g2 g3 z0 z1 z2 z3 x0 x1 x2 x3; rintro e w7 ⟨rfl, hw⟩; have hw := hw.symm; subst hw; have hl := HS.out.setp HX.out kk (v := .int .i64 kk) rfl; clear HS; have HS : Hid (NuS w X s q _ nm vl _ kk (some (V, 0, false)) none) := hl; clear hl; obtain ⟨c0, c1, c2, c3, c4, c5, c6, m1, m2, m3, m4, m5, m6⟩ := HS.out.ln.x; obtain ⟨y0, y1, y2, y3, g0, g1, g2, g3⟩ := HS.out.bx; obtain ⟨z0, z1, z2, z3, x0, x1, x2, x3⟩ := HS.out.ox))
          have hl := (HS.out.setT HX.out T).setH HX.out true
          go_meet
          case rel => exact ⟨_, _, _, HX2, hl⟩
    · have hki : ¬ (k : Int) < s.size := by omega
      have HR2 : Hid (R = setR name ls V 0 false) := by
        show _ = _
        rw [HR.out]
        unfold numsB
        rw [if_neg hk]
      clear HR
      go_wp2_with fail
      go_meet
      case rel => exact ⟨_, _, _, HR2, HS⟩
  case rest =>
    obtain ⟨p, T, h, HR2, HS⟩ := hcut
    clear HR
    have HSL := HS.out.lit name
    clear HS
    have HS : Hid (NuS w X s q e nm vl _ p (some (V, T, h)) _) := HSL
    clear HSL
    obtain ⟨c0, c1, c2, c3, c4, c5, c6, f1, f2, f3, f4, f5, f6⟩ := HS.out.ln.x
    go_wp2
    go_loopw [16, 17] (fun lv iv wr => ∃ (k : Nat) (a : Option Addr) (c : Nat), k ≤ ls.length ∧ iv = .int .i64 k ∧ lv = .slice a (k + 1) c ∧ Hid (Not ls nameB k) ∧ Hid (NuS w X s q e nm vl wr p (some (V, T, h)) (some (.slice a (k + 1) c, (nameB, name) :: ls.take k)))) (fun _ i _ => ls.length - (intOf i).toNat)
    case atStart => exact ⟨0, _, _, Nat.zero_le _, rfl, rfl, Not.zero, HS⟩
    case round =>
      obtain ⟨k, a, c, hk, rfl, rfl, HH, HS⟩ := hrel
      clear c0 c1 c2 c3 c4 c5 c6 f1 f2 f3 f4 f5 f6
      obtain ⟨rfl, rfl⟩ := HNV.out
      by_cases hlt : k < ls.length
      · obtain ⟨⟨g, rfl, q1⟩, ⟨g2, rfl, q2⟩⟩ := HTX.out wr k HS.out.kept hlt
        obtain ⟨c0, c1, c2, c3, c4, c5, c6, f1, f2, f3, f4, f5, f6⟩ := HS.out.ln.x
        have hki : (k : Int) < ls.length := by omega
        obtain ⟨x, hx⟩ : ∃ x, x = ls[k].1 := ⟨_, rfl⟩
        obtain ⟨y, hy⟩ : ∃ y, y = ls[k].2 := ⟨_, rfl⟩
        rw [← hx] at q1
        rw [← hy] at q2
        have HXY : Hid (ls[k] = (x, y)) := by show _ = _; rw [hx, hy]
        have HA : Hid (∀ W0, Below wr.heap.size wr W0 → NuS w X s q e (.slice (some ⟨g, 0, none⟩) ls.length d1) (.slice (some ⟨g2, 0, none⟩) ls.length d2) W0 p (some (V, T, h)) (some (.slice a (k + 1) c, (nameB, name) :: ls.take k))) := fun W0 hb => HS.out.below hb
        have HLT : Hid (((nameB, name) :: ls.take k).length = k + 1) := by show _ = _; simp; omega
        have HSZ : Hid (w.heap.size + 2 ≤ wr.heap.size) := by have := HS.out.olt; show _ ≤ _; omega
        clear hx hy
        cases hxn : (x.toList == [95, 95, 110, 97, 109, 101, 95, 95])
        · have HN : Hid (Not ls nameB (k + 1)) := HH.out.succ hlt (by rw [HXY.out, name_list]; exact hxn)
          clear HH HTX HNV
          go_wp2
          go_region_law (first | (refine step_append_labs _ (by rfl) _ _ (by rfl) (w.heap.size + 2) _ (k + 1) (lbCells ((nameB, name) :: ls.take k)) (by rfl) (HLT.out ▸ (HA.out _ (by first | exact (Below.refl _ _).alloc (Nat.le_refl _) _ | exact ((Below.refl _ _).alloc (Nat.le_refl _) _).drew | exact ((Below.refl _ _).drew).alloc (by simp) _)).row _ _ rfl) _ [(x, y)] (by rfl) (LabsAt.lone (newAt _ _ (by simp))) (by simp; omega) (by have := HSZ.out; simp; omega) ?_; intro c3 d3 w3 hr3 hg3; have HP0 := NuS.push (x := (x, y)) (HA.out _ (by first | exact (Below.refl _ _).alloc (Nat.le_refl _) _ | exact ((Below.refl _ _).alloc (Nat.le_refl _) _).drew | exact ((Below.refl _ _).drew).alloc (by simp) _)) HX.out (by rw [HLT.out]; exact hr3) hg3; clear hr3 hg3))
          all_goals
            go_wp2
            go_roundw
            case rel => exact ⟨k + 1, c3, d3, by omega, by go_num, rfl, HN, by rw [take_push hlt, HXY.out]; exact HP0⟩
            case measure => simp [intOf]; omega
        · have HB : Hid (hasL ls nameB = true) := is_has hlt (by rw [HXY.out, name_list]; exact hxn)
          obtain ⟨y0, y1, y2, y3, g0, g1, g2, g3⟩ := HS.out.bx
          go_wp2
          have HF := HS.out.again HX.out (.slice none 0 0) (.float .f64 0) (.int .i64 0) (.bool false)
          refine bodyPost_ret (res_num _ w.heap.size 0 2 rfl rfl rfl _ _ _ _ _ HF.1) rfl ?_
          rw [HR2.out]
          unfold setR
          rw [if_pos HB.out]
          exact ⟨⟨rfl, by decide⟩, HF.2⟩
      · obtain rfl : k = ls.length := by omega
        rw [List.take_length] at HS
        obtain ⟨c0, c1, c2, c3, c4, c5, c6, f1, f2, f3, f4, f5, f6⟩ := HS.out.ln.x
        have HN : Hid (hasL ls nameB = false) := not_has HH.out
        have hnw := refNew_any (.slice a (ls.length + 1) c) ((nameB, name) :: ls) wr (LabsAt.of_row (HS.out.row _ _ rfl)) (by simp; omega) HZ.out
        have HRR : Hid (R = if (newR ((nameB, name) :: ls)).2 ≠ 0 then .bad 0 (newR ((nameB, name) :: ls)).2 else .ok (newR ((nameB, name) :: ls)).1 V T h) := by
          show _ = _
          rw [HR2.out]
          unfold setR
          rw [if_neg (by rw [HN.out]; simp)]
        obtain ⟨nr, hnr⟩ : ∃ nr, nr = newR ((nameB, name) :: ls) := ⟨_, rfl⟩
        rw [← hnr] at hnw HRR
        obtain ⟨ms, er⟩ := nr
        dsimp only at hnw HRR
        have HNW : Hid (Calls Tryz.prog 49 #[.slice a (ls.length + 1) c] wr fun e w' => ∃ a' c', e = .returned (.tuple #[.slice a' ms.length c', .int .i64 er]) ∧ w'.ownsRow (w.heap.size + 2) 49 2 (.slice a' ms.length c') ms.length (lbCells ms) ∧ Below wr.heap.size wr w') := hnw.mono (by
          rintro en w' ⟨v', he, hr, hb⟩
          obtain ⟨a', c', rfl⟩ := slice_of_row hr
          exact ⟨a', c', he, row_mono hr (by have := HS.out.olt; omega), hb⟩)
        clear hnr hnw HH HN HTX HNV HR2 HZ
        by_cases her : er = 0
        · subst her
          have HOK : Hid (R = .ok ms V T h) := by show _ = _; rw [HRR.out]; simp
          clear HRR
          go_wp2_with (go_at_call 49; refine HNW.out.mono ?_; clear HNW c0 c1 c2 c3 c4 c5 c6 f1 f2 f3 f4 f5 f6; rintro en w4 ⟨a', c', rfl, hr, hb⟩; have hl := HS.out.below hb; clear hb HS; have HS : Hid (NuS w X s q e _ _ w4 p (some (V, T, h)) _) := hl; clear hl; have HROW : Hid (w4.ownsRow (w.heap.size + 2) 49 2 (.slice a' ms.length c') ms.length (lbCells ms)) := hr; clear hr; obtain ⟨y0, y1, y2, y3, g0, g1, g2, g3⟩ := HS.out.bx; obtain ⟨z0, z1, z2, z3, x0, x1, x2, x3⟩ := HS.out.ox)
          have HF := HS.out.fin HX.out (.slice a' ms.length c') (.slice a' ms.length c') (.float .f64 V) (.int .i64 T) (.bool h)
          refine bodyPost_ret (res_num _ w.heap.size 0 0 rfl rfl rfl _ _ _ _ _ HF.2.1) rfl ?_
          rw [HOK.out]
          exact ⟨⟨_, _, _, rfl, row_mono (HF.1.ownsRow HROW.out (fun j hj e => by have := row_lo HROW.out j hj; omega)) (by omega)⟩, HF.2.2⟩
        · have q1 := no_eq her
          have q2 := ne_eq her
          have HOK : Hid (R = .bad 0 er) := by show _ = _; rw [HRR.out, if_pos her]
          have HER : Hid (er ≠ 0) := her
          clear HRR her
          go_wp2_with (go_at_call 49; refine HNW.out.mono ?_; clear HNW c0 c1 c2 c3 c4 c5 c6 f1 f2 f3 f4 f5 f6; rintro en w4 ⟨a', c', rfl, hr, hb⟩; have hl := HS.out.below hb; clear hb HS hr; have HS : Hid (NuS w X s q e _ _ w4 p (some (V, T, h)) _) := hl; clear hl; obtain ⟨y0, y1, y2, y3, g0, g1, g2, g3⟩ := HS.out.bx)
          have HF := HS.out.again HX.out (.slice none 0 0) (.float .f64 0) (.int .i64 0) (.bool false)
          refine bodyPost_ret (res_num _ w.heap.size 0 er rfl rfl rfl _ _ _ _ _ HF.1) rfl ?_
          rw [HOK.out]
          exact ⟨⟨rfl, HER.out⟩, HF.2⟩
end Go.Proofs.YtfckdleahljdeaaGreatDoor
