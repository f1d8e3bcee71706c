/- The document's Parse: the walk. -/
import Derived.Test.YtfckdleahljdeaaGreatDoorMHk
import Derived.Deep.CutBlock
namespace Go.Proofs.YtfckdleahljdeaaGreatDoor.Nu
open Go.RowKit Go.Maps

theorem near_done {ds : List UInt8} {V R : Nat} {p q : Int} (hG : GoodD ds ∧ ds.length ≤ 400 ∧ V = valD ds) (hp : q = p ∨ (90000 ≤ q ∧ 90000 ≤ p) ∨ (q ≤ -90000 ∧ p ≤ -90000)) (hR : NearF (V * 10 ^ p.toNat) (10 ^ (-p).toNat) R) : R = nearN ds q ∧ R ≤ 9218868437227405312 := by
  obtain ⟨h1, h2, rfl⟩ := hG
  have h3 := near_same h1 h2 hp hR
  exact ⟨h3, by rw [h3]; exact nearN_le ds q⟩
theorem parse_done {s t : ByteArray} {ng : Bool} {ds : List UInt8} {q : Int} {R : Nat} (hP : parseR s = match decR t with
    | none => (0, 8)
    | some (ds, p) => (sgB ng (nearN ds p), 0)) (hD : decR t = some (ds, q)) (hR : R = nearN ds q) : parseR s = (sgB ng R, 0) := by
  rw [hP, hD, hR]
theorem parse_fail {s t : ByteArray} {ng : Bool} (hP : parseR s = match decR t with
    | none => (0, 8)
    | some (ds, p) => (sgB ng (nearN ds p), 0)) (hD : decR t = none) : parseR s = (0, 8) := by
  rw [hP, hD]
theorem wrap_dig {y : Nat} (h1 : 48 ≤ y) (h2 : y ≤ 57) : ((y - 48 : Nat) : Int) = IntKind.i64.wrap (IntKind.u8.wrap ((y : Int) - 48)) := by
  have e1 : IntKind.u8.wrap ((y : Int) - 48) = (y : Int) - 48 := by
    rw [IntKind.wrap_u8]
    omega
  rw [e1, IntKind.wrap_i64]
  omega

set_option maxRecDepth 100000 in
set_option maxHeartbeats 8000000 in
theorem refParse_any (s : ByteArray) (w : World) (hs : s.size ≤ maxLen) : Calls Tryz.prog 47 #[.string s] w fun e w' => e = .returned (.tuple #[.float .f64 (parseR s).1, .int .i64 (parseR s).2]) ∧ Below w.heap.size w w' := by
  unfold maxLen at hs
  by_cases hbig : 400 < s.size
  · have HP : Hid (parseR s = (0, 8)) := by show _ = _; unfold parseR; rw [if_pos hbig]
    have hbi : (400 : Int) < s.size := by omega
    go_enter Tryz.func47, Tryz.ntmps47
    go_wp2
    go_ret2
    exact ⟨by rw [HP.out]; rfl, Below.refl _ _⟩
  have hts := cutB_size s
  have HP : Hid (parseR s = (if (cutB s).1.data.toList.map low = [110, 97, 110] then (9221120237041090561, 0)
    else if (cutB s).1.data.toList.map low = [105, 110, 102] ∨ (cutB s).1.data.toList.map low = [105, 110, 102, 105, 110, 105, 116, 121] then (sgB (cutB s).2 9218868437227405312, 0)
    else match decR (cutB s).1 with
      | none => (0, 8)
      | some (ds, p) => (sgB (cutB s).2 (nearN ds p), 0) : Nat × Int)) := by show _ = _; unfold parseR; rw [if_neg hbig]; rfl
  have h400 : decide ((400 : Int) < s.size) = false := by rw [decide_eq_false_iff_not]; omega
  have hs4 : s.size ≤ 400 := by omega
  obtain ⟨sb, hsb⟩ : ∃ sb, sb = decide (hdB s = 45 ∨ hdB s = 43) := ⟨_, rfl⟩
  have HSB : Hid (sb = decide (hdB s = 45 ∨ hdB s = 43)) := hsb
  clear hbig hs hsb
  go_enter Tryz.func47, Tryz.ntmps47
  go_upto_region 4 with fail
  go_cut [28] from 16 to 28 (fun c wx => c = .bool sb ∧ w = wx)
  case first =>
    by_cases h0 : 0 < s.size
    · have h0i : (0 : Int) < s.size := by omega
      have hh := hdB_pos h0
      have hn1 := not_nil (s := s) h0
      have hn2 := not_empty (s := s) h0
      have hb0 : s[0].toNat < 256 := s[0].toNat_lt
      have HH : Hid (hdB s = s[0].toNat) := hh
      clear hh HP hts
      by_cases h43 : s[0].toNat = 43
      · have i43 : ((s[0].toNat : Int) == 43) = true := by rw [beq_iff_eq]; omega
        go_wp2
        go_meet
        exact ⟨congrArg Value.bool (HSB.out.trans (decide_eq_true (Or.inr (HH.out.trans h43)))).symm, rfl⟩
      · have i43 : ((s[0].toNat : Int) == 43) = false := by rw [beq_eq_false_iff_ne]; omega
        by_cases h45 : s[0].toNat = 45
        · have i45 : ((s[0].toNat : Int) == 45) = true := by rw [beq_iff_eq]; omega
          go_wp2
          go_meet
          exact ⟨congrArg Value.bool (HSB.out.trans (decide_eq_true (Or.inl (HH.out.trans h45)))).symm, rfl⟩
        · have i45 : ((s[0].toNat : Int) == 45) = false := by rw [beq_eq_false_iff_ne]; omega
          go_wp2
          go_meet
          exact ⟨congrArg Value.bool (HSB.out.trans (decide_eq_false (fun h => h.elim (fun h => h45 (HH.out.symm.trans h)) (fun h => h43 (HH.out.symm.trans h))))).symm, rfl⟩
    · have h0i : ¬ (0 : Int) < s.size := by omega
      have hh : hdB s = 0 := by unfold hdB; rw [dif_neg h0]
      have hn1 := is_nil (s := s) (by omega)
      have hn2 := is_empty (s := s) (by omega)
      have HH : Hid (hdB s = 0) := hh
      clear hh HP hts
      go_wp2
      go_meet
      exact ⟨congrArg Value.bool (HSB.out.trans (decide_eq_false (by rw [HH.out]; decide))).symm, rfl⟩
  case rest =>
    obtain ⟨rfl, rfl⟩ := hcut
    go_upto_if 28 with fail
    go_cut [0, 4, 28] from 29 to 33 (fun sv nv _ wx => sv = .string (cutB s).1 ∧ nv = .bool (cutB s).2 ∧ w = wx)
    case first =>
      by_cases hc : hdB s = 45 ∨ hdB s = 43
      · obtain rfl : sb = true := HSB.out.trans (decide_eq_true hc)
        have h0 : 0 < s.size := by
          apply Classical.byContradiction
          intro h9
          unfold hdB at hc
          rw [dif_neg h9] at hc
          omega
        have hh := hdB_pos h0
        have hcut9 : cutB s = (s.extract 1 s.size, decide (s[0].toNat = 45)) := by unfold cutB; rw [if_pos hc, hh]
        have hb0 : s[0].toNat < 256 := s[0].toNat_lt
        have h0i : (0 : Int) < s.size := by omega
        clear HP hts hc HSB
        by_cases h45 : s[0].toNat = 45
        · have i45 : ((s[0].toNat : Int) == 45) = true := by rw [beq_iff_eq]; omega
          rw [decide_eq_true h45] at hcut9
          have HC9 : Hid (cutB s = (s.extract 1 s.size, true)) := hcut9
          clear h45 hh hcut9
          go_wp2
          go_meet
          exact ⟨by rw [HC9.out], by rw [HC9.out], rfl⟩
        · have i45 : ((s[0].toNat : Int) == 45) = false := by rw [beq_eq_false_iff_ne]; omega
          rw [decide_eq_false h45] at hcut9
          have HC9 : Hid (cutB s = (s.extract 1 s.size, false)) := hcut9
          clear h45 hh hcut9
          go_wp2
          go_meet
          exact ⟨by rw [HC9.out], by rw [HC9.out], rfl⟩
      · have hcut9 : cutB s = (s, false) := by unfold cutB; rw [if_neg hc]
        obtain rfl : sb = false := HSB.out.trans (decide_eq_false hc)
        have HC9 : Hid (cutB s = (s, false)) := hcut9
        clear hcut9 HP hts hc HSB
        go_wp2
        go_meet
        exact ⟨by rw [HC9.out], by rw [HC9.out], rfl⟩
    case rest =>
      obtain ⟨rfl, rfl, rfl⟩ := hcut
      generalize (cutB s).1 = t at *
      generalize (cutB s).2 = ng at *
      have htz : t.size ≤ 400 := by omega
      have HLO : Hid (∀ W : World, Calls Tryz.prog 70 #[.string t] W fun e w' => e = .returned (.string ⟨(t.data.toList.map low).toArray⟩) ∧ Below W.heap.size W w') := fun W => refLower_any t W (by omega)
      have HSI : Hid (∀ W : World, Calls Tryz.prog 72 #[.int .u64 9218868437227405312, .bool ng] W fun e w' => e = .returned (.float .f64 (sgB ng 9218868437227405312)) ∧ w' = W) := fun W => refSigned_any 9218868437227405312 ng W (Nat.le_refl _)
      obtain ⟨l, hl⟩ : ∃ l, l = t.data.toList.map low := ⟨_, rfl⟩
      obtain ⟨ls, hls⟩ : ∃ ls : ByteArray, ls = ⟨l.toArray⟩ := ⟨_, rfl⟩
      have hltl : ls.toList = l := by rw [hls, ByteArray.toList_eq]
      rw [← hl] at HP HLO
      rw [← hls] at HLO
      clear hl hls hts hs4 h400
      by_cases hnan : l = [110, 97, 110]
      · rw [if_pos hnan] at HP
        have hx1 : (ls.toList == [110, 97, 110]) = true := by rw [beq_iff_eq, hltl]; exact hnan
        clear hnan hltl HSI
        go_wp2_with (first
          | (go_at_call 70; refine (HLO.out _).mono ?_; clear HLO; rintro e w2 ⟨rfl, hb2⟩)
          | (go_at_call 71; refine (refNaN_any _).mono ?_; rintro e w3 ⟨rfl, hw3⟩; have hw3 := hw3.symm; subst hw3))
        go_ret2
        exact ⟨by rw [HP.out]; rfl, hb2⟩
      rw [if_neg hnan] at HP
      have hx1 : (ls.toList == [110, 97, 110]) = false := by rw [beq_eq_false_iff_ne, hltl]; exact hnan
      by_cases hinf : l = [105, 110, 102]
      · rw [if_pos (Or.inl hinf)] at HP
        have hx2 : (ls.toList == [105, 110, 102]) = true := by rw [beq_iff_eq, hltl]; exact hinf
        clear hnan hinf hltl
        go_wp2_with (first
          | (go_at_call 70; refine (HLO.out _).mono ?_; clear HLO; rintro e w2 ⟨rfl, hb2⟩)
          | (go_at_call 72; refine (HSI.out _).mono ?_; clear HSI; rintro e w3 ⟨rfl, hw3⟩; have hw3 := hw3.symm; subst hw3))
        go_ret2
        exact ⟨by rw [HP.out]; rfl, hb2⟩
      have hx2 : (ls.toList == [105, 110, 102]) = false := by rw [beq_eq_false_iff_ne, hltl]; exact hinf
      by_cases hinf2 : l = [105, 110, 102, 105, 110, 105, 116, 121]
      · rw [if_pos (Or.inr hinf2)] at HP
        have hx3 : (ls.toList == [105, 110, 102, 105, 110, 105, 116, 121]) = true := by rw [beq_iff_eq, hltl]; exact hinf2
        clear hnan hinf hinf2 hltl
        go_wp2_with (first
          | (go_at_call 70; refine (HLO.out _).mono ?_; clear HLO; rintro e w2 ⟨rfl, hb2⟩)
          | (go_at_call 72; refine (HSI.out _).mono ?_; clear HSI; rintro e w3 ⟨rfl, hw3⟩; have hw3 := hw3.symm; subst hw3))
        go_ret2
        exact ⟨by rw [HP.out]; rfl, hb2⟩
      have hx3 : (ls.toList == [105, 110, 102, 105, 110, 105, 116, 121]) = false := by rw [beq_eq_false_iff_ne, hltl]; exact hinf2
      rw [if_neg (fun h => h.elim hinf hinf2)] at HP
      clear hnan hinf hinf2 hltl HSI
      go_upto_block 0 with (go_at_call 70; refine (HLO.out _).mono ?_; clear HLO; rintro e w2 ⟨rfl, hb2⟩; have HX0 : Hid (XAt w2.heap.size w (w2.alloc (.cells #[.slice none 0 0, .int .i64 0] 107)) none 0 0 0 0) := XAt.start hb2; clear hb2)
      obtain ⟨B, hB⟩ : ∃ B, B = w2.heap.size := ⟨_, rfl⟩
      rw [← hB] at HX0 ⊢
      clear hB
      go_cut [6, 7, 9, 10] from 47 to 97 (fun iv av sv _ wx => ∃ (k n m l c V : Nat) (p : Int) (A : Bool) (ds : List UInt8) (a : Option Addr), iv = .int .i64 k ∧ k ≤ t.size ∧ av = .bool A ∧ sv = .int .i64 m ∧ m ≤ k ∧ l ≤ 2000 ∧ Hid (PE B w wx t k n m l c V p A ds a))
      case first =>
        go_wp2_with fail
        go_loopw [6, 7, 9, 10] (fun iv av sv pv wr => ∃ P : Nat, ∃ (k n m l c V : Nat) (p : Int) (A : Bool) (ds : List UInt8) (a : Option Addr), iv = .int .i64 k ∧ k ≤ t.size ∧ av = .bool A ∧ sv = .int .i64 m ∧ m ≤ k ∧ l ≤ 2000 ∧ pv = .int .i64 P ∧ (((P = 0 ∨ P = 1) ∧ Hid (PI B w wr t P k n m l c V p A ds a)) ∨ (P = 2 ∧ Hid (PE B w wr t k n m l c V p A ds a)))) (fun _ _ _ pv _ => 2 - (intOf pv).toNat)
        case atStart => exact ⟨0, 0, 0, 0, 0, 0, 0, 0, false, [], none, rfl, Nat.zero_le _, rfl, rfl, Nat.le_refl _, by omega, rfl, Or.inl ⟨Or.inl rfl, rfl, rfl, rfl, ⟨fun d hd => by simp at hd, fun d hd => by simp at hd⟩, by omega, rfl, HX0.out⟩⟩
        case round =>
          clear HX0
          obtain ⟨P, k, n, m, l, c, V, p, A, ds, a, rfl, hk, rfl, rfl, hmk, hl2, rfl, hcase⟩ := hrel
          rcases hcase with ⟨hP, HI⟩ | ⟨hP2, HE⟩
          · have hPi : (P : Int) < 2 := by omega
            go_wp2
            go_loopw [6, 7, 9] (fun iv av sv wr2 => ∃ (k n m l c V : Nat) (p : Int) (A : Bool) (ds : List UInt8) (a : Option Addr), iv = .int .i64 k ∧ k ≤ t.size ∧ av = .bool A ∧ sv = .int .i64 m ∧ m ≤ k ∧ l ≤ 2000 ∧ Hid (PI B w wr2 t P k n m l c V p A ds a)) (fun iv _ _ _ => t.size - (intOf iv).toNat)
            case atStart => exact ⟨k, n, m, l, c, V, p, A, ds, a, rfl, hk, rfl, rfl, hmk, hl2, HI.out⟩
            case round =>
              clear HI hmk hk hl2
              obtain ⟨k, n, m, l, c, V, p, A, ds, a, rfl, hk, rfl, rfl, hmk, hl2, HI⟩ := hrel
              have HX : Hid (XAt B w wr a l c V p) := HI.out.2.2.2.2.2.2
              obtain ⟨cx0, cx1, fx0, fx1⟩ := num_cells4 HX.out.x
              by_cases hlt : k < t.size
              · have hbl : t[k].toNat < 256 := t[k].toNat_lt
                have hki : (k : Int) < t.size := by omega
                by_cases hd : 48 ≤ t[k].toNat ∧ t[k].toNat ≤ 57
                · obtain ⟨V', l', ds', HS⟩ := pi_step HI.out hlt hd htz hmk
                  have hpb := HI.out.2.2.2.2.1
                  obtain ⟨hd1, hd2⟩ := hd
                  have hdig := refDigit_yes (b := (t[k].toNat : Int)) wr (by omega) (by omega)
                  have HTM : Hid (∀ W : World, XAt B w W a l c V p → Calls Tryz.prog 74 #[.slice a l c, .int .i64 10, .int .i64 (IntKind.i64.wrap (IntKind.u8.wrap ((t[k].toNat : Int) - 48)))] W fun e w' => ∃ v', e = .returned v' ∧ QAt w' v' V' ∧ (∃ a c, v' = .slice a (digQ V').length c) ∧ DRow w' W.heap.size v' (digQ V') ∧ Below W.heap.size W w') := fun W hX => by
                    have h9 := refTimes_nat (.slice a l c) V 10 (t[k].toNat - 48) W hX.q (by decide) (by decide) (by omega) (by rw [← hX.len]; omega)
                    rw [wrap_dig hd1 hd2, ← HS.out.2.1] at h9
                    exact h9
                  clear HI
                  generalize hyy : t[k].toNat = y at *
                  go_wp2_with (go_at_call 73; refine hdig.mono ?_; clear hdig; rintro e w9 ⟨rfl, hw9⟩; have hw9 := hw9.symm; subst hw9)
                  refine wp_region_M 9 (fun w' => w'.cell? ⟨B, 0, none⟩ = some (.slice a l c)) (by kernel_rfl) (num_cells4 (HX.out.drewN 1).x).1 (fun hHeld => ?_)
                  refine takeP (i := 0) (v := ?_) 61 rfl rfl (by kernel_rfl) (by kernel_rfl) (by kernel_rfl) (fun _ _ _ h => h) (by kernel_rfl) (Or.inl ⟨by rfl, ?_⟩) hHeld ?_
                  rotate_left
                  focus (intro w _; go_simp; try (with_reducible rfl))
                  try simp only [Act.put, List.setIfInBounds_toArray, List.set_cons_zero, List.set_cons_succ]
                  refine takeL (i := 1) (v := ?_) 62 rfl rfl (by kernel_rfl) (by kernel_rfl) (by kernel_rfl) (fun _ _ _ h => h) (by kernel_rfl) (by kernel_rfl) (Or.inl ⟨by rfl, ?_⟩) hHeld ?_
                  rotate_left
                  focus (intro w hSw; (try dsimp only at hSw); go_simp; try (with_reducible rfl))
                  try simp only [Act.put, List.setIfInBounds_toArray, List.set_cons_zero, List.set_cons_succ]
                  refine takeP (i := 2) (v := ?_) 63 rfl rfl (by kernel_rfl) (by kernel_rfl) (by kernel_rfl) (fun _ _ _ h => h) (by kernel_rfl) (Or.inl ⟨by rfl, ?_⟩) hHeld ?_
                  rotate_left
                  focus (intro w _; go_simp; try (with_reducible rfl))
                  try simp only [Act.put, List.setIfInBounds_toArray, List.set_cons_zero, List.set_cons_succ]
                  refine takeP (i := 3) (v := ?_) 64 rfl rfl (by kernel_rfl) (by kernel_rfl) (by kernel_rfl) (fun _ _ _ h => h) (by kernel_rfl) (Or.inl ⟨by rfl, ?_⟩) hHeld ?_
                  rotate_left
                  focus (intro w _; go_simp; try (with_reducible rfl))
                  try simp only [Act.put, List.setIfInBounds_toArray, List.set_cons_zero, List.set_cons_succ]
                  refine takeP (i := 4) (v := ?_) 65 rfl rfl (by kernel_rfl) (by kernel_rfl) (by kernel_rfl) (fun _ _ _ h => h) (by kernel_rfl) (Or.inl ⟨by rfl, ?_⟩) hHeld ?_
                  rotate_left
                  focus (intro w _; go_simp; try (with_reducible rfl))
                  try simp only [Act.put, List.setIfInBounds_toArray, List.set_cons_zero, List.set_cons_succ]
                  refine takeP (i := 5) (v := ?_) 66 rfl rfl (by kernel_rfl) (by kernel_rfl) (by kernel_rfl) (fun _ _ _ h => h) (by kernel_rfl) (Or.inl ⟨by rfl, ?_⟩) hHeld ?_
                  rotate_left
                  focus (intro w _; go_simp; try (with_reducible rfl))
                  try simp only [Act.put, List.setIfInBounds_toArray, List.set_cons_zero, List.set_cons_succ]
                  refine takeP (i := 6) (v := ?_) 67 rfl rfl (by kernel_rfl) (by kernel_rfl) (by kernel_rfl) (fun _ _ _ h => h) (by kernel_rfl) (Or.inl ⟨by rfl, ?_⟩) hHeld ?_
                  rotate_left
                  focus (intro w _; go_simp; try (with_reducible rfl))
                  try simp only [Act.put, List.setIfInBounds_toArray, List.set_cons_zero, List.set_cons_succ]
                  refine nextS (i := 7) (by kernel_rfl) rfl (fun K hK => ?_)
                  go_simp
                  go_at_call 74; refine (HTM.out _ (HX.out.drewN 1)).mono ?_; clear HTM; rintro e w3 ⟨v3, rfl, -, ⟨a3, c3, rfl⟩, hr3, hb3⟩; have hX3 := (HX.out.drewN 1).digit hb3 hr3; obtain ⟨dy0, dy1, fy0, fy1⟩ := num_cells4 hX3.1
                  go_wp2_with fail
                  refine hK.out _ _ dy0 (fun hHeld => ?_)
                  clear hK K
                  try simp only [Act.put, List.setIfInBounds_toArray, List.set_cons_zero, List.set_cons_succ]
                  refine takeP (i := 8) (v := ?_) 69 rfl rfl (by kernel_rfl) (by kernel_rfl) (by kernel_rfl) (fun _ _ _ h => h) (by kernel_rfl) (Or.inl ⟨by rfl, ?_⟩) hHeld ?_
                  rotate_left
                  focus (intro w _; go_simp; try (with_reducible rfl))
                  try simp only [Act.put, List.setIfInBounds_toArray, List.set_cons_zero, List.set_cons_succ]
                  refine nextT (i := 9) (by kernel_rfl) (by kernel_rfl) rfl (fun K hK => ?_)
                  go_simp
                  refine hK.out _ _ ?_
                  clear hK K
                  try simp only [Act.put, List.setIfInBounds_toArray, List.set_cons_zero, List.set_cons_succ]
                  clear hHeld
                  refine endM (by kernel_rfl) ?_ _

                  go_upto_region 21 with fail
                  have HX3 : Hid (XAt B w (w3.setCell ⟨B, 0, none⟩ (.slice a3 (digQ V').length c3)) a3 (digQ V').length c3 V' p) := hX3.2
                  obtain ⟨W3, hW3⟩ : ∃ W3, W3 = w3.setCell ⟨B, 0, none⟩ (.slice a3 (digQ V').length c3) := ⟨_, rfl⟩
                  rw [← hW3] at HX3 ⊢
                  clear hX3 hr3 hb3 dy0 dy1 fy0 fy1 cx0 cx1 fx0 fx1 HX hW3
                  have e9 := HS.out.1
                  rw [← e9] at HX3
                  try rw [← e9]
                  clear e9
                  obtain ⟨cx0, cx1, fx0, fx1⟩ := num_cells4 HX3.out.x
                  have hl3 : l' ≤ 2000 := HS.out.2.2.1
                  rcases hP with hP0 | hP1
                  · have hPb : ((P : Int) == 1) = false := by rw [beq_eq_false_iff_ne]; omega
                    by_cases hz : l' = 0
                    · have hzi : ¬ (0 : Int) < (l' : Int) := by omega
                      go_wp2_with fail
                      go_roundw
                      case rel => exact ⟨k + 1, n + 1, m, l', c3, V', p, true, ds', a3, by go_num, by omega, rfl, rfl, by omega, hl3, HS.out.2.2.2.1 hz hP0 HX3.out⟩
                      case measure => simp [intOf]; omega
                    · have hzi : (0 : Int) < (l' : Int) := by omega
                      go_wp2_with fail
                      go_roundw
                      case rel => exact ⟨k + 1, n + 1, m + 1, l', c3, V', p, true, ds', a3, by go_num, by omega, rfl, by go_num, by omega, hl3, HS.out.2.2.2.2.1 hz hP0 HX3.out⟩
                      case measure => simp [intOf]; omega
                  · have hPb : ((P : Int) == 1) = true := by rw [beq_iff_eq]; omega
                    have HX4 : Hid (XAt B w (W3.setCell ⟨B, 1, none⟩ (.int .i64 (p - 1))) a3 l' c3 V' (p - 1)) := HX3.out.power (p - 1)
                    by_cases hz : l' = 0
                    · have hzi : ¬ (0 : Int) < (l' : Int) := by omega
                      go_wp2_with fail
                      go_roundw
                      case rel => exact ⟨k + 1, n + 1, m, l', c3, V', p - 1, true, ds', a3, by go_num, by omega, rfl, rfl, by omega, hl3, HS.out.2.2.2.2.2.1 hz hP1 HX4.out⟩
                      case measure => simp [intOf]; omega
                    · have hzi : (0 : Int) < (l' : Int) := by omega
                      go_wp2_with fail
                      go_roundw
                      case rel => exact ⟨k + 1, n + 1, m + 1, l', c3, V', p - 1, true, ds', a3, by go_num, by omega, rfl, by go_num, by omega, hl3, HS.out.2.2.2.2.2.2 hz hP1 HX4.out⟩
                      case measure => simp [intOf]; omega
                · have hdig := refDigit_no (b := (t[k].toNat : Int)) wr (by omega)
                  rcases hP with hP0 | hP1
                  · have hPb : ((P : Int) == 0) = true := by rw [beq_iff_eq]; omega
                    by_cases h46 : t[k].toNat = 46
                    · have HI2 : Hid (PI B w wr t 1 (k + 1) n m l c V p A ds a) := pi_point HI.out hlt h46 hP0
                      have hb46 : ((t[k].toNat : Int) == 46) = true := by rw [beq_iff_eq]; omega
                      clear HI hd HX h46
                      generalize hyy : t[k].toNat = y at *
                      go_wp2_with (go_at_call 73; refine hdig.mono ?_; clear hdig; rintro e w9 ⟨rfl, hw9⟩; have hw9 := hw9.symm; subst hw9)
                      go_roundw
                      case rel => exact ⟨1, k + 1, n, m, l, c, V, p, A, ds, a, by go_num, by omega, rfl, rfl, by omega, hl2, rfl, Or.inl ⟨Or.inr rfl, HI2.out⟩⟩
                      case measure => simp [intOf]; omega
                    · have HE : Hid (PE B w wr t k n m l c V p A ds a) := pi_else HI.out hlt hd (Or.inl h46)
                      have hb46 : ((t[k].toNat : Int) == 46) = false := by rw [beq_eq_false_iff_ne]; omega
                      clear HI hd h46 HX
                      generalize hyy : t[k].toNat = y at *
                      go_wp2_with (go_at_call 73; refine hdig.mono ?_; clear hdig; rintro e w9 ⟨rfl, hw9⟩; have hw9 := hw9.symm; subst hw9)
                      go_meet
                      exact ⟨k, n, m, l, c, V, p, A, ds, a, rfl, hk, rfl, rfl, hmk, hl2, HE.out⟩
                  · have hPb : ((P : Int) == 0) = false := by rw [beq_eq_false_iff_ne]; omega
                    have HE : Hid (PE B w wr t k n m l c V p A ds a) := pi_else HI.out hlt hd (Or.inr hP1)
                    clear HI hd HX
                    generalize hyy : t[k].toNat = y at *
                    go_wp2_with (go_at_call 73; refine hdig.mono ?_; clear hdig; rintro e w9 ⟨rfl, hw9⟩; have hw9 := hw9.symm; subst hw9)
                    go_roundw
                    case rel => exact ⟨2, k, n, m, l, c, V, p, A, ds, a, rfl, hk, rfl, rfl, hmk, hl2, rfl, Or.inr ⟨rfl, HE.out⟩⟩
                    case measure => simp [intOf]; omega
              · have hki : ¬ (k : Int) < t.size := by omega
                have HE : Hid (PE B w wr t k n m l c V p A ds a) := pi_end HI.out hlt
                rcases hP with hP0 | hP1
                · have hPb : ((P : Int) == 0) = true := by rw [beq_iff_eq]; omega
                  clear HI HX
                  go_wp2
                  go_meet
                  exact ⟨k, n, m, l, c, V, p, A, ds, a, rfl, hk, rfl, rfl, hmk, hl2, HE.out⟩
                · have hPb : ((P : Int) == 0) = false := by rw [beq_eq_false_iff_ne]; omega
                  clear HI HX
                  go_wp2
                  go_roundw
                  case rel => exact ⟨2, k, n, m, l, c, V, p, A, ds, a, rfl, hk, rfl, rfl, hmk, hl2, rfl, Or.inr ⟨rfl, HE.out⟩⟩
                  case measure => simp [intOf]; omega
          · have hPi : ¬ (P : Int) < 2 := by omega
            go_wp2
            go_meet
            exact ⟨k, n, m, l, c, V, p, A, ds, a, rfl, hk, rfl, rfl, hmk, hl2, HE.out⟩
      case rest =>
        clear HX0
        obtain ⟨k, n, m, l, c, V, p, A, ds, a, rfl, hk, rfl, rfl, hmk, hl2, HE⟩ := hcut
        have HX : Hid (XAt B w wc a l c V p) := HE.out.2.2.2.2.2.2
        by_cases hn0 : n = 0
        · obtain rfl : A = false := by rw [HE.out.1, hn0]; rfl
          have HP2 : Hid (parseR s = (0, 8)) := by
            show _ = _
            rw [HP.out, doc_none (by rw [HE.out.2.2.2.2.2.1, hn0])]
          have HB : Hid (Below w.heap.size w wc) := HE.out.2.2.2.2.2.2.bel
          clear HE HP HX
          go_wp2
          go_ret2
          exact ⟨by rw [HP2.out]; rfl, HB.out⟩
        · obtain rfl : A = true := by rw [HE.out.1]; exact decide_eq_true (by omega)
          by_cases hkl : k < t.size
          · have hkli : (k : Int) < t.size := by omega
            have hes : (t.extract k t.size).size ≤ 1000 := by simp; omega
            have he0 : 0 < (t.extract k t.size).size := by simp; omega
            have HEX : Hid (∀ W : World, Calls Tryz.prog 75 #[.string (t.extract k t.size)] W fun e w' => e = .returned (.tuple #[.int .i64 (expS (t.extract k t.size)).1, .bool (expS (t.extract k t.size)).2]) ∧ w' = W) := fun W => refExp_any _ W hes he0
            have hdm := doc_more htz HE.out.2.2.2.2.2.1 hn0 hkl
            have hss : (t.extract k t.size).size = t.size - k := by simp
            clear hes he0
            generalize hte : t.extract k t.size = te at *
            generalize expS te = ex at *
            obtain ⟨E, ok⟩ := ex
            rcases hdm with ⟨h1, h2⟩ | ⟨h1, h3, h4, q, h2, h5⟩
            · obtain rfl : ok = false := h1
              have HP2 : Hid (parseR s = (0, 8)) := by
                show _ = _
                rw [HP.out, h2]
              have HB : Hid (Below w.heap.size w wc) := HE.out.2.2.2.2.2.2.bel
              clear HE HP HX h2
              go_wp2_with (first
            | (go_at_call 75; (try rw [hte]); refine (HEX.out _).mono ?_; clear HEX; rintro e w4 ⟨rfl, hw4⟩; have hw4 := hw4.symm; subst hw4))
              go_ret2
              exact ⟨by rw [HP2.out]; rfl, HB.out⟩
            · obtain rfl : ok = true := h1
              replace h3 : -10000000 ≤ E := h3
              replace h4 : E ≤ 10000000 := h4
              have HQ5 : Hid (q = p + E ∨ (90000 ≤ q ∧ 90000 ≤ p + E) ∨ (q ≤ -90000 ∧ p + E ≤ -90000)) := h5
              have HD : Hid (decR t = some (ds, q)) := h2
              have hpb := HE.out.2.2.2.2.1
              have HX5 : Hid (XAt B w (wc.setCell ⟨B, 1, none⟩ (.int .i64 (p + E))) a l c V (p + E)) := HE.out.2.2.2.2.2.2.power (p + E)
              have hm4 : m ≤ 400 := by omega
              have HNE : Hid (Calls Tryz.prog 76 #[.agg #[.slice a l c, .int .i64 (p + E)], .int .i64 m] (wc.setCell ⟨B, 1, none⟩ (.int .i64 (p + E))) fun e w' => ∃ R : Nat, e = .returned (.int .u64 R) ∧ NearF (V * 10 ^ (p + E).toNat) (10 ^ (-(p + E)).toNat) R ∧ Below (wc.setCell ⟨B, 1, none⟩ (.int .i64 (p + E))).heap.size (wc.setCell ⟨B, 1, none⟩ (.int .i64 (p + E))) w') :=
                refNearest_any V l c m (p + E) a _ HX5.out.q hm4 (by omega) (by omega) (fun h => by rw [HE.out.2.1, (good_zero HE.out.2.2.2.1).1 (by rw [← HE.out.2.2.1]; exact h)]; rfl) (fun h => good_bound HE.out.2.2.2.1 HE.out.2.1 HE.out.2.2.1 h)
              have HG : Hid (GoodD ds ∧ ds.length ≤ 400 ∧ V = valD ds) := ⟨HE.out.2.2.2.1, by rw [← HE.out.2.1]; exact hm4, HE.out.2.2.1⟩
              obtain ⟨cx0, cx1, fx0, fx1⟩ := num_cells4 HE.out.2.2.2.2.2.2.x
              obtain ⟨cy0, cy1, fy0, fy1⟩ := num_cells4 HX5.out.x
              clear HE HX h2 h5
              go_wp2_with (first
            | (go_at_call 75; (try rw [hte]); refine (HEX.out _).mono ?_; clear HEX; rintro e w4 ⟨rfl, hw4⟩; have hw4 := hw4.symm; subst hw4)
                | (go_at_call 76; refine HNE.out.mono ?_; clear HNE; rintro e w5 ⟨R, rfl, hnf, hb5⟩; obtain ⟨hRn, hRl⟩ := near_done HG.out HQ5.out hnf; have HSI : Hid (∀ W : World, Calls Tryz.prog 72 #[.int .u64 R, .bool ng] W fun e w' => e = .returned (.float .f64 (sgB ng R)) ∧ w' = W) := (fun W => refSigned_any R ng W hRl); have HB5 : Hid (Below w.heap.size w w5) := HX5.out.bel.trans (hb5.mono HX5.out.bel.size); have HP2 : Hid (parseR s = (sgB ng R, 0)) := parse_done HP.out HD.out hRn; clear hnf hb5 hRn hRl HP)
                | (go_at_call 72; refine (HSI.out _).mono ?_; clear HSI; rintro e w6 ⟨rfl, hw6⟩; have hw6 := hw6.symm; subst hw6))
              go_ret2
              exact ⟨by rw [HP2.out]; rfl, HB5.out⟩
          · have hkli : ¬ (k : Int) < t.size := by omega
            have HD : Hid (decR t = some (ds, p)) := doc_end (by rw [HE.out.2.2.2.2.2.1, List.drop_of_length_le (by simp; omega)]) hn0
            have hpb := HE.out.2.2.2.2.1
            have HX5 : Hid (XAt B w wc a l c V p) := HE.out.2.2.2.2.2.2
            have hm4 : m ≤ 400 := by omega
            have HNE : Hid (Calls Tryz.prog 76 #[.agg #[.slice a l c, .int .i64 p], .int .i64 m] wc fun e w' => ∃ R : Nat, e = .returned (.int .u64 R) ∧ NearF (V * 10 ^ p.toNat) (10 ^ (-p).toNat) R ∧ Below wc.heap.size wc w') :=
              refNearest_any V l c m p a _ HX5.out.q hm4 (by omega) (by omega) (fun h => by rw [HE.out.2.1, (good_zero HE.out.2.2.2.1).1 (by rw [← HE.out.2.2.1]; exact h)]; rfl) (fun h => good_bound HE.out.2.2.2.1 HE.out.2.1 HE.out.2.2.1 h)
            have HG : Hid (GoodD ds ∧ ds.length ≤ 400 ∧ V = valD ds) := ⟨HE.out.2.2.2.1, by rw [← HE.out.2.1]; exact hm4, HE.out.2.2.1⟩
            obtain ⟨cx0, cx1, fx0, fx1⟩ := num_cells4 HX5.out.x
            clear HE HX
            go_wp2_with (first
            | (go_at_call 76; refine HNE.out.mono ?_; clear HNE; rintro e w5 ⟨R, rfl, hnf, hb5⟩; obtain ⟨hRn, hRl⟩ := near_done HG.out (Or.inl rfl) hnf; have HSI : Hid (∀ W : World, Calls Tryz.prog 72 #[.int .u64 R, .bool ng] W fun e w' => e = .returned (.float .f64 (sgB ng R)) ∧ w' = W) := (fun W => refSigned_any R ng W hRl); have HB5 : Hid (Below w.heap.size w w5) := HX5.out.bel.trans (hb5.mono HX5.out.bel.size); have HP2 : Hid (parseR s = (sgB ng R, 0)) := parse_done HP.out HD.out hRn; clear hnf hb5 hRn hRl HP)
              | (go_at_call 72; refine (HSI.out _).mono ?_; clear HSI; rintro e w6 ⟨rfl, hw6⟩; have hw6 := hw6.symm; subst hw6))
            go_ret2
            exact ⟨by rw [HP2.out]; rfl, HB5.out⟩
end Go.Proofs.YtfckdleahljdeaaGreatDoor.Nu
