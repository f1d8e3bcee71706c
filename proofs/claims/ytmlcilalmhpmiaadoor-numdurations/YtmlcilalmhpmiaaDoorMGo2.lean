/- Seconds, as the document writes them. -/
import Derived.Test.YtmlcilalmhpmiaaDoorMGo1
namespace Go.Proofs.YtmlcilalmhpmiaaDoor
open Go.RowKit Go.Maps

/-- Noughts ahead, up to three digits. -/
def padT (l : List UInt8) : List UInt8 := List.replicate (3 - l.length) 48 ++ l
theorem padT_dec {r : Nat} (h : r < 1000) : padT (Lib.decDigits r) = pad3 r ∧ (Lib.decDigits r).length ≤ 3 := by
  have hz : (48 : UInt8) = dg 0 := rfl
  by_cases h1 : r < 10
  · rw [dec_one h1]
    unfold padT pad3
    rw [show r / 100 = 0 by omega, show r / 10 % 10 = 0 by omega, show r % 10 = r by omega]
    exact ⟨rfl, by simp⟩
  · by_cases h2 : r < 100
    · rw [dec_step h1, dec_one (show r / 10 < 10 by omega)]
      unfold padT pad3
      rw [show r / 100 = 0 by omega, show r / 10 % 10 = r / 10 by omega]
      exact ⟨rfl, by simp⟩
    · rw [dec_step h1, dec_step (show ¬ r / 10 < 10 by omega), dec_one (show r / 10 / 10 < 10 by omega)]
      unfold padT pad3
      rw [show r / 10 / 10 = r / 100 by omega]
      exact ⟨rfl, by simp⟩
theorem padT_more {l : List UInt8} (h : l.length < 3) : padT (48 :: l) = padT l := by
  unfold padT
  rw [List.length_cons, show 3 - l.length = (3 - (l.length + 1)) + 1 by omega, List.replicate_succ']
  simp
theorem padT_full {l : List UInt8} (h : ¬ l.length < 3) : padT l = l := by
  unfold padT
  rw [show 3 - l.length = 0 by omega]
  rfl

theorem trimB_nought (l : List UInt8) : Lib.trimRightB (l ++ [48]) 48 = Lib.trimRightB l 48 := by
  unfold Lib.trimRightB
  rw [List.reverse_append]
  simp
theorem trimB_other (l : List UInt8) {c : UInt8} (h : c ≠ 48) : Lib.trimRightB (l ++ [c]) 48 = l ++ [c] := by
  unfold Lib.trimRightB
  rw [List.reverse_append, List.reverse_singleton, List.singleton_append, List.dropWhile_cons_of_neg (by simpa using h)]
  simp
theorem trim3_ne (r : Nat) : trim3 r ≠ [] := by
  unfold trim3 pad3
  split
  · simp
  · split <;> simp
theorem snoc_size (l : List UInt8) (c : UInt8) : (⟨(l ++ [c]).toArray⟩ : ByteArray).size = l.length + 1 := by rw [sizeL]; simp
theorem snoc_last (l : List UInt8) (c : UInt8) (h : l.length < (⟨(l ++ [c]).toArray⟩ : ByteArray).size) : (⟨(l ++ [c]).toArray⟩ : ByteArray)[l.length] = c := by
  rw [← getT _ _ h (by simp)]
  simp
theorem snoc_cut (l : List UInt8) (c : UInt8) : (⟨(l ++ [c]).toArray⟩ : ByteArray).extract 0 l.length = ⟨l.toArray⟩ := by
  rw [ext_list]
  congr 2
  simp

set_option maxRecDepth 100000 in
set_option maxHeartbeats 1000000 in
theorem refSeconds_neg (ms : Int) (w : World) (h1 : -9223372036854775808 ≤ ms) (h2 : ms ≤ 9223372036854775807) (hneg : ms < 0) : Calls Tryd.prog 30 #[.int .i64 ms] w fun e w' => e = .returned (.string ⟨(secT ms).toArray⟩) ∧ Below w.heap.size w w' := by
  obtain ⟨n, hn⟩ : ∃ n, n = ms.natAbs := ⟨_, rfl⟩
  obtain ⟨q, hq⟩ : ∃ q, q = ms.tdiv 1000 := ⟨_, rfl⟩
  obtain ⟨z, hz⟩ : ∃ z, z = ms.tmod 1000 := ⟨_, rfl⟩
  have hqa : q.natAbs = n / 1000 := by rw [hq, hn]; exact Int.natAbs_tdiv ms 1000
  have hza : z.natAbs = n % 1000 := by rw [hz, hn]; exact Int.natAbs_tmod ms 1000
  obtain ⟨r, hr⟩ : ∃ r, r = n % 1000 := ⟨_, rfl⟩
  have hr3 : r < 1000 := by omega
  have HSEC : Hid (secT ms = [45] ++ Lib.decDigits q.natAbs ++ (if r = 0 then [] else 46 :: trim3 r)) := by
    show _ = _
    unfold secT
    rw [if_pos hneg, ← hn, ← hr, hqa]
  have hq1 : -9223372036854775808 ≤ q ∧ q ≤ 9223372036854775807 := by omega
  have hz1 : -1000 < z ∧ z < 1000 := by omega
  have hzr : z.natAbs = r := by omega
  have hw1 : wrap64 q = q := by unfold wrap64; omega
  have hw2 : wrap64 z = z := by unfold wrap64; omega
  obtain ⟨fz, hfz⟩ : ∃ fz : Int → ByteArray, fz = fun z => ⟨(Lib.decDigits z.natAbs).toArray⟩ := ⟨_, rfl⟩
  have HPX : Hid (∀ z, inI z → ∀ W : World, Calls Tryd.prog 45 #[.int .i64 z] W fun e w' => e = .returned (.string (fz z)) ∧ Below W.heap.size W w') := fun z hz W => by
    rw [hfz]
    exact plainRef_any z.natAbs z (Nat.le_refl _) hz.1 hz.2 W
  have HQ : Hid (inI q) := hq1
  have HZ : Hid (inI z) := by show inI z; unfold inI; omega
  have hdl : (Lib.decDigits q.natAbs).length ≤ 20 := dec_len _ (by omega)
  have hfq : fz q = ⟨(Lib.decDigits q.natAbs).toArray⟩ := by rw [hfz]
  have hfr : fz z = ⟨(Lib.decDigits r).toArray⟩ := by rw [hfz, ← hzr]
  have hqs : (⟨(Lib.decDigits q.natAbs).toArray⟩ : ByteArray).size ≤ 20 := by rw [sizeL]; exact hdl
  have HBL : Hid (Below w.heap.size w w) := Below.refl _ _
  replace hq := hq.symm
  replace hz := hz.symm
  by_cases hr0 : r = 0
  · have hz0 : z = 0 := by omega
    have HJ : Hid ((⟨#[45]⟩ : ByteArray) ++ ⟨(Lib.decDigits q.natAbs).toArray⟩ = ⟨(secT ms).toArray⟩) := by
      show _ = _
      rw [HSEC.out, if_pos hr0, List.append_nil]
      exact ba_join [45] _
    rw [hz0] at hz
    clear HSEC hfz hfr hdl hr hza hqa hzr hz1 hq1 hn hr0 hr3 hz0 HZ hw2
    generalize (⟨(Lib.decDigits q.natAbs).toArray⟩ : ByteArray) = QS at *
    go_enter Tryd.func30, Tryd.ntmps30
    go_wp2_with (go_at_call 45; refine (HPX.out _ HQ.out _).mono ?_; rintro e w3 ⟨rfl, hb3⟩; have HB3 : Hid (Below w.heap.size w w3) := HBL.out.trans (hb3.mono HBL.out.size); clear hb3 HBL; have HBL : Hid (Below w.heap.size w w3) := HB3.out; clear HB3)
    go_ret
    exact ⟨by rw [← HJ.out]; first | rfl | simp, HBL.out⟩
  · have hz0 : (z == 0) = false := by rw [beq_eq_false_iff_ne]; omega
    have HJ : Hid ((⟨#[45]⟩ : ByteArray) ++ ⟨(Lib.decDigits q.natAbs).toArray⟩ ++ ⟨#[46]⟩ ++ ⟨(trim3 r).toArray⟩ = ⟨(secT ms).toArray⟩) := by
      show _ = _
      rw [HSEC.out, if_neg hr0]
      refine (congrArg (· ++ (⟨(trim3 r).toArray⟩ : ByteArray)) (ba_join3 [45] (Lib.decDigits q.natAbs) [46])).trans ?_
      refine (ba_join _ (trim3 r)).trans ?_
      congr 2
      simp
    have HPAD : Hid (padT (Lib.decDigits r) = pad3 r ∧ (Lib.decDigits r).length ≤ 3) := padT_dec hr3
    have HTP : Hid (Lib.trimRightB (pad3 r) 48 = trim3 r) := trim_pad (by omega) hr3
    clear HSEC hfz hdl hr hza hqa hzr hz1 hq1 hn hr0 hr3
    have HZS : Hid ((⟨(Lib.decDigits r).toArray⟩ : ByteArray) = fz z) := hfr.symm
    clear hfr
    generalize (⟨(Lib.decDigits q.natAbs).toArray⟩ : ByteArray) = QS at *
    go_enter Tryd.func30, Tryd.ntmps30
    go_wp2_with (go_at_call 45; refine (HPX.out _ (by first | exact HQ.out | exact HZ.out) _).mono ?_; rintro e w3 ⟨rfl, hb3⟩; have HB3 : Hid (Below w.heap.size w w3) := HBL.out.trans (hb3.mono HBL.out.size); clear hb3 HBL; have HBL : Hid (Below w.heap.size w w3) := HB3.out; clear HB3)
    go_loop [5] (fun t => ∃ l : List UInt8, t = .string ⟨l.toArray⟩ ∧ l.length ≤ 3 ∧ Hid (padT l = pad3 r)) (fun t => 3 - lenV t)
    case atStart => exact ⟨Lib.decDigits r, by rw [HZS.out], HPAD.out.2, HPAD.out.1⟩
    case round =>
      obtain ⟨l, rfl, hl3, HP⟩ := hrel
      have hsz := sizeL l
      by_cases hlt : l.length < 3
      · have HP2 : Hid (padT (48 :: l) = pad3 r) := (padT_more hlt).trans HP.out
        have HJ2 : Hid ((⟨#[48]⟩ : ByteArray) ++ ⟨l.toArray⟩ = ⟨(48 :: l).toArray⟩) := ba_join [48] l
        have hss : (⟨l.toArray⟩ : ByteArray).size < 3 := by rw [hsz]; exact hlt
        have HM : Hid (3 - (⟨(48 :: l).toArray⟩ : ByteArray).size < 3 - (⟨l.toArray⟩ : ByteArray).size) := by show _ < _; rw [sizeL, sizeL]; simp; omega
        clear hsz
        generalize hLS : (⟨l.toArray⟩ : ByteArray) = LS at *
        clear hLS
        go_wp2
        go_round
        case rel => exact ⟨48 :: l, by rw [← HJ2.out], by simp; omega, HP2.out⟩
        case measure => rw [HJ2.out]; exact HM.out
      · have hlp : l = pad3 r := by rw [← HP.out, padT_full hlt]
        have hss : ¬ (⟨l.toArray⟩ : ByteArray).size < 3 := by rw [hsz]; exact hlt
        have hss2 : (⟨l.toArray⟩ : ByteArray).size ≤ 3 := by rw [hsz]; exact hl3
        have HLP : Hid (l = pad3 r) := hlp
        clear hsz hlp HP
        generalize hLS : (⟨l.toArray⟩ : ByteArray) = LS at *
        have HLS : Hid ((⟨l.toArray⟩ : ByteArray) = LS) := hLS
        clear hLS
        go_wp2
        go_loop [5] (fun t => ∃ l : List UInt8, t = .string ⟨l.toArray⟩ ∧ l.length ≤ 3 ∧ Hid (Lib.trimRightB l 48 = trim3 r)) (fun t => lenV t)
        case atStart => exact ⟨pad3 r, by rw [← HLS.out, HLP.out], Nat.le_refl 3, HTP.out⟩
        case round =>
          obtain ⟨l2, rfl, hl2, HT⟩ := hrel
          rcases List.eq_nil_or_concat l2 with rfl | ⟨l3, c, hl4⟩
          · exact absurd HT.out.symm (trim3_ne r)
          · rw [List.concat_eq_append] at hl4
            subst hl4
            have hsz2 := snoc_size l3 c
            have hlast := snoc_last l3 c (by omega)
            have hcut := snoc_cut l3 c
            have hk3 : l3.length ≤ 2 := by simp at hl2; omega
            have hbc : c.toNat < 256 := c.toNat_lt
            have hltS : l3.length < (⟨(l3 ++ [c]).toArray⟩ : ByteArray).size := by omega
            have hyy : ((⟨(l3 ++ [c]).toArray⟩ : ByteArray)[l3.length]'hltS).toNat = c.toNat := by rw [hlast]
            clear hlast
            by_cases hc : c = 48
            · have HT2 : Hid (Lib.trimRightB l3 48 = trim3 r) := by show _ = _; rw [← HT.out, hc]; exact (trimB_nought l3).symm
              rw [show c.toNat = 48 by rw [hc]; rfl] at hyy
              have HM : Hid ((⟨l3.toArray⟩ : ByteArray).size < (⟨(l3 ++ [c]).toArray⟩ : ByteArray).size) := by show _ < _; rw [sizeL]; exact hltS
              have HK3 : Hid (l3.length ≤ 3) := Nat.le_succ_of_le hk3
              clear HT hl2 hc
              generalize (⟨(l3 ++ [c]).toArray⟩ : ByteArray) = SS at *
              have HRS : Hid (∃ RS : ByteArray, RS = ⟨l3.toArray⟩) := ⟨_, rfl⟩
              generalize hRS : (⟨l3.toArray⟩ : ByteArray) = RS at *
              have HRS2 : Hid ((⟨l3.toArray⟩ : ByteArray) = RS) := hRS
              clear hRS HRS
              generalize hk : l3.length = k at *
              have HLK : Hid (l3.length = k) := hk
              clear hk
              go_wp2
              go_round
              case rel => exact ⟨l3, by rw [HRS2.out], Nat.le_trans (Nat.le_of_eq HLK.out) HK3.out, HT2.out⟩
              case measure => exact HM.out
            · have HT2 : Hid (l3 ++ [c] = trim3 r) := by show _ = _; rw [← HT.out]; exact (trimB_other l3 hc).symm
              have hcn : ((c.toNat : Int) == 48) = false := by
                rw [beq_eq_false_iff_ne]
                intro e
                exact hc (UInt8.toNat_inj.1 (by rw [show (48 : UInt8).toNat = 48 from rfl]; omega))
              clear HT hl2 hc hcut
              rw [← HT2.out] at HJ
              generalize (⟨(l3 ++ [c]).toArray⟩ : ByteArray) = SS at *
              generalize hk : l3.length = k at *
              generalize hy : c.toNat = y at *
              clear hk hy
              go_wp2
              go_ret
              exact ⟨by rw [← HJ.out]; first | rfl | simp, HBL.out⟩
set_option maxRecDepth 100000 in
set_option maxHeartbeats 1000000 in
theorem refSeconds_pos (ms : Int) (w : World) (h1 : -9223372036854775808 ≤ ms) (h2 : ms ≤ 9223372036854775807) (hneg : ¬ ms < 0) : Calls Tryd.prog 30 #[.int .i64 ms] w fun e w' => e = .returned (.string ⟨(secT ms).toArray⟩) ∧ Below w.heap.size w w' := by
  obtain ⟨n, hn⟩ : ∃ n, n = ms.natAbs := ⟨_, rfl⟩
  obtain ⟨q, hq⟩ : ∃ q, q = ms.tdiv 1000 := ⟨_, rfl⟩
  obtain ⟨z, hz⟩ : ∃ z, z = ms.tmod 1000 := ⟨_, rfl⟩
  have hqa : q.natAbs = n / 1000 := by rw [hq, hn]; exact Int.natAbs_tdiv ms 1000
  have hza : z.natAbs = n % 1000 := by rw [hz, hn]; exact Int.natAbs_tmod ms 1000
  obtain ⟨r, hr⟩ : ∃ r, r = n % 1000 := ⟨_, rfl⟩
  have hr3 : r < 1000 := by omega
  have HSEC : Hid (secT ms = [] ++ Lib.decDigits q.natAbs ++ (if r = 0 then [] else 46 :: trim3 r)) := by
    show _ = _
    unfold secT
    rw [if_neg hneg, ← hn, ← hr, hqa]
  have hq1 : -9223372036854775808 ≤ q ∧ q ≤ 9223372036854775807 := by omega
  have hz1 : -1000 < z ∧ z < 1000 := by omega
  have hzr : z.natAbs = r := by omega
  have hw1 : wrap64 q = q := by unfold wrap64; omega
  have hw2 : wrap64 z = z := by unfold wrap64; omega
  obtain ⟨fz, hfz⟩ : ∃ fz : Int → ByteArray, fz = fun z => ⟨(Lib.decDigits z.natAbs).toArray⟩ := ⟨_, rfl⟩
  have HPX : Hid (∀ z, inI z → ∀ W : World, Calls Tryd.prog 45 #[.int .i64 z] W fun e w' => e = .returned (.string (fz z)) ∧ Below W.heap.size W w') := fun z hz W => by
    rw [hfz]
    exact plainRef_any z.natAbs z (Nat.le_refl _) hz.1 hz.2 W
  have HQ : Hid (inI q) := hq1
  have HZ : Hid (inI z) := by show inI z; unfold inI; omega
  have hdl : (Lib.decDigits q.natAbs).length ≤ 20 := dec_len _ (by omega)
  have hfq : fz q = ⟨(Lib.decDigits q.natAbs).toArray⟩ := by rw [hfz]
  have hfr : fz z = ⟨(Lib.decDigits r).toArray⟩ := by rw [hfz, ← hzr]
  have hqs : (⟨(Lib.decDigits q.natAbs).toArray⟩ : ByteArray).size ≤ 20 := by rw [sizeL]; exact hdl
  have HBL : Hid (Below w.heap.size w w) := Below.refl _ _
  replace hq := hq.symm
  replace hz := hz.symm
  by_cases hr0 : r = 0
  · have hz0 : z = 0 := by omega
    have HJ : Hid ((⟨#[]⟩ : ByteArray) ++ ⟨(Lib.decDigits q.natAbs).toArray⟩ = ⟨(secT ms).toArray⟩) := by
      show _ = _
      rw [HSEC.out, if_pos hr0, List.append_nil]
      exact ba_join [] _
    rw [hz0] at hz
    clear HSEC hfz hfr hdl hr hza hqa hzr hz1 hq1 hn hr0 hr3 hz0 HZ hw2
    generalize (⟨(Lib.decDigits q.natAbs).toArray⟩ : ByteArray) = QS at *
    go_enter Tryd.func30, Tryd.ntmps30
    go_wp2_with (go_at_call 45; refine (HPX.out _ HQ.out _).mono ?_; rintro e w3 ⟨rfl, hb3⟩; have HB3 : Hid (Below w.heap.size w w3) := HBL.out.trans (hb3.mono HBL.out.size); clear hb3 HBL; have HBL : Hid (Below w.heap.size w w3) := HB3.out; clear HB3)
    go_ret
    exact ⟨by rw [← HJ.out]; first | rfl | simp, HBL.out⟩
  · have hz0 : (z == 0) = false := by rw [beq_eq_false_iff_ne]; omega
    have HJ : Hid ((⟨#[]⟩ : ByteArray) ++ ⟨(Lib.decDigits q.natAbs).toArray⟩ ++ ⟨#[46]⟩ ++ ⟨(trim3 r).toArray⟩ = ⟨(secT ms).toArray⟩) := by
      show _ = _
      rw [HSEC.out, if_neg hr0]
      refine (congrArg (· ++ (⟨(trim3 r).toArray⟩ : ByteArray)) (ba_join3 [] (Lib.decDigits q.natAbs) [46])).trans ?_
      refine (ba_join _ (trim3 r)).trans ?_
      congr 2
      simp
    have HPAD : Hid (padT (Lib.decDigits r) = pad3 r ∧ (Lib.decDigits r).length ≤ 3) := padT_dec hr3
    have HTP : Hid (Lib.trimRightB (pad3 r) 48 = trim3 r) := trim_pad (by omega) hr3
    clear HSEC hfz hdl hr hza hqa hzr hz1 hq1 hn hr0 hr3
    have HZS : Hid ((⟨(Lib.decDigits r).toArray⟩ : ByteArray) = fz z) := hfr.symm
    clear hfr
    generalize (⟨(Lib.decDigits q.natAbs).toArray⟩ : ByteArray) = QS at *
    go_enter Tryd.func30, Tryd.ntmps30
    go_wp2_with (go_at_call 45; refine (HPX.out _ (by first | exact HQ.out | exact HZ.out) _).mono ?_; rintro e w3 ⟨rfl, hb3⟩; have HB3 : Hid (Below w.heap.size w w3) := HBL.out.trans (hb3.mono HBL.out.size); clear hb3 HBL; have HBL : Hid (Below w.heap.size w w3) := HB3.out; clear HB3)
    go_loop [5] (fun t => ∃ l : List UInt8, t = .string ⟨l.toArray⟩ ∧ l.length ≤ 3 ∧ Hid (padT l = pad3 r)) (fun t => 3 - lenV t)
    case atStart => exact ⟨Lib.decDigits r, by rw [HZS.out], HPAD.out.2, HPAD.out.1⟩
    case round =>
      obtain ⟨l, rfl, hl3, HP⟩ := hrel
      have hsz := sizeL l
      by_cases hlt : l.length < 3
      · have HP2 : Hid (padT (48 :: l) = pad3 r) := (padT_more hlt).trans HP.out
        have HJ2 : Hid ((⟨#[48]⟩ : ByteArray) ++ ⟨l.toArray⟩ = ⟨(48 :: l).toArray⟩) := ba_join [48] l
        have hss : (⟨l.toArray⟩ : ByteArray).size < 3 := by rw [hsz]; exact hlt
        have HM : Hid (3 - (⟨(48 :: l).toArray⟩ : ByteArray).size < 3 - (⟨l.toArray⟩ : ByteArray).size) := by show _ < _; rw [sizeL, sizeL]; simp; omega
        clear hsz
        generalize hLS : (⟨l.toArray⟩ : ByteArray) = LS at *
        clear hLS
        go_wp2
        go_round
        case rel => exact ⟨48 :: l, by rw [← HJ2.out], by simp; omega, HP2.out⟩
        case measure => rw [HJ2.out]; exact HM.out
      · have hlp : l = pad3 r := by rw [← HP.out, padT_full hlt]
        have hss : ¬ (⟨l.toArray⟩ : ByteArray).size < 3 := by rw [hsz]; exact hlt
        have hss2 : (⟨l.toArray⟩ : ByteArray).size ≤ 3 := by rw [hsz]; exact hl3
        have HLP : Hid (l = pad3 r) := hlp
        clear hsz hlp HP
        generalize hLS : (⟨l.toArray⟩ : ByteArray) = LS at *
        have HLS : Hid ((⟨l.toArray⟩ : ByteArray) = LS) := hLS
        clear hLS
        go_wp2
        go_loop [5] (fun t => ∃ l : List UInt8, t = .string ⟨l.toArray⟩ ∧ l.length ≤ 3 ∧ Hid (Lib.trimRightB l 48 = trim3 r)) (fun t => lenV t)
        case atStart => exact ⟨pad3 r, by rw [← HLS.out, HLP.out], Nat.le_refl 3, HTP.out⟩
        case round =>
          obtain ⟨l2, rfl, hl2, HT⟩ := hrel
          rcases List.eq_nil_or_concat l2 with rfl | ⟨l3, c, hl4⟩
          · exact absurd HT.out.symm (trim3_ne r)
          · rw [List.concat_eq_append] at hl4
            subst hl4
            have hsz2 := snoc_size l3 c
            have hlast := snoc_last l3 c (by omega)
            have hcut := snoc_cut l3 c
            have hk3 : l3.length ≤ 2 := by simp at hl2; omega
            have hbc : c.toNat < 256 := c.toNat_lt
            have hltS : l3.length < (⟨(l3 ++ [c]).toArray⟩ : ByteArray).size := by omega
            have hyy : ((⟨(l3 ++ [c]).toArray⟩ : ByteArray)[l3.length]'hltS).toNat = c.toNat := by rw [hlast]
            clear hlast
            by_cases hc : c = 48
            · have HT2 : Hid (Lib.trimRightB l3 48 = trim3 r) := by show _ = _; rw [← HT.out, hc]; exact (trimB_nought l3).symm
              rw [show c.toNat = 48 by rw [hc]; rfl] at hyy
              have HM : Hid ((⟨l3.toArray⟩ : ByteArray).size < (⟨(l3 ++ [c]).toArray⟩ : ByteArray).size) := by show _ < _; rw [sizeL]; exact hltS
              have HK3 : Hid (l3.length ≤ 3) := Nat.le_succ_of_le hk3
              clear HT hl2 hc
              generalize (⟨(l3 ++ [c]).toArray⟩ : ByteArray) = SS at *
              have HRS : Hid (∃ RS : ByteArray, RS = ⟨l3.toArray⟩) := ⟨_, rfl⟩
              generalize hRS : (⟨l3.toArray⟩ : ByteArray) = RS at *
              have HRS2 : Hid ((⟨l3.toArray⟩ : ByteArray) = RS) := hRS
              clear hRS HRS
              generalize hk : l3.length = k at *
              have HLK : Hid (l3.length = k) := hk
              clear hk
              go_wp2
              go_round
              case rel => exact ⟨l3, by rw [HRS2.out], Nat.le_trans (Nat.le_of_eq HLK.out) HK3.out, HT2.out⟩
              case measure => exact HM.out
            · have HT2 : Hid (l3 ++ [c] = trim3 r) := by show _ = _; rw [← HT.out]; exact (trimB_other l3 hc).symm
              have hcn : ((c.toNat : Int) == 48) = false := by
                rw [beq_eq_false_iff_ne]
                intro e
                exact hc (UInt8.toNat_inj.1 (by rw [show (48 : UInt8).toNat = 48 from rfl]; omega))
              clear HT hl2 hc hcut
              rw [← HT2.out] at HJ
              generalize (⟨(l3 ++ [c]).toArray⟩ : ByteArray) = SS at *
              generalize hk : l3.length = k at *
              generalize hy : c.toNat = y at *
              clear hk hy
              go_wp2
              go_ret
              exact ⟨by rw [← HJ.out]; first | rfl | simp, HBL.out⟩
theorem refSeconds_any (ms : Int) (w : World) (h1 : -9223372036854775808 ≤ ms) (h2 : ms ≤ 9223372036854775807) : Calls Tryd.prog 30 #[.int .i64 ms] w fun e w' => e = .returned (.string ⟨(secT ms).toArray⟩) ∧ Below w.heap.size w w' := by
  by_cases hneg : ms < 0
  · exact refSeconds_neg ms w h1 h2 hneg
  · exact refSeconds_pos ms w h1 h2 hneg
end Go.Proofs.YtmlcilalmhpmiaaDoor
