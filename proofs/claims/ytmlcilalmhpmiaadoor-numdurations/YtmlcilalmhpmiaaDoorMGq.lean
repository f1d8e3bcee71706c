/- How the document reads a duration. -/
import Derived.Test.YtmlcilalmhpmiaaDoorMGp
namespace Go.Proofs.YtmlcilalmhpmiaaDoor
open Go.RowKit Go.Maps

set_option maxRecDepth 100000 in
set_option maxHeartbeats 4000000 in
theorem refDurRead_zero (w : World) : Calls Tryd.prog 26 #[.string ⟨#[48]⟩] w fun e w' => e = .returned (.tuple #[.int .i64 0, .int .i64 0]) ∧ Below w.heap.size w w' := by
  go_enter Tryd.func26, Tryd.ntmps26
  go_wp2
  go_ret2
  exact ⟨rfl, Below.refl _ _⟩
set_option maxRecDepth 100000 in
set_option maxHeartbeats 4000000 in
theorem refDurRead_nil (w : World) : Calls Tryd.prog 26 #[.string ⟨#[]⟩] w fun e w' => e = .returned (.tuple #[.int .i64 0, .int .i64 8]) ∧ Below w.heap.size w w' := by
  go_enter Tryd.func26, Tryd.ntmps26
  go_wp2
  go_loopw [4, 5, 6, 7] (fun tv fv lv iv wr => tv = .int .i64 0 ∧ fv = .int .i64 0 ∧ lv = .bool false ∧ iv = .int .i64 0 ∧ wr = w) (fun _ _ _ _ _ => 0)
  case atStart => exact ⟨rfl, rfl, rfl, rfl, rfl⟩
  case round =>
    obtain ⟨rfl, rfl, rfl, rfl, rfl⟩ := hrel
    go_wp2
    go_loop [7, 9] (fun iv nv => iv = .int .i64 0 ∧ nv = .int .i64 0) (fun _ _ => 0)
    case atStart => exact ⟨rfl, rfl⟩
    case round =>
      obtain ⟨rfl, rfl⟩ := hrel
      go_wp2
      go_ret2
      exact ⟨rfl, Below.refl _ _⟩

theorem wrap_small {Q : Nat} (h : Q ≤ 9007199254740992) : wrap64 (Q : Int) = Q := by
  unfold wrap64
  omega
theorem quo_ediv {T N Q : Nat} (hT : T ≤ 9007199254740992) (h : (9007199254740992 - (T : Int)).tdiv N = (Q : Int)) : (9007199254740992 - (T : Int)) / (N : Int) = (Q : Int) := by
  rw [← h]
  exact (Int.tdiv_eq_ediv_of_nonneg (by omega)).symm
theorem u_less {u : Nat} (h : u < 7) : 8 - (intOf (.int .i64 ((u : Int) + 1))).toNat < 8 - (intOf (.int .i64 (u : Int))).toNat := by
  simp [intOf]
  omega

set_option maxRecDepth 100000 in
set_option maxHeartbeats 4000000 in
theorem refDurRead_more (s : List UInt8) (S : ByteArray) (R : Int × Int) (w : World) (hSs : S.size ≤ maxLen) (h48 : ¬ S.toList = [48]) (hne0 : 0 < S.size) (HS : Hid (S = ⟨s.toArray⟩)) (HSL : Hid (s.length = S.size)) (HG : Hid (∀ k (h : k < S.size) (h' : k < s.length), s[k] = S[k])) (HR : Hid (docP (s.length + 1) (s.drop 0) 0 (some 0) = R)) :
    Calls Tryd.prog 26 #[.string S] w fun e w' => e = .returned (.tuple #[.int .i64 R.1, .int .i64 R.2]) ∧ Below w.heap.size w w' := by
  have h48b : (S.toList == [48]) = false := by rw [beq_eq_false_iff_ne]; exact h48
  unfold maxLen at hSs
  go_enter Tryd.func26, Tryd.ntmps26
  go_wp2
  go_loopw [4, 5, 6, 7] (fun tv fv lv iv wr => ∃ (a0 T F : Nat) (L : Bool), iv = .int .i64 a0 ∧ a0 ≤ S.size ∧ tv = .int .i64 T ∧ T ≤ 9007199254740992 ∧ fv = .int .i64 F ∧ F ≤ 7 ∧ lv = .bool L ∧ Hid (∃ st, SumAt L T st ∧ ((a0 < s.length ∧ ∃ f, s.length - a0 < f ∧ docP f (s.drop a0) F st = R) ∨ (0 < a0 ∧ a0 = s.length ∧ endP st = R)) ∧ Below w.heap.size w wr)) (fun _ _ _ iv _ => S.size - (intOf iv).toNat)
  case atStart => exact ⟨0, 0, 0, false, rfl, Nat.zero_le _, rfl, by omega, rfl, by omega, rfl, some 0, Or.inl ⟨rfl, rfl⟩, Or.inl ⟨by rw [HSL.out]; exact hne0, s.length + 1, by omega, HR.out⟩, Below.refl _ _⟩
  case round =>
    clear h48 h48b HR
    obtain ⟨a0, T, F, L, rfl, haS, rfl, hT, rfl, hF, rfl, HI⟩ := hrel
    obtain ⟨st, hst, hcase, hbl⟩ := HI.out
    have HBL : Hid (Below w.heap.size w wr) := hbl
    have HST : Hid (SumAt L T st) := hst
    clear HI hst hbl
    rcases hcase with ⟨hact, f, hfl, hdoc⟩ | ⟨h0a, hfin, hend⟩
    · have HDOC : Hid (docP f (s.drop a0) F st = R) := hdoc
      have HFL : Hid (s.length - a0 < f) := hfl
      have hact2 : a0 < S.size := by rw [← HSL.out]; exact hact
      have hai : (a0 : Int) < S.size := by omega
      clear hdoc hfl hact
      go_wp2
      go_loop [7, 9] (fun iv nv => ∃ p N : Nat, iv = .int .i64 p ∧ nv = .int .i64 N ∧ a0 ≤ p ∧ p ≤ S.size ∧ p ≤ a0 + 16 ∧ N < 10000000000000000 ∧ Hid (N = valT ((s.drop a0).take (p - a0))) ∧ Hid (Run isDB s a0 p)) (fun iv _ => S.size - (intOf iv).toNat)
      case atStart => exact ⟨a0, 0, rfl, rfl, Nat.le_refl _, haS, by omega, by omega, by show _ = _; simp [valT], Run.start isDB (by rw [HSL.out]; exact haS)⟩
      case round =>
        obtain ⟨p, N, rfl, rfl, hap, hpS, hp16, hNb, HN, HD⟩ := hrel
        by_cases hpl : p < S.size
        · have hbb : S[p].toNat < 256 := S[p].toNat_lt
          have hsp : p < s.length := by rw [HSL.out]; exact hpl
          have hsg : s[p]'hsp = S[p] := HG.out p hpl hsp
          have hpli : (p : Int) < S.size := by omega
          by_cases hd : 48 ≤ S[p].toNat ∧ S[p].toNat ≤ 57
          · obtain ⟨hd1, hd2⟩ := hd
            have hdig := refDigit_yes (b := (S[p].toNat : Int)) wr (by omega) (by omega)
            by_cases h16 : p < a0 + 16
            · have HD2 : Hid (Run isDB s a0 (p + 1)) := HD.out.more hsp (by rw [hsg]; exact (isDB_iff _).2 ⟨hd1, hd2⟩)
              have HN2 : Hid (N * 10 + (S[p].toNat - 48) = valT ((s.drop a0).take (p + 1 - a0))) := by
                show _ = _
                rw [HD.out.val hsp, hsg, HN.out]
              have hN2 : N * 10 + (S[p].toNat - 48) < 10000000000000000 := by rw [HN2.out]; exact HD2.out.lim (by omega)
              have h16i : (p : Int) - a0 < 16 := by omega
              clear hsg HN HD
              generalize hyy : S[p].toNat = y at *
              go_wp2_with (go_at_call 54; refine hdig.mono ?_; clear hdig; rintro e w2 ⟨rfl, hw2⟩; have hw2 := hw2.symm; subst hw2)
              go_round
              case rel => exact ⟨p + 1, N * 10 + (y - 48), by go_num, by congr 1; omega, by omega, by omega, by omega, hN2, HN2.out, HD2.out⟩
              case measure => simp [intOf]; omega
            · have h16e : p = a0 + 16 := by omega
              have HRR : Hid (R = (0, 8)) := HDOC.out.symm.trans (doc_long (by have h9 := HD.out; rw [h16e] at h9; exact h9))
              have h16i : ¬ (p : Int) - a0 < 16 := by omega
              have h15i : (15 : Int) < (p : Int) - a0 := by omega
              have hpi : ((p : Int) == a0) = false := by rw [beq_eq_false_iff_ne]; omega
              clear h16e h16 hp16 hsg
              generalize hyy : S[p].toNat = y at *
              go_wp2_with (go_at_call 54; refine hdig.mono ?_; clear hdig; rintro e w2 ⟨rfl, hw2⟩; have hw2 := hw2.symm; subst hw2)
              go_ret2
              exact ⟨by rw [HRR.out]; rfl, HBL.out⟩
          · have HDE : Hid (∀ hb : p < s.length, isDB s[p] = false) := fun _ => by
              rw [hsg]
              cases h7 : isDB S[p] with
              | false => rfl
              | true => exact absurd ((isDB_iff _).1 h7) hd
            have hdig := refDigit_no (b := (S[p].toNat : Int)) wr (by omega)
            clear hsg hd
            generalize hyyd : S[p].toNat = yd at *
            by_cases hpa : p = a0
            · subst hpa
              have HRR : Hid (R = (0, 8)) := HDOC.out.symm.trans (doc_short HDE.out (by rw [HSL.out]; exact hpS))
              go_wp2_with (go_at_call 54; refine hdig.mono ?_; clear hdig; rintro e w2 ⟨rfl, hw2⟩; have hw2 := hw2.symm; subst hw2)
              go_ret2
              exact ⟨by rw [HRR.out]; rfl, HBL.out⟩
            · have hpi : ((p : Int) == a0) = false := by rw [beq_eq_false_iff_ne]; omega
              by_cases h15 : p ≤ a0 + 15
              · have HAP : Hid (a0 < p) := by show a0 < p; omega
                have HP15 : Hid (p ≤ a0 + 15) := h15
                have h15i : ¬ (15 : Int) < (p : Int) - a0 := by omega
                go_wp2_with (go_at_call 54; refine hdig.mono ?_; clear hdig; rintro e w2 ⟨rfl, hw2⟩; have hw2 := hw2.symm; subst hw2)
                go_loop [10] (fun kv => ∃ b : Nat, kv = .int .i64 b ∧ p ≤ b ∧ b ≤ S.size ∧ Hid (Run isLB s p b)) (fun kv => S.size - (intOf kv).toNat)
                case atStart => exact ⟨p, rfl, Nat.le_refl _, hpS, Run.start isLB (by rw [HSL.out]; exact hpS)⟩
                case round =>
                  obtain ⟨b, rfl, hpb, hbS, HL⟩ := hrel
                  by_cases hbl : b < S.size
                  · have hbb : S[b].toNat < 256 := S[b].toNat_lt
                    have hsb : b < s.length := by rw [HSL.out]; exact hbl
                    have hsg : s[b]'hsb = S[b] := HG.out b hbl hsb
                    have hbi : (b : Int) < S.size := by omega
                    by_cases h97 : 97 ≤ S[b].toNat
                    · by_cases h122 : S[b].toNat ≤ 122
                      · have HL2 : Hid (Run isLB s p (b + 1)) := HL.out.more hsb (by rw [hsg]; unfold isLB; simp; omega)
                        clear hsg
                        generalize hyy : S[b].toNat = y at *
                        go_wp2
                        go_round
                        case rel => exact ⟨b + 1, by go_num, by omega, by omega, HL2.out⟩
                        case measure => simp [intOf]; omega
                      · have HLE : Hid (∀ hb : b < s.length, isLB s[b] = false) := fun _ => by rw [hsg]; unfold isLB; simp; omega
                        clear hsg
                        generalize hyy : S[b].toNat = y at *
                        have HXS : Hid (∃ XS : ByteArray, XS = ⟨((s.take b).drop p).toArray⟩ ∧ S.extract p b = XS) := ⟨S.extract p b, by rw [HS.out, ext_list], rfl⟩
                        obtain ⟨XS, hXS1, hXS⟩ := HXS.out
                        clear HXS
                        have HXS : Hid (XS = ⟨((s.take b).drop p).toArray⟩) := hXS1
                        clear hXS1
                        go_wp2
                        go_loopw [4, 5, 6, 11, 12] (fun tv fv lv gv uv wu => ∃ (u T2 F2 : Nat) (L2 g : Bool), u ≤ 7 ∧ uv = .int .i64 u ∧ tv = .int .i64 T2 ∧ T2 ≤ 9007199254740992 ∧ fv = .int .i64 F2 ∧ F2 ≤ 7 ∧ lv = .bool L2 ∧ gv = .bool g ∧ Hid (Below w.heap.size w wu ∧ ((g = false ∧ T2 = T ∧ F2 = F ∧ L2 = L ∧ F ≤ u ∧ ∀ j, F ≤ j → j < u → nameU j ≠ (s.take b).drop p) ∨ (g = true ∧ ∃ j, F ≤ j ∧ j < 7 ∧ nameU j = (s.take b).drop p ∧ F2 = j + 1 ∧ SumAt L2 T2 (addP st N (sizeU j)))))) (fun _ _ _ _ uv _ => 8 - (intOf uv).toNat)
                        case atStart => exact ⟨F, T, F, L, false, hF, rfl, rfl, hT, rfl, hF, rfl, rfl, HBL.out, Or.inl ⟨rfl, rfl, rfl, rfl, Nat.le_refl _, fun j h1 h2 => absurd h2 (by omega)⟩⟩
                        case round =>
                          obtain ⟨u, T2, F2, L2, g, hu7, rfl, rfl, hT2, rfl, hF2, rfl, rfl, HI2⟩ := hrel
                          have HBU : Hid (Below w.heap.size w wr) := HI2.out.1
                          rcases HI2.out.2 with ⟨rfl, rfl, rfl, rfl, hFu, hno⟩ | ⟨rfl, j, hFj, hj7, hnm, rfl, hsum⟩
                          · have HNO : Hid (∀ j, F2 ≤ j → j < u → nameU j ≠ (s.take b).drop p) := hno
                            clear HI2 hno
                            by_cases hu : u < 7
                            · have hui : (u : Int) < 7 := by omega
                              have HFU : Hid (F2 ≤ u) := hFu
                              have HU7 : Hid (u < 7) := hu
                              have hmb := sizeU_lim hu
                              by_cases hX : nameU u = (s.take b).drop p
                              · have HNM : Hid (nameU u = (s.take b).drop p) := hX
                                have HUU : Hid (∀ W : World, Calls Tryd.prog 61 #[.int .i64 u] W fun e w' => e = .returned (.tuple #[.string XS, .int .i64 (sizeU u : Nat)]) ∧ Below W.heap.size W w') := fun W => by
                                  have h9 := refUnit_any u hu W
                                  rw [hX, ← HXS.out] at h9
                                  exact h9
                                have hds := docsum (n := N) (m := sizeU u) hT HST.out
                                clear hX HNO hFu hu
                                have HM : Hid (∃ m, m = sizeU u) := ⟨_, rfl⟩
                                obtain ⟨m, hm⟩ : ∃ m, m = sizeU u := ⟨_, rfl⟩
                                rw [← hm] at hds hmb HUU
                                have HSM : Hid (m = sizeU u) := hm
                                clear hm HM
                                rcases hds with ⟨h0, h1, hS2⟩ | ⟨h0, h1, hS2⟩ | ⟨h0, Q, hq, hQb, hS3⟩
                                · have HS2 : Hid (SumAt false T2 (addP st N (sizeU u))) := by rw [HSM.out] at hS2; exact hS2
                                  have hn0 : ¬ (0 : Int) < N := by omega
                                  have hP : (N : Int) * (m : Int) = 0 := by rw [h0]; exact Int.zero_mul _
                                  clear hS2 h0
                                  subst h1
                                  go_wp2_with (go_at_call 61; refine (HUU.out _).mono ?_; clear HUU; rintro e w4 ⟨rfl, hb4⟩; have HB4 : Hid (Below w.heap.size w w4) := HBU.out.trans (hb4.mono HBU.out.size); clear hb4)
                                  go_roundw
                                  case rel => exact ⟨u + 1, T2, u + 1, false, true, HU7.out, rfl, rfl, hT2, rfl, HU7.out, rfl, rfl, HB4.out, Or.inr ⟨rfl, u, HFU.out, HU7.out, HNM.out, rfl, HS2.out⟩⟩
                                  case measure => exact u_less HU7.out
                                · have HS2 : Hid (SumAt true T2 (addP st N (sizeU u))) := by rw [HSM.out] at hS2; exact hS2
                                  have hn0 : ¬ (0 : Int) < N := by omega
                                  have hP : (N : Int) * (m : Int) = 0 := by rw [h0]; exact Int.zero_mul _
                                  clear hS2 h0
                                  subst h1
                                  go_wp2_with (go_at_call 61; refine (HUU.out _).mono ?_; clear HUU; rintro e w4 ⟨rfl, hb4⟩; have HB4 : Hid (Below w.heap.size w w4) := HBU.out.trans (hb4.mono HBU.out.size); clear hb4)
                                  go_roundw
                                  case rel => exact ⟨u + 1, T2, u + 1, true, true, HU7.out, rfl, rfl, hT2, rfl, HU7.out, rfl, rfl, HB4.out, Or.inr ⟨rfl, u, HFU.out, HU7.out, HNM.out, rfl, HS2.out⟩⟩
                                  case measure => exact u_less HU7.out
                                · have HQ : Hid ((9007199254740992 - (T2 : Int)).tdiv N = (Q : Int)) := hq
                                  clear hq
                                  have hn0 : (0 : Int) < N := by omega
                                  have hn1 : ((N : Int) == 0) = false := by rw [beq_eq_false_iff_ne]; omega
                                  have hn2 : ¬ (N : Int) = 0 := by omega
                                  rcases hS3 with ⟨hlt, hS2⟩ | ⟨hlt, h1, hS2⟩ | ⟨hlt, h1, P, hP, hTP, hS2⟩
                                  · have HS2 : Hid (SumAt true T2 (addP st N (sizeU u))) := by rw [HSM.out] at hS2; exact hS2
                                    have hli : (Q : Int) < m := by omega
                                    have hq2 := quo_ediv hT HQ.out
                                    clear hS2 hlt h0 HQ
                                    go_wp2_with (go_at_call 61; refine (HUU.out _).mono ?_; clear HUU; rintro e w4 ⟨rfl, hb4⟩; have HB4 : Hid (Below w.heap.size w w4) := HBU.out.trans (hb4.mono HBU.out.size); clear hb4)
                                    go_roundw
                                    case rel => exact ⟨u + 1, T2, u + 1, true, true, HU7.out, rfl, rfl, hT2, rfl, HU7.out, rfl, rfl, HB4.out, Or.inr ⟨rfl, u, HFU.out, HU7.out, HNM.out, rfl, HS2.out⟩⟩
                                    case measure => exact u_less HU7.out
                                  · have HS2 : Hid (SumAt true T2 (addP st N (sizeU u))) := by rw [HSM.out] at hS2; exact hS2
                                    have hli : ¬ (Q : Int) < m := by omega
                                    have hq2 := quo_ediv hT HQ.out
                                    clear hS2 hlt h0 HQ
                                    subst h1
                                    go_wp2_with (go_at_call 61; refine (HUU.out _).mono ?_; clear HUU; rintro e w4 ⟨rfl, hb4⟩; have HB4 : Hid (Below w.heap.size w w4) := HBU.out.trans (hb4.mono HBU.out.size); clear hb4)
                                    go_roundw
                                    case rel => exact ⟨u + 1, T2, u + 1, true, true, HU7.out, rfl, rfl, hT2, rfl, HU7.out, rfl, rfl, HB4.out, Or.inr ⟨rfl, u, HFU.out, HU7.out, HNM.out, rfl, HS2.out⟩⟩
                                    case measure => exact u_less HU7.out
                                  · have HS2 : Hid (SumAt false (T2 + P) (addP st N (sizeU u))) := by rw [HSM.out] at hS2; exact hS2
                                    have HPP : Hid ((N : Int) * (m : Int) = (P : Int)) := hP
                                    clear hP
                                    have hli : ¬ (Q : Int) < m := by omega
                                    have hPb : P ≤ 9007199254740992 := by omega
                                    have hq2 := quo_ediv hT HQ.out
                                    have hP := HPP.out
                                    clear hS2 hlt h0 HQ HPP
                                    subst h1
                                    go_wp2_with (go_at_call 61; refine (HUU.out _).mono ?_; clear HUU; rintro e w4 ⟨rfl, hb4⟩; have HB4 : Hid (Below w.heap.size w w4) := HBU.out.trans (hb4.mono HBU.out.size); clear hb4)
                                    go_roundw
                                    case rel => exact ⟨u + 1, T2 + P, u + 1, false, true, HU7.out, rfl, rfl, hTP, rfl, HU7.out, rfl, rfl, HB4.out, Or.inr ⟨rfl, u, HFU.out, HU7.out, HNM.out, rfl, HS2.out⟩⟩
                                    case measure => exact u_less HU7.out
                              · have HUU : Hid (∀ W : World, Calls Tryd.prog 61 #[.int .i64 u] W fun e w' => e = .returned (.tuple #[.string ⟨(nameU u).toArray⟩, .int .i64 (sizeU u : Nat)]) ∧ Below W.heap.size W w') := fun W => refUnit_any u hu W
                                have HNO2 : Hid (∀ j, F2 ≤ j → j < u + 1 → nameU j ≠ (s.take b).drop p) := fun j h1 h2 => by
                                  rcases Nat.lt_succ_iff_lt_or_eq.1 h2 with h3 | h3
                                  · exact HNO.out j h1 h3
                                  · rw [h3]; exact hX
                                have hne : (XS.toList == (⟨(nameU u).toArray⟩ : ByteArray).toList) = false := ne_list (fun e => hX (by
                                  have h9 := congrArg (fun x : ByteArray => x.data.toList) e
                                  rw [HXS.out] at h9
                                  simpa using h9.symm))
                                clear hX HNO hFu hu hmb
                                generalize (⟨(nameU u).toArray⟩ : ByteArray) = NS at *
                                generalize sizeU u = m at *
                                go_wp2_with (go_at_call 61; refine (HUU.out _).mono ?_; clear HUU; rintro e w4 ⟨rfl, hb4⟩; have HB4 : Hid (Below w.heap.size w w4) := HBU.out.trans (hb4.mono HBU.out.size); clear hb4)
                                go_roundw
                                case rel => exact ⟨u + 1, T2, F2, L2, false, by omega, by go_num, rfl, hT2, rfl, hF2, rfl, rfl, HB4.out, Or.inl ⟨rfl, rfl, rfl, rfl, Nat.le_succ_of_le HFU.out, HNO2.out⟩⟩
                                case measure => simp [intOf]; omega
                            · obtain rfl : u = 7 := by omega
                              have HRR : Hid (R = (0, 8)) := HDOC.out.symm.trans (doc_bad HD.out HDE.out HL.out HLE.out (fun j h1 h2 => HNO.out j h1 h2))
                              clear hu hFu HNO
                              go_wp2
                              go_ret2
                              exact ⟨by rw [HRR.out]; rfl, HBU.out⟩
                          · have hon := doc_on HD.out HAP.out HP15.out HDE.out HL.out HLE.out hFj hj7 hnm HFL.out (st := st)
                            rw [HDOC.out, ← HN.out] at hon
                            have HON : Hid (0 < b ∧ (b = s.length ∧ R = endP (addP st N (sizeU j)) ∨ b < s.length ∧ ∃ f', s.length - b < f' ∧ R = docP f' (s.drop b) (j + 1) (addP st N (sizeU j)))) := hon
                            have HSUM : Hid (SumAt L2 T2 (addP st N (sizeU j))) := hsum
                            clear hon hsum HI2 hnm
                            by_cases hui : (u : Int) < 7
                            · go_wp2
                              go_roundw
                              case rel => exact ⟨b, T2, j + 1, L2, rfl, hbS, rfl, hT2, rfl, hF2, rfl, ⟨addP st N (sizeU j), HSUM.out, HON.out.2.elim (fun h => Or.inr ⟨HON.out.1, h.1, h.2.symm⟩) (fun h => Or.inl ⟨h.1, h.2.elim fun f' h' => ⟨f', h'.1, h'.2.symm⟩⟩), HBU.out⟩⟩
                              case measure => simp [intOf]; omega
                            · go_wp2
                              go_roundw
                              case rel => exact ⟨b, T2, j + 1, L2, rfl, hbS, rfl, hT2, rfl, hF2, rfl, ⟨addP st N (sizeU j), HSUM.out, HON.out.2.elim (fun h => Or.inr ⟨HON.out.1, h.1, h.2.symm⟩) (fun h => Or.inl ⟨h.1, h.2.elim fun f' h' => ⟨f', h'.1, h'.2.symm⟩⟩), HBU.out⟩⟩
                              case measure => simp [intOf]; omega
                    · have HLE : Hid (∀ hb : b < s.length, isLB s[b] = false) := fun _ => by rw [hsg]; unfold isLB; simp; omega
                      clear hsg
                      generalize hyy : S[b].toNat = y at *
                      have HXS : Hid (∃ XS : ByteArray, XS = ⟨((s.take b).drop p).toArray⟩ ∧ S.extract p b = XS) := ⟨S.extract p b, by rw [HS.out, ext_list], rfl⟩
                      obtain ⟨XS, hXS1, hXS⟩ := HXS.out
                      clear HXS
                      have HXS : Hid (XS = ⟨((s.take b).drop p).toArray⟩) := hXS1
                      clear hXS1
                      go_wp2
                      go_loopw [4, 5, 6, 11, 12] (fun tv fv lv gv uv wu => ∃ (u T2 F2 : Nat) (L2 g : Bool), u ≤ 7 ∧ uv = .int .i64 u ∧ tv = .int .i64 T2 ∧ T2 ≤ 9007199254740992 ∧ fv = .int .i64 F2 ∧ F2 ≤ 7 ∧ lv = .bool L2 ∧ gv = .bool g ∧ Hid (Below w.heap.size w wu ∧ ((g = false ∧ T2 = T ∧ F2 = F ∧ L2 = L ∧ F ≤ u ∧ ∀ j, F ≤ j → j < u → nameU j ≠ (s.take b).drop p) ∨ (g = true ∧ ∃ j, F ≤ j ∧ j < 7 ∧ nameU j = (s.take b).drop p ∧ F2 = j + 1 ∧ SumAt L2 T2 (addP st N (sizeU j)))))) (fun _ _ _ _ uv _ => 8 - (intOf uv).toNat)
                      case atStart => exact ⟨F, T, F, L, false, hF, rfl, rfl, hT, rfl, hF, rfl, rfl, HBL.out, Or.inl ⟨rfl, rfl, rfl, rfl, Nat.le_refl _, fun j h1 h2 => absurd h2 (by omega)⟩⟩
                      case round =>
                        obtain ⟨u, T2, F2, L2, g, hu7, rfl, rfl, hT2, rfl, hF2, rfl, rfl, HI2⟩ := hrel
                        have HBU : Hid (Below w.heap.size w wr) := HI2.out.1
                        rcases HI2.out.2 with ⟨rfl, rfl, rfl, rfl, hFu, hno⟩ | ⟨rfl, j, hFj, hj7, hnm, rfl, hsum⟩
                        · have HNO : Hid (∀ j, F2 ≤ j → j < u → nameU j ≠ (s.take b).drop p) := hno
                          clear HI2 hno
                          by_cases hu : u < 7
                          · have hui : (u : Int) < 7 := by omega
                            have HFU : Hid (F2 ≤ u) := hFu
                            have HU7 : Hid (u < 7) := hu
                            have hmb := sizeU_lim hu
                            by_cases hX : nameU u = (s.take b).drop p
                            · have HNM : Hid (nameU u = (s.take b).drop p) := hX
                              have HUU : Hid (∀ W : World, Calls Tryd.prog 61 #[.int .i64 u] W fun e w' => e = .returned (.tuple #[.string XS, .int .i64 (sizeU u : Nat)]) ∧ Below W.heap.size W w') := fun W => by
                                have h9 := refUnit_any u hu W
                                rw [hX, ← HXS.out] at h9
                                exact h9
                              have hds := docsum (n := N) (m := sizeU u) hT HST.out
                              clear hX HNO hFu hu
                              have HM : Hid (∃ m, m = sizeU u) := ⟨_, rfl⟩
                              obtain ⟨m, hm⟩ : ∃ m, m = sizeU u := ⟨_, rfl⟩
                              rw [← hm] at hds hmb HUU
                              have HSM : Hid (m = sizeU u) := hm
                              clear hm HM
                              rcases hds with ⟨h0, h1, hS2⟩ | ⟨h0, h1, hS2⟩ | ⟨h0, Q, hq, hQb, hS3⟩
                              · have HS2 : Hid (SumAt false T2 (addP st N (sizeU u))) := by rw [HSM.out] at hS2; exact hS2
                                have hn0 : ¬ (0 : Int) < N := by omega
                                have hP : (N : Int) * (m : Int) = 0 := by rw [h0]; exact Int.zero_mul _
                                clear hS2 h0
                                subst h1
                                go_wp2_with (go_at_call 61; refine (HUU.out _).mono ?_; clear HUU; rintro e w4 ⟨rfl, hb4⟩; have HB4 : Hid (Below w.heap.size w w4) := HBU.out.trans (hb4.mono HBU.out.size); clear hb4)
                                go_roundw
                                case rel => exact ⟨u + 1, T2, u + 1, false, true, HU7.out, rfl, rfl, hT2, rfl, HU7.out, rfl, rfl, HB4.out, Or.inr ⟨rfl, u, HFU.out, HU7.out, HNM.out, rfl, HS2.out⟩⟩
                                case measure => exact u_less HU7.out
                              · have HS2 : Hid (SumAt true T2 (addP st N (sizeU u))) := by rw [HSM.out] at hS2; exact hS2
                                have hn0 : ¬ (0 : Int) < N := by omega
                                have hP : (N : Int) * (m : Int) = 0 := by rw [h0]; exact Int.zero_mul _
                                clear hS2 h0
                                subst h1
                                go_wp2_with (go_at_call 61; refine (HUU.out _).mono ?_; clear HUU; rintro e w4 ⟨rfl, hb4⟩; have HB4 : Hid (Below w.heap.size w w4) := HBU.out.trans (hb4.mono HBU.out.size); clear hb4)
                                go_roundw
                                case rel => exact ⟨u + 1, T2, u + 1, true, true, HU7.out, rfl, rfl, hT2, rfl, HU7.out, rfl, rfl, HB4.out, Or.inr ⟨rfl, u, HFU.out, HU7.out, HNM.out, rfl, HS2.out⟩⟩
                                case measure => exact u_less HU7.out
                              · have HQ : Hid ((9007199254740992 - (T2 : Int)).tdiv N = (Q : Int)) := hq
                                clear hq
                                have hn0 : (0 : Int) < N := by omega
                                have hn1 : ((N : Int) == 0) = false := by rw [beq_eq_false_iff_ne]; omega
                                have hn2 : ¬ (N : Int) = 0 := by omega
                                rcases hS3 with ⟨hlt, hS2⟩ | ⟨hlt, h1, hS2⟩ | ⟨hlt, h1, P, hP, hTP, hS2⟩
                                · have HS2 : Hid (SumAt true T2 (addP st N (sizeU u))) := by rw [HSM.out] at hS2; exact hS2
                                  have hli : (Q : Int) < m := by omega
                                  have hq2 := quo_ediv hT HQ.out
                                  clear hS2 hlt h0 HQ
                                  go_wp2_with (go_at_call 61; refine (HUU.out _).mono ?_; clear HUU; rintro e w4 ⟨rfl, hb4⟩; have HB4 : Hid (Below w.heap.size w w4) := HBU.out.trans (hb4.mono HBU.out.size); clear hb4)
                                  go_roundw
                                  case rel => exact ⟨u + 1, T2, u + 1, true, true, HU7.out, rfl, rfl, hT2, rfl, HU7.out, rfl, rfl, HB4.out, Or.inr ⟨rfl, u, HFU.out, HU7.out, HNM.out, rfl, HS2.out⟩⟩
                                  case measure => exact u_less HU7.out
                                · have HS2 : Hid (SumAt true T2 (addP st N (sizeU u))) := by rw [HSM.out] at hS2; exact hS2
                                  have hli : ¬ (Q : Int) < m := by omega
                                  have hq2 := quo_ediv hT HQ.out
                                  clear hS2 hlt h0 HQ
                                  subst h1
                                  go_wp2_with (go_at_call 61; refine (HUU.out _).mono ?_; clear HUU; rintro e w4 ⟨rfl, hb4⟩; have HB4 : Hid (Below w.heap.size w w4) := HBU.out.trans (hb4.mono HBU.out.size); clear hb4)
                                  go_roundw
                                  case rel => exact ⟨u + 1, T2, u + 1, true, true, HU7.out, rfl, rfl, hT2, rfl, HU7.out, rfl, rfl, HB4.out, Or.inr ⟨rfl, u, HFU.out, HU7.out, HNM.out, rfl, HS2.out⟩⟩
                                  case measure => exact u_less HU7.out
                                · have HS2 : Hid (SumAt false (T2 + P) (addP st N (sizeU u))) := by rw [HSM.out] at hS2; exact hS2
                                  have HPP : Hid ((N : Int) * (m : Int) = (P : Int)) := hP
                                  clear hP
                                  have hli : ¬ (Q : Int) < m := by omega
                                  have hPb : P ≤ 9007199254740992 := by omega
                                  have hq2 := quo_ediv hT HQ.out
                                  have hP := HPP.out
                                  clear hS2 hlt h0 HQ HPP
                                  subst h1
                                  go_wp2_with (go_at_call 61; refine (HUU.out _).mono ?_; clear HUU; rintro e w4 ⟨rfl, hb4⟩; have HB4 : Hid (Below w.heap.size w w4) := HBU.out.trans (hb4.mono HBU.out.size); clear hb4)
                                  go_roundw
                                  case rel => exact ⟨u + 1, T2 + P, u + 1, false, true, HU7.out, rfl, rfl, hTP, rfl, HU7.out, rfl, rfl, HB4.out, Or.inr ⟨rfl, u, HFU.out, HU7.out, HNM.out, rfl, HS2.out⟩⟩
                                  case measure => exact u_less HU7.out
                            · have HUU : Hid (∀ W : World, Calls Tryd.prog 61 #[.int .i64 u] W fun e w' => e = .returned (.tuple #[.string ⟨(nameU u).toArray⟩, .int .i64 (sizeU u : Nat)]) ∧ Below W.heap.size W w') := fun W => refUnit_any u hu W
                              have HNO2 : Hid (∀ j, F2 ≤ j → j < u + 1 → nameU j ≠ (s.take b).drop p) := fun j h1 h2 => by
                                rcases Nat.lt_succ_iff_lt_or_eq.1 h2 with h3 | h3
                                · exact HNO.out j h1 h3
                                · rw [h3]; exact hX
                              have hne : (XS.toList == (⟨(nameU u).toArray⟩ : ByteArray).toList) = false := ne_list (fun e => hX (by
                                have h9 := congrArg (fun x : ByteArray => x.data.toList) e
                                rw [HXS.out] at h9
                                simpa using h9.symm))
                              clear hX HNO hFu hu hmb
                              generalize (⟨(nameU u).toArray⟩ : ByteArray) = NS at *
                              generalize sizeU u = m at *
                              go_wp2_with (go_at_call 61; refine (HUU.out _).mono ?_; clear HUU; rintro e w4 ⟨rfl, hb4⟩; have HB4 : Hid (Below w.heap.size w w4) := HBU.out.trans (hb4.mono HBU.out.size); clear hb4)
                              go_roundw
                              case rel => exact ⟨u + 1, T2, F2, L2, false, by omega, by go_num, rfl, hT2, rfl, hF2, rfl, rfl, HB4.out, Or.inl ⟨rfl, rfl, rfl, rfl, Nat.le_succ_of_le HFU.out, HNO2.out⟩⟩
                              case measure => simp [intOf]; omega
                          · obtain rfl : u = 7 := by omega
                            have HRR : Hid (R = (0, 8)) := HDOC.out.symm.trans (doc_bad HD.out HDE.out HL.out HLE.out (fun j h1 h2 => HNO.out j h1 h2))
                            clear hu hFu HNO
                            go_wp2
                            go_ret2
                            exact ⟨by rw [HRR.out]; rfl, HBU.out⟩
                        · have hon := doc_on HD.out HAP.out HP15.out HDE.out HL.out HLE.out hFj hj7 hnm HFL.out (st := st)
                          rw [HDOC.out, ← HN.out] at hon
                          have HON : Hid (0 < b ∧ (b = s.length ∧ R = endP (addP st N (sizeU j)) ∨ b < s.length ∧ ∃ f', s.length - b < f' ∧ R = docP f' (s.drop b) (j + 1) (addP st N (sizeU j)))) := hon
                          have HSUM : Hid (SumAt L2 T2 (addP st N (sizeU j))) := hsum
                          clear hon hsum HI2 hnm
                          by_cases hui : (u : Int) < 7
                          · go_wp2
                            go_roundw
                            case rel => exact ⟨b, T2, j + 1, L2, rfl, hbS, rfl, hT2, rfl, hF2, rfl, ⟨addP st N (sizeU j), HSUM.out, HON.out.2.elim (fun h => Or.inr ⟨HON.out.1, h.1, h.2.symm⟩) (fun h => Or.inl ⟨h.1, h.2.elim fun f' h' => ⟨f', h'.1, h'.2.symm⟩⟩), HBU.out⟩⟩
                            case measure => simp [intOf]; omega
                          · go_wp2
                            go_roundw
                            case rel => exact ⟨b, T2, j + 1, L2, rfl, hbS, rfl, hT2, rfl, hF2, rfl, ⟨addP st N (sizeU j), HSUM.out, HON.out.2.elim (fun h => Or.inr ⟨HON.out.1, h.1, h.2.symm⟩) (fun h => Or.inl ⟨h.1, h.2.elim fun f' h' => ⟨f', h'.1, h'.2.symm⟩⟩), HBU.out⟩⟩
                            case measure => simp [intOf]; omega
                  · have HLE : Hid (∀ hb : b < s.length, isLB s[b] = false) := fun hb => absurd (by rw [HSL.out] at hb; exact hb) hbl
                    have hbi : ¬ (b : Int) < S.size := by omega
                    have HXS : Hid (∃ XS : ByteArray, XS = ⟨((s.take b).drop p).toArray⟩ ∧ S.extract p b = XS) := ⟨S.extract p b, by rw [HS.out, ext_list], rfl⟩
                    obtain ⟨XS, hXS1, hXS⟩ := HXS.out
                    clear HXS
                    have HXS : Hid (XS = ⟨((s.take b).drop p).toArray⟩) := hXS1
                    clear hXS1
                    go_wp2
                    go_loopw [4, 5, 6, 11, 12] (fun tv fv lv gv uv wu => ∃ (u T2 F2 : Nat) (L2 g : Bool), u ≤ 7 ∧ uv = .int .i64 u ∧ tv = .int .i64 T2 ∧ T2 ≤ 9007199254740992 ∧ fv = .int .i64 F2 ∧ F2 ≤ 7 ∧ lv = .bool L2 ∧ gv = .bool g ∧ Hid (Below w.heap.size w wu ∧ ((g = false ∧ T2 = T ∧ F2 = F ∧ L2 = L ∧ F ≤ u ∧ ∀ j, F ≤ j → j < u → nameU j ≠ (s.take b).drop p) ∨ (g = true ∧ ∃ j, F ≤ j ∧ j < 7 ∧ nameU j = (s.take b).drop p ∧ F2 = j + 1 ∧ SumAt L2 T2 (addP st N (sizeU j)))))) (fun _ _ _ _ uv _ => 8 - (intOf uv).toNat)
                    case atStart => exact ⟨F, T, F, L, false, hF, rfl, rfl, hT, rfl, hF, rfl, rfl, HBL.out, Or.inl ⟨rfl, rfl, rfl, rfl, Nat.le_refl _, fun j h1 h2 => absurd h2 (by omega)⟩⟩
                    case round =>
                      obtain ⟨u, T2, F2, L2, g, hu7, rfl, rfl, hT2, rfl, hF2, rfl, rfl, HI2⟩ := hrel
                      have HBU : Hid (Below w.heap.size w wr) := HI2.out.1
                      rcases HI2.out.2 with ⟨rfl, rfl, rfl, rfl, hFu, hno⟩ | ⟨rfl, j, hFj, hj7, hnm, rfl, hsum⟩
                      · have HNO : Hid (∀ j, F2 ≤ j → j < u → nameU j ≠ (s.take b).drop p) := hno
                        clear HI2 hno
                        by_cases hu : u < 7
                        · have hui : (u : Int) < 7 := by omega
                          have HFU : Hid (F2 ≤ u) := hFu
                          have HU7 : Hid (u < 7) := hu
                          have hmb := sizeU_lim hu
                          by_cases hX : nameU u = (s.take b).drop p
                          · have HNM : Hid (nameU u = (s.take b).drop p) := hX
                            have HUU : Hid (∀ W : World, Calls Tryd.prog 61 #[.int .i64 u] W fun e w' => e = .returned (.tuple #[.string XS, .int .i64 (sizeU u : Nat)]) ∧ Below W.heap.size W w') := fun W => by
                              have h9 := refUnit_any u hu W
                              rw [hX, ← HXS.out] at h9
                              exact h9
                            have hds := docsum (n := N) (m := sizeU u) hT HST.out
                            clear hX HNO hFu hu
                            have HM : Hid (∃ m, m = sizeU u) := ⟨_, rfl⟩
                            obtain ⟨m, hm⟩ : ∃ m, m = sizeU u := ⟨_, rfl⟩
                            rw [← hm] at hds hmb HUU
                            have HSM : Hid (m = sizeU u) := hm
                            clear hm HM
                            rcases hds with ⟨h0, h1, hS2⟩ | ⟨h0, h1, hS2⟩ | ⟨h0, Q, hq, hQb, hS3⟩
                            · have HS2 : Hid (SumAt false T2 (addP st N (sizeU u))) := by rw [HSM.out] at hS2; exact hS2
                              have hn0 : ¬ (0 : Int) < N := by omega
                              have hP : (N : Int) * (m : Int) = 0 := by rw [h0]; exact Int.zero_mul _
                              clear hS2 h0
                              subst h1
                              go_wp2_with (go_at_call 61; refine (HUU.out _).mono ?_; clear HUU; rintro e w4 ⟨rfl, hb4⟩; have HB4 : Hid (Below w.heap.size w w4) := HBU.out.trans (hb4.mono HBU.out.size); clear hb4)
                              go_roundw
                              case rel => exact ⟨u + 1, T2, u + 1, false, true, HU7.out, rfl, rfl, hT2, rfl, HU7.out, rfl, rfl, HB4.out, Or.inr ⟨rfl, u, HFU.out, HU7.out, HNM.out, rfl, HS2.out⟩⟩
                              case measure => exact u_less HU7.out
                            · have HS2 : Hid (SumAt true T2 (addP st N (sizeU u))) := by rw [HSM.out] at hS2; exact hS2
                              have hn0 : ¬ (0 : Int) < N := by omega
                              have hP : (N : Int) * (m : Int) = 0 := by rw [h0]; exact Int.zero_mul _
                              clear hS2 h0
                              subst h1
                              go_wp2_with (go_at_call 61; refine (HUU.out _).mono ?_; clear HUU; rintro e w4 ⟨rfl, hb4⟩; have HB4 : Hid (Below w.heap.size w w4) := HBU.out.trans (hb4.mono HBU.out.size); clear hb4)
                              go_roundw
                              case rel => exact ⟨u + 1, T2, u + 1, true, true, HU7.out, rfl, rfl, hT2, rfl, HU7.out, rfl, rfl, HB4.out, Or.inr ⟨rfl, u, HFU.out, HU7.out, HNM.out, rfl, HS2.out⟩⟩
                              case measure => exact u_less HU7.out
                            · have HQ : Hid ((9007199254740992 - (T2 : Int)).tdiv N = (Q : Int)) := hq
                              clear hq
                              have hn0 : (0 : Int) < N := by omega
                              have hn1 : ((N : Int) == 0) = false := by rw [beq_eq_false_iff_ne]; omega
                              have hn2 : ¬ (N : Int) = 0 := by omega
                              rcases hS3 with ⟨hlt, hS2⟩ | ⟨hlt, h1, hS2⟩ | ⟨hlt, h1, P, hP, hTP, hS2⟩
                              · have HS2 : Hid (SumAt true T2 (addP st N (sizeU u))) := by rw [HSM.out] at hS2; exact hS2
                                have hli : (Q : Int) < m := by omega
                                have hq2 := quo_ediv hT HQ.out
                                clear hS2 hlt h0 HQ
                                go_wp2_with (go_at_call 61; refine (HUU.out _).mono ?_; clear HUU; rintro e w4 ⟨rfl, hb4⟩; have HB4 : Hid (Below w.heap.size w w4) := HBU.out.trans (hb4.mono HBU.out.size); clear hb4)
                                go_roundw
                                case rel => exact ⟨u + 1, T2, u + 1, true, true, HU7.out, rfl, rfl, hT2, rfl, HU7.out, rfl, rfl, HB4.out, Or.inr ⟨rfl, u, HFU.out, HU7.out, HNM.out, rfl, HS2.out⟩⟩
                                case measure => exact u_less HU7.out
                              · have HS2 : Hid (SumAt true T2 (addP st N (sizeU u))) := by rw [HSM.out] at hS2; exact hS2
                                have hli : ¬ (Q : Int) < m := by omega
                                have hq2 := quo_ediv hT HQ.out
                                clear hS2 hlt h0 HQ
                                subst h1
                                go_wp2_with (go_at_call 61; refine (HUU.out _).mono ?_; clear HUU; rintro e w4 ⟨rfl, hb4⟩; have HB4 : Hid (Below w.heap.size w w4) := HBU.out.trans (hb4.mono HBU.out.size); clear hb4)
                                go_roundw
                                case rel => exact ⟨u + 1, T2, u + 1, true, true, HU7.out, rfl, rfl, hT2, rfl, HU7.out, rfl, rfl, HB4.out, Or.inr ⟨rfl, u, HFU.out, HU7.out, HNM.out, rfl, HS2.out⟩⟩
                                case measure => exact u_less HU7.out
                              · have HS2 : Hid (SumAt false (T2 + P) (addP st N (sizeU u))) := by rw [HSM.out] at hS2; exact hS2
                                have HPP : Hid ((N : Int) * (m : Int) = (P : Int)) := hP
                                clear hP
                                have hli : ¬ (Q : Int) < m := by omega
                                have hPb : P ≤ 9007199254740992 := by omega
                                have hq2 := quo_ediv hT HQ.out
                                have hP := HPP.out
                                clear hS2 hlt h0 HQ HPP
                                subst h1
                                go_wp2_with (go_at_call 61; refine (HUU.out _).mono ?_; clear HUU; rintro e w4 ⟨rfl, hb4⟩; have HB4 : Hid (Below w.heap.size w w4) := HBU.out.trans (hb4.mono HBU.out.size); clear hb4)
                                go_roundw
                                case rel => exact ⟨u + 1, T2 + P, u + 1, false, true, HU7.out, rfl, rfl, hTP, rfl, HU7.out, rfl, rfl, HB4.out, Or.inr ⟨rfl, u, HFU.out, HU7.out, HNM.out, rfl, HS2.out⟩⟩
                                case measure => exact u_less HU7.out
                          · have HUU : Hid (∀ W : World, Calls Tryd.prog 61 #[.int .i64 u] W fun e w' => e = .returned (.tuple #[.string ⟨(nameU u).toArray⟩, .int .i64 (sizeU u : Nat)]) ∧ Below W.heap.size W w') := fun W => refUnit_any u hu W
                            have HNO2 : Hid (∀ j, F2 ≤ j → j < u + 1 → nameU j ≠ (s.take b).drop p) := fun j h1 h2 => by
                              rcases Nat.lt_succ_iff_lt_or_eq.1 h2 with h3 | h3
                              · exact HNO.out j h1 h3
                              · rw [h3]; exact hX
                            have hne : (XS.toList == (⟨(nameU u).toArray⟩ : ByteArray).toList) = false := ne_list (fun e => hX (by
                              have h9 := congrArg (fun x : ByteArray => x.data.toList) e
                              rw [HXS.out] at h9
                              simpa using h9.symm))
                            clear hX HNO hFu hu hmb
                            generalize (⟨(nameU u).toArray⟩ : ByteArray) = NS at *
                            generalize sizeU u = m at *
                            go_wp2_with (go_at_call 61; refine (HUU.out _).mono ?_; clear HUU; rintro e w4 ⟨rfl, hb4⟩; have HB4 : Hid (Below w.heap.size w w4) := HBU.out.trans (hb4.mono HBU.out.size); clear hb4)
                            go_roundw
                            case rel => exact ⟨u + 1, T2, F2, L2, false, by omega, by go_num, rfl, hT2, rfl, hF2, rfl, rfl, HB4.out, Or.inl ⟨rfl, rfl, rfl, rfl, Nat.le_succ_of_le HFU.out, HNO2.out⟩⟩
                            case measure => simp [intOf]; omega
                        · obtain rfl : u = 7 := by omega
                          have HRR : Hid (R = (0, 8)) := HDOC.out.symm.trans (doc_bad HD.out HDE.out HL.out HLE.out (fun j h1 h2 => HNO.out j h1 h2))
                          clear hu hFu HNO
                          go_wp2
                          go_ret2
                          exact ⟨by rw [HRR.out]; rfl, HBU.out⟩
                      · have hon := doc_on HD.out HAP.out HP15.out HDE.out HL.out HLE.out hFj hj7 hnm HFL.out (st := st)
                        rw [HDOC.out, ← HN.out] at hon
                        have HON : Hid (0 < b ∧ (b = s.length ∧ R = endP (addP st N (sizeU j)) ∨ b < s.length ∧ ∃ f', s.length - b < f' ∧ R = docP f' (s.drop b) (j + 1) (addP st N (sizeU j)))) := hon
                        have HSUM : Hid (SumAt L2 T2 (addP st N (sizeU j))) := hsum
                        clear hon hsum HI2 hnm
                        by_cases hui : (u : Int) < 7
                        · go_wp2
                          go_roundw
                          case rel => exact ⟨b, T2, j + 1, L2, rfl, hbS, rfl, hT2, rfl, hF2, rfl, ⟨addP st N (sizeU j), HSUM.out, HON.out.2.elim (fun h => Or.inr ⟨HON.out.1, h.1, h.2.symm⟩) (fun h => Or.inl ⟨h.1, h.2.elim fun f' h' => ⟨f', h'.1, h'.2.symm⟩⟩), HBU.out⟩⟩
                          case measure => simp [intOf]; omega
                        · go_wp2
                          go_roundw
                          case rel => exact ⟨b, T2, j + 1, L2, rfl, hbS, rfl, hT2, rfl, hF2, rfl, ⟨addP st N (sizeU j), HSUM.out, HON.out.2.elim (fun h => Or.inr ⟨HON.out.1, h.1, h.2.symm⟩) (fun h => Or.inl ⟨h.1, h.2.elim fun f' h' => ⟨f', h'.1, h'.2.symm⟩⟩), HBU.out⟩⟩
                          case measure => simp [intOf]; omega
              · have h16 : p = a0 + 16 := by omega
                have HRR : Hid (R = (0, 8)) := HDOC.out.symm.trans (doc_long (by have h9 := HD.out; rw [h16] at h9; exact h9))
                have h15i : (15 : Int) < (p : Int) - a0 := by omega
                clear h16 h15
                go_wp2_with (go_at_call 54; refine hdig.mono ?_; clear hdig; rintro e w2 ⟨rfl, hw2⟩; have hw2 := hw2.symm; subst hw2)
                go_ret2
                exact ⟨by rw [HRR.out]; rfl, HBL.out⟩
        · have HDE : Hid (∀ hb : p < s.length, isDB s[p] = false) := fun hb => absurd (by rw [HSL.out] at hb; exact hb) hpl
          have hpli : ¬ (p : Int) < S.size := by omega
          by_cases hpa : p = a0
          · subst hpa
            have HRR : Hid (R = (0, 8)) := HDOC.out.symm.trans (doc_short HDE.out (by rw [HSL.out]; exact hpS))
            go_wp2
            go_ret2
            exact ⟨by rw [HRR.out]; rfl, HBL.out⟩
          · have hpi : ((p : Int) == a0) = false := by rw [beq_eq_false_iff_ne]; omega
            by_cases h15 : p ≤ a0 + 15
            · have HAP : Hid (a0 < p) := by show a0 < p; omega
              have HP15 : Hid (p ≤ a0 + 15) := h15
              have h15i : ¬ (15 : Int) < (p : Int) - a0 := by omega
              go_wp2
              go_loop [10] (fun kv => ∃ b : Nat, kv = .int .i64 b ∧ p ≤ b ∧ b ≤ S.size ∧ Hid (Run isLB s p b)) (fun kv => S.size - (intOf kv).toNat)
              case atStart => exact ⟨p, rfl, Nat.le_refl _, hpS, Run.start isLB (by rw [HSL.out]; exact hpS)⟩
              case round =>
                obtain ⟨b, rfl, hpb, hbS, HL⟩ := hrel
                by_cases hbl : b < S.size
                · exact absurd hbl (by omega)
                · have HLE : Hid (∀ hb : b < s.length, isLB s[b] = false) := fun hb => absurd (by rw [HSL.out] at hb; exact hb) hbl
                  have hbi : ¬ (b : Int) < S.size := by omega
                  have HXS : Hid (∃ XS : ByteArray, XS = ⟨((s.take b).drop p).toArray⟩ ∧ S.extract p b = XS) := ⟨S.extract p b, by rw [HS.out, ext_list], rfl⟩
                  obtain ⟨XS, hXS1, hXS⟩ := HXS.out
                  clear HXS
                  have HXS : Hid (XS = ⟨((s.take b).drop p).toArray⟩) := hXS1
                  clear hXS1
                  go_wp2
                  go_loopw [4, 5, 6, 11, 12] (fun tv fv lv gv uv wu => ∃ (u T2 F2 : Nat) (L2 g : Bool), u ≤ 7 ∧ uv = .int .i64 u ∧ tv = .int .i64 T2 ∧ T2 ≤ 9007199254740992 ∧ fv = .int .i64 F2 ∧ F2 ≤ 7 ∧ lv = .bool L2 ∧ gv = .bool g ∧ Hid (Below w.heap.size w wu ∧ ((g = false ∧ T2 = T ∧ F2 = F ∧ L2 = L ∧ F ≤ u ∧ ∀ j, F ≤ j → j < u → nameU j ≠ (s.take b).drop p) ∨ (g = true ∧ ∃ j, F ≤ j ∧ j < 7 ∧ nameU j = (s.take b).drop p ∧ F2 = j + 1 ∧ SumAt L2 T2 (addP st N (sizeU j)))))) (fun _ _ _ _ uv _ => 8 - (intOf uv).toNat)
                  case atStart => exact ⟨F, T, F, L, false, hF, rfl, rfl, hT, rfl, hF, rfl, rfl, HBL.out, Or.inl ⟨rfl, rfl, rfl, rfl, Nat.le_refl _, fun j h1 h2 => absurd h2 (by omega)⟩⟩
                  case round =>
                    obtain ⟨u, T2, F2, L2, g, hu7, rfl, rfl, hT2, rfl, hF2, rfl, rfl, HI2⟩ := hrel
                    have HBU : Hid (Below w.heap.size w wr) := HI2.out.1
                    rcases HI2.out.2 with ⟨rfl, rfl, rfl, rfl, hFu, hno⟩ | ⟨rfl, j, hFj, hj7, hnm, rfl, hsum⟩
                    · have HNO : Hid (∀ j, F2 ≤ j → j < u → nameU j ≠ (s.take b).drop p) := hno
                      clear HI2 hno
                      by_cases hu : u < 7
                      · have hui : (u : Int) < 7 := by omega
                        have HFU : Hid (F2 ≤ u) := hFu
                        have HU7 : Hid (u < 7) := hu
                        have hmb := sizeU_lim hu
                        by_cases hX : nameU u = (s.take b).drop p
                        · have HNM : Hid (nameU u = (s.take b).drop p) := hX
                          have HUU : Hid (∀ W : World, Calls Tryd.prog 61 #[.int .i64 u] W fun e w' => e = .returned (.tuple #[.string XS, .int .i64 (sizeU u : Nat)]) ∧ Below W.heap.size W w') := fun W => by
                            have h9 := refUnit_any u hu W
                            rw [hX, ← HXS.out] at h9
                            exact h9
                          have hds := docsum (n := N) (m := sizeU u) hT HST.out
                          clear hX HNO hFu hu
                          have HM : Hid (∃ m, m = sizeU u) := ⟨_, rfl⟩
                          obtain ⟨m, hm⟩ : ∃ m, m = sizeU u := ⟨_, rfl⟩
                          rw [← hm] at hds hmb HUU
                          have HSM : Hid (m = sizeU u) := hm
                          clear hm HM
                          rcases hds with ⟨h0, h1, hS2⟩ | ⟨h0, h1, hS2⟩ | ⟨h0, Q, hq, hQb, hS3⟩
                          · have HS2 : Hid (SumAt false T2 (addP st N (sizeU u))) := by rw [HSM.out] at hS2; exact hS2
                            have hn0 : ¬ (0 : Int) < N := by omega
                            have hP : (N : Int) * (m : Int) = 0 := by rw [h0]; exact Int.zero_mul _
                            clear hS2 h0
                            subst h1
                            go_wp2_with (go_at_call 61; refine (HUU.out _).mono ?_; clear HUU; rintro e w4 ⟨rfl, hb4⟩; have HB4 : Hid (Below w.heap.size w w4) := HBU.out.trans (hb4.mono HBU.out.size); clear hb4)
                            go_roundw
                            case rel => exact ⟨u + 1, T2, u + 1, false, true, HU7.out, rfl, rfl, hT2, rfl, HU7.out, rfl, rfl, HB4.out, Or.inr ⟨rfl, u, HFU.out, HU7.out, HNM.out, rfl, HS2.out⟩⟩
                            case measure => exact u_less HU7.out
                          · have HS2 : Hid (SumAt true T2 (addP st N (sizeU u))) := by rw [HSM.out] at hS2; exact hS2
                            have hn0 : ¬ (0 : Int) < N := by omega
                            have hP : (N : Int) * (m : Int) = 0 := by rw [h0]; exact Int.zero_mul _
                            clear hS2 h0
                            subst h1
                            go_wp2_with (go_at_call 61; refine (HUU.out _).mono ?_; clear HUU; rintro e w4 ⟨rfl, hb4⟩; have HB4 : Hid (Below w.heap.size w w4) := HBU.out.trans (hb4.mono HBU.out.size); clear hb4)
                            go_roundw
                            case rel => exact ⟨u + 1, T2, u + 1, true, true, HU7.out, rfl, rfl, hT2, rfl, HU7.out, rfl, rfl, HB4.out, Or.inr ⟨rfl, u, HFU.out, HU7.out, HNM.out, rfl, HS2.out⟩⟩
                            case measure => exact u_less HU7.out
                          · have HQ : Hid ((9007199254740992 - (T2 : Int)).tdiv N = (Q : Int)) := hq
                            clear hq
                            have hn0 : (0 : Int) < N := by omega
                            have hn1 : ((N : Int) == 0) = false := by rw [beq_eq_false_iff_ne]; omega
                            have hn2 : ¬ (N : Int) = 0 := by omega
                            rcases hS3 with ⟨hlt, hS2⟩ | ⟨hlt, h1, hS2⟩ | ⟨hlt, h1, P, hP, hTP, hS2⟩
                            · have HS2 : Hid (SumAt true T2 (addP st N (sizeU u))) := by rw [HSM.out] at hS2; exact hS2
                              have hli : (Q : Int) < m := by omega
                              have hq2 := quo_ediv hT HQ.out
                              clear hS2 hlt h0 HQ
                              go_wp2_with (go_at_call 61; refine (HUU.out _).mono ?_; clear HUU; rintro e w4 ⟨rfl, hb4⟩; have HB4 : Hid (Below w.heap.size w w4) := HBU.out.trans (hb4.mono HBU.out.size); clear hb4)
                              go_roundw
                              case rel => exact ⟨u + 1, T2, u + 1, true, true, HU7.out, rfl, rfl, hT2, rfl, HU7.out, rfl, rfl, HB4.out, Or.inr ⟨rfl, u, HFU.out, HU7.out, HNM.out, rfl, HS2.out⟩⟩
                              case measure => exact u_less HU7.out
                            · have HS2 : Hid (SumAt true T2 (addP st N (sizeU u))) := by rw [HSM.out] at hS2; exact hS2
                              have hli : ¬ (Q : Int) < m := by omega
                              have hq2 := quo_ediv hT HQ.out
                              clear hS2 hlt h0 HQ
                              subst h1
                              go_wp2_with (go_at_call 61; refine (HUU.out _).mono ?_; clear HUU; rintro e w4 ⟨rfl, hb4⟩; have HB4 : Hid (Below w.heap.size w w4) := HBU.out.trans (hb4.mono HBU.out.size); clear hb4)
                              go_roundw
                              case rel => exact ⟨u + 1, T2, u + 1, true, true, HU7.out, rfl, rfl, hT2, rfl, HU7.out, rfl, rfl, HB4.out, Or.inr ⟨rfl, u, HFU.out, HU7.out, HNM.out, rfl, HS2.out⟩⟩
                              case measure => exact u_less HU7.out
                            · have HS2 : Hid (SumAt false (T2 + P) (addP st N (sizeU u))) := by rw [HSM.out] at hS2; exact hS2
                              have HPP : Hid ((N : Int) * (m : Int) = (P : Int)) := hP
                              clear hP
                              have hli : ¬ (Q : Int) < m := by omega
                              have hPb : P ≤ 9007199254740992 := by omega
                              have hq2 := quo_ediv hT HQ.out
                              have hP := HPP.out
                              clear hS2 hlt h0 HQ HPP
                              subst h1
                              go_wp2_with (go_at_call 61; refine (HUU.out _).mono ?_; clear HUU; rintro e w4 ⟨rfl, hb4⟩; have HB4 : Hid (Below w.heap.size w w4) := HBU.out.trans (hb4.mono HBU.out.size); clear hb4)
                              go_roundw
                              case rel => exact ⟨u + 1, T2 + P, u + 1, false, true, HU7.out, rfl, rfl, hTP, rfl, HU7.out, rfl, rfl, HB4.out, Or.inr ⟨rfl, u, HFU.out, HU7.out, HNM.out, rfl, HS2.out⟩⟩
                              case measure => exact u_less HU7.out
                        · have HUU : Hid (∀ W : World, Calls Tryd.prog 61 #[.int .i64 u] W fun e w' => e = .returned (.tuple #[.string ⟨(nameU u).toArray⟩, .int .i64 (sizeU u : Nat)]) ∧ Below W.heap.size W w') := fun W => refUnit_any u hu W
                          have HNO2 : Hid (∀ j, F2 ≤ j → j < u + 1 → nameU j ≠ (s.take b).drop p) := fun j h1 h2 => by
                            rcases Nat.lt_succ_iff_lt_or_eq.1 h2 with h3 | h3
                            · exact HNO.out j h1 h3
                            · rw [h3]; exact hX
                          have hne : (XS.toList == (⟨(nameU u).toArray⟩ : ByteArray).toList) = false := ne_list (fun e => hX (by
                            have h9 := congrArg (fun x : ByteArray => x.data.toList) e
                            rw [HXS.out] at h9
                            simpa using h9.symm))
                          clear hX HNO hFu hu hmb
                          generalize (⟨(nameU u).toArray⟩ : ByteArray) = NS at *
                          generalize sizeU u = m at *
                          go_wp2_with (go_at_call 61; refine (HUU.out _).mono ?_; clear HUU; rintro e w4 ⟨rfl, hb4⟩; have HB4 : Hid (Below w.heap.size w w4) := HBU.out.trans (hb4.mono HBU.out.size); clear hb4)
                          go_roundw
                          case rel => exact ⟨u + 1, T2, F2, L2, false, by omega, by go_num, rfl, hT2, rfl, hF2, rfl, rfl, HB4.out, Or.inl ⟨rfl, rfl, rfl, rfl, Nat.le_succ_of_le HFU.out, HNO2.out⟩⟩
                          case measure => simp [intOf]; omega
                      · obtain rfl : u = 7 := by omega
                        have HRR : Hid (R = (0, 8)) := HDOC.out.symm.trans (doc_bad HD.out HDE.out HL.out HLE.out (fun j h1 h2 => HNO.out j h1 h2))
                        clear hu hFu HNO
                        go_wp2
                        go_ret2
                        exact ⟨by rw [HRR.out]; rfl, HBU.out⟩
                    · have hon := doc_on HD.out HAP.out HP15.out HDE.out HL.out HLE.out hFj hj7 hnm HFL.out (st := st)
                      rw [HDOC.out, ← HN.out] at hon
                      have HON : Hid (0 < b ∧ (b = s.length ∧ R = endP (addP st N (sizeU j)) ∨ b < s.length ∧ ∃ f', s.length - b < f' ∧ R = docP f' (s.drop b) (j + 1) (addP st N (sizeU j)))) := hon
                      have HSUM : Hid (SumAt L2 T2 (addP st N (sizeU j))) := hsum
                      clear hon hsum HI2 hnm
                      by_cases hui : (u : Int) < 7
                      · go_wp2
                        go_roundw
                        case rel => exact ⟨b, T2, j + 1, L2, rfl, hbS, rfl, hT2, rfl, hF2, rfl, ⟨addP st N (sizeU j), HSUM.out, HON.out.2.elim (fun h => Or.inr ⟨HON.out.1, h.1, h.2.symm⟩) (fun h => Or.inl ⟨h.1, h.2.elim fun f' h' => ⟨f', h'.1, h'.2.symm⟩⟩), HBU.out⟩⟩
                        case measure => simp [intOf]; omega
                      · go_wp2
                        go_roundw
                        case rel => exact ⟨b, T2, j + 1, L2, rfl, hbS, rfl, hT2, rfl, hF2, rfl, ⟨addP st N (sizeU j), HSUM.out, HON.out.2.elim (fun h => Or.inr ⟨HON.out.1, h.1, h.2.symm⟩) (fun h => Or.inl ⟨h.1, h.2.elim fun f' h' => ⟨f', h'.1, h'.2.symm⟩⟩), HBU.out⟩⟩
                        case measure => simp [intOf]; omega
            · have h16 : p = a0 + 16 := by omega
              have HRR : Hid (R = (0, 8)) := HDOC.out.symm.trans (doc_long (by have h9 := HD.out; rw [h16] at h9; exact h9))
              have h15i : (15 : Int) < (p : Int) - a0 := by omega
              clear h16 h15
              go_wp2
              go_ret2
              exact ⟨by rw [HRR.out]; rfl, HBL.out⟩
    · have hai : ¬ (a0 : Int) < S.size := by rw [← HSL.out]; omega
      have ha0 : ((a0 : Int) == 0) = false := by rw [beq_eq_false_iff_ne]; omega
      have HB : Hid (Below w.heap.size w wr) := HBL.out
      rcases HST.out with ⟨rfl, rfl⟩ | ⟨rfl, rfl⟩
      · have HRR : Hid (R = ((T : Int), 0)) := hend.symm
        clear hend hfin HST
        go_wp2
        go_ret2
        exact ⟨by rw [HRR.out]; rfl, HB.out⟩
      · have HRR : Hid (R = (0, 9)) := hend.symm
        clear hend hfin HST
        go_wp2
        go_ret2
        exact ⟨by rw [HRR.out]; rfl, HB.out⟩
end Go.Proofs.YtmlcilalmhpmiaaDoor
