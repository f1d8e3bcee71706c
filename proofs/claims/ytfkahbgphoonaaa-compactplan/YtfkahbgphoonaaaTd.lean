/- The document's Plan. -/
import Derived.Test.YtfkahbgphoonaaaTc
import Derived.Test.YtfkahbgphoonaaaTq
namespace Go.Proofs.Ytfkahbgphoonaaa
open Go.RowKit Go.Shelf Go.Maps Go.Sort

theorem nil_eq (W : World) : (binOp .eql 22 (.slice none 0 0) (.slice none 0 0)).run Try.prog W = .ok (.bool true) W := by kernel_rfl
theorem some_eq (W : World) (ad : Addr) (n c : Nat) : (binOp .eql 22 (.slice (some ad) n c) (.slice none 0 0)).run Try.prog W = .ok (.bool false) W := by kernel_rfl
theorem fr_take (f0 s fr : Int) (j : Nat) (hj : j < 2) (h : fr = f0 - j * s) : [f0, f0 - s].take (j + 1) = [f0, f0 - s].take j ++ [fr] := by
  subst h
  obtain rfl | rfl : j = 0 ∨ j = 1 := by omega
  · simp
  · simp
theorem fr_bound (f0 s fr : Int) (j : Nat) (hj : j < 2) (h : fr = f0 - j * s) (hf : f0 ≤ 9007199254740992 ∧ -333266372425416704 ≤ f0) (hs : 1 ≤ s ∧ s ≤ 324259173170675712) : fr ≤ 9007199254740992 ∧ -700000000000000000 ≤ fr := by
  subst h
  obtain rfl | rfl : j = 0 ∨ j = 1 := by omega
  · simp; omega
  · simp; omega
theorem a_some {w : World} {a : Option Addr} {c : Nat} {out : List Mt} (h : MtAt w (.slice a out.length c) out) (hl : 0 < out.length) : a ≠ none := by
  obtain ⟨b, o, e, -⟩ := MtAt.one h 0 hl
  rw [e]
  simp

set_option maxRecDepth 100000 in
set_option maxHeartbeats 4000000 in
theorem refPlan_any (v : Value) (L : List Mt) (newest width : Int) (w : World) (h : MtAt w v L) (hl : L.length ≤ 1000) :
    Calls Try.prog 8 #[v, .int .i64 newest, .int .i64 width] w fun e w' => ∃ a c ns, e = .returned (.slice a ns.length c) ∧ PlanRef L (cl newest) (min (max width 1) 36028797018963968) ns ∧ StAt w' (.slice a ns.length c) ns ∧ Below w.heap.size w w' := by
  obtain ⟨a1, c1, rfl, -⟩ := id h
  have HL : Hid (∀ W, Below w.heap.size w W → MtAt W (.slice a1 L.length c1) L) := fun W hW => RowAt.below h hW
  clear h
  obtain ⟨nw, hnw⟩ : ∃ nw, nw = cl newest := ⟨_, rfl⟩
  have hn1 : -9007199254740992 ≤ nw ∧ nw ≤ 9007199254740992 := by rw [hnw]; exact cl_in newest
  have HIN : Hid (∀ t W, Calls Try.prog 20 #[.int .i64 t] W fun e w' => e = .returned (.int .i64 (cl t)) ∧ w' = W) := fun t W => refInside t W
  obtain ⟨md, hmd⟩ : ∃ md, md = max width 1 := ⟨_, rfl⟩
  have hmd1 : 1 ≤ md := by omega
  have HWI : Hid (∀ W, Calls Try.prog 18 #[.int .i64 width] W fun e w' => e = .returned (.int .i64 md) ∧ w' = W) := fun W => by rw [hmd]; exact refWide width W
  rw [← hmd, ← hnw]
  have hcn := hnw.symm
  clear hmd hnw
  obtain ⟨wr0, hwr⟩ : ∃ wr0, wr0 = min md 36028797018963968 := ⟨_, rfl⟩
  have hwr1 : 1 ≤ wr0 ∧ wr0 ≤ 36028797018963968 := by omega
  have HSP0 : Hid (∀ W, Calls Try.prog 17 #[.int .i64 0, .int .i64 md] W fun e w' => e = .returned (.int .i64 (3 * wr0)) ∧ w' = W) := fun W => by rw [hwr]; exact refSpan0 md W hmd1
  have HSP1 : Hid (∀ W, Calls Try.prog 17 #[.int .i64 1, .int .i64 md] W fun e w' => e = .returned (.int .i64 (9 * wr0)) ∧ w' = W) := fun W => by rw [hwr]; exact refSpan1 md W hmd1
  rw [← hwr]
  clear hwr
  go_enter Try.func8, Try.ntmps8
  go_wp2
  go_loopg [7] 2 (fun g vl wx => ∃ (k : Nat), k ≤ 2 ∧ g = 2 - k ∧ vl = .int .i64 k ∧ Hid ((1 ≤ k → NoC 0 (3 * wr0) nw L (csF 0 (3 * wr0) L)) ∧ (k = 2 → NoC 1 (9 * wr0) nw L (csF 1 (9 * wr0) L))) ∧ Hid (Below w.heap.size w wx))
  case atStart => exact ⟨0, by omega, rfl, rfl, ⟨fun h => by omega, fun h => by omega⟩, Below.refl _ _⟩
  case round =>
    obtain ⟨lv, hlv, hgl, rfl, hno, hbel⟩ := hrel
    by_cases hlt : lv < 2
    · have hlvi : (lv : Int) < 2 := by omega
      obtain ⟨s, HS, HSP⟩ : ∃ s, Hid ((lv = 0 ∧ s = 3 * wr0) ∨ (lv = 1 ∧ s = 9 * wr0)) ∧ Hid (∀ W, Calls Try.prog 17 #[.int .i64 (lv : Int), .int .i64 md] W fun e w' => e = .returned (.int .i64 s) ∧ w' = W) := by
        obtain rfl | rfl : lv = 0 ∨ lv = 1 := by omega
        · exact ⟨3 * wr0, Or.inl ⟨rfl, rfl⟩, HSP0.out⟩
        · exact ⟨9 * wr0, Or.inr ⟨rfl, rfl⟩, HSP1.out⟩
      have hs1 : 1 ≤ s ∧ s ≤ 324259173170675712 := by rcases HS.out with ⟨-, e⟩ | ⟨-, e⟩ <;> omega
      clear HSP0 HSP1
      go_wp2_with (first
        | (go_at_call 18; refine (HWI.out _).mono ?_; rintro e w1 ⟨rfl, e8⟩; have e8 := e8.symm; subst e8)
        | (go_at_call 17; refine (HSP.out _).mono ?_; rintro e w1 ⟨rfl, e8⟩; have e8 := e8.symm; subst e8))
      have HB0 : Hid (Below w.heap.size w wr) := hbel.out
      clear hbel
      go_loopg [9, 10, 11] L.length (fun g vb vf i wx => ∃ (k n c : Nat) (bb : Int) (a : Option Addr), k ≤ L.length ∧ g = L.length - k ∧ i = .int .i64 k ∧ vb = .int .i64 bb ∧ vf = .slice a n c ∧ Hid ((a = none ∧ n = 0 ∧ c = 0 ∧ NoC lv s nw L (csF lv s (L.take k))) ∨ (a ≠ none ∧ ∃ out, Fnd lv s nw L (csF lv s (L.take k)) bb a n c wx out)) ∧ Hid (Below w.heap.size w wx))
      case atStart => exact ⟨0, 0, 0, 0, none, Nat.zero_le _, rfl, rfl, rfl, rfl, Or.inl ⟨rfl, rfl, rfl, fun c hc => by simp [csF] at hc⟩, HB0.out⟩
      case round =>
        obtain ⟨k, n, c, bb, a, hk, hgk, rfl, rfl, rfl, hfd, hbel⟩ := hrel
        have hsw := hbel.out.size
        by_cases hlk : k < L.length
        · obtain ⟨b0, o0, e0, hone⟩ := MtAt.one (HL.out wr hbel.out) k hlk
          obtain ⟨g0, g1, g2, g3⟩ := hone wr (Below.refl _ _)
          have HCS : Hid (_ = _) := csF_step lv s L k hlk
          generalize L[k] = m at *
          obtain ⟨mn, m1, m2, m3⟩ := m
          dsimp only at g0 g1 g2 g3 HCS
          have hkl : (k : Int) < (L.length : Int) := by omega
          clear hone
          subst e0
          by_cases hm3 : m3 = (lv : Int)
          · have HC2 : Hid (csF lv s (L.take (k + 1)) = csF lv s (L.take k) ++ [cl m1 - cl m1 % s, cl m1 - cl m1 % s - s]) := by show _ = _; rw [HCS.out, if_pos hm3]
            subst hm3
            obtain ⟨x, hx0⟩ : ∃ x, cl m1 = x := ⟨_, rfl⟩
            have hx := cl_in m1
            rw [hx0] at hx HC2
            have HFL : Hid (∀ W, Calls Try.prog 19 #[.int .i64 x, .int .i64 s] W fun e w' => e = .returned (.int .i64 (x - x % s)) ∧ w' = W) := fun W => refFloor0 x s W hx (by omega)
            have e1 := Int.emod_nonneg x (show s ≠ 0 by omega)
            have e2 := Int.emod_lt_of_pos x (show 0 < s by omega)
            obtain ⟨f0, hf0⟩ : ∃ f0, f0 = x - x % s := ⟨_, rfl⟩
            rw [← hf0] at HFL HC2
            have hfb : f0 ≤ 9007199254740992 ∧ -333266372425416704 ≤ f0 := by omega
            clear e1 e2 hf0
            go_wp2_with (first
              | (go_at_call 20; refine (HIN.out _ _).mono ?_; rintro e w1 ⟨rfl, e8⟩; have e8 := e8.symm; subst e8)
              | (go_at_call 19; refine (HFL.out _).mono ?_; clear HFL; rintro e w1 ⟨rfl, e8⟩; have e8 := e8.symm; subst e8))
            clear hx0 g0 g1 g2 g3 hx
            go_loopg [9, 10, 12, 13] 2 (fun g vb vf vr i wx => ∃ (j n c : Nat) (bb fr : Int) (a : Option Addr), j ≤ 2 ∧ g = 2 - j ∧ i = .int .i64 j ∧ vb = .int .i64 bb ∧ vf = .slice a n c ∧ vr = .int .i64 fr ∧ Hid (fr = f0 - j * s) ∧ Hid ((a = none ∧ n = 0 ∧ c = 0 ∧ NoC lv s nw L (csF lv s (L.take k) ++ [f0, f0 - s].take j)) ∨ (a ≠ none ∧ ∃ out, Fnd lv s nw L (csF lv s (L.take k) ++ [f0, f0 - s].take j) bb a n c wx out)) ∧ Hid (Below w.heap.size w wx))
            case atStart => exact ⟨0, n, c, bb, f0, a, by omega, rfl, rfl, rfl, rfl, rfl, by show _ = _; simp, by simpa using hfd, hbel.out⟩
            case round =>
              clear hfd hbel hsw
              obtain ⟨j, n, c, bb, fr, a, hj, hgj, rfl, rfl, rfl, rfl, HFR, hfd, hbel⟩ := hrel
              have hsw := hbel.out.size
              by_cases hlj : j < 2
              · have hjl : (j : Int) < 2 := by omega
                have HTK : Hid ([f0, f0 - s].take (j + 1) = [f0, f0 - s].take j ++ [fr]) := fr_take f0 s fr j hlj HFR.out
                have hfrb : fr ≤ 9007199254740992 ∧ -700000000000000000 ≤ fr := fr_bound f0 s fr j hlj HFR.out hfb hs1
                have hw1 : IntKind.i64.wrap (fr + s) = fr + s := by rw [IntKind.wrap_i64]; omega
                have hw2 : IntKind.i64.wrap (fr - s) = fr - s := by rw [IntKind.wrap_i64]; omega
                have HLT : Hid (Calls Try.prog 21 #[.slice (some ⟨b0, o0, none⟩) L.length c1, .int .i64 (lv : Int), .int .i64 fr, .int .i64 s] wr fun e w' => ∃ a c out, e = .returned (.slice a out.length c) ∧ LotOf lv fr s L out ∧ MtAt w' (.slice a out.length c) out ∧ Below wr.heap.size wr w') := lot_any _ L lv fr s wr (HL.out wr hbel.out) hl (by omega) (by omega)
                go_upto_region 16 with (go_at_call 21; refine HLT.out.mono ?_; clear HLT; rintro e w2 ⟨a2, c2, out, rfl, hlo, hat2, hb2⟩)
                have hbw2 : Hid (Below w.heap.size w w2) := hbel.out.trans (hb2.mono hsw)
                have hlen := hlo.1.length_eq
                have hfd2 : Hid ((a = none ∧ n = 0 ∧ c = 0 ∧ NoC lv s nw L (csF lv s (L.take k) ++ [f0, f0 - s].take j)) ∨ (a ≠ none ∧ ∃ out, Fnd lv s nw L (csF lv s (L.take k) ++ [f0, f0 - s].take j) bb a n c w2 out)) := by
                  rcases hfd.out with h9 | ⟨h9, o9, h8⟩
                  · exact Or.inl h9
                  · exact Or.inr ⟨h9, o9, h8.step hb2⟩
                have HLO : Hid (LotOf lv fr s L out) := hlo
                have HAT : Hid (MtAt w2 (.slice a2 out.length c2) out) := hat2
                have HLN : Hid (out.length = (L.filter (stB lv fr s)).length) := hlen
                clear hfd hbel hsw hlo hat2 hb2 hlen
                by_cases hc1 : 2 ≤ out.length
                · have hc1i : (2 : Int) ≤ (out.length : Int) := by omega
                  have ha2 : a2 ≠ none := a_some HAT.out (by omega)
                  by_cases hc2 : fr + s ≤ nw
                  · have HCD : Hid (Cand lv s nw L fr) := ⟨by rw [← HLN.out]; exact hc1, hc2⟩
                    rcases hfd2.out with ⟨e1, e2, e3, h4⟩ | ⟨h3, o9, h4⟩
                    · subst e1 e2 e3
                      have HN4 : Hid _ := h4
                      have hnil := nil_eq w2
                      clear hfd2 h4
                      go_wp2_with (go_at_call 20; refine (HIN.out _ _).mono ?_; rintro e w1 ⟨rfl, e8⟩; have e8 := e8.symm; subst e8)
                      go_roundg (2 - (j + 1))
                      case rel =>
                        refine ⟨j + 1, out.length, c2, fr, fr - s, a2, by omega, rfl, by go_num, rfl, rfl, rfl, ?_, ?_, hbw2⟩
                        · show _ = _
                          rw [HFR.out]; push_cast; rw [Int.add_mul]; omega
                        · rw [HTK.out, ← List.append_assoc]
                          exact Or.inr ⟨ha2, out, HAT.out, rfl, HLO.out, BestC.first HN4.out HCD.out⟩
                      case measure => omega
                    · obtain ⟨ad, rfl⟩ : ∃ ad, a = some ad := by
                        cases a with
                        | none => exact absurd rfl h3
                        | some ad => exact ⟨ad, rfl⟩
                      have HF4 : Hid (Fnd lv s nw L (csF lv s (L.take k) ++ [f0, f0 - s].take j) bb (some ad) n c w2 o9) := h4
                      have hnil := some_eq w2 ad n c
                      clear hfd2 h4 h3
                      by_cases hc3 : fr < bb
                      · skip
                        go_wp2_with (go_at_call 20; refine (HIN.out _ _).mono ?_; rintro e w1 ⟨rfl, e8⟩; have e8 := e8.symm; subst e8)
                        go_roundg (2 - (j + 1))
                        case rel =>
                          refine ⟨j + 1, out.length, c2, fr, fr - s, a2, by omega, rfl, by go_num, rfl, rfl, rfl, ?_, ?_, hbw2⟩
                          · show _ = _
                            rw [HFR.out]; push_cast; rw [Int.add_mul]; omega
                          · rw [HTK.out, ← List.append_assoc]
                            exact Or.inr ⟨ha2, out, HAT.out, rfl, HLO.out, BestC.less HF4.out.best HCD.out hc3⟩
                        case measure => omega
                      · skip
                        go_wp2_with (go_at_call 20; refine (HIN.out _ _).mono ?_; rintro e w1 ⟨rfl, e8⟩; have e8 := e8.symm; subst e8)
                        go_roundg (2 - (j + 1))
                        case rel =>
                          refine ⟨j + 1, n, c, bb, fr - s, some ad, by omega, rfl, by go_num, rfl, rfl, rfl, ?_, ?_, hbw2⟩
                          · show _ = _
                            rw [HFR.out]; push_cast; rw [Int.add_mul]; omega
                          · rw [HTK.out, ← List.append_assoc]
                            exact Or.inr ⟨by simp, o9, HF4.out.at_, HF4.out.len, HF4.out.lot, BestC.skip HF4.out.best (fun _ => by omega)⟩
                        case measure => omega
                  · have HNC : Hid (¬ Cand lv s nw L fr) := fun h9 => hc2 h9.2
                    have HE : Hid ((a = none ∧ n = 0 ∧ c = 0 ∧ NoC lv s nw L (csF lv s (L.take k) ++ [f0, f0 - s].take j ++ [fr])) ∨ (a ≠ none ∧ ∃ out, Fnd lv s nw L (csF lv s (L.take k) ++ [f0, f0 - s].take j ++ [fr]) bb a n c w2 out)) := by
                      rcases hfd2.out with ⟨e1, e2, e3, h4⟩ | ⟨h3, o9, h4⟩
                      · exact Or.inl ⟨e1, e2, e3, h4.snoc HNC.out⟩
                      · exact Or.inr ⟨h3, o9, h4.at_, h4.len, h4.lot, h4.best.skip (fun h9 => absurd h9 HNC.out)⟩
                    clear hfd2
                    go_wp2_with (go_at_call 20; refine (HIN.out _ _).mono ?_; rintro e w1 ⟨rfl, e8⟩; have e8 := e8.symm; subst e8)
                    go_roundg (2 - (j + 1))
                    case rel =>
                      refine ⟨j + 1, n, c, bb, fr - s, a, by omega, rfl, by go_num, rfl, rfl, rfl, ?_, ?_, hbw2⟩
                      · show _ = _
                        rw [HFR.out]; push_cast; rw [Int.add_mul]; omega
                      · rw [HTK.out, ← List.append_assoc]
                        exact HE.out
                    case measure => omega
                · have hc1i : ¬ (2 : Int) ≤ (out.length : Int) := by omega
                  have HNC : Hid (¬ Cand lv s nw L fr) := fun h9 => hc1 (by rw [HLN.out]; exact h9.1)
                  have HE : Hid ((a = none ∧ n = 0 ∧ c = 0 ∧ NoC lv s nw L (csF lv s (L.take k) ++ [f0, f0 - s].take j ++ [fr])) ∨ (a ≠ none ∧ ∃ out, Fnd lv s nw L (csF lv s (L.take k) ++ [f0, f0 - s].take j ++ [fr]) bb a n c w2 out)) := by
                    rcases hfd2.out with ⟨e1, e2, e3, h4⟩ | ⟨h3, o9, h4⟩
                    · exact Or.inl ⟨e1, e2, e3, h4.snoc HNC.out⟩
                    · exact Or.inr ⟨h3, o9, h4.at_, h4.len, h4.lot, h4.best.skip (fun h9 => absurd h9 HNC.out)⟩
                  clear hfd2
                  go_wp2_with (go_at_call 20; refine (HIN.out _ _).mono ?_; rintro e w1 ⟨rfl, e8⟩; have e8 := e8.symm; subst e8)
                  go_roundg (2 - (j + 1))
                  case rel =>
                    refine ⟨j + 1, n, c, bb, fr - s, a, by omega, rfl, by go_num, rfl, rfl, rfl, ?_, ?_, hbw2⟩
                    · show _ = _
                      rw [HFR.out]; push_cast; rw [Int.add_mul]; omega
                    · rw [HTK.out, ← List.append_assoc]
                      exact HE.out
                  case measure => omega
              · obtain rfl : j = 2 := by omega
                go_wp2_with fail
                go_roundg (L.length - (k + 1))
                case rel =>
                  refine ⟨k + 1, n, c, bb, a, by omega, rfl, by go_num, rfl, rfl, ?_, hbel⟩
                  rw [HC2.out]
                  exact hfd
                case measure => omega
          · have HC2 : Hid (csF lv s (L.take (k + 1)) = csF lv s (L.take k)) := by show _ = _; rw [HCS.out, if_neg hm3, List.append_nil]
            go_wp2_with fail
            go_roundg (L.length - (k + 1))
            case rel =>
              refine ⟨k + 1, n, c, bb, a, by omega, rfl, by go_num, rfl, rfl, ?_, hbel.out⟩
              rw [HC2.out]
              exact hfd
            case measure => omega
        · have hkl : ¬ (k : Int) < (L.length : Int) := by omega
          have hke : L.take k = L := List.take_of_length_le (by omega)
          rw [hke] at hfd
          rcases hfd.out with ⟨e1, e2, e3, h4⟩ | ⟨h3, out, h4⟩
          · subst e1 e2 e3
            have HN4 : Hid (NoC lv s nw L (csF lv s L)) := h4
            clear hfd h4
            go_wp2_with fail
            go_roundg (2 - (lv + 1))
            case rel =>
              refine ⟨lv + 1, by omega, rfl, by go_num, ?_, hbel⟩
              rcases HS.out with ⟨rfl, rfl⟩ | ⟨rfl, rfl⟩
              · exact ⟨fun _ => HN4.out, fun h9 => by omega⟩
              · exact ⟨fun _ => hno.out.1 (by omega), fun _ => HN4.out⟩
            case measure => omega
          · obtain ⟨ad, rfl⟩ : ∃ ad, a = some ad := by
              cases a with
              | none => exact absurd rfl h3
              | some ad => exact ⟨ad, rfl⟩
            have hln := h4.len
            subst hln
            have hol := h4.lot.le
            have HF4 : Hid (Fnd lv s nw L (csF lv s L) bb (some ad) out.length c wr out) := h4
            clear hfd h4 h3
            go_wp2_with fail
            generalize wr = V at *
            go_loopg [15, 16] out.length (fun g vo i wx => ∃ (q : Nat) (a' : Option Addr) (c' : Nat), q ≤ out.length ∧ g = out.length - q ∧ i = .int .i64 q ∧ vo = .slice a' q c' ∧ Hid (wx.ownsRow V.heap.size 9 1 (.slice a' q c') q (stC ((out.take q).map (·.nm)))) ∧ Hid (Below V.heap.size V wx))
            case atStart => exact ⟨0, none, 0, Nat.zero_le _, rfl, rfl, rfl, World.ownsRow_nil _ _ _ _, Below.refl _ _⟩
            case round =>
              obtain ⟨q, a', c', hq, hgq, rfl, rfl, hrow, hbv⟩ := hrel
              have hsv := hbv.out.size
              by_cases hlq : q < out.length
              · obtain ⟨b3, o3, e3, hone3⟩ := MtAt.one HF4.out.at_ q hlq
                cases e3
                obtain ⟨y0, -, -, -⟩ := hone3 wr hbv.out
                have HTN : Hid ((out.take (q + 1)).map (·.nm) = (out.take q).map (·.nm) ++ [out[q].nm]) := by
                  show _ = _
                  rw [List.take_succ_eq_append_getElem hlq, List.map_append]
                  rfl
                generalize out[q].nm = yn at *
                have hql : (q : Int) < (out.length : Int) := by omega
                have HAL : Hid (∀ o, (wr.alloc o).ownsRow V.heap.size 9 1 (.slice a' q c') q (stC ((out.take q).map (·.nm)))) := fun o => World.ownsRow.alloc hrow.out o
                clear hone3
                generalize (out.take q).map (·.nm) = ps at *
                go_wp2_with (at_builtin; refine wpList_append_row appSt _ rfl _ _ rfl V.heap.size _ q (stC ps) rfl (HAL.out _) _ 1 [.string yn] rfl (RowAt.of_block (cs := #[.string yn]) (heap_alloc_new wr _) rfl (by decide)) (by simp [Value.oneCell']) (by omega) (by simp; omega) ?_; intro a5 c5 w5 hr5 hg5 hw5)
                go_roundg (out.length - (q + 1))
                case rel =>
                  refine ⟨q + 1, a5, c5, by omega, rfl, by go_num, rfl, ?_, ?_⟩
                  · show World.ownsRow _ _ _ _ _ _ _
                    rw [HTN.out, stC_snoc]
                    exact hr5
                  · exact (hbv.out.alloc hsv _).grown hg5 (by simp; omega) (fun i hi => (World.ownsRow.lt hrow.out i hi).1)
                case measure => omega
              · obtain rfl : q = out.length := by omega
                have hql : ¬ ((out.length : Nat) : Int) < (out.length : Int) := by omega
                rw [List.take_of_length_le (Nat.le_refl _)] at hrow
                go_wp2_with fail
                go_ret
                refine ⟨a', c', out.map (·.nm), by rw [List.length_map]; rfl, ?_, ?_, hbel.out.trans (hbv.out.mono hsw)⟩
                · rcases HS.out with ⟨rfl, rfl⟩ | ⟨rfl, rfl⟩
                  · exact Or.inl ⟨bb, out, HF4.out.lot, HF4.out.best, rfl⟩
                  · exact Or.inr (Or.inl ⟨hno.out.1 (by omega), bb, out, HF4.out.lot, HF4.out.best, rfl⟩)
                · unfold StAt
                  rw [List.length_map]
                  exact RowAt.of_row hrow.out
    · obtain rfl : lv = 2 := by omega
      go_wp2_with fail
      go_ret
      obtain ⟨h0, h1⟩ := hno.out
      exact ⟨none, 0, [], rfl, Or.inr (Or.inr ⟨h0 (by omega), h1 (by simp), rfl⟩), ⟨none, 0, rfl, ⟨Nat.le_refl _, Nat.zero_le _⟩, rfl, fun j u hu => by simp [stC] at hu⟩, hbel.out⟩

end Go.Proofs.Ytfkahbgphoonaaa
