/- The document's nearest float, walked. -/
import Derived.Test.YtinfnkhghmcelaaDoorMHg
namespace Go.Proofs.YtinfnkhghmcelaaDoor
open Go.RowKit Go.Maps

theorem cmpN_le {a b : Nat} : cmpN a b ≤ 0 ↔ a ≤ b := by
  unfold cmpN
  by_cases h1 : a < b
  · rw [if_pos h1]; omega
  · rw [if_neg h1]
    by_cases h2 : a = b
    · rw [if_pos h2]; omega
    · rw [if_neg h2]; omega
theorem cmpN_lt {a b : Nat} : cmpN a b < 0 ↔ a < b := by
  unfold cmpN
  by_cases h1 : a < b
  · rw [if_pos h1]; omega
  · rw [if_neg h1]
    by_cases h2 : a = b
    · rw [if_pos h2]; omega
    · rw [if_neg h2]; omega
theorem cmpN_eq {a b : Nat} : cmpN a b = 0 ↔ a = b := by
  unfold cmpN
  by_cases h1 : a < b
  · rw [if_pos h1]; omega
  · rw [if_neg h1]
    by_cases h2 : a = b
    · rw [if_pos h2]; simp [h2]
    · rw [if_neg h2]; omega
theorem cmpN_range (a b : Nat) : -1 ≤ cmpN a b ∧ cmpN a b ≤ 1 := by
  unfold cmpN
  split
  · omega
  · split <;> omega

set_option maxRecDepth 100000 in
set_option maxHeartbeats 1000000 in
theorem refNearest_any (V l c n : Nat) (x : Int) (a : Option Addr) (w : World) (h : QAt w (.slice a l c) V) (hn : n ≤ 400) (hx1 : -100000000 ≤ x) (hx2 : x ≤ 100000000) (_hV0 : V = 0 → n = 0) (hV1 : V ≠ 0 → 1 ≤ n ∧ 10 ^ (n - 1) ≤ V ∧ V < 10 ^ n) :
    Calls Tryd.prog 29 #[.agg #[.slice a l c, .int .i64 x], .int .i64 n] w fun e w' => ∃ R : Nat, e = .returned (.int .u64 R) ∧ NearF (V * 10 ^ x.toNat) (10 ^ (-x).toNat) R ∧ Below w.heap.size w w' := by
  have HL : Hid (l = (digQ V).length) := by
    obtain ⟨a9, c9, e9, -⟩ := id h
    cases e9
    rfl
  obtain ⟨W1, hW1⟩ : ∃ W1, w.alloc (.cells #[.slice a l c, .int .i64 x] 55) = W1 := ⟨_, rfl⟩
  obtain ⟨c0, c1⟩ := num_cells (w := W1) (b := w.heap.size) (v0 := .slice a l c) (v1 := .int .i64 x) (by rw [← hW1]; exact heap_alloc_new w _)
  have hxl : w.heap.size < W1.heap.size := by rw [← hW1]; simp
  have HB1 : Hid (Below w.heap.size w W1) := by rw [← hW1]; exact (Below.refl _ _).alloc (Nat.le_refl _) _
  have HW1 : Hid (w.alloc (.cells #[.slice a l c, .int .i64 x] 55) = W1) := hW1
  have HC : Hid (W1.cell? ⟨w.heap.size, 0, none⟩ = some (.slice a l c) ∧ W1.cell? ⟨w.heap.size, 1, none⟩ = some (.int .i64 x)) := ⟨c0, c1⟩
  have HXL : Hid (w.heap.size < W1.heap.size) := hxl
  have HQ1 : Hid (QAt W1 (.slice a l c) V) := h.below HB1.out
  clear hW1
  clear h
  by_cases hl0 : l = 0
  · have hV : V = 0 := digQ_nil.1 (by rw [← HL.out]; exact hl0)
    have HN : Hid (NearF (V * 10 ^ x.toNat) (10 ^ (-x).toNat) 0) := by
      rw [hV, Nat.zero_mul]
      exact NearF.zero (by rw [Nat.zero_mul]; exact Nat.pow_pos (by decide))
    have hl0i : ((l : Int) == 0) = true := by rw [hl0]; rfl
    clear hl0 hV HL _hV0 hV1
    go_enter Tryd.func29, Tryd.ntmps29
    go_wp2
    rw [HW1.out]
    go_wp2
    go_ret
    exact ⟨0, rfl, HN.out, HB1.out⟩
  · have hVne : V ≠ 0 := fun e => hl0 (by rw [HL.out, e, digQ_zero]; rfl)
    obtain ⟨hn1, hVl0, hVh0⟩ := hV1 hVne
    have hVl : Hid (10 ^ (n - 1) ≤ V) := hVl0
    have hVh : Hid (V < 10 ^ n) := hVh0
    clear hVl0 hVh0 _hV0 hV1
    have hl0i : ((l : Int) == 0) = false := by rw [beq_eq_false_iff_ne]; omega
    by_cases hlow : (n : Int) + x < -340
    · have HN : Hid (NearF (V * 10 ^ x.toNat) (10 ^ (-x).toNat) 0) := near_tiny hVh.out hlow
      clear hVl hVh hVne hl0
      go_enter Tryd.func29, Tryd.ntmps29
      go_wp2
      rw [HW1.out]
      go_wp2
      go_ret
      exact ⟨0, rfl, HN.out, HB1.out⟩
    · by_cases hhigh : 320 < (n : Int) + x
      · have HN : Hid (NearF (V * 10 ^ x.toNat) (10 ^ (-x).toNat) 9218868437227405312) := near_huge hn1 hVl.out hhigh
        clear hVl hVh hVne hl0
        go_enter Tryd.func29, Tryd.ntmps29
        go_wp2
        rw [HW1.out]
        go_wp2
        go_ret
        exact ⟨9218868437227405312, rfl, HN.out, HB1.out⟩
      · have HV4 : Hid (V < 10000 ^ n) := Nat.lt_of_lt_of_le hVh.out (pow_le4 10 n (by decide))
        obtain ⟨A, hA⟩ : ∃ A, A = V * 10 ^ x.toNat := ⟨_, rfl⟩
        obtain ⟨D, hD⟩ : ∃ D, D = 10 ^ (-x).toNat := ⟨_, rfl⟩
        have HD : Hid (0 < D) := by rw [hD]; exact Nat.pow_pos (by decide)
        have HPA : Hid (∀ (raw : Nat) (W : World), raw < 9223372036854775808 → Calls Tryd.prog 52 #[.int .u64 raw] W fun e w' => e = .returned (.tuple #[.int .i64 (apartN raw).1, .int .i64 (apartN raw).2]) ∧ w' = W) := fun raw W h => refParts_any raw W h
        have HBF : Hid (∀ (raw : Nat) (W : World), QAt W (.slice a l c) V → raw < 9218868437227405312 → Calls Tryd.prog 53 #[.int .i64 (apartN raw).1, .int .i64 (apartN raw).2, .agg #[.slice a l c, .int .i64 x]] W fun ee w' => ee = .returned (.int .i64 (cmpN (magF raw * D) (A * U74))) ∧ Below W.heap.size W w') := fun raw W hq hr => by
          rw [hA, hD]
          exact below_float raw V l c n x a W hq hr hn HV4.out (by omega) (by omega)
        have HBH : Hid (∀ (raw : Nat) (W : World), QAt W (.slice a l c) V → raw < 9218868437227405312 → Calls Tryd.prog 53 #[.int .i64 (2 * ((apartN raw).1 : Int) + 1), .int .i64 ((apartN raw).2 - 1), .agg #[.slice a l c, .int .i64 x]] W fun ee w' => ee = .returned (.int .i64 (cmpN ((magF raw + magF (raw + 1)) * D) (A * U75))) ∧ Below W.heap.size W w') := fun raw W hq hr => by
          rw [hA, hD]
          exact below_half raw V l c n x a W hq hr hn HV4.out (by omega) (by omega)
        have HAP : Hid (∀ raw : Nat, raw < 9218868437227405312 → (apartN raw).1 < 9007199254740992 ∧ -1074 ≤ (apartN raw).2 ∧ (apartN raw).2 ≤ 971) := fun raw hr => by
          unfold apartN
          split
          · exact ⟨by dsimp only; omega, by dsimp only; omega, by dsimp only; omega⟩
          · exact ⟨by dsimp only; omega, by dsimp only; omega, by dsimp only; omega⟩
        have HM0 : Hid (magF 0 * D ≤ A * U74) := by
          show _ ≤ _
          rw [show magF 0 = 0 from rfl, Nat.zero_mul]
          exact Nat.zero_le _
        rw [← hA, ← hD]
        clear hVl hVh hVne hl0 hA hD HV4
        go_enter Tryd.func29, Tryd.ntmps29
        go_wp2
        rw [HW1.out]
        go_wp2
        clear c0 c1 hxl
        go_loopw [5, 6] (fun lv hv wr => ∃ lo hi : Nat, lv = .int .u64 lo ∧ hv = .int .u64 hi ∧ lo < hi ∧ hi ≤ 9218868437227405312 ∧ Hid (magF lo * D ≤ A * U74 ∧ (hi < 9218868437227405312 → A * U74 < magF hi * D) ∧ Below w.heap.size w wr ∧ W1.heap.size ≤ wr.heap.size ∧ Below W1.heap.size W1 wr)) (fun lv hv _ => (intOf hv).toNat - (intOf lv).toNat)
        case atStart => exact ⟨0, 9218868437227405312, rfl, rfl, by omega, by omega, HM0.out, fun h => absurd h (by omega), HB1.out, Nat.le_refl _, Below.refl _ _⟩
        case round =>
          obtain ⟨lo, hi, rfl, rfl, hlh, hhi, HI⟩ := hrel
          have HBL : Hid (Below w.heap.size w wr) := HI.out.2.2.1
          have HBW : Hid (Below W1.heap.size W1 wr) := HI.out.2.2.2.2
          have cz0 := (HBW.out.cell (p := ⟨w.heap.size, 0, none⟩) HXL.out).trans HC.out.1
          have cz1 := (HBW.out.cell (p := ⟨w.heap.size, 1, none⟩) HXL.out).trans HC.out.2
          have HQ : Hid (QAt wr (.slice a l c) V) := HQ1.out.below HBW.out
          by_cases hgap : 1 < hi - lo
          · have hgi : (1 : Int) < (hi : Int) - lo := by omega
            obtain ⟨mid, hmid⟩ : ∃ mid, mid = lo + (hi - lo) / 2 := ⟨_, rfl⟩
            have hmi : (lo : Int) + ((hi : Int) - lo) / 2 = (mid : Int) := by omega
            have hm1 : lo < mid ∧ mid < hi := by omega
            have hpa := HPA.out mid wr (by omega)
            have hbf := HBF.out mid wr HQ.out (by omega)
            obtain ⟨p1, p2, p3⟩ := HAP.out mid (by omega)
            have hcr := cmpN_range (magF mid * D) (A * U74)
            have HCL : Hid (cmpN (magF mid * D) (A * U74) ≤ 0 ↔ magF mid * D ≤ A * U74) := cmpN_le
            generalize (apartN mid).1 = pm at *
            generalize (apartN mid).2 = pe at *
            generalize cmpN (magF mid * D) (A * U74) = C at *
            clear hmid
            by_cases hle : C ≤ 0
            · have HLO : Hid (magF mid * D ≤ A * U74) := HCL.out.1 hle
              go_wp2_with (first
                | (go_at_call 52; refine hpa.mono ?_; clear hpa; rintro e w2 ⟨rfl, hw2⟩; have hw2 := hw2.symm; subst hw2)
                | (go_at_call 53; refine hbf.mono ?_; clear hbf; rintro e w4 ⟨rfl, hb4⟩; have HB4 : Hid (Below w.heap.size w w4) := HBL.out.trans (hb4.mono HBL.out.size); have HBW4 : Hid (Below W1.heap.size W1 w4) := HBW.out.trans (hb4.mono HBW.out.size); clear hb4))
              go_roundw
              case rel => exact ⟨mid, hi, rfl, rfl, by omega, hhi, HLO.out, HI.out.2.1, HB4.out, HBW4.out.size, HBW4.out⟩
              case measure => simp [intOf]; omega
            · have HHI : Hid (A * U74 < magF mid * D) := Nat.lt_of_not_le (fun h => hle (HCL.out.2 h))
              go_wp2_with (first
                | (go_at_call 52; refine hpa.mono ?_; clear hpa; rintro e w2 ⟨rfl, hw2⟩; have hw2 := hw2.symm; subst hw2)
                | (go_at_call 53; refine hbf.mono ?_; clear hbf; rintro e w4 ⟨rfl, hb4⟩; have HB4 : Hid (Below w.heap.size w w4) := HBL.out.trans (hb4.mono HBL.out.size); have HBW4 : Hid (Below W1.heap.size W1 w4) := HBW.out.trans (hb4.mono HBW.out.size); clear hb4))
              go_roundw
              case rel => exact ⟨lo, mid, rfl, rfl, by omega, by omega, HI.out.1, fun _ => HHI.out, HB4.out, HBW4.out.size, HBW4.out⟩
              case measure => simp [intOf]; omega
          · have hgi : ¬ (1 : Int) < (hi : Int) - lo := by omega
            have hpa := HPA.out lo wr (by omega)
            have hbh := HBH.out lo wr HQ.out (by omega)
            obtain ⟨p1, p2, p3⟩ := HAP.out lo (by omega)
            have hcr := cmpN_range ((magF lo + magF (lo + 1)) * D) (A * U75)
            have HCL : Hid (cmpN ((magF lo + magF (lo + 1)) * D) (A * U75) < 0 ↔ (magF lo + magF (lo + 1)) * D < A * U75) := cmpN_lt
            have HCE : Hid (cmpN ((magF lo + magF (lo + 1)) * D) (A * U75) = 0 ↔ (magF lo + magF (lo + 1)) * D = A * U75) := cmpN_eq
            have HUP : Hid (((magF lo + magF (lo + 1)) * D < A * U75 ∨ ((magF lo + magF (lo + 1)) * D = A * U75 ∧ lo % 2 = 1)) → NearF A D (lo + 1)) := fun hh => near_up HD.out (by omega) (fun h9 => by
              have h8 := HI.out.2.1 (by omega)
              rw [show hi = lo + 1 by omega] at h8
              exact h8) hh
            have HLO : Hid ((A * U75 < (magF lo + magF (lo + 1)) * D ∨ ((magF lo + magF (lo + 1)) * D = A * U75 ∧ lo % 2 = 0)) → NearF A D lo) := fun hh => near_low HD.out (by omega) HI.out.1 hh
            generalize (apartN lo).1 = pm at *
            generalize (apartN lo).2 = pe at *
            generalize cmpN ((magF lo + magF (lo + 1)) * D) (A * U75) = C at *
            generalize (magF lo + magF (lo + 1)) * D = LH at *
            generalize A * U75 = AH at *
            clear HI
            by_cases hlt : C < 0
            · have HN : Hid (NearF A D (lo + 1)) := HUP.out (Or.inl (HCL.out.1 hlt))
              go_wp2_with (first
                | (go_at_call 52; refine hpa.mono ?_; clear hpa; rintro e w2 ⟨rfl, hw2⟩; have hw2 := hw2.symm; subst hw2)
                | (go_at_call 53; refine hbh.mono ?_; clear hbh; rintro e w4 ⟨rfl, hb4⟩; have HB4 : Hid (Below w.heap.size w w4) := HBL.out.trans (hb4.mono HBL.out.size); clear hb4))
              go_ret
              exact ⟨lo + 1, by go_num, HN.out, HB4.out⟩
            · by_cases heq : C = 0
              · have HE : Hid (LH = AH) := HCE.out.1 heq
                by_cases hodd : lo % 2 = 1
                · have HN : Hid (NearF A D (lo + 1)) := HUP.out (Or.inr ⟨HE.out, hodd⟩)
                  have hoi : (lo : Int) % 2 = 1 := by omega
                  clear hodd
                  go_wp2_with (first
                    | (go_at_call 52; refine hpa.mono ?_; clear hpa; rintro e w2 ⟨rfl, hw2⟩; have hw2 := hw2.symm; subst hw2)
                    | (go_at_call 53; refine hbh.mono ?_; clear hbh; rintro e w4 ⟨rfl, hb4⟩; have HB4 : Hid (Below w.heap.size w w4) := HBL.out.trans (hb4.mono HBL.out.size); clear hb4))
                  go_ret
                  exact ⟨lo + 1, by go_num, HN.out, HB4.out⟩
                · have HN : Hid (NearF A D lo) := HLO.out (Or.inr ⟨HE.out, by omega⟩)
                  have hoi : (lo : Int) % 2 = 0 := by omega
                  clear hodd
                  go_wp2_with (first
                    | (go_at_call 52; refine hpa.mono ?_; clear hpa; rintro e w2 ⟨rfl, hw2⟩; have hw2 := hw2.symm; subst hw2)
                    | (go_at_call 53; refine hbh.mono ?_; clear hbh; rintro e w4 ⟨rfl, hb4⟩; have HB4 : Hid (Below w.heap.size w w4) := HBL.out.trans (hb4.mono HBL.out.size); clear hb4))
                  go_ret
                  exact ⟨lo, rfl, HN.out, HB4.out⟩
              · have HN : Hid (NearF A D lo) := HLO.out (Or.inl (by
                  rcases Nat.lt_trichotomy LH AH with h | h | h
                  · exact absurd (HCL.out.2 h) hlt
                  · exact absurd (HCE.out.2 h) heq
                  · exact h))
                obtain rfl : C = 1 := by omega
                clear heq hlt HCL HCE hcr HUP HLO
                go_wp2_with (first
                  | (go_at_call 52; refine hpa.mono ?_; clear hpa; rintro e w2 ⟨rfl, hw2⟩; have hw2 := hw2.symm; subst hw2)
                  | (go_at_call 53; refine hbh.mono ?_; clear hbh; rintro e w4 ⟨rfl, hb4⟩; have HB4 : Hid (Below w.heap.size w w4) := HBL.out.trans (hb4.mono HBL.out.size); clear hb4))
                go_ret
                exact ⟨lo, rfl, HN.out, HB4.out⟩
end Go.Proofs.YtinfnkhghmcelaaDoor
