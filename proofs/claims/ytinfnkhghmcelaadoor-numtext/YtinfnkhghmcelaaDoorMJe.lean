/- Texts that belong together. -/
import Derived.Test.YtinfnkhghmcelaaDoorMJc
import Derived.Test.YtinfnkhghmcelaaDoorMHi
/- A number against the middle below a float; the document's reads. -/
namespace Go.Proofs.YtinfnkhghmcelaaDoor
open Go.RowKit Go.Maps

theorem apart_in {raw : Nat} (h0 : 0 < raw) (hraw : raw < 9218868437227405312) : 1 ≤ (apartN raw).1 ∧ (apartN raw).1 < 9007199254740992 ∧ -1074 ≤ (apartN raw).2 ∧ (apartN raw).2 ≤ 971 := by
  unfold apartN
  split
  · exact ⟨by dsimp only; omega, by dsimp only; omega, by dsimp only; omega, by dsimp only; omega⟩
  · exact ⟨by dsimp only; omega, by dsimp only; omega, by dsimp only; omega, by dsimp only; omega⟩
theorem below_low1 (raw V l c j : Nat) (x : Int) (a : Option Addr) (w : World) (h : QAt w (.slice a l c) V) (h0 : 0 < raw) (hraw : raw < 9218868437227405312) (hsp : ¬ ((apartN raw).1 = 4503599627370496 ∧ -1074 < (apartN raw).2)) (hj : j ≤ 400) (hV : V < 10000 ^ j) (hx1 : -1000 ≤ x) (hx2 : x ≤ 1000) :
    Calls Tryd.prog 53 #[.int .i64 (2 * ((apartN raw).1 : Int) - 1), .int .i64 ((apartN raw).2 - 1), .agg #[.slice a l c, .int .i64 x]] w fun ee w' => ee = .returned (.int .i64 (cmpN ((magF (raw - 1) + magF raw) * 10 ^ (-x).toNat) (V * 10 ^ x.toNat * U75))) ∧ Below w.heap.size w w' := by
  have hc : cR raw = (apartN raw).1 := rfl
  have hp : pR raw = (apartN raw).2 := rfl
  have hm := magF_raw raw (by omega)
  have hn := raw_prev raw h0 (by omega)
  rw [hc, hp] at hm hn
  have hb : 1 ≤ (apartN raw).1 ∧ (apartN raw).1 < 9007199254740992 ∧ -1074 ≤ (apartN raw).2 ∧ (apartN raw).2 ≤ 971 := apart_in h0 hraw
  generalize (apartN raw).1 = m at *
  generalize (apartN raw).2 = e at *
  rw [if_neg hsp] at hn
  have h9 := refBelow_any (2 * m - 1) (e - 1) x V l c a w h (by omega) (by omega) (by omega) (by omega) (by omega) (digQ_size (j := 5) (by omega) (by omega)) (digQ_size (j := j) hV (by omega))
  obtain ⟨b, hb75, hU⟩ := U75_eq
  have e0 : magF (raw - 1) + magF raw = (2 * m - 1) * 2 ^ (e + 1074).toNat := by
    rw [Nat.sub_mul, Nat.one_mul, Nat.mul_assoc 2, ← hm]
    omega
  have e1 : cmpN ((2 * m - 1) * 2 ^ (e - 1).toNat * 10 ^ (-x).toNat) (V * 2 ^ (-(e - 1)).toNat * 10 ^ x.toNat) = cmpN ((magF (raw - 1) + magF raw) * 10 ^ (-x).toNat) (V * 10 ^ x.toNat * U75) := by
    rw [Nat.mul_right_comm (2 * m - 1), Nat.mul_right_comm V, cmp_scale _ _ b (e - 1) (by omega), hU, e0, show e - 1 + (b : Int) = e + 1074 by omega, Nat.mul_right_comm (2 * m - 1)]
  rw [e1, show (((2 * m - 1 : Nat)) : Int) = 2 * (m : Int) - 1 by omega] at h9
  exact h9
theorem below_low2 (raw V l c j : Nat) (x : Int) (a : Option Addr) (w : World) (h : QAt w (.slice a l c) V) (h0 : 0 < raw) (hraw : raw < 9218868437227405312) (hsp : (apartN raw).1 = 4503599627370496 ∧ -1074 < (apartN raw).2) (hj : j ≤ 400) (hV : V < 10000 ^ j) (hx1 : -1000 ≤ x) (hx2 : x ≤ 1000) :
    Calls Tryd.prog 53 #[.int .i64 (4 * ((apartN raw).1 : Int) - 1), .int .i64 ((apartN raw).2 - 2), .agg #[.slice a l c, .int .i64 x]] w fun ee w' => ee = .returned (.int .i64 (cmpN ((magF (raw - 1) + magF raw) * 10 ^ (-x).toNat) (V * 10 ^ x.toNat * U75))) ∧ Below w.heap.size w w' := by
  have hc : cR raw = (apartN raw).1 := rfl
  have hp : pR raw = (apartN raw).2 := rfl
  have hm := magF_raw raw (by omega)
  have hn := raw_prev raw h0 (by omega)
  rw [hc, hp] at hm hn
  have hb : 1 ≤ (apartN raw).1 ∧ (apartN raw).1 < 9007199254740992 ∧ -1074 ≤ (apartN raw).2 ∧ (apartN raw).2 ≤ 971 := apart_in h0 hraw
  generalize (apartN raw).1 = m at *
  generalize (apartN raw).2 = e at *
  rw [if_pos hsp] at hn
  obtain ⟨-, he9⟩ := hsp
  have h9 := refBelow_any (4 * m - 1) (e - 2) x V l c a w h (by omega) (by omega) (by omega) (by omega) (by omega) (digQ_size (j := 5) (by omega) (by omega)) (digQ_size (j := j) hV (by omega))
  obtain ⟨b, hb75, hU⟩ := U75_eq
  have e2 : 2 ^ (e + 1074).toNat = 2 * 2 ^ (e + 1073).toNat := by
    rw [show (e + 1074).toNat = (e + 1073).toNat + 1 by omega, Nat.pow_succ, Nat.mul_comm]
  have e0 : magF (raw - 1) + magF raw = (4 * m - 1) * 2 ^ (e + 1073).toNat := by
    rw [e2] at hm hn
    rw [Nat.sub_mul, Nat.one_mul, show 4 * m * 2 ^ (e + 1073).toNat = 2 * (m * (2 * 2 ^ (e + 1073).toNat)) by rw [Nat.mul_left_comm m, Nat.mul_assoc, ← Nat.mul_assoc 2 2], ← hm]
    omega
  have e1 : cmpN ((4 * m - 1) * 2 ^ (e - 2).toNat * 10 ^ (-x).toNat) (V * 2 ^ (-(e - 2)).toNat * 10 ^ x.toNat) = cmpN ((magF (raw - 1) + magF raw) * 10 ^ (-x).toNat) (V * 10 ^ x.toNat * U75) := by
    rw [Nat.mul_right_comm (4 * m - 1), Nat.mul_right_comm V, cmp_scale _ _ b (e - 2) (by omega), hU, e0, show e - 2 + (b : Int) = e + 1073 by omega, Nat.mul_right_comm (4 * m - 1)]
  rw [e1, show (((4 * m - 1 : Nat)) : Int) = 4 * (m : Int) - 1 by omega] at h9
  exact h9
/-- Twice a float against a number. -/
theorem below_twice (raw V l c j : Nat) (x : Int) (a : Option Addr) (w : World) (h : QAt w (.slice a l c) V) (h0 : 0 < raw) (hraw : raw < 9218868437227405312) (hj : j ≤ 400) (hV : V < 10000 ^ j) (hx1 : -1000 ≤ x) (hx2 : x ≤ 1000) :
    Calls Tryd.prog 53 #[.int .i64 (2 * ((apartN raw).1 : Int)), .int .i64 (apartN raw).2, .agg #[.slice a l c, .int .i64 x]] w fun ee w' => ee = .returned (.int .i64 (cmpN (2 * magF raw * 10 ^ (-x).toNat) (V * 10 ^ x.toNat * U74))) ∧ Below w.heap.size w w' := by
  have hc : cR raw = (apartN raw).1 := rfl
  have hp : pR raw = (apartN raw).2 := rfl
  have hm := magF_raw raw (by omega)
  rw [hc, hp] at hm
  have hb : 1 ≤ (apartN raw).1 ∧ (apartN raw).1 < 9007199254740992 ∧ -1074 ≤ (apartN raw).2 ∧ (apartN raw).2 ≤ 971 := apart_in h0 hraw
  generalize (apartN raw).1 = m at *
  generalize (apartN raw).2 = e at *
  have h9 := refBelow_any (2 * m) e x V l c a w h (by omega) (by omega) (by omega) (by omega) (by omega) (digQ_size (j := 5) (by omega) (by omega)) (digQ_size (j := j) hV (by omega))
  obtain ⟨b, hb74, hU⟩ := U74_eq
  have e1 : cmpN (2 * m * 2 ^ e.toNat * 10 ^ (-x).toNat) (V * 2 ^ (-e).toNat * 10 ^ x.toNat) = cmpN (2 * magF raw * 10 ^ (-x).toNat) (V * 10 ^ x.toNat * U74) := by
    rw [Nat.mul_right_comm (2 * m), Nat.mul_right_comm V, cmp_scale _ _ b e (by omega), hU, hm, hb74, Nat.mul_right_comm (2 * m), ← Nat.mul_assoc 2 m]
    rfl
  rw [e1, show (((2 * m : Nat)) : Int) = 2 * (m : Int) by omega] at h9
  exact h9
def rdB (u l : Int) (ev : Bool) : Bool := (decide (0 < u) || (decide (u = 0) && ev)) && (decide (l < 0) || (decide (l = 0) && ev))
theorem cmpN_three (a b : Nat) : cmpN a b = 1 ∨ cmpN a b = 0 ∨ cmpN a b = -1 := by
  unfold cmpN
  split
  · exact Or.inr (Or.inr rfl)
  · split
    · exact Or.inr (Or.inl rfl)
    · exact Or.inl rfl

set_option maxRecDepth 100000 in
set_option maxHeartbeats 4000000 in
theorem refReads_any (raw V l c j : Nat) (x : Int) (a : Option Addr) (w : World) (h : QAt w (.slice a l c) V) (h0 : 0 < raw) (hraw : raw < 9218868437227405312) (hj : j ≤ 400) (hV : V < 10000 ^ j) (hx1 : -1000 ≤ x) (hx2 : x ≤ 1000) (_hl : l ≤ 100000) :
    Calls Tryd.prog 39 #[.int .u64 raw, .agg #[.slice a l c, .int .i64 x]] w fun ee w' => ee = .returned (.bool (rdB (cmpN ((magF raw + magF (raw + 1)) * 10 ^ (-x).toNat) (V * 10 ^ x.toNat * U75)) (cmpN ((magF (raw - 1) + magF raw) * 10 ^ (-x).toNat) (V * 10 ^ x.toNat * U75)) (decide (raw % 2 = 0)))) ∧ Below w.heap.size w w' := by
  have HB0 : Hid (Below w.heap.size w (w.alloc (.cells #[.slice a l c, .int .i64 x] 55))) := (Below.refl _ _).alloc (Nat.le_refl _) _
  have HBX : Hid ((w.alloc (.cells #[.slice a l c, .int .i64 x] 55)).heap[w.heap.size]? = some (.cells #[.slice a l c, .int .i64 x] 55 (0, 0))) := heap_alloc_new w _
  obtain ⟨cx0, cx1⟩ := num_cells HBX.out
  have HPT : Hid (∀ W : World, Calls Tryd.prog 52 #[.int .u64 raw] W fun e w' => e = .returned (.tuple #[.int .i64 (apartN raw).1, .int .i64 (apartN raw).2]) ∧ w' = W) := fun W => refParts_any raw W (by omega)
  have HUP : Hid (∀ W : World, Below w.heap.size w W → Calls Tryd.prog 53 #[.int .i64 (2 * ((apartN raw).1 : Int) + 1), .int .i64 ((apartN raw).2 - 1), .agg #[.slice a l c, .int .i64 x]] W fun ee w' => ee = .returned (.int .i64 (cmpN ((magF raw + magF (raw + 1)) * 10 ^ (-x).toNat) (V * 10 ^ x.toNat * U75))) ∧ Below W.heap.size W w') := fun W hW => below_half raw V l c j x a W (h.below hW) hraw hj hV hx1 hx2
  have HL1 : Hid (∀ W : World, Below w.heap.size w W → ¬ ((apartN raw).1 = 4503599627370496 ∧ -1074 < (apartN raw).2) → Calls Tryd.prog 53 #[.int .i64 (2 * ((apartN raw).1 : Int) - 1), .int .i64 ((apartN raw).2 - 1), .agg #[.slice a l c, .int .i64 x]] W fun ee w' => ee = .returned (.int .i64 (cmpN ((magF (raw - 1) + magF raw) * 10 ^ (-x).toNat) (V * 10 ^ x.toNat * U75))) ∧ Below W.heap.size W w') := fun W hW hs => below_low1 raw V l c j x a W (h.below hW) h0 hraw hs hj hV hx1 hx2
  have HL2 : Hid (∀ W : World, Below w.heap.size w W → (apartN raw).1 = 4503599627370496 ∧ -1074 < (apartN raw).2 → Calls Tryd.prog 53 #[.int .i64 (4 * ((apartN raw).1 : Int) - 1), .int .i64 ((apartN raw).2 - 2), .agg #[.slice a l c, .int .i64 x]] W fun ee w' => ee = .returned (.int .i64 (cmpN ((magF (raw - 1) + magF raw) * 10 ^ (-x).toNat) (V * 10 ^ x.toNat * U75))) ∧ Below W.heap.size W w') := fun W hW hs => below_low2 raw V l c j x a W (h.below hW) h0 hraw hs hj hV hx1 hx2
  have hup := cmpN_three ((magF raw + magF (raw + 1)) * 10 ^ (-x).toNat) (V * 10 ^ x.toNat * U75)
  have hlo := cmpN_three ((magF (raw - 1) + magF raw) * 10 ^ (-x).toNat) (V * 10 ^ x.toNat * U75)
  obtain ⟨hb1, hb2, hb3, hb4⟩ := apart_in h0 hraw
  obtain ⟨ev, hev⟩ : ∃ ev, ev = decide (raw % 2 = 0) := ⟨_, rfl⟩
  have hevi : ((raw : Int) % 2 == 0) = ev := by
    rw [hev]
    by_cases h2 : raw % 2 = 0
    · rw [decide_eq_true h2, beq_iff_eq]; omega
    · rw [decide_eq_false h2, beq_eq_false_iff_ne]; omega
  rw [← hev]
  clear hev h hV
  generalize cmpN ((magF raw + magF (raw + 1)) * 10 ^ (-x).toNat) (V * 10 ^ x.toNat * U75) = up at *
  generalize cmpN ((magF (raw - 1) + magF raw) * 10 ^ (-x).toNat) (V * 10 ^ x.toNat * U75) = lo at *
  generalize (apartN raw).1 = m at *
  generalize (apartN raw).2 = e at *
  by_cases hsp : m = 4503599627370496 ∧ -1074 < e
  · have hsb : ((m : Int) == 4503599627370496) = true := by rw [beq_iff_eq]; omega
    have hse : (-1074 : Int) < e := hsp.2
    have HLW : Hid (∀ W : World, Below w.heap.size w W → Calls Tryd.prog 53 #[.int .i64 (4 * (m : Int) - 1), .int .i64 (e - 2), .agg #[.slice a l c, .int .i64 x]] W fun ee w' => ee = .returned (.int .i64 lo) ∧ Below W.heap.size W w') := fun W hW => HL2.out W hW hsp
    clear HL1 HL2 hsp
    rcases hup with rfl | rfl | rfl <;> rcases hlo with rfl | rfl | rfl <;> cases ev <;>
      (go_enter Tryd.func39, Tryd.ntmps39
       go_wp2_with (first
        | (go_at_call 52; refine (HPT.out _).mono ?_; clear HPT; rintro e9 w1 ⟨rfl, hw1⟩; have hw1 := hw1.symm; subst hw1)
        | (go_at_call 53; first | (refine (HUP.out _ HB0.out).mono ?_; clear HUP; rintro e9 w2 ⟨rfl, hb2⟩; have HB2 : Hid (Below w.heap.size w w2) := HB0.out.trans (hb2.mono HB0.out.size); obtain ⟨cy0, cy1⟩ := num_cells ((hb2.block _ (Array.getElem?_eq_some_iff.1 HBX.out).1).trans HBX.out); clear hb2) | (refine (HLW.out _ HB2.out).mono ?_; clear HLW; rintro e9 w3 ⟨rfl, hb3⟩; have HB3 : Hid (Below w.heap.size w w3) := HB2.out.trans (hb3.mono HB2.out.size); clear hb3)))
       go_ret
       exact ⟨rfl, HB3.out⟩)
  · have HLW : Hid (∀ W : World, Below w.heap.size w W → Calls Tryd.prog 53 #[.int .i64 (2 * (m : Int) - 1), .int .i64 (e - 1), .agg #[.slice a l c, .int .i64 x]] W fun ee w' => ee = .returned (.int .i64 lo) ∧ Below W.heap.size W w') := fun W hW => HL1.out W hW hsp
    clear HL1 HL2
    by_cases hm52 : m = 4503599627370496
    · have hsb : ((m : Int) == 4503599627370496) = true := by rw [beq_iff_eq]; omega
      have hse : ¬ (-1074 : Int) < e := fun h => hsp ⟨hm52, h⟩
      clear hsp hm52
      rcases hup with rfl | rfl | rfl <;> rcases hlo with rfl | rfl | rfl <;> cases ev <;>
        (go_enter Tryd.func39, Tryd.ntmps39
         go_wp2_with (first
          | (go_at_call 52; refine (HPT.out _).mono ?_; clear HPT; rintro e9 w1 ⟨rfl, hw1⟩; have hw1 := hw1.symm; subst hw1)
          | (go_at_call 53; first | (refine (HUP.out _ HB0.out).mono ?_; clear HUP; rintro e9 w2 ⟨rfl, hb2⟩; have HB2 : Hid (Below w.heap.size w w2) := HB0.out.trans (hb2.mono HB0.out.size); obtain ⟨cy0, cy1⟩ := num_cells ((hb2.block _ (Array.getElem?_eq_some_iff.1 HBX.out).1).trans HBX.out); clear hb2) | (refine (HLW.out _ HB2.out).mono ?_; clear HLW; rintro e9 w3 ⟨rfl, hb3⟩; have HB3 : Hid (Below w.heap.size w w3) := HB2.out.trans (hb3.mono HB2.out.size); clear hb3)))
         go_ret
         exact ⟨rfl, HB3.out⟩)
    · have hsb : ((m : Int) == 4503599627370496) = false := by rw [beq_eq_false_iff_ne]; omega
      clear hsp hm52
      rcases hup with rfl | rfl | rfl <;> rcases hlo with rfl | rfl | rfl <;> cases ev <;>
        (go_enter Tryd.func39, Tryd.ntmps39
         go_wp2_with (first
          | (go_at_call 52; refine (HPT.out _).mono ?_; clear HPT; rintro e9 w1 ⟨rfl, hw1⟩; have hw1 := hw1.symm; subst hw1)
          | (go_at_call 53; first | (refine (HUP.out _ HB0.out).mono ?_; clear HUP; rintro e9 w2 ⟨rfl, hb2⟩; have HB2 : Hid (Below w.heap.size w w2) := HB0.out.trans (hb2.mono HB0.out.size); obtain ⟨cy0, cy1⟩ := num_cells ((hb2.block _ (Array.getElem?_eq_some_iff.1 HBX.out).1).trans HBX.out); clear hb2) | (refine (HLW.out _ HB2.out).mono ?_; clear HLW; rintro e9 w3 ⟨rfl, hb3⟩; have HB3 : Hid (Below w.heap.size w w3) := HB2.out.trans (hb3.mono HB2.out.size); clear hb3)))
         go_ret
         exact ⟨rfl, HB3.out⟩)
end Go.Proofs.YtinfnkhghmcelaaDoor

/- The first digits of a float's number (pure). -/
namespace Go.Proofs.YtinfnkhghmcelaaDoor
open Go

/-- The digits of R through B behind the point. -/
def dgs : Nat → Nat → Nat → List Nat
  | 0, _, _ => []
  | n + 1, R, B => (R * 10 / B) :: dgs n (R * 10 % B) B
/-- 10 to the x is no more than the float. -/
def leX (raw : Nat) (x : Int) : Prop := 10 ^ x.toNat * U74 ≤ magF raw * 10 ^ (-x).toNat
def estT (N : Int) : Int := (N * 30103).tdiv 100000
def chkE (i : Nat) : Bool := decide (10 ^ (estT ((i : Int) - 1073) - 3).toNat * 2 ^ (k75 - 1) ≤ 2 ^ i * 10 ^ (3 - estT ((i : Int) - 1073)).toNat)
theorem chk_all : (List.range 2098).all chkE = true := by decide +kernel
theorem estT_in {N : Int} (h1 : -1073 ≤ N) (h2 : N ≤ 1024) : -324 ≤ estT N ∧ estT N ≤ 309 := by
  unfold estT
  by_cases h : 0 ≤ N
  · rw [Int.tdiv_eq_ediv_of_nonneg (by omega)]
    omega
  · rw [show N * 30103 = -((-N) * 30103) by omega, Int.neg_tdiv, Int.tdiv_eq_ediv_of_nonneg (by omega)]
    omega
theorem est_le {raw : Nat} (h0 : 0 < raw) (hraw : raw < 9218868437227405312) {N : Int} (hN : N = (apartN raw).2 + ((apartN raw).1.log2 + 1 : Nat)) : (-1073 ≤ N ∧ N ≤ 1024) ∧ leX raw (estT N - 3) := by
  have hm := magF_raw raw (by omega)
  have hc : cR raw = (apartN raw).1 := rfl
  have hp : pR raw = (apartN raw).2 := rfl
  rw [hc, hp] at hm
  obtain ⟨b1, b2, b3, b4⟩ := apart_in h0 hraw
  generalize (apartN raw).1 = m at *
  generalize (apartN raw).2 = e at *
  have hl := (Nat.log2_eq_iff (n := m) (k := m.log2) (by omega)).1 rfl
  have hl52 : m.log2 ≤ 52 := log_lt (k := 52) (by omega) (by omega)
  generalize m.log2 = L at *
  have hr : -1073 ≤ N ∧ N ≤ 1024 := by omega
  refine ⟨hr, ?_⟩
  obtain ⟨i, hi⟩ : ∃ i : Nat, (i : Int) = N + 1073 := ⟨(N + 1073).toNat, by omega⟩
  have e2 : i = L + (e + 1074).toNat := by omega
  have hch := List.all_eq_true.1 chk_all i (List.mem_range.2 (by omega))
  unfold chkE at hch
  rw [show (i : Int) - 1073 = N by omega] at hch
  have h9 := of_decide_eq_true hch
  unfold leX U74
  rw [show -(estT N - 3) = 3 - estT N by omega]
  refine Nat.le_trans h9 (Nat.mul_le_mul_right _ ?_)
  rw [hm]
  have e1 : 2 ^ i = 2 ^ L * 2 ^ (e + 1074).toNat := by
    rw [← Nat.pow_add, ← e2]
  rw [e1]
  exact Nat.mul_le_mul_right _ hl.1
theorem leX_top {raw : Nat} (hraw : raw < 9218868437227405312) {x : Int} (h : leX raw x) : x < 320 := by
  apply Classical.byContradiction
  intro hx
  unfold leX at h
  rw [show (-x).toNat = 0 by omega, Nat.pow_zero, Nat.mul_one] at h
  obtain ⟨a, b, ha, hb, ht⟩ := ten_top
  obtain ⟨a', b', ha', hb', ht'⟩ := magF_top
  have h1 : magF raw ≤ magF 9218868437227405311 := magF_le (by omega)
  have h2 : magF 9218868437227405311 ≤ magF 9218868437227405312 := magF_le (by omega)
  have h3 : 2 * magF raw ≤ 2 ^ a' * 2 ^ b' := by omega
  obtain ⟨c, hc, hU⟩ := U74_eq
  have h4 : 10 ^ b ≤ 10 ^ x.toNat := Nat.pow_le_pow_right (by decide) (by omega)
  have h5 : 2 ^ a * U74 ≤ 10 ^ x.toNat * U74 := Nat.mul_le_mul_right _ (Nat.le_trans ht h4)
  have h6 : 0 < 2 ^ a' * 2 ^ c := Nat.mul_pos (Nat.pow_pos (by decide)) (Nat.pow_pos (by decide))
  have e1 : 2 ^ a' * 2 ^ b' = 2 * (2 ^ a * U74) := by
    rw [hU, show a' = a by omega, show b' = c + 1 by omega, Nat.pow_succ, ← Nat.mul_assoc, Nat.mul_comm 2]
  have h7 : magF 9218868437227405311 < magF 9218868437227405312 := magF_lt (by omega)
  omega
theorem cmp_leX (raw : Nat) (x : Int) : 0 ≤ cmpN (magF raw * 10 ^ (-x).toNat) (1 * 10 ^ x.toNat * U74) ↔ leX raw x := by
  unfold leX cmpN
  rw [Nat.one_mul]
  split
  · constructor
    · intro h; omega
    · intro h; omega
  · constructor
    · intro _; omega
    · intro _
      split <;> omega
end Go.Proofs.YtinfnkhghmcelaaDoor
