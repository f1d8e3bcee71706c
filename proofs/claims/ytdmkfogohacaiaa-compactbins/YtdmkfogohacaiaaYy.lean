/- CompactBins, walked. -/
import Derived.Test.YtdmkfogohacaiaaYx
import Derived.Test.YtdmkfogohacaiaaYu
namespace Go.Proofs.Ytdmkfogohacaiaa
open Go.RowKit

set_option maxRecDepth 100000 in
set_option maxHeartbeats 1000000 in
theorem keepWithin (n m : Int) (w : World) (hm : 1 ≤ m) (hm' : m ≤ 1125899906842624) :
    Calls Try.prog 12 #[.int .i64 n, .int .i64 m] w fun e w' => e = .returned (.int .i64 (n % m)) ∧ w' = w := by
  have hmz : m ≠ 0 := by omega
  have h1 : -m < Int.tmod n m := by
    have := Int.lt_tmod_of_pos n (show 0 < m by omega); omega
  have h2 : Int.tmod n m < m := Int.tmod_lt_of_pos n (by omega)
  by_cases h : Int.tmod n m < 0
  · go_enter Try.func12, Try.ntmps12
    go_wp2
    go_ret
    have e : n.tmod m + m = n % m := by
      have e2 := Int.add_mul_emod_self_left (n.tmod m) m 1
      rw [Int.mul_one] at e2
      rw [emod_of_tmod, ← e2]
      exact (Int.emod_eq_of_lt (by omega) (by omega)).symm
    exact ⟨ret_int e, rfl⟩
  · go_enter Try.func12, Try.ntmps12
    go_wp2
    go_ret
    have e : n.tmod m = n % m := by
      rw [emod_of_tmod]
      exact (Int.emod_eq_of_lt (by omega) (by omega)).symm
    exact ⟨ret_int e, rfl⟩

/-- A time within all times: its piece's beginning. -/
theorem fl_in (t m : Int) (hm : 1 ≤ m) (ht : -9007199254740992 ≤ t ∧ t ≤ 9007199254740992) : flF t m = t - t % m := by
  have : cl t = t := by unfold cl; omega
  unfold flF
  rw [this, show max m 1 = m by omega]
theorem fl_of (t m k : Int) (hm : 1 ≤ m) (ht : -9007199254740992 ≤ t ∧ t ≤ 9007199254740992) (h1 : m * k ≤ t) (h2 : t < m * k + m) : flF t m = m * k := by
  rw [fl_in t m hm ht]
  have h3 : t % m = t - m * k := by
    have h4 : t = (t - m * k) + m * k := by omega
    rw [h4, Int.add_mul_emod_self_left, Int.emod_eq_of_lt (by omega) (by omega)]
    omega
  omega

set_option maxRecDepth 100000 in
set_option maxHeartbeats 4000000 in
theorem bins_any (A B D : Int) (w : World) :
    Calls Try.prog 4 #[.int .i64 A, .int .i64 B, .int .i64 D] w fun e w' => e = .returned (.bool true) ∧ Below w.heap.size w w' := by
  have hD := fun W => keepWithin D 1099511627776 W (by omega) (by omega)
  have hA := fun W => keepWithin A 1125899906842624 W (by omega) (by omega)
  have hB := fun W => keepWithin B 1125899906842624 W (by omega) (by omega)
  obtain ⟨d, hd⟩ : ∃ d, d = D % 1099511627776 := ⟨_, rfl⟩
  obtain ⟨p, hp⟩ : ∃ p, p = A % 1125899906842624 := ⟨_, rfl⟩
  obtain ⟨q, hq⟩ : ∃ q, q = B % 1125899906842624 := ⟨_, rfl⟩
  have hd1 : 0 ≤ d ∧ d < 1099511627776 := by omega
  have hp1 : 0 ≤ p ∧ p < 1125899906842624 := by omega
  have hq1 : 0 ≤ q ∧ q < 1125899906842624 := by omega
  rw [← hd] at hD
  rw [← hp] at hA
  rw [← hq] at hB
  clear hd hp hq
  obtain ⟨m, hm⟩ : ∃ m, m = 1 + d := ⟨_, rfl⟩
  obtain ⟨a, ha⟩ : ∃ a, a = p - 562949953421312 := ⟨_, rfl⟩
  obtain ⟨b, hb⟩ : ∃ b, b = q - 562949953421312 := ⟨_, rfl⟩
  have hm0 : m ≠ 0 := by omega
  have ka := Int.emod_nonneg a hm0
  have ka2 := Int.emod_lt_of_pos a (show 0 < m by omega)
  have kb := Int.emod_nonneg b hm0
  have kb2 := Int.emod_lt_of_pos b (show 0 < m by omega)
  obtain ⟨x, hx⟩ : ∃ x, x = m * (a / m) := ⟨_, rfl⟩
  obtain ⟨y, hy⟩ : ∃ y, y = m * (b / m) := ⟨_, rfl⟩
  have ea := Int.mul_ediv_add_emod a m
  have eb := Int.mul_ediv_add_emod b m
  rw [← hx] at ea
  rw [← hy] at eb
  have hxa : x ≤ a := by omega
  have hxm : a - x < m := by omega
  have hyb : y ≤ b := by omega
  have hym : b - y < m := by omega
  have hrem : x.tmod m = 0 := by rw [hx]; exact Int.mul_tmod_right _ _
  have f1 : flF a m = x := by rw [hx]; exact fl_of a m (a / m) (by omega) (by omega) (by omega) (by omega)
  have f2 : flF b m = y := by rw [hy]; exact fl_of b m (b / m) (by omega) (by omega) (by omega) (by omega)
  have f3 : flF x m = x := by conv => rhs; rw [hx]
                              exact fl_of x m (a / m) (by omega) (by omega) (by omega) (by omega)
  have f4 : flF (x + m - 1) m = x := by conv => rhs; rw [hx]
                                        exact fl_of (x + m - 1) m (a / m) (by omega) (by omega) (by omega) (by omega)
  have hmon : a ≤ b → x ≤ y := fun h => by
    rw [hx, hy]
    exact Int.mul_le_mul_of_nonneg_left (Int.ediv_le_ediv (by omega) h) (by omega)
  -- the pieces
  have hcs := cutsF_strict [a, b, a] 4503599627370496 m
  have hcm := cutsF_mem [a, b, a] 4503599627370496 m
  rw [show max m 1 = m by omega] at hcm
  have hrp : ripeF 4503599627370496 m = 4503599627370496 - m / 2 := by
    unfold ripeF cl
    rw [show max m 1 = m by omega]
    rfl
  rw [hrp] at hcm
  have hmem : ∀ z, z ∈ cutsF [a, b, a] 4503599627370496 m ↔ z = x ∨ z = y := fun z => by
    rw [hcm z]
    simp only [List.mem_cons, List.not_mem_nil, or_false]
    constructor
    · rintro ⟨⟨t, (rfl | rfl | rfl), rfl⟩, -⟩
      · exact Or.inl f1
      · exact Or.inr f2
      · exact Or.inl f1
    · rintro (rfl | rfl)
      · exact ⟨⟨a, Or.inl rfl, f1.symm⟩, by omega⟩
      · exact ⟨⟨b, Or.inr (Or.inl rfl), f2.symm⟩, by omega⟩
  have hlen : (x = y → (cutsF [a, b, a] 4503599627370496 m).length = 1) ∧ (x ≠ y → (cutsF [a, b, a] 4503599627370496 m).length = 2) := by
    constructor
    · intro e
      rw [strict_unique _ [x] hcs (by simp) (fun z => by rw [hmem z]; simp; omega)]
      rfl
    · intro e
      rcases Int.lt_or_gt_of_ne e with h | h
      · rw [strict_unique _ [x, y] hcs (by simp; exact h) (fun z => by rw [hmem z]; simp)]
        rfl
      · rw [strict_unique _ [y, x] hcs (by simp; exact h) (fun z => by rw [hmem z]; simp; omega)]
        rfl
  have hF1 := fun W => floor_any a m W (by omega)
  have hF2 := fun W => floor_any b m W (by omega)
  have hF3 := fun W => floor_any x m W (by omega)
  have hF4 := fun W => floor_any (x + m - 1) m W (by omega)
  rw [f1] at hF1
  rw [f2] at hF2
  rw [f3] at hF3
  rw [f4] at hF4
  have HCU : Hid (∀ (W : World) (v : Value), InAt W v [a, b, a] → Calls Try.prog 5 #[v, .int .i64 4503599627370496, .int .i64 m] W fun e w' => ∃ a1 c1, e = .returned (.slice a1 (cutsF [a, b, a] 4503599627370496 m).length c1) ∧ Below W.heap.size W w') := fun W v h => (cuts_any v [a, b, a] 4503599627370496 m W h (by simp) (by omega)).mono fun e w' ⟨a1, c1, h1, _, h3⟩ => ⟨a1, c1, h1, h3⟩
  have HWK : Hid (∀ W, Calls Try.prog 11 #[] W fun e w' => e = .returned (.bool true) ∧ Below W.heap.size W w') := wakes_any
  clear hcs hcm hmem hx hy f1 f2 f3 f4 ka ka2 kb kb2 ea eb hrp
  have hzz : x + m - 1 = x + m - 1 := rfl
  obtain ⟨z, hz⟩ : ∃ z, x + m - 1 = z := ⟨_, rfl⟩
  rw [hz] at hF4
  have hm9 : 1 + d = m := hm.symm
  have ha9 : p - 562949953421312 = a := ha.symm
  have hb9 : q - 562949953421312 = b := hb.symm
  have bm : 1 ≤ m ∧ m ≤ 1099511627776 := by omega
  have ba : -562949953421312 ≤ a ∧ a < 562949953421312 := by omega
  have bb : -562949953421312 ≤ b ∧ b < 562949953421312 := by omega
  have bx : -564049465049088 ≤ x ∧ x < 562949953421312 := by omega
  have by_ : -564049465049088 ≤ y ∧ y < 562949953421312 := by omega
  have HIN : Hid (InAt (w.alloc (.cells #[.int .i64 a, .int .i64 b, .int .i64 a] 3)) (.slice (some ⟨w.heap.size, 0, none⟩) 3 3) [a, b, a]) := RowAt.of_block (heap_alloc_new w _) rfl (by decide)
  have HAL : Hid (Below w.heap.size w (w.alloc (.cells #[.int .i64 a, .int .i64 b, .int .i64 a] 3))) := (Below.refl _ _).alloc (Nat.le_refl _) _
  have d1 : decide (a < x) = false := decide_eq_false (by omega)
  have d2 : decide (m ≤ a - x) = false := decide_eq_false (by omega)
  by_cases hxy : x = y
  · have hl1 := hlen.1 hxy
    have d7 : decide (m ≤ a - b) = false := decide_eq_false (by omega)
    have d8 : decide (m ≤ b - a) = false := decide_eq_false (by omega)
    have HMN : Hid (a ≤ b → x ≤ y) := hmon
    subst hxy
    clear hlen hmon hm ha hb hzz hxa hxm hyb hym
    by_cases hab : a ≤ b
    · have d5 : decide (a ≤ b) = true := decide_eq_true hab
      clear hab
      go_enter Try.func4, Try.ntmps4
      go_wp2_with (first
        | (go_at_call 12; refine (hD _).mono ?_; clear hD; rintro e w1 ⟨rfl, e8⟩; have e8 := e8.symm; subst e8)
        | (go_at_call 12; refine (hA _).mono ?_; clear hA; rintro e w1 ⟨rfl, e8⟩; have e8 := e8.symm; subst e8)
        | (go_at_call 12; refine (hB _).mono ?_; clear hB; rintro e w1 ⟨rfl, e8⟩; have e8 := e8.symm; subst e8)
        | (go_at_call 8; refine (hF1 _).mono ?_; clear hF1; rintro e w1 ⟨rfl, e8⟩; have e8 := e8.symm; subst e8)
        | (go_at_call 8; refine (hF2 _).mono ?_; clear hF2; rintro e w1 ⟨rfl, e8⟩; have e8 := e8.symm; subst e8)
        | (go_at_call 8; refine (hF3 _).mono ?_; clear hF3; rintro e w1 ⟨rfl, e8⟩; have e8 := e8.symm; subst e8)
        | (go_at_call 8; refine (hF4 _).mono ?_; clear hF4; rintro e w1 ⟨rfl, e8⟩; have e8 := e8.symm; subst e8)
        | (go_at_call 5; refine (HCU.out _ _ HIN.out).mono ?_; clear HCU HIN; rintro e w2 ⟨a2, c2, rfl, hb2⟩; have HB2 : Hid (Below w.heap.size w w2) := HAL.out.trans (hb2.mono HAL.out.size); rw [hl1]; clear hb2)
        | (go_at_call 11; refine (HWK.out _).mono ?_; clear HWK; rintro e w3 ⟨rfl, hb3⟩))
      go_ret
      exact ⟨rfl, HB2.out.trans (hb3.mono HB2.out.size)⟩
    · have d5 : decide (a ≤ b) = false := decide_eq_false hab
      clear hab
      go_enter Try.func4, Try.ntmps4
      go_wp2_with (first
        | (go_at_call 12; refine (hD _).mono ?_; clear hD; rintro e w1 ⟨rfl, e8⟩; have e8 := e8.symm; subst e8)
        | (go_at_call 12; refine (hA _).mono ?_; clear hA; rintro e w1 ⟨rfl, e8⟩; have e8 := e8.symm; subst e8)
        | (go_at_call 12; refine (hB _).mono ?_; clear hB; rintro e w1 ⟨rfl, e8⟩; have e8 := e8.symm; subst e8)
        | (go_at_call 8; refine (hF1 _).mono ?_; clear hF1; rintro e w1 ⟨rfl, e8⟩; have e8 := e8.symm; subst e8)
        | (go_at_call 8; refine (hF2 _).mono ?_; clear hF2; rintro e w1 ⟨rfl, e8⟩; have e8 := e8.symm; subst e8)
        | (go_at_call 8; refine (hF3 _).mono ?_; clear hF3; rintro e w1 ⟨rfl, e8⟩; have e8 := e8.symm; subst e8)
        | (go_at_call 8; refine (hF4 _).mono ?_; clear hF4; rintro e w1 ⟨rfl, e8⟩; have e8 := e8.symm; subst e8)
        | (go_at_call 5; refine (HCU.out _ _ HIN.out).mono ?_; clear HCU HIN; rintro e w2 ⟨a2, c2, rfl, hb2⟩; have HB2 : Hid (Below w.heap.size w w2) := HAL.out.trans (hb2.mono HAL.out.size); rw [hl1]; clear hb2)
        | (go_at_call 11; refine (HWK.out _).mono ?_; clear HWK; rintro e w3 ⟨rfl, hb3⟩))
      go_ret
      exact ⟨rfl, HB2.out.trans (hb3.mono HB2.out.size)⟩
  · have hl1 := hlen.2 hxy
    have d6 : decide (x = y) = false := decide_eq_false hxy
    have d9 : (x == y) = false := by simpa using hxy
    have d10 : (x != y) = true := by simpa using hxy
    by_cases hab : a ≤ b
    · have d5 : decide (a ≤ b) = true := decide_eq_true hab
      have d4 : decide (y < x) = false := decide_eq_false (by have := hmon hab; omega)
      clear hab hlen hmon hm ha hb hzz hxa hxm hyb hym
      go_enter Try.func4, Try.ntmps4
      go_wp2_with (first
        | (go_at_call 12; refine (hD _).mono ?_; clear hD; rintro e w1 ⟨rfl, e8⟩; have e8 := e8.symm; subst e8)
        | (go_at_call 12; refine (hA _).mono ?_; clear hA; rintro e w1 ⟨rfl, e8⟩; have e8 := e8.symm; subst e8)
        | (go_at_call 12; refine (hB _).mono ?_; clear hB; rintro e w1 ⟨rfl, e8⟩; have e8 := e8.symm; subst e8)
        | (go_at_call 8; refine (hF1 _).mono ?_; clear hF1; rintro e w1 ⟨rfl, e8⟩; have e8 := e8.symm; subst e8)
        | (go_at_call 8; refine (hF2 _).mono ?_; clear hF2; rintro e w1 ⟨rfl, e8⟩; have e8 := e8.symm; subst e8)
        | (go_at_call 8; refine (hF3 _).mono ?_; clear hF3; rintro e w1 ⟨rfl, e8⟩; have e8 := e8.symm; subst e8)
        | (go_at_call 8; refine (hF4 _).mono ?_; clear hF4; rintro e w1 ⟨rfl, e8⟩; have e8 := e8.symm; subst e8)
        | (go_at_call 5; refine (HCU.out _ _ HIN.out).mono ?_; clear HCU HIN; rintro e w2 ⟨a2, c2, rfl, hb2⟩; have HB2 : Hid (Below w.heap.size w w2) := HAL.out.trans (hb2.mono HAL.out.size); rw [hl1]; clear hb2)
        | (go_at_call 11; refine (HWK.out _).mono ?_; clear HWK; rintro e w3 ⟨rfl, hb3⟩))
      go_ret
      exact ⟨rfl, HB2.out.trans (hb3.mono HB2.out.size)⟩
    · have d5 : decide (a ≤ b) = false := decide_eq_false hab
      clear hab hlen hmon hm ha hb hzz hxa hxm hyb hym
      go_enter Try.func4, Try.ntmps4
      go_wp2_with (first
        | (go_at_call 12; refine (hD _).mono ?_; clear hD; rintro e w1 ⟨rfl, e8⟩; have e8 := e8.symm; subst e8)
        | (go_at_call 12; refine (hA _).mono ?_; clear hA; rintro e w1 ⟨rfl, e8⟩; have e8 := e8.symm; subst e8)
        | (go_at_call 12; refine (hB _).mono ?_; clear hB; rintro e w1 ⟨rfl, e8⟩; have e8 := e8.symm; subst e8)
        | (go_at_call 8; refine (hF1 _).mono ?_; clear hF1; rintro e w1 ⟨rfl, e8⟩; have e8 := e8.symm; subst e8)
        | (go_at_call 8; refine (hF2 _).mono ?_; clear hF2; rintro e w1 ⟨rfl, e8⟩; have e8 := e8.symm; subst e8)
        | (go_at_call 8; refine (hF3 _).mono ?_; clear hF3; rintro e w1 ⟨rfl, e8⟩; have e8 := e8.symm; subst e8)
        | (go_at_call 8; refine (hF4 _).mono ?_; clear hF4; rintro e w1 ⟨rfl, e8⟩; have e8 := e8.symm; subst e8)
        | (go_at_call 5; refine (HCU.out _ _ HIN.out).mono ?_; clear HCU HIN; rintro e w2 ⟨a2, c2, rfl, hb2⟩; have HB2 : Hid (Below w.heap.size w w2) := HAL.out.trans (hb2.mono HAL.out.size); rw [hl1]; clear hb2)
        | (go_at_call 11; refine (HWK.out _).mono ?_; clear HWK; rintro e w3 ⟨rfl, hb3⟩))
      go_ret
      exact ⟨rfl, HB2.out.trans (hb3.mono HB2.out.size)⟩

end Go.Proofs.Ytdmkfogohacaiaa
