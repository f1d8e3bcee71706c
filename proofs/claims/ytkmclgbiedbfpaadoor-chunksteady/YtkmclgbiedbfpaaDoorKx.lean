/- Samples at equal steps. -/
import Derived.Test.YtkmclgbiedbfpaaDoorKw
import Derived.Deep.RegionHeld3
namespace Go.Proofs.YtkmclgbiedbfpaaDoor
open Go.RowKit Go.Shelf Go.Maps
attribute [local go_sem] run_store_float

theorem sg_ofNat {n : Nat} (h : n < 9223372036854775808) : sg (UInt64.ofNat n) = (n : Int) := by
  have e : (UInt64.ofNat n).toNat = n := by rw [UInt64.toNat_ofNat']; omega
  unfold sg
  rw [e, if_pos h]

set_option maxRecDepth 100000 in
set_option maxHeartbeats 4000000 in
theorem steady_any (T S M : Int) (v : UInt64) (w : World) (hT : -9223372036854775808 ≤ T ∧ T ≤ 9223372036854775807) (hS : -9223372036854775808 ≤ S ∧ S ≤ 9223372036854775807) (hM : -9223372036854775808 ≤ M ∧ M ≤ 9223372036854775807) (hL : Laid w w.heap.size) :
    Calls Tryd.prog 8 #[.agg #[.int .i64 T, .int .i64 S, .int .i64 M, .float .f64 v.toNat]] w fun e w' => e = .returned (.bool true) ∧ Below w.heap.size w w' := by
  obtain ⟨m, hm, hm2⟩ : ∃ m : Nat, (m : Int) = M % 118 ∧ m < 118 := ⟨(M % 118).toNat, by omega, by omega⟩
  obtain ⟨t, ht, ht2⟩ : ∃ t : Nat, (t : Int) = T % 1125899906842624 ∧ t < 1125899906842624 := ⟨(T % 1125899906842624).toNat, by omega, by omega⟩
  obtain ⟨s, hs, hs2⟩ : ∃ s : Nat, (s : Int) = S % 1099511627776 ∧ s < 1099511627776 := ⟨(S % 1099511627776).toNat, by omega, by omega⟩
  have W1 : Hid (∀ W, Calls Tryd.prog 28 #[.int .i64 M, .int .i64 118] W fun e w' => e = .returned (.int .i64 m) ∧ w' = W) := fun W => by
    have := within_any M 118 W (by decide) (by decide) hM.1 hM.2
    rw [← hm] at this
    exact this
  have W2 : Hid (∀ W, Calls Tryd.prog 28 #[.int .i64 T, .int .i64 1125899906842624] W fun e w' => e = .returned (.int .i64 t) ∧ w' = W) := fun W => by
    have := within_any T 1125899906842624 W (by decide) (by decide) hT.1 hT.2
    rw [← ht] at this
    exact this
  have W3 : Hid (∀ W, Calls Tryd.prog 28 #[.int .i64 S, .int .i64 1099511627776] W fun e w' => e = .returned (.int .i64 s) ∧ w' = W) := fun W => by
    have := within_any S 1099511627776 W (by decide) (by decide) hS.1 hS.2
    rw [← hs] at this
    exact this
  have hlast : t + (m + 1) * s < 9223372036854775808 := by
    have h1 : (m + 1) * s ≤ 118 * s := Nat.mul_le_mul_right _ (by omega)
    omega
  have hst := (steady t s v m hlast).2
  have hst0 : (encB (stL t s v 2)).length = 129 + (timeB s).length := (steady t s v 0 (by have : (0 + 1) * s ≤ (m + 1) * s := Nat.mul_le_mul_right _ (by omega); omega)).2
  have htb := timeB_len s
  obtain ⟨q, hq⟩ : ∃ q, q = (timeB s).length := ⟨_, rfl⟩
  rw [← hq] at hst hst0 htb
  have B1 : Hid (∀ W V, SmpAt W V (stL t s v 1) → Below w.heap.size w W → Calls Tryd.prog 14 #[V] W fun e w' => e = .returned (.int .i64 144) ∧ Below W.heap.size W w') := fun W V h1 h2 => by
    have := bits_any V _ W h1 (by rw [stL_length]; omega) ((hL.below h2).mono h2.size)
    rw [steady_one] at this
    exact this
  have B2 : Hid (∀ W V, SmpAt W V (stL t s v 2) → Below w.heap.size w W → Calls Tryd.prog 14 #[V] W fun e w' => e = .returned (.int .i64 ((145 + q : Nat) : Int)) ∧ Below W.heap.size W w') := fun W V h1 h2 => by
    have := bits_any V _ W h1 (by rw [stL_length]; omega) ((hL.below h2).mono h2.size)
    rw [hst0, show 16 + (129 + q) = 145 + q by omega] at this
    exact this
  have B3 : Hid (∀ W V, SmpAt W V (stL t s v (m + 2)) → Below w.heap.size w W → Calls Tryd.prog 14 #[V] W fun e w' => e = .returned (.int .i64 ((145 + q + 2 * m : Nat) : Int)) ∧ Below W.heap.size W w') := fun W V h1 h2 => by
    have := bits_any V _ W h1 (by rw [stL_length]; omega) ((hL.below h2).mono h2.size)
    rw [hst, show 16 + (129 + q + 2 * m) = 145 + q + 2 * m by omega] at this
    exact this
  have K4 : Hid (∀ W, Below w.heap.size w W → Calls Tryd.prog 19 #[] W fun e w' => e = .returned (.bool true) ∧ Below W.heap.size W w') := fun W hb => wakes_any W ((hL.below hb).mono hb.size)
  clear hL hst hst0 hm ht hs hq
  obtain ⟨i0, hi0, hz0, hz1, hz2⟩ := info_parts infoSm
  go_enter Tryd.func8, Tryd.ntmps8
  have HB0 : Hid (Below w.heap.size w (w.alloc (.cells #[.int .i64 T, .int .i64 S, .int .i64 M, .float .f64 v.toNat] 55))) := (Below.refl _ _).alloc (Nat.le_refl _) _
  go_wp2
  go_quiet (fail)
  have HBQ : Hid (Below w.heap.size w ((w.alloc (.cells #[.int .i64 T, .int .i64 S, .int .i64 M, .float .f64 v.toNat] 55)).drewN nq)) := below_drewN HB0.out nq
  clear HB0
  generalize (w.alloc (.cells #[.int .i64 T, .int .i64 S, .int .i64 M, .float .f64 v.toNat] 55)).drewN nq = W0 at *
  go_wp2_with (first
    | (go_at_call 28; refine (W1.out _).mono ?_; clear W1; rintro e w1 ⟨rfl, hw1⟩; have hw1 := hw1.symm; subst hw1)
    | (go_at_call 28; refine (W2.out _).mono ?_; clear W2; rintro e w2 ⟨rfl, hw2⟩; have hw2 := hw2.symm; subst hw2)
    | (go_at_call 28; refine (W3.out _).mono ?_; clear W3; rintro e w3 ⟨rfl, hw3⟩; have hw3 := hw3.symm; subst hw3))
  go_loopw [8, 9] (fun vo i wr => ∃ k : Nat, k ≤ m + 2 ∧ i = .int .i64 k ∧ Hid (wr.ownsRow w.heap.size 35 2 vo k (smCells (stL t s v k))) ∧ Hid (Below w.heap.size w wr)) (fun _ i _ => m + 2 - (intOf i).toNat)
  case atStart => exact ⟨0, Nat.zero_le _, rfl, ⟨rfl, Or.inl ⟨rfl, rfl⟩⟩, HBQ⟩
  case round =>
    obtain ⟨k, hk, rfl, hrow, hb⟩ := hrel
    obtain ⟨a, c, rfl⟩ := slice_of_row hrow.out
    by_cases hlt : k < m + 2
    · obtain ⟨p, hp⟩ : ∃ p, p = k * s := ⟨_, rfl⟩
      have hpi : (p : Int) = (k : Int) * (s : Int) := by rw [hp]; simp
      have hpb : p ≤ 119 * s := by rw [hp]; exact Nat.mul_le_mul_right _ (by omega)
      have hpb2 : p ≤ 130841883705344 := by omega
      have HST : Hid (smCells (stL t s v (k + 1)) = smCells (stL t s v k) ++ [.int .i64 ((t : Int) + (k : Int) * (s : Int)), .float .f64 v.toNat]) := by
        show _ = _
        rw [stL_succ, smCells_append, ← hp]
        show _ ++ [Value.int .i64 (sg (UInt64.ofNat (t + p))), Value.float .f64 v.toNat] = _
        rw [sg_ofNat (by omega), ← hpi]
        simp
      have hki : (k : Int) < 2 + (m : Int) := by omega
      have hsz := hb.out.size
      have HROW : Hid (wr.ownsRow w.heap.size 35 2 (.slice a k c) k (smCells (stL t s v k))) := hrow
      clear hrow hp hpb
      generalize smCells (stL t s v k) = xs at *
      go_wp2_with (at_builtin; refine wpList_append_own_at _ rfl _ _ 22 rfl w.heap.size 35 i0 _ 2 16 Tryd.underlying22 hi0 hz0 hz1 hz2 rfl (by decide) (.slice a k c) k xs rfl (World.ownsRow.alloc HROW.out _) ⟨wr.heap.size, 0, none⟩ 1 1 [.int .i64 ((t : Int) + (k : Int) * (s : Int)), .float .f64 v.toNat] rfl rfl (World.news_of_block (cs := #[.int .i64 ((t : Int) + (k : Int) * (s : Int)), .float .f64 v.toNat]) (t := 35) (fr := (0, 0)) (heap_alloc_new wr _)) (by simp [Value.oneCell']) (by unfold maxLen; omega) (by omega) (Nat.le_trans hsz (by simp)) ?_; intro v2 w2 hr2 hg2 hnil2 hloc2; have HB2 : Hid (Below w.heap.size w w2) := (hb.out.alloc hsz _).grown hg2 (Nat.le_trans hsz (by simp)) (fun j hj => (World.ownsRow.lt HROW.out j hj).1); have HR2 : Hid (w2.ownsRow w.heap.size 35 2 v2 (k + 1) (xs ++ [.int .i64 ((t : Int) + (k : Int) * (s : Int)), .float .f64 v.toNat])) := hr2; clear hr2 hg2 hnil2 hloc2)
      go_roundw
      case rel => exact ⟨k + 1, by omega, by go_num, by show World.ownsRow _ _ _ _ _ _ _; rw [HST.out]; exact HR2.out, HB2⟩
      case measure => simp [intOf]; omega
    · obtain rfl : k = m + 2 := by omega
      obtain ⟨g, rfl⟩ := row_some hrow.out (by omega)
      have hS : SmpAt wr (.slice (some ⟨g, 0, none⟩) (m + 2) c) (stL t s v (m + 2)) := by
        have := SmpAt.of_row (l := stL t s v (m + 2)) (w := wr) (base := w.heap.size) (v := .slice (some ⟨g, 0, none⟩) (m + 2) c) (by rw [stL_length]; exact hrow.out)
        exact this
      have hc : m + 2 ≤ c := by
        obtain ⟨a', c', e, h1, -⟩ := hS
        have h9 := (Value.slice.inj e).2.2
        rw [stL_length] at h1
        omega
      have hc1 : (1 : Int) ≤ (c : Int) := by omega
      have hc2 : (2 : Int) ≤ (c : Int) := by omega
      have S1 := hS.take 1 (by omega)
      have S2 := hS.take 2 (by omega)
      rw [stL_take _ _ _ _ _ (by omega)] at S1 S2
      have HS : Hid (∀ W, Below wr.heap.size wr W → SmpAt W (.slice (some ⟨g, 0, none⟩) 1 c) (stL t s v 1) ∧ SmpAt W (.slice (some ⟨g, 0, none⟩) 2 c) (stL t s v 2) ∧ SmpAt W (.slice (some ⟨g, 0, none⟩) (m + 2) c) (stL t s v (m + 2))) := fun W hW => ⟨S1.below hW, S2.below hW, hS.below hW⟩
      have hbw := hb.out
      have HBW : Hid (Below w.heap.size w wr) := hb
      have HD : Hid (Below wr.heap.size wr wr.drew) := (Below.refl _ _).drew
      clear hS S1 S2 hrow hb hbw
      go_wp2
      go_region_held3 (fun _ => True) (trivial)
        (first
          | (go_at_call 14; refine (B1.out _ _ (HS.out _ HD.out).1 (HBW.out.trans (HD.out.mono HBW.out.size))).mono ?_; clear B1; rintro e w1 ⟨rfl, hb1⟩; have HX1 : Hid (Below wr.heap.size wr w1) := HD.out.trans (hb1.mono HD.out.size); clear hb1)
          | (go_at_call 14; refine (B2.out _ _ (HS.out _ HX1.out).2.1 (HBW.out.trans (HX1.out.mono HBW.out.size))).mono ?_; clear B2; rintro e w2 ⟨rfl, hb2⟩; have HX2 : Hid (Below wr.heap.size wr w2) := HX1.out.trans (hb2.mono HX1.out.size); clear hb2))
      go_wp2_with (first
          | (go_at_call 14; refine (B3.out _ _ (HS.out _ HX2.out).2.2 (HBW.out.trans (HX2.out.mono HBW.out.size))).mono ?_; clear B3; rintro e w3 ⟨rfl, hb3⟩; have HX3 : Hid (Below wr.heap.size wr w3) := HX2.out.trans (hb3.mono HX2.out.size); clear hb3)
          | (go_at_call 19; refine (K4.out _ (HBW.out.trans (HX3.out.mono HBW.out.size))).mono ?_; clear K4; rintro e w4 ⟨rfl, hb4⟩; have HX4 : Hid (Below wr.heap.size wr w4) := HX3.out.trans (hb4.mono HX3.out.size); clear hb4))
      go_ret
      exact ⟨rfl, HBW.out.trans (HX4.out.mono HBW.out.size)⟩

end Go.Proofs.YtkmclgbiedbfpaaDoor
