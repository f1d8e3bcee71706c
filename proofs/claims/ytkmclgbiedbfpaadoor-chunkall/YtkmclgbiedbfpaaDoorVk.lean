/- The document's reader: get. -/
import Derived.Test.YtkmclgbiedbfpaaDoorK8
import Derived.Test.YtkmclgbiedbfpaaDoorVj
namespace Go.Proofs.YtkmclgbiedbfpaaDoor
open Go.RowKit Go.Maps

/-- The document's reader: what is left of its bits; none: bad. -/
def RdO (w : World) (U : Nat) (V : Value) (bs : List UInt8) (o : Option (List Bool)) : Prop :=
  ∃ (p : Nat) (bad : Bool), w.heap[U]? = some (.cells #[V, .int .i64 p, .bool bad] 80) ∧ p ≤ 8 * bs.length ∧ o = if bad then none else some ((ub bs).drop p)
theorem bit_take (bs : List UInt8) (m : Nat) (h : m < 8 * bs.length) : ((ub bs).drop m).take 1 = [(bs[m / 8]'(by omega)).toNat.testBit (7 - m % 8)] := by
  rw [take_byte bs m 1 (by omega) (by omega)]
  show [Nat.testBit _ 0] = _
  rw [Nat.testBit_shiftRight, Nat.add_zero, show 8 - m % 8 - 1 = 7 - m % 8 by omega]
theorem vb_next (bs : List UInt8) (p k : Nat) (h : p + k < 8 * bs.length) : vb (((ub bs).drop p).take (k + 1)) = 2 * vb (((ub bs).drop p).take k) + ((bs[(p + k) / 8]'(by omega)).toNat.testBit (7 - (p + k) % 8)).toNat := by
  have e : ((ub bs).drop p).take (k + 1) = ((ub bs).drop p).take k ++ ((ub bs).drop (p + k)).take 1 := by
    rw [List.take_add, List.drop_drop]
  rw [e, bit_take bs (p + k) h, vb_append]
  simp [vb]
  omega
theorem u8_bit (x r : Nat) (hx : x < 256) : bits .and .u8 ((x : Int) / 2 ^ r) 1 = ((x.testBit r).toNat : Int) := by
  have e2 : (x : Int) / 2 ^ r = ((x >>> r : Nat) : Int) := by
    rw [Nat.shiftRight_eq_div_pow]
    simp
  have hsh : x >>> r < 256 := by
    rw [Nat.shiftRight_eq_div_pow]
    exact Nat.lt_of_le_of_lt (Nat.div_le_self _ _) hx
  rw [e2, show (1 : Int) = ((1 : Nat) : Int) from rfl, u8_and_nat _ _ hsh (by omega), Nat.and_one_is_mod, show x.testBit r = (x >>> r).testBit 0 by rw [Nat.testBit_shiftRight, Nat.add_zero], Nat.testBit_zero]
  have : x >>> r % 2 = 0 ∨ x >>> r % 2 = 1 := by omega
  rcases this with h | h <;> simp [h]
theorem or_bit (x b : Nat) (hx : 2 * x < 18446744073709551616) (hb : b ≤ 1) : bits .or .u64 ((x : Int) * 2) (b : Int) = ((2 * x + b : Nat) : Int) := by
  have e : (x : Int) * 2 = ((2 * x : Nat) : Int) := by omega
  rw [e, u64_or_nat _ _ hx (by omega)]
  congr 1
  have : b = 0 ∨ b = 1 := by omega
  rcases this with rfl | rfl
  · simp
  · have := Nat.two_pow_add_eq_or_of_lt (i := 1) (b := 1) (by decide) x
    simpa [Nat.mul_comm] using this.symm

set_option maxRecDepth 100000 in
set_option maxHeartbeats 4000000 in
theorem rget_any (U : Nat) (V : Value) (bs : List UInt8) (o : Option (List Bool)) (n : Nat) (w : World) (h : RdO w U V bs o) (hV : ∀ W, Kept (fun k => k = U) w W → BytesAt W V bs) (hn : n ≤ 64) (hl : bs.length ≤ 100000) :
    Calls Tryd.prog 40 #[.pointer (some ⟨U, 0, none⟩), .int .i64 n] w fun e w' => e = .returned (.int .u64 (gv n o)) ∧ RdO w' U V bs (gr n o) ∧ Kept (fun k => k = U) w w' := by
  obtain ⟨p, bad, hh, hp, ho⟩ := h
  obtain ⟨a, c, hVe, -, -, -⟩ := id (hV w (Kept.refl _ _))
  subst hVe
  have c0 : w.cell? ⟨U, 0, none⟩ = some (.slice a bs.length c) := by rw [cell_of_heap hh]; rfl
  have c1 : w.cell? ⟨U, 1, none⟩ = some (.int .i64 p) := by rw [cell_of_heap hh]; rfl
  have c2 : w.cell? ⟨U, 2, none⟩ = some (.bool bad) := by rw [cell_of_heap hh]; rfl
  have f2 : w.frozen? ⟨U, 2, none⟩ = false := frozen_of_heap hh
  have HH : Hid (w.heap[U]? = some (.cells #[.slice a bs.length c, .int .i64 p, .bool bad] 80)) := hh
  have hpi : (p : Int) ≤ 8 * (bs.length : Int) := by omega
  have hni : (n : Int) ≤ 64 := by omega
  have hn0 : (0 : Int) ≤ (n : Int) := by omega
  have hw1 : IntKind.i64.wrap (8 * (bs.length : Int)) = 8 * (bs.length : Int) := wrapI (by omega) (by omega)
  have hw2 : IntKind.i64.wrap (8 * (bs.length : Int) - (p : Int)) = 8 * (bs.length : Int) - (p : Int) := wrapI (by omega) (by omega)
  clear hh
  cases bad
  · have ho2 : o = some ((ub bs).drop p) := ho
    have hrl : ((ub bs).drop p).length = 8 * bs.length - p := by rw [List.length_drop, ub_length]
    by_cases hlt : n ≤ 8 * bs.length - p
    · have hg : gv n o = vb (((ub bs).drop p).take n) ∧ gr n o = some ((ub bs).drop (p + n)) := by
        rw [ho2, gv_def, gr_def, if_pos (by omega), if_pos (by omega), List.drop_drop]
        exact ⟨rfl, rfl⟩
      rw [hg.1, hg.2]
      have HV : Hid (∀ W, Kept (fun k => k = U) w W → BytesAt W (.slice a bs.length c) bs) := hV
      have hq1 : (n : Int) ≤ 8 * (bs.length : Int) - (p : Int) := by omega
      clear ho ho2 hrl hg hV
      go_enter Tryd.func40, Tryd.ntmps40
      go_wp2
      go_quiet (fail)
      have HK0 : Hid (Kept (fun k => k = U) w (w.drewN nq)) := (Kept.refl (fun k => k = U) w).drewN nq
      have HH0 : Hid ((w.drewN nq).heap[U]? = some (.cells #[.slice a bs.length c, .int .i64 p, .bool false] 80)) := HH.out
      clear HH c0 c1 c2 f2
      generalize w.drewN nq = W0 at *
      go_wp2
      go_loopw [5, 6] (fun xv i wr => ∃ k : Nat, k ≤ n ∧ i = .int .i64 k ∧ xv = .int .u64 (vb (((ub bs).drop p).take k)) ∧ Hid (wr.heap[U]? = some (.cells #[.slice a bs.length c, .int .i64 ((p + k : Nat) : Int), .bool false] 80) ∧ Kept (fun k => k = U) w wr)) (fun _ i _ => n - (intOf i).toNat)
      case atStart => exact ⟨0, Nat.zero_le _, rfl, rfl, HH0.out, HK0.out⟩
      case round =>
        obtain ⟨k, hk, rfl, rfl, hI⟩ := hrel
        clear HH0 HK0
        obtain ⟨hh, hkp⟩ := hI.out
        by_cases hlk : k < n
        · have hm8 : p + k < 8 * bs.length := by omega
          have hnx := vb_next bs p k hm8
          obtain ⟨m, hm⟩ : ∃ m, m = p + k := ⟨_, rfl⟩
          obtain ⟨q, hq⟩ : ∃ q, q = m / 8 := ⟨_, rfl⟩
          obtain ⟨r, hr⟩ : ∃ r, r = 7 - m % 8 := ⟨_, rfl⟩
          have hql : q < bs.length := by omega
          have hby : (bs[(p + k) / 8]'(by omega)).toNat.testBit (7 - (p + k) % 8) = (bs[q]'hql).toNat.testBit r := by
            subst hr
            subst hq
            subst hm
            rfl
          rw [hby] at hnx
          obtain ⟨b, off, rfl, hone⟩ := (HV.out wr hkp).one q hql
          have k0 := hone wr (Below.refl _ _)
          have hbt : (bs[q]'hql).toNat < 256 := (bs[q]'hql).toNat_lt
          have hbit := u8_bit (bs[q]'hql).toNat r hbt
          have hxlt : vb (((ub bs).drop p).take k) < 2 ^ k := by
            have h1 := vb_lt (((ub bs).drop p).take k)
            have h2 : (((ub bs).drop p).take k).length ≤ k := by simp; omega
            exact Nat.lt_of_lt_of_le h1 (Nat.pow_le_pow_right (by decide) h2)
          have hx2 : 2 * vb (((ub bs).drop p).take k) < 18446744073709551616 := by
            have h3 : 2 ^ k ≤ 2 ^ 63 := Nat.pow_le_pow_right (by decide) (by omega)
            have h4 : (2 : Nat) ^ 63 = 9223372036854775808 := rfl
            omega
          have hor := or_bit (vb (((ub bs).drop p).take k)) ((bs[q]'hql).toNat.testBit r).toNat hx2 (Bool.toNat_le _)
          rw [← hm] at hh
          have d0 : wr.cell? ⟨U, 0, none⟩ = some (.slice (some ⟨b, off, none⟩) bs.length c) := by rw [cell_of_heap hh]; rfl
          have d1 : wr.cell? ⟨U, 1, none⟩ = some (.int .i64 m) := by rw [cell_of_heap hh]; rfl
          have g1 : wr.frozen? ⟨U, 1, none⟩ = false := frozen_of_heap hh
          have HH : Hid (wr.heap[U]? = some (.cells #[.slice (some ⟨b, off, none⟩) bs.length c, .int .i64 (m : Int), .bool false] 80)) := hh
          have HK : Hid (Kept (fun k => k = U) w wr) := hkp
          have HM : Hid (m = p + k) := hm
          have HNX : Hid (vb (((ub bs).drop p).take (k + 1)) = 2 * vb (((ub bs).drop p).take k) + ((bs[q]'hql).toNat.testBit r).toNat) := hnx
          have HWB : Hid (IntKind.u64.wrap (((bs[q]'hql).toNat.testBit r).toNat : Int) = (((bs[q]'hql).toNat.testBit r).toNat : Int)) := by
            have := Bool.toNat_le ((bs[q]'hql).toNat.testBit r)
            show _ = _
            rw [IntKind.wrap_u64]
            omega
          have HOR : Hid (bits .or .u64 ((vb (((ub bs).drop p).take k) : Int) * 2) (((bs[q]'hql).toNat.testBit r).toNat : Int) = ((2 * vb (((ub bs).drop p).take k) + ((bs[q]'hql).toNat.testBit r).toNat : Nat) : Int)) := hor
          have hqi : (m : Int) / 8 = (q : Int) := by omega
          have hri : (7 : Int) - (m : Int) % 8 = (r : Int) := by omega
          have hr7 : r ≤ 7 := by omega
          have hqli : (q : Int) < (bs.length : Int) := by omega
          have hki : (k : Int) < (n : Int) := by omega
          have hml : m ≤ 800000 := by omega
          clear hI hone hh hkp hnx hby hm hq hr hm8 hxlt HV hor
          generalize (bs[q]'hql).toNat.testBit r = bt at *
          generalize (bs[q]'hql).toNat = by8 at *
          generalize vb (((ub bs).drop p).take k) = x at *
          go_wp2
          go_quiet (fail)
          go_wp2
          refine ⟨⟨k + 1, by omega, by go_num, ?_, ?_, ?_⟩, by simp [intOf]; omega⟩
          · rw [HWB.out, HOR.out, HNX.out]
          · rw [heap_setCell_same (w := wr.drewN nq) HH.out, show ((p + (k + 1) : Nat) : Int) = (m : Int) + 1 by have := HM.out; omega]
            rfl
          · exact (HK.out.drewN nq).setCell (p := ⟨U, 1, none⟩) (fun _ => rfl) _
        · obtain rfl : k = n := by omega
          have HH : Hid (wr.heap[U]? = some (.cells #[.slice a bs.length c, .int .i64 ((p + k : Nat) : Int), .bool false] 80)) := hh
          have HK : Hid (Kept (fun k => k = U) w wr) := hkp
          clear hI hh hkp HV
          generalize hxx : vb (((ub bs).drop p).take k) = x at *
          have HXX : Hid (vb (((ub bs).drop p).take k) = x) := hxx
          clear hxx
          go_wp2
          go_ret
          exact ⟨by rw [HXX.out]; rfl, ⟨p + k, false, HH.out, by omega, rfl⟩, HK.out⟩
    · have hg : gv n o = 0 ∧ gr n o = none := by
        rw [ho2, gv_def, gr_def, if_neg (by omega), if_neg (by omega)]
        exact ⟨rfl, rfl⟩
      rw [hg.1, hg.2]
      have hq1 : 8 * (bs.length : Int) - (p : Int) < (n : Int) := by omega
      clear ho ho2 hrl hg hV
      go_enter Tryd.func40, Tryd.ntmps40
      go_wp2
      go_quiet (fail)
      go_wp2
      go_ret
      refine ⟨rfl, ⟨p, true, ?_, hp, rfl⟩, ((Kept.refl (fun k => k = U) w).drewN nq).setCell (p := ⟨U, 2, none⟩) (fun _ => rfl) _⟩
      exact heap_setCell_same HH.out _
  · have ho2 : o = none := ho
    subst ho2
    clear ho hV
    go_enter Tryd.func40, Tryd.ntmps40
    go_wp2
    go_quiet (fail)
    go_wp2
    go_ret
    refine ⟨rfl, ⟨p, true, ?_, hp, rfl⟩, ((Kept.refl (fun k => k = U) w).drewN nq).setCell (p := ⟨U, 2, none⟩) (fun _ => rfl) _⟩
    exact heap_setCell_same HH.out _

end Go.Proofs.YtkmclgbiedbfpaaDoor
