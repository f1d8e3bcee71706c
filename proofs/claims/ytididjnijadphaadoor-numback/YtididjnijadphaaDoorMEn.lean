/- Texts that belong together. -/
import Derived.Test.YtididjnijadphaaDoorMFh
import Derived.Test.YtididjnijadphaaDoorMEl
import Derived.SizedLaws
import Derived.Test.YtididjnijadphaaDoorMFo
/- What comes in: the table of the powers of ten. -/
namespace Go.Proofs.YtididjnijadphaaDoor
open Go.ChangeShapes Go.WideShapes Go.ChangeAt Go.RowKit

theorem laid_pow {L : List (String × DataW Unit)} {W : World} (h : laidMet Tryd.prog L W) (hm : ("internal/strconv.uint64pow10", Rows.laid_internal_strconv_uint64pow10) ∈ L) : Pow W := by
  have e1 : (Rows.laid_internal_strconv_uint64pow10 : DataW Unit) = Lib.tabData .u64 Lib.pow10Tab := by kernel_rfl
  have h3 := Lib.laidMet.reads h (n := "internal/strconv.uint64pow10") (d := Rows.laid_internal_strconv_uint64pow10) hm
  rw [e1] at h3
  obtain ⟨g, t, cs, fuel, p, hg, hty, hvar, hd⟩ := h3
  obtain rfl := Option.some.inj ((show Tryd.prog.globalNamed "internal/strconv.uint64pow10" = some 2 by kernel_rfl).symm.trans hg)
  obtain rfl := Option.some.inj ((show (Tryd.prog.globals[2]?).map (·.type) = some 109 by kernel_rfl).symm.trans hty)
  have hcs := Lib.cells_of_tab Tryd.underlying109 Tryd.underlying25 (by kernel_rfl) (by kernel_rfl) hd
  unfold Pow Lib.TabIs
  rw [hvar, ← hcs]
theorem pow_of {W : World} (h : laidMetH Tryd.prog Rows.numBackRow.laid W) : Pow W := by
  rw [MakeChecks.laidMetH_plain _ _ _ (by kernel_rfl)] at h
  exact laid_pow h (.tail _ (.tail _ (.head _)))
theorem laid2 {W : World} (h : laidMetH Tryd.prog Rows.numBackRow.laid W) : Units W ∧ Pow W := ⟨laid_of h, pow_of h⟩
end Go.Proofs.YtididjnijadphaaDoor

/- What comes in: words. -/
namespace Go.Proofs.YtididjnijadphaaDoor
open Go.ChangeShapes Go.WideShapes Go.ChangeAt Go.RowKit

/-- A slice that reads as these words. -/
def UAt (w : World) (v : Value) (xs : List Nat) : Prop := ∃ a c, v = .slice a xs.length c ∧ (xs.length ≤ c ∧ c ≤ maxLen) ∧ ∀ k (hk : k < xs.length), xs[k] < 18446744073709551616 ∧ ∃ b o, a = some ⟨b, o, none⟩ ∧ b < w.heap.size ∧ w.cell? ⟨b, o + k, none⟩ = some (.int .u64 (xs[k] : Nat))
theorem UAt.below {w w' : World} {v : Value} {xs : List Nat} (h : UAt w v xs) (hb : Below w.heap.size w w') : UAt w' v xs := by
  obtain ⟨a, c, e, hlc, hk⟩ := h
  refine ⟨a, c, e, hlc, fun k hlt => ?_⟩
  obtain ⟨hx, b, o, ha, hl, h1⟩ := hk k hlt
  have := hb.size
  exact ⟨hx, b, o, ha, by omega, (hb.cell (p := ⟨b, o + k, none⟩) hl).trans h1⟩
section
variable {H : Type} {enc : TypeId × Value → H} {w : World}
/-- A slice of words. -/
theorem u64s_came {a : Option Addr} {len cap : Nat} {d : DataW H} {p : List MemPlace} (h : DataW.Trod enc Tryd.prog w 0 (fun _ => true) true 22 (.slice a len cap) d p) :
    ∃ xs : List Nat, UAt w (.slice a len cap) xs := by
  obtain ⟨fuel, hf⟩ := h
  rcases open_ints Tryd.underlying22 Tryd.underlying25 (by kernel_rfl) hf with ⟨hcs, _⟩ | ⟨x, l, cap', zs, hcs, _, hl, hm, hz, _, hcell, hwz⟩
  · simp [Value.cells] at hcs
    obtain ⟨rfl, rfl, rfl⟩ := hcs
    exact ⟨[], none, 0, rfl, ⟨Nat.zero_le _, Nat.zero_le _⟩, fun k hk => by simp at hk⟩
  · simp [Value.cells] at hcs
    obtain ⟨rfl, rfl, rfl⟩ := hcs
    simp only [if_true] at hz
    have hlen : ((zs.take len).map fun n => n.toNat).length = len := by simp; omega
    refine ⟨(zs.take len).map fun n => n.toNat, some x, cap, by rw [hlen], ⟨by omega, hm⟩, fun k hk => ?_⟩
    have hk' : k < len := by omega
    obtain ⟨b, off, spot⟩ := x
    have hspot : spot = none := by simpa [Addr.add] using World.cell?_spot (hcell 0 (by omega))
    subst hspot
    have hkc := hcell k (by omega)
    rw [add_plain] at hkc
    have hkz : k < zs.length := by omega
    have hzk : zs.getD k 0 ∈ zs := by simp [List.getD, hkz]
    have hbd := bounds_u64 (hwz _ hzk)
    have e : ((((zs.take len).map fun n => n.toNat)[k] : Nat) : Int) = zs.getD k 0 := by
      have h9 : (((zs.getD k 0).toNat : Nat) : Int) = zs.getD k 0 := by omega
      simpa [List.getD, hkz] using h9
    refine ⟨by omega, b, off, rfl, World.block_lt_of_cell? w _ hkc, by rw [e]; exact hkc⟩
end
end Go.Proofs.YtididjnijadphaaDoor

/- Bits, and a float beside itself. -/
namespace Go.Proofs.YtididjnijadphaaDoor
open Go.RowKit Go.Maps

theorem keepBits_any (x y : Nat) (w : World) :
    Calls Tryd.prog 8 #[.float .f64 x, .float .f64 y] w fun e w' => e = .returned (.bool (decide (x = y))) ∧ w' = w := by
  have hfb := floatbits_run
  have HE : Hid (((x : Int) == (y : Int)) = decide (x = y)) := by
    show _ = _
    by_cases h : x = y
    · subst h; simp
    · simp [h]; omega
  go_enter Tryd.func8, Tryd.ntmps8
  go_wp2
  go_ret
  exact ⟨by rw [← HE.out]; rfl, rfl⟩
theorem order_self {x : Nat} (h : x % 9223372036854775808 ≤ 9218868437227405312) : FloatKind.f64.format.order x x = some .eq := by
  have h1 := order_key h h
  have h2 : compare (keyF x) (keyF x) = Ordering.eq := by
    show compareOfLessAndEq _ _ = _
    unfold compareOfLessAndEq
    simp
  rw [h2] at h1
  exact h1

end Go.Proofs.YtididjnijadphaaDoor

/- NumBack. -/
namespace Go.Proofs.YtididjnijadphaaDoor
open Go.RowKit Go.Maps

set_option maxRecDepth 100000 in
set_option maxHeartbeats 4000000 in
theorem back_core (v : Value) (xs : List Nat) (w : World) (ha : UAt w v xs) (hU : Units w) (hP : Pow w) :
    Calls Tryd.prog 3 #[v] w fun e w' => e = .returned (.bool true) ∧ Below w.heap.size w w' := by
  obtain ⟨a, c, rfl, hlc, -⟩ := id ha
  have HA : Hid (UAt w (.slice a xs.length c) xs) := ha
  have HU : Hid (Units w) := hU
  have HPW : Hid (Pow w) := hP
  unfold maxLen at hlc
  clear ha hU hP
  go_enter Tryd.func3, Tryd.ntmps3
  go_wp2
  go_loopw [3] (fun i wr => ∃ k : Nat, k ≤ 300 ∧ k ≤ xs.length ∧ i = .int .i64 k ∧ Hid (Below w.heap.size w wr)) (fun i _ => 300 - (intOf i).toNat)
  case atStart => exact ⟨0, by omega, by omega, rfl, Below.refl _ _⟩
  case round =>
    obtain ⟨k, hk, hkl, rfl, HBL⟩ := hrel
    by_cases hlt : k < xs.length
    · by_cases h60 : k < 300
      · obtain ⟨a', c', e, -, hc⟩ := HA.out.below (HBL.out)
        cases e
        obtain ⟨hx, b, o, rfl, hbl, hcell⟩ := hc k hlt
        generalize xs[k] = x at *
        have hff := frombits_run
        have hlti : (k : Int) < (xs.length : Int) := by omega
        have h60i : (k : Int) < 300 := by omega
        by_cases hnan : x % 9223372036854775808 ≤ 9218868437227405312
        · obtain ⟨T, ⟨hTl, hT⟩, hpr⟩ := text_of x hx hnan
          have HT : Hid (∀ W : World, Pow W → Calls Tryd.prog 7 #[.float .f64 x] W fun e w' => e = .returned (.string ⟨T.toArray⟩) ∧ Below W.heap.size W w') := hT
          have HPA : Hid (∀ W : World, Calls Tryd.prog 6 #[.string ⟨T.toArray⟩] W fun e w' => e = .returned (.tuple #[.float .f64 x, .int .i64 0]) ∧ Below W.heap.size W w') := fun W => by
            have h9 := parse_any ⟨T.toArray⟩ W (by unfold maxLen; simp [ByteArray.size]; omega)
            rw [hpr] at h9
            exact h9
          have HKB : Hid (∀ W : World, Calls Tryd.prog 8 #[.float .f64 x, .float .f64 x] W fun e w' => e = .returned (.bool true) ∧ w' = W) := fun W => by
            have h := keepBits_any x x W
            rw [decide_eq_true rfl] at h
            exact h
          have hse := order_self hnan
          clear hc hT hpr hnan
          generalize (⟨T.toArray⟩ : ByteArray) = TS at *
          go_wp2_with (first
            | (go_at_call 7; refine (HT.out _ (HPW.out.below HBL.out)).mono ?_; clear HT; rintro e w1 ⟨rfl, hb1⟩; have HB1 : Hid (Below w.heap.size w w1) := HBL.out.trans (hb1.mono HBL.out.size); clear hb1)
            | (go_at_call 6; refine (HPA.out _).mono ?_; clear HPA; rintro e w2 ⟨rfl, hb2⟩; have HB2 : Hid (Below w.heap.size w w2) := HB1.out.trans (hb2.mono HB1.out.size); clear hb2)
            | (go_at_call 8; refine (HKB.out _).mono ?_; clear HKB; rintro e w3 ⟨rfl, hw3⟩; have hw3 := hw3.symm; subst hw3))
          go_roundw
          case rel => exact ⟨k + 1, by omega, by omega, by go_num, HB2.out⟩
          case measure => simp [intOf]; omega
        · have HT : Hid (∀ W : World, Calls Tryd.prog 7 #[.float .f64 x] W fun e w' => e = .returned (.string ⟨#[78, 97, 78]⟩) ∧ Below W.heap.size W w') := fun W => text_nan x _ W hx rfl (by omega)
          have HPA : Hid (∀ W : World, Calls Tryd.prog 6 #[.string ⟨#[78, 97, 78]⟩] W fun e w' => e = .returned (.tuple #[.float .f64 9221120237041090561, .int .i64 0]) ∧ Below W.heap.size W w') := fun W => by
            have h9 := parse_any ⟨([78, 97, 78] : List UInt8).toArray⟩ W (by unfold maxLen; simp [ByteArray.size])
            rw [nan_read] at h9
            exact h9
          have hse : FloatKind.f64.format.order x x = none := order_nan_left (by omega)
          have hsn : FloatKind.f64.format.order 9221120237041090561 9221120237041090561 = none := order_nan_left (by decide)
          clear hc hnan
          go_wp2_with (first
            | (go_at_call 7; refine (HT.out _).mono ?_; rintro e w1 ⟨rfl, hb1⟩; have HB1 : Hid (Below w.heap.size w w1) := HBL.out.trans (hb1.mono HBL.out.size); clear HBL hb1; have HBL : Hid (Below w.heap.size w w1) := HB1.out; clear HB1)
            | (go_at_call 6; refine (HPA.out _).mono ?_; clear HPA; rintro e w1 ⟨rfl, hb1⟩; have HB1 : Hid (Below w.heap.size w w1) := HBL.out.trans (hb1.mono HBL.out.size); clear HBL hb1; have HBL : Hid (Below w.heap.size w w1) := HB1.out; clear HB1))
          go_roundw
          case rel => exact ⟨k + 1, by omega, by omega, by go_num, HBL.out⟩
          case measure => simp [intOf]; omega
      · have HWK : Hid (Calls Tryd.prog 9 #[] wr fun e w' => e = .returned (.bool true) ∧ Below wr.heap.size wr w') := wakes_any wr (HU.out.below HBL.out)
        have h60i : ¬ (k : Int) < 300 := by omega
        have hlti : (k : Int) < (xs.length : Int) := by omega
        go_wp2_with (go_at_call 9; refine HWK.out.mono ?_; clear HWK; rintro e w7 ⟨rfl, hb7⟩; have HB7 : Hid (Below w.heap.size w w7) := HBL.out.trans (hb7.mono HBL.out.size); clear hb7)
        go_ret
        exact ⟨rfl, HB7.out⟩
    · have HWK : Hid (Calls Tryd.prog 9 #[] wr fun e w' => e = .returned (.bool true) ∧ Below wr.heap.size wr w') := wakes_any wr (HU.out.below HBL.out)
      have hki : ¬ (k : Int) < (xs.length : Int) := by omega
      go_wp2_with (go_at_call 9; refine HWK.out.mono ?_; clear HWK; rintro e w7 ⟨rfl, hb7⟩; have HB7 : Hid (Below w.heap.size w w7) := HBL.out.trans (hb7.mono HBL.out.size); clear hb7)
      go_ret
      exact ⟨rfl, HB7.out⟩
theorem back_w (v : Value) (xs : List Nat) (W : World) (ha : UAt W v xs) (h : Units W ∧ Pow W) :
    Calls Tryd.prog 3 #[v] W fun e w' => e = .returned (.bool true) ∧ Below W.heap.size W w' := back_core v xs W ha h.1 h.2
end Go.Proofs.YtididjnijadphaaDoor
