/- Texts that belong together. -/
import Derived.Test.YtfnciidhifencaaDoorMEl
import Derived.Test.YtfnciidhifencaaDoorMEe
import Derived.SizedLaws
import Derived.Test.YtfnciidhifencaaDoorMDg
/- What comes in: bytes. -/
namespace Go.Proofs.YtfnciidhifencaaDoor
open Go.ChangeShapes Go.WideShapes Go.ChangeAt Go.RowKit

theorem u8_wf {n : Int} (h : (Lit.int .u8 n).wf = true) : ((UInt8.ofNat n.toNat).toNat : Int) = n := by
  have := bounds_u8 h
  rw [UInt8.toNat_ofNat']
  omega
section
variable {H : Type} {enc : TypeId × Value → H} {w : World}
/-- A slice of bytes. -/
theorem bytes_came {a : Option Addr} {len cap : Nat} {d : DataW H} {p : List MemPlace} (h : DataW.Trod enc Tryd.prog w 0 (fun _ => true) true 39 (.slice a len cap) d p) :
    ∃ bs : List UInt8, BAt w (.slice a len cap) bs := by
  obtain ⟨fuel, hf⟩ := h
  rcases open_ints Tryd.underlying39 Tryd.underlying5 (by kernel_rfl) hf with ⟨hcs, _⟩ | ⟨x, l, cap', zs, hcs, _, hl, hm, hz, _, hcell, hwz⟩
  · simp [Value.cells] at hcs
    obtain ⟨rfl, rfl, rfl⟩ := hcs
    exact ⟨[], none, 0, rfl, ⟨Nat.zero_le _, Nat.zero_le _⟩, fun k hk => by simp at hk⟩
  · simp [Value.cells] at hcs
    obtain ⟨rfl, rfl, rfl⟩ := hcs
    simp only [if_true] at hz
    have hlen : ((zs.take len).map fun n => UInt8.ofNat n.toNat).length = len := by simp; omega
    refine ⟨(zs.take len).map fun n => UInt8.ofNat n.toNat, some x, cap, by rw [hlen], ⟨by omega, hm⟩, fun k hk => ?_⟩
    have hk' : k < len := by omega
    obtain ⟨b, off, spot⟩ := x
    have hspot : spot = none := by simpa [Addr.add] using World.cell?_spot (hcell 0 (by omega))
    subst hspot
    have hkc := hcell k (by omega)
    rw [add_plain] at hkc
    have hzk : zs.getD k 0 ∈ zs := by
      have : k < zs.length := by omega
      simp [List.getD, this]
    have e : (((zs.take len).map fun n => UInt8.ofNat n.toNat)[k].toNat : Int) = zs.getD k 0 := by
      have hkz : k < zs.length := by omega
      have h9 := u8_wf (hwz _ hzk)
      simpa [List.getD, hkz] using h9
    exact ⟨b, off, rfl, World.block_lt_of_cell? w _ hkc, by rw [e]; exact hkc⟩
end
end Go.Proofs.YtfnciidhifencaaDoor

/- Bits, and a float beside itself. -/
namespace Go.Proofs.YtfnciidhifencaaDoor
open Go.RowKit Go.Maps

theorem keepBits_any (x y : Nat) (w : World) :
    Calls Tryd.prog 8 #[.float .f64 x, .float .f64 y] w fun e w' => e = .returned (.bool (decide (x = y))) ∧ w' = w := by
  have hfb := floatbits_run
  have HE : Hid (((x : Int) == (y : Int)) = decide (x = y)) := by
    show _ = _
    by_cases h : x = y
    · subst h; simp
    · simp [h]; omega
  go_enter Tryd.func8, Tryd.ntmps8
  go_wp2
  go_ret
  exact ⟨by rw [← HE.out]; rfl, rfl⟩
theorem order_self {x : Nat} (h : x % 9223372036854775808 ≤ 9218868437227405312) : FloatKind.f64.format.order x x = some .eq := by
  have h1 := order_key h h
  have h2 : compare (keyF x) (keyF x) = Ordering.eq := by
    show compareOfLessAndEq _ _ = _
    unfold compareOfLessAndEq
    simp
  rw [h2] at h1
  exact h1

end Go.Proofs.YtfnciidhifencaaDoor

/- Next and Same. -/
namespace Go.Proofs.YtfnciidhifencaaDoor
open Go.RowKit Go.Maps

theorem same_any (x y : Nat) (w : World) :
    Calls Tryd.prog 10 #[.float .f64 x, .float .f64 y] w fun e w' => e = .returned (.bool (decide (x = y))) ∧ w' = w := by
  have hfb := floatbits_run
  have HE : Hid (((x : Int) == (y : Int)) = decide (x = y)) := by
    show _ = _
    by_cases h : x = y
    · subst h; simp
    · simp [h]; omega
  go_enter Tryd.func10, Tryd.ntmps10
  go_wp2
  go_ret
  exact ⟨by rw [← HE.out]; rfl, rfl⟩
def nextN (x : Nat) : Nat :=
  if 9218868437227405312 < x % 9223372036854775808 ∨ x = 9218868437227405312 then x
  else if x % 9223372036854775808 = 0 then 1
  else if 9223372036854775808 ≤ x then x - 1 else x + 1
theorem ret_fl {a b : Nat} (h : a = b) : Ending.returned (.float .f64 a) = .returned (.float .f64 b) := by rw [h]

set_option maxRecDepth 100000 in
theorem next_any (x : Nat) (w : World) (hx : x < 18446744073709551616) : Calls Tryd.prog 7 #[.float .f64 x] w fun e w' => e = .returned (.float .f64 (nextN x)) ∧ w' = w := by
  have hfb := floatbits_run
  have hff := frombits_run
  have handn := andnot_sign hx
  obtain ⟨r, hr⟩ : ∃ r, r = x % 9223372036854775808 := ⟨_, rfl⟩
  rw [← hr] at handn
  have hrl : r < 9223372036854775808 := by rw [hr]; exact Nat.mod_lt _ (by decide)
  by_cases h1 : 9218868437227405312 < r
  · have HN : Hid (nextN x = x) := by show _ = _; unfold nextN; rw [← hr, if_pos (Or.inl h1)]
    have h1i : (9218868437227405312 : Int) < (r : Int) := by omega
    clear hr
    go_enter Tryd.func7, Tryd.ntmps7
    go_wp2
    go_ret
    exact ⟨ret_fl HN.out.symm, rfl⟩
  · have h1i : ¬ (9218868437227405312 : Int) < (r : Int) := by omega
    by_cases h2 : x = 9218868437227405312
    · have HN : Hid (nextN x = x) := by show _ = _; unfold nextN; rw [if_pos (Or.inr h2)]
      subst h2
      clear hr
      go_enter Tryd.func7, Tryd.ntmps7
      go_wp2
      go_ret
      exact ⟨ret_fl HN.out.symm, rfl⟩
    · have h2i : ((x : Int) == 9218868437227405312) = false := by rw [beq_eq_false_iff_ne]; omega
      by_cases h3 : r = 0
      · have HN : Hid (nextN x = 1) := by show _ = _; unfold nextN; rw [← hr, if_neg (by omega), if_pos h3]
        subst h3
        clear hr
        go_enter Tryd.func7, Tryd.ntmps7
        go_wp2
        go_ret
        exact ⟨ret_fl HN.out.symm, rfl⟩
      · have h3i : ((r : Int) == 0) = false := by rw [beq_eq_false_iff_ne]; omega
        by_cases h4 : 9223372036854775808 ≤ x
        · have HN : Hid (nextN x = x - 1) := by show _ = _; unfold nextN; rw [← hr, if_neg (by omega), if_neg h3, if_pos h4]
          have hand := and_sign_hi (x := x) (r := x - 9223372036854775808) (by omega) (by omega)
          clear hr
          go_enter Tryd.func7, Tryd.ntmps7
          go_wp2
          go_ret
          exact ⟨ret_fl (by rw [HN.out]), rfl⟩
        · have HN : Hid (nextN x = x + 1) := by show _ = _; unfold nextN; rw [← hr, if_neg (by omega), if_neg h3, if_neg h4]
          have hand := and_sign_lo (x := x) (by omega)
          clear hr
          go_enter Tryd.func7, Tryd.ntmps7
          go_wp2
          go_ret
          exact ⟨ret_fl (by rw [HN.out]), rfl⟩
set_option maxRecDepth 100000 in
theorem refNext_any (x : Nat) (w : World) (hx : x < 18446744073709551616) : Calls Tryd.prog 9 #[.float .f64 x] w fun e w' => e = .returned (.float .f64 (nextN x)) ∧ w' = w := by
  have hfb := floatbits_run
  have hff := frombits_run
  by_cases h1 : 9218868437227405312 < x % 9223372036854775808
  · have HN : Hid (nextN x = x) := by show _ = _; unfold nextN; rw [if_pos (Or.inl h1)]
    have hnn : FloatKind.f64.format.order x x = none := order_nan_left h1
    clear h1
    go_enter Tryd.func9, Tryd.ntmps9
    go_wp2
    go_ret
    exact ⟨ret_fl HN.out.symm, rfl⟩
  · have hnn : FloatKind.f64.format.order x x = some .eq := order_self (by omega)
    by_cases h2 : x = 9218868437227405312
    · have HN : Hid (nextN x = x) := by show _ = _; unfold nextN; rw [if_pos (Or.inr h2)]
      subst h2
      go_enter Tryd.func9, Tryd.ntmps9
      go_wp2
      go_ret
      exact ⟨ret_fl HN.out.symm, rfl⟩
    · have h2i : ((x : Int) == 9218868437227405312) = false := by rw [beq_eq_false_iff_ne]; omega
      by_cases h3 : x = 0
      · subst h3
        have HN : Hid (nextN 0 = 1) := by show _ = _; rfl
        go_enter Tryd.func9, Tryd.ntmps9
        go_wp2
        go_ret
        exact ⟨ret_fl HN.out.symm, rfl⟩
      · have h3i : ((x : Int) == 0) = false := by rw [beq_eq_false_iff_ne]; omega
        by_cases h5 : x = 9223372036854775808
        · subst h5
          have HN : Hid (nextN 9223372036854775808 = 1) := by show _ = _; rfl
          go_enter Tryd.func9, Tryd.ntmps9
          go_wp2
          go_ret
          exact ⟨ret_fl HN.out.symm, rfl⟩
        · have h5i : ((x : Int) == 9223372036854775808) = false := by rw [beq_eq_false_iff_ne]; omega
          by_cases h4 : 9223372036854775808 ≤ x
          · have HN : Hid (nextN x = x - 1) := by show _ = _; unfold nextN; rw [if_neg (by omega), if_neg (by omega), if_pos h4]
            have hsh : (x : Int) / 9223372036854775808 = 1 := by omega
            clear h1
            go_enter Tryd.func9, Tryd.ntmps9
            go_wp2
            go_ret
            exact ⟨ret_fl (by rw [HN.out]), rfl⟩
          · have HN : Hid (nextN x = x + 1) := by show _ = _; unfold nextN; rw [if_neg (by omega), if_neg (by omega), if_neg h4]
            have hsh : (x : Int) / 9223372036854775808 = 0 := by omega
            clear h1
            go_enter Tryd.func9, Tryd.ntmps9
            go_wp2
            go_ret
            exact ⟨ret_fl (by rw [HN.out]), rfl⟩
end Go.Proofs.YtfnciidhifencaaDoor
