/- Zeros, and a float's text without a power of ten. -/
import Derived.Test.YtlhhnklncaakbaaDoorFa
import Derived.Lib.Strings
namespace Go.Proofs.YtlhhnklncaakbaaDoor
open Go.RowKit Go.Maps

set_option maxRecDepth 100000 in
theorem fu_any (u : Nat) (hu64 : u < 18446744073709551616) (w : World) (hp : Pow w) : Calls Tryd.prog 66 #[.int .u64 u, .int .i64 10] w fun e w' => e = .returned (.string ⟨(Lib.decDigits u).toArray⟩) ∧ Below w.heap.size w w' := by
  by_cases h : u < 100
  · exact fu_small u h w
  · have hs := fu_great u (by omega) hu64 w hp
    generalize Lib.decDigits u = D at *
    clear hp
    go_enter Tryd.func66, Tryd.ntmps66
    go_wp2_with (go_at_call 96; refine hs.mono ?_; clear hs; rintro e w1 ⟨rfl, hb1⟩; have HB1 : Hid (Below w.heap.size w w1) := hb1; clear hb1)
    go_ret
    exact ⟨rfl, HB1.out⟩
theorem hp_in (S : ByteArray) (R : Bool) (w : World) (h1 : 1 ≤ S.size) (h2 : S.size ≤ 1000) (h3 : ((S.data.toList.drop 0).take 1 == [48]) = R) : Calls Tryd.prog 127 #[.string S, .string ⟨#[48]⟩] w fun e w' => e = .returned (.bool R) ∧ w' = w := by
  go_enter Tryd.func127, Tryd.ntmps127
  go_wp2
  go_ret
  exact ⟨by rw [← h3, ← Lib.extract_toList S 0 1]; rfl, rfl⟩
theorem hp_any (S : ByteArray) (R : Bool) (w : World) (h1 : 1 ≤ S.size) (h2 : S.size ≤ 1000) (h3 : ((S.data.toList.drop 0).take 1 == [48]) = R) : Calls Tryd.prog 105 #[.string S, .string ⟨#[48]⟩] w fun e w' => e = .returned (.bool R) ∧ w' = w := by
  have hs := hp_in S R w h1 h2 h3
  clear h3
  go_enter Tryd.func105, Tryd.ntmps105
  go_wp2_with (go_at_call 127; refine hs.mono ?_; clear hs; rintro e w1 ⟨rfl, hw1⟩; have hw1 := hw1.symm; subst hw1)
  go_ret
  exact ⟨rfl, rfl⟩
theorem zeros_cut (n c : Nat) (hc : c ≤ n) : (⟨(List.replicate n (48 : UInt8)).toArray⟩ : ByteArray).extract 0 c = ⟨(List.replicate c 48).toArray⟩ := by
  apply ByteArray.ext
  rw [ByteArray.data_extract]
  apply Array.ext'
  rw [Array.toList_extract]
  simp [List.extract, List.take_replicate, Nat.min_eq_left hc]
def Z64 : ByteArray := ⟨(List.replicate 64 48).toArray⟩

set_option maxRecDepth 100000 in
set_option maxHeartbeats 1000000 in
theorem repeat_more (c : Nat) (h2 : 2 ≤ c) (hc : c ≤ 60) (w : World) : Calls Tryd.prog 88 #[.string ⟨#[48]⟩, .int .i64 c] w fun e w' => e = .returned (.string ⟨(List.replicate c 48).toArray⟩) ∧ w' = w := by
  have hm0 := Any.bits_Mul Tryd.lays212 1 c (by decide) (by omega) w
  rw [Nat.one_mul, Nat.div_eq_of_lt (by omega), Nat.mod_eq_of_lt (by omega)] at hm0
  have hm : Calls Tryd.prog 104 #[.int .u64 1, .int .u64 c] w fun e w' => e = .returned (.tuple #[.int .u64 0, .int .u64 c]) ∧ w' = w := hm0
  have HH : Hid (∀ (S : ByteArray) (R : Bool), 1 ≤ S.size → S.size ≤ 1000 → ((S.data.toList.drop 0).take 1 == [48]) = R → Calls Tryd.prog 105 #[.string S, .string ⟨#[48]⟩] w fun e w' => e = .returned (.bool R) ∧ w' = w) := fun S R a b d => hp_any S R w a b d
  have HZ : Hid (Z64.extract 0 c = ⟨(List.replicate c 48).toArray⟩) := zeros_cut 64 c (by omega)
  clear hm0
  go_enter Tryd.func88, Tryd.ntmps88
  go_wp2_with (first
    | (go_at_call 104; refine hm.mono ?_; clear hm; rintro e w1 ⟨rfl, hw1⟩; have hw1 := hw1.symm; subst hw1)
    | (go_at_call 105; refine (HH.out _ false (by decide) (by decide) (by decide)).mono ?_; rintro e w1 ⟨rfl, hw1⟩; have hw1 := hw1.symm; subst hw1)
    | (go_at_call 105; refine (HH.out _ true (by decide) (by decide) (by decide)).mono ?_; rintro e w1 ⟨rfl, hw1⟩; have hw1 := hw1.symm; subst hw1))
  go_ret
  exact ⟨congrArg (fun b => Ending.returned (.string b)) ((congrArg (fun z : ByteArray => z.extract 0 c) (show _ = Z64 by kernel_rfl)).trans HZ.out), rfl⟩
end Go.Proofs.YtlhhnklncaakbaaDoor
