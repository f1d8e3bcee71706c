/- Texts that belong together. -/
import Derived.Test.YtmlcilalmhpmiaaDoorMEl
import Derived.Test.YtmlcilalmhpmiaaDoorSr
import Derived.Lib.Strings
/- Whole numbers written, and zeros. -/
namespace Go.Proofs.YtmlcilalmhpmiaaDoor
open Go.RowKit Go.Maps Go.Sort

set_option maxRecDepth 100000 in
set_option maxHeartbeats 1000000 in
theorem fu_great (u : Nat) (hu : 100 ≤ u) (hu64 : u < 18446744073709551616) (w : World) (hp : Pow w) : Calls Tryd.prog 95 #[.int .u64 u, .int .i64 10] w fun e w' => e = .returned (.string ⟨(Lib.decDigits u).toArray⟩) ∧ Below w.heap.size w w' := by
  have hu1 : 1 ≤ u := by omega
  have hnd20 : Lib.nDigits u ≤ 20 := by have := Lib.numDigits_eq u hu1 hu64; split at this <;> omega
  have hal : Tryd.prog.arrayLen 146 = 24 := by kernel_rfl
  have hsl : ∀ W, (Instr.sliceAt 146 (.pointer (some ⟨w.heap.size, 0, none⟩)) none (some (.int .i64 (Lib.nDigits u : Int))) none).run Tryd.prog W = .ok (.slice (some ⟨w.heap.size, 0, none⟩) (Lib.nDigits u) 24) W := fun W => by
    rw [run_sliceAt_array_h W 146 ⟨w.heap.size, 0, none⟩ Tryd.underlying146 .i64 (Lib.nDigits u : Int) (by omega) (by rw [hal]; omega)]
    go_simp
  have hH0 := Lib.holds_zero0 w 146 (Lib.nDigits u) (by omega)
  have hfmt0 := Any.internal_strconv_formatBase10 Tryd.lays285 w.heap.size 0 24 u (Array.replicate (Lib.nDigits u) 0) (w.alloc (.cells Lib.zeros24 146)) hH0 (by rw [Array.size_replicate]; exact Lib.lt_pow_nDigits u) hu64 (by rw [Array.size_replicate]; omega)
  rw [Array.size_replicate] at hfmt0
  have hnd0 := Any.internal_strconv_numDigits Tryd.lays284 u hu1 hu64 (w.alloc (.cells Lib.zeros24 146)) (Lib.tabIs_alloc hp _)
  have hnd : Calls Tryd.prog 116 #[.int .u64 u] (w.alloc (.cells Lib.zeros24 146)) fun e w' => e = .returned (.int .i64 (Lib.nDigits u)) ∧ w' = w.alloc (.cells Lib.zeros24 146) := hnd0
  have hfm : Calls Tryd.prog 117 #[.slice (some ⟨w.heap.size, 0, none⟩) (Lib.nDigits u) 24, .int .u64 u] (w.alloc (.cells Lib.zeros24 146)) fun e w' => e = .returned (.tuple #[]) ∧ (convert 56 9 (.slice (some ⟨w.heap.size, 0, none⟩) (Lib.nDigits u) 24)).run Tryd.prog w' = .ok (.string ⟨(Lib.decDigits u).toArray⟩) w' ∧ Below w.heap.size w w' := Calls.mono hfmt0 (by
    rintro e w' ⟨rfl, k, v', dk, rfl, hF⟩
    refine ⟨rfl, ?_, ?_⟩
    · have h := run_convert_bytes_back (P := Tryd.prog) ((putRow (fun (b : UInt8) => Value.int .u8 (b.toNat : Int)) (w.alloc (.cells Lib.zeros24 146)) w.heap.size 0 dk).drewN k) 56 9 5 ⟨w.heap.size, 0, none⟩ 24 (Lib.decDigits u) Tryd.underlying56 Tryd.underlying5 Tryd.underlying9 (fun j hj => by
        rw [Lib.row_is_numeral hF j hj, Lib.add_plain, World.cell?_drewN]
        exact cell?_putRow (fun (b : UInt8) => Value.int .u8 (b.toNat : Int)) _ w.heap.size 0 _ dk hH0 (by rw [hF.size, Array.size_replicate]) j (by rw [hF.size]; rw [Lib.decDigits_length] at hj; exact hj))
      rw [Lib.decDigits_length] at h
      exact h
    · obtain ⟨os, eo⟩ := Lib.fin_at w (.cells Lib.zeros24 146) dk k 0
      rw [eo]
      exact Lib.below_grow _ _ (Nat.le_refl _) k os)
  clear hal hH0 hfmt0 hnd0 hp
  generalize Lib.nDigits u = nd at *
  generalize Lib.decDigits u = D at *
  unfold Lib.zeros24 at hnd hfm
  go_enter Tryd.func95, Tryd.ntmps95
  go_wp2_with (first
    | (go_at_call 116; refine hnd.mono ?_; clear hnd; rintro e w1 ⟨rfl, hw1⟩; subst hw1)
    | (go_at_call 117; refine hfm.mono ?_; clear hfm; rintro e w2 ⟨rfl, hcv, hb⟩; have HB : Hid (Below w.heap.size w w2) := hb; clear hb))
  go_ret
  exact ⟨rfl, HB.out⟩
end Go.Proofs.YtmlcilalmhpmiaaDoor

/- Zeros, and a float's text without a power of ten. -/
namespace Go.Proofs.YtmlcilalmhpmiaaDoor
open Go.RowKit Go.Maps

set_option maxRecDepth 100000 in
theorem fu_any (u : Nat) (hu64 : u < 18446744073709551616) (w : World) (hp : Pow w) : Calls Tryd.prog 65 #[.int .u64 u, .int .i64 10] w fun e w' => e = .returned (.string ⟨(Lib.decDigits u).toArray⟩) ∧ Below w.heap.size w w' := by
  by_cases h : u < 100
  · exact fu_small u h w
  · have hs := fu_great u (by omega) hu64 w hp
    generalize Lib.decDigits u = D at *
    clear hp
    go_enter Tryd.func65, Tryd.ntmps65
    go_wp2_with (go_at_call 95; refine hs.mono ?_; clear hs; rintro e w1 ⟨rfl, hb1⟩; have HB1 : Hid (Below w.heap.size w w1) := hb1; clear hb1)
    go_ret
    exact ⟨rfl, HB1.out⟩
theorem hp_in (S : ByteArray) (R : Bool) (w : World) (h1 : 1 ≤ S.size) (h2 : S.size ≤ 1000) (h3 : ((S.data.toList.drop 0).take 1 == [48]) = R) : Calls Tryd.prog 126 #[.string S, .string ⟨#[48]⟩] w fun e w' => e = .returned (.bool R) ∧ w' = w := by
  go_enter Tryd.func126, Tryd.ntmps126
  go_wp2
  go_ret
  exact ⟨by rw [← h3, ← Lib.extract_toList S 0 1]; rfl, rfl⟩
theorem hp_any (S : ByteArray) (R : Bool) (w : World) (h1 : 1 ≤ S.size) (h2 : S.size ≤ 1000) (h3 : ((S.data.toList.drop 0).take 1 == [48]) = R) : Calls Tryd.prog 104 #[.string S, .string ⟨#[48]⟩] w fun e w' => e = .returned (.bool R) ∧ w' = w := by
  have hs := hp_in S R w h1 h2 h3
  clear h3
  go_enter Tryd.func104, Tryd.ntmps104
  go_wp2_with (go_at_call 126; refine hs.mono ?_; clear hs; rintro e w1 ⟨rfl, hw1⟩; have hw1 := hw1.symm; subst hw1)
  go_ret
  exact ⟨rfl, rfl⟩
theorem zeros_cut (n c : Nat) (hc : c ≤ n) : (⟨(List.replicate n (48 : UInt8)).toArray⟩ : ByteArray).extract 0 c = ⟨(List.replicate c 48).toArray⟩ := by
  apply ByteArray.ext
  rw [ByteArray.data_extract]
  apply Array.ext'
  rw [Array.toList_extract]
  simp [List.extract, List.take_replicate, Nat.min_eq_left hc]
def Z64 : ByteArray := ⟨(List.replicate 64 48).toArray⟩

set_option maxRecDepth 100000 in
set_option maxHeartbeats 1000000 in
theorem repeat_more (c : Nat) (h2 : 2 ≤ c) (hc : c ≤ 60) (w : World) : Calls Tryd.prog 87 #[.string ⟨#[48]⟩, .int .i64 c] w fun e w' => e = .returned (.string ⟨(List.replicate c 48).toArray⟩) ∧ w' = w := by
  have hm0 := Any.bits_Mul Tryd.lays212 1 c (by decide) (by omega) w
  rw [Nat.one_mul, Nat.div_eq_of_lt (by omega), Nat.mod_eq_of_lt (by omega)] at hm0
  have hm : Calls Tryd.prog 103 #[.int .u64 1, .int .u64 c] w fun e w' => e = .returned (.tuple #[.int .u64 0, .int .u64 c]) ∧ w' = w := hm0
  have HH : Hid (∀ (S : ByteArray) (R : Bool), 1 ≤ S.size → S.size ≤ 1000 → ((S.data.toList.drop 0).take 1 == [48]) = R → Calls Tryd.prog 104 #[.string S, .string ⟨#[48]⟩] w fun e w' => e = .returned (.bool R) ∧ w' = w) := fun S R a b d => hp_any S R w a b d
  have HZ : Hid (Z64.extract 0 c = ⟨(List.replicate c 48).toArray⟩) := zeros_cut 64 c (by omega)
  clear hm0
  go_enter Tryd.func87, Tryd.ntmps87
  go_wp2_with (first
    | (go_at_call 103; refine hm.mono ?_; clear hm; rintro e w1 ⟨rfl, hw1⟩; have hw1 := hw1.symm; subst hw1)
    | (go_at_call 104; refine (HH.out _ false (by decide) (by decide) (by decide)).mono ?_; rintro e w1 ⟨rfl, hw1⟩; have hw1 := hw1.symm; subst hw1)
    | (go_at_call 104; refine (HH.out _ true (by decide) (by decide) (by decide)).mono ?_; rintro e w1 ⟨rfl, hw1⟩; have hw1 := hw1.symm; subst hw1))
  go_ret
  exact ⟨congrArg (fun b => Ending.returned (.string b)) ((congrArg (fun z : ByteArray => z.extract 0 c) (show _ = Z64 by kernel_rfl)).trans HZ.out), rfl⟩
end Go.Proofs.YtmlcilalmhpmiaaDoor

/- Durations as texts, every number. -/
namespace Go.Proofs.YtmlcilalmhpmiaaDoor
open Go.RowKit Go.Maps

theorem durK_le (n : Nat) : ∀ k, (durK n k).2 ≤ n
  | 0 => by simp [durK]
  | k + 1 => by
    rcases Nat.lt_or_ge k 7 with h | h
    · obtain ⟨u, hu⟩ : ∃ u, unitsL[k]? = some u := ⟨unitsL[k]'h, List.getElem?_eq_getElem h⟩
      rw [durK_succ n k h u hu]
      exact Nat.le_trans (Nat.mod_le _ _) (durK_le n k)
    · have e : durK n (k + 1) = durK n k := by
        unfold durK
        rw [List.take_of_length_le (show unitsL.length ≤ k + 1 by simp [unitsL]; omega), List.take_of_length_le (show unitsL.length ≤ k by simp [unitsL]; omega)]
      rw [e]
      exact durK_le n k
/-- A duration's text. -/
def durT (ms : Int) : List UInt8 := if ms = 0 then [48, 115] else if ms < 0 then [45] ++ (durK ms.natAbs 7).1 else [] ++ (durK ms.natAbs 7).1

set_option maxRecDepth 100000 in
theorem durZero (w : World) : Calls Tryd.prog 27 #[.int .i64 0] w fun e w' => e = .returned (.string ⟨([48, 115] : List UInt8).toArray⟩) ∧ Below w.heap.size w w' := by
  go_enter Tryd.func27, Tryd.ntmps27
  go_wp2
  go_ret
  exact ⟨rfl, Below.refl _ _⟩
theorem durText_any (ms : Int) (w : World) (h1 : -9223372036854775808 ≤ ms) (h2 : ms ≤ 9223372036854775807) (hU : Units w) (hp : Pow w) : Calls Tryd.prog 27 #[.int .i64 ms] w fun e w' => e = .returned (.string ⟨(durT ms).toArray⟩) ∧ Below w.heap.size w w' := by
  have HFU : Hid (∀ i : Nat, i < 18446744073709551616 → ∀ W : World, Below w.heap.size w W → Calls Tryd.prog 65 #[.int .u64 i, .int .i64 10] W fun e w' => e = .returned (.string ⟨(Lib.decDigits i).toArray⟩) ∧ Below W.heap.size W w') := fun i hi W hb => fu_any i hi W (hp.below hb)
  have HLIM : Hid (∀ k u, unitsL[k]? = some u → (durK ms.natAbs k).2 / u.2 < 18446744073709551616) := fun k u _ => by
    have q1 := durK_le ms.natAbs k
    have q2 : (durK ms.natAbs k).2 / u.2 ≤ (durK ms.natAbs k).2 := Nat.div_le_self _ _
    omega
  unfold durT
  by_cases h0 : ms = 0
  · rw [if_pos h0, h0]
    exact durZero w
  · rw [if_neg h0]
    by_cases hneg : ms < 0
    · rw [if_pos hneg]
      exact dur_neg ms ms.natAbs 18446744073709551616 w (by omega) hU HFU HLIM hneg rfl h1 h2
    · rw [if_neg hneg]
      exact dur_pos ms ms.natAbs 18446744073709551616 w (by omega) hU HFU HLIM (by omega) rfl h1 h2
end Go.Proofs.YtmlcilalmhpmiaaDoor
