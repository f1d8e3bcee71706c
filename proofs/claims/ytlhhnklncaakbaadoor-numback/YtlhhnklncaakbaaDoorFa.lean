/- Whole numbers written, and zeros. -/
import Derived.Test.YtlhhnklncaakbaaDoorEl
import Derived.Test.YtlhhnklncaakbaaDoorSr
namespace Go.Proofs.YtlhhnklncaakbaaDoor
open Go.RowKit Go.Maps Go.Sort

set_option maxRecDepth 100000 in
set_option maxHeartbeats 1000000 in
theorem fu_great (u : Nat) (hu : 100 ≤ u) (hu64 : u < 18446744073709551616) (w : World) (hp : Pow w) : Calls Tryd.prog 96 #[.int .u64 u, .int .i64 10] w fun e w' => e = .returned (.string ⟨(Lib.decDigits u).toArray⟩) ∧ Below w.heap.size w w' := by
  have hu1 : 1 ≤ u := by omega
  have hnd20 : Lib.nDigits u ≤ 20 := by have := Lib.numDigits_eq u hu1 hu64; split at this <;> omega
  have hal : Tryd.prog.arrayLen 146 = 24 := by kernel_rfl
  have hsl : ∀ W, (Instr.sliceAt 146 (.pointer (some ⟨w.heap.size, 0, none⟩)) none (some (.int .i64 (Lib.nDigits u : Int))) none).run Tryd.prog W = .ok (.slice (some ⟨w.heap.size, 0, none⟩) (Lib.nDigits u) 24) W := fun W => by
    rw [run_sliceAt_array_h W 146 ⟨w.heap.size, 0, none⟩ Tryd.underlying146 .i64 (Lib.nDigits u : Int) (by omega) (by rw [hal]; omega)]
    go_simp
  have hH0 := Lib.holds_zero0 w 146 (Lib.nDigits u) (by omega)
  have hfmt0 := Any.internal_strconv_formatBase10 Tryd.lays285 w.heap.size 0 24 u (Array.replicate (Lib.nDigits u) 0) (w.alloc (.cells Lib.zeros24 146)) hH0 (by rw [Array.size_replicate]; exact Lib.lt_pow_nDigits u) hu64 (by rw [Array.size_replicate]; omega)
  rw [Array.size_replicate] at hfmt0
  have hnd0 := Any.internal_strconv_numDigits Tryd.lays284 u hu1 hu64 (w.alloc (.cells Lib.zeros24 146)) (Lib.tabIs_alloc hp _)
  have hnd : Calls Tryd.prog 117 #[.int .u64 u] (w.alloc (.cells Lib.zeros24 146)) fun e w' => e = .returned (.int .i64 (Lib.nDigits u)) ∧ w' = w.alloc (.cells Lib.zeros24 146) := hnd0
  have hfm : Calls Tryd.prog 118 #[.slice (some ⟨w.heap.size, 0, none⟩) (Lib.nDigits u) 24, .int .u64 u] (w.alloc (.cells Lib.zeros24 146)) fun e w' => e = .returned (.tuple #[]) ∧ (convert 56 9 (.slice (some ⟨w.heap.size, 0, none⟩) (Lib.nDigits u) 24)).run Tryd.prog w' = .ok (.string ⟨(Lib.decDigits u).toArray⟩) w' ∧ Below w.heap.size w w' := Calls.mono hfmt0 (by
    rintro e w' ⟨rfl, k, v', dk, rfl, hF⟩
    refine ⟨rfl, ?_, ?_⟩
    · have h := run_convert_bytes_back (P := Tryd.prog) ((putRow (fun (b : UInt8) => Value.int .u8 (b.toNat : Int)) (w.alloc (.cells Lib.zeros24 146)) w.heap.size 0 dk).drewN k) 56 9 5 ⟨w.heap.size, 0, none⟩ 24 (Lib.decDigits u) Tryd.underlying56 Tryd.underlying5 Tryd.underlying9 (fun j hj => by
        rw [Lib.row_is_numeral hF j hj, Lib.add_plain, World.cell?_drewN]
        exact cell?_putRow (fun (b : UInt8) => Value.int .u8 (b.toNat : Int)) _ w.heap.size 0 _ dk hH0 (by rw [hF.size, Array.size_replicate]) j (by rw [hF.size]; rw [Lib.decDigits_length] at hj; exact hj))
      rw [Lib.decDigits_length] at h
      exact h
    · obtain ⟨os, eo⟩ := Lib.fin_at w (.cells Lib.zeros24 146) dk k 0
      rw [eo]
      exact Lib.below_grow _ _ (Nat.le_refl _) k os)
  clear hal hH0 hfmt0 hnd0 hp
  generalize Lib.nDigits u = nd at *
  generalize Lib.decDigits u = D at *
  unfold Lib.zeros24 at hnd hfm
  go_enter Tryd.func96, Tryd.ntmps96
  go_wp2_with (first
    | (go_at_call 117; refine hnd.mono ?_; clear hnd; rintro e w1 ⟨rfl, hw1⟩; subst hw1)
    | (go_at_call 118; refine hfm.mono ?_; clear hfm; rintro e w2 ⟨rfl, hcv, hb⟩; have HB : Hid (Below w.heap.size w w2) := hb; clear hb))
  go_ret
  exact ⟨rfl, HB.out⟩
end Go.Proofs.YtlhhnklncaakbaaDoor
