/- Which unit a name means. -/
import Derived.Test.YtmlcilalmhpmiaaDoorMGe
namespace Go.Proofs.YtmlcilalmhpmiaaDoor
open Go.RowKit Go.Maps

def unitV (l : List UInt8) : Int := match unitIx l with
  | none => -1
  | some j => j
theorem unitV_at {l : List UInt8} {k : Nat} (hk : k < 7) (h : nameU k = l) : unitV l = k := by
  unfold unitV
  rw [← h, unitIx_at hk]
theorem unitV_none {l : List UInt8} (h : ∀ j, j < 7 → nameU j ≠ l) : unitV l = -1 := by
  unfold unitV
  cases hx : unitIx l with
  | none => rfl
  | some j =>
    obtain ⟨h1, h2⟩ := unitIx_name hx
    exact absurd h2.symm (h j h1)
theorem not_more {l : List UInt8} {k : Nat} (h : ∀ j, j < k → nameU j ≠ l) (hk : nameU k ≠ l) : ∀ j, j < k + 1 → nameU j ≠ l := fun j hj => by
  rcases Nat.lt_succ_iff_lt_or_eq.1 hj with h1 | h1
  · exact h j h1
  · rw [h1]; exact hk

set_option maxRecDepth 100000 in
set_option maxHeartbeats 2000000 in
theorem unitAt_any (nm : ByteArray) (w : World) (hU : Units w) : Calls Tryd.prog 60 #[.string nm] w fun e w' => e = .returned (.int .i64 (unitV nm.data.toList)) ∧ Below w.heap.size w w' := by
  have htl : nm.toList = nm.data.toList := ByteArray.toList_eq nm
  obtain ⟨z0, z1, z2, z3, z4, z5, z6, z7, z8, z9, z10, z11, z12, z13, z14⟩ := hU
  have hz : ∀ h, (Tryd.prog.types[92]'h).size = 2 := fun _ => by kernel_rfl
  go_enter Tryd.func60, Tryd.ntmps60
  go_wp2
  go_loopw [6] (fun i wr => ∃ k : Nat, k ≤ 7 ∧ i = .int .i64 k ∧ Hid (∀ j, j < k → nameU j ≠ nm.data.toList) ∧ Hid (Below w.heap.size w wr)) (fun i _ => 7 - (intOf i).toNat)
  case atStart => exact ⟨0, by decide, rfl, fun j hj => absurd hj (Nat.not_lt_zero _), Below.refl _ _⟩
  case round =>
    clear z0 z1 z2 z3 z4 z5 z6 z7 z8 z9 z10 z11 z12 z13 z14
    obtain ⟨k, hk, rfl, HN, HBL⟩ := hrel
    rcases (show k = 0 ∨ k = 1 ∨ k = 2 ∨ k = 3 ∨ k = 4 ∨ k = 5 ∨ k = 6 ∨ k = 7 by omega) with rfl | rfl | rfl | rfl | rfl | rfl | rfl | rfl
    · have hix : ∀ W : World, (Instr.index 93 (.agg #[.string ⟨#[121]⟩, .int .i64 31536000000, .string ⟨#[119]⟩, .int .i64 604800000, .string ⟨#[100]⟩, .int .i64 86400000, .string ⟨#[104]⟩, .int .i64 3600000, .string ⟨#[109]⟩, .int .i64 60000, .string ⟨#[115]⟩, .int .i64 1000, .string ⟨#[109, 115]⟩, .int .i64 1]) (.int .i64 0)).run Tryd.prog W = .ok (.agg #[.string ⟨#[121]⟩, .int .i64 31536000000]) W := fun W => by kernel_rfl
      by_cases he : nm.data.toList = [121]
      · have HR : Hid (unitV nm.data.toList = 0) := unitV_at (k := 0) (by decide) he.symm
        have h1 : nm.toList = [121] := htl.trans he
        clear he htl
        go_wp2
        go_ret
        exact ⟨by rw [HR.out]; rfl, HBL.out.alloc HBL.out.size _⟩
      · have HN2 : Hid (∀ j, j < 1 → nameU j ≠ nm.data.toList) := not_more (k := 0) HN.out (fun e => he e.symm)
        have h1 : ([121] == nm.toList) = false := by rw [beq_eq_false_iff_ne, htl]; exact fun e => he e.symm
        have h2 : (nm.toList == [121]) = false := by rw [beq_eq_false_iff_ne, htl]; exact he
        have h3 : ¬ nm.toList = [121] := by rw [htl]; exact he
        have h4 : ¬ [121] = nm.toList := by rw [htl]; exact fun e => he e.symm
        clear he htl
        go_wp2
        go_roundw
        case rel => exact ⟨1, by decide, rfl, HN2.out, HBL.out.alloc HBL.out.size _⟩
        case measure => simp [intOf]
    · have hix : ∀ W : World, (Instr.index 93 (.agg #[.string ⟨#[121]⟩, .int .i64 31536000000, .string ⟨#[119]⟩, .int .i64 604800000, .string ⟨#[100]⟩, .int .i64 86400000, .string ⟨#[104]⟩, .int .i64 3600000, .string ⟨#[109]⟩, .int .i64 60000, .string ⟨#[115]⟩, .int .i64 1000, .string ⟨#[109, 115]⟩, .int .i64 1]) (.int .i64 1)).run Tryd.prog W = .ok (.agg #[.string ⟨#[119]⟩, .int .i64 604800000]) W := fun W => by kernel_rfl
      by_cases he : nm.data.toList = [119]
      · have HR : Hid (unitV nm.data.toList = 1) := unitV_at (k := 1) (by decide) he.symm
        have h1 : nm.toList = [119] := htl.trans he
        clear he htl
        go_wp2
        go_ret
        exact ⟨by rw [HR.out]; rfl, HBL.out.alloc HBL.out.size _⟩
      · have HN2 : Hid (∀ j, j < 2 → nameU j ≠ nm.data.toList) := not_more (k := 1) HN.out (fun e => he e.symm)
        have h1 : ([119] == nm.toList) = false := by rw [beq_eq_false_iff_ne, htl]; exact fun e => he e.symm
        have h2 : (nm.toList == [119]) = false := by rw [beq_eq_false_iff_ne, htl]; exact he
        have h3 : ¬ nm.toList = [119] := by rw [htl]; exact he
        have h4 : ¬ [119] = nm.toList := by rw [htl]; exact fun e => he e.symm
        clear he htl
        go_wp2
        go_roundw
        case rel => exact ⟨2, by decide, rfl, HN2.out, HBL.out.alloc HBL.out.size _⟩
        case measure => simp [intOf]
    · have hix : ∀ W : World, (Instr.index 93 (.agg #[.string ⟨#[121]⟩, .int .i64 31536000000, .string ⟨#[119]⟩, .int .i64 604800000, .string ⟨#[100]⟩, .int .i64 86400000, .string ⟨#[104]⟩, .int .i64 3600000, .string ⟨#[109]⟩, .int .i64 60000, .string ⟨#[115]⟩, .int .i64 1000, .string ⟨#[109, 115]⟩, .int .i64 1]) (.int .i64 2)).run Tryd.prog W = .ok (.agg #[.string ⟨#[100]⟩, .int .i64 86400000]) W := fun W => by kernel_rfl
      by_cases he : nm.data.toList = [100]
      · have HR : Hid (unitV nm.data.toList = 2) := unitV_at (k := 2) (by decide) he.symm
        have h1 : nm.toList = [100] := htl.trans he
        clear he htl
        go_wp2
        go_ret
        exact ⟨by rw [HR.out]; rfl, HBL.out.alloc HBL.out.size _⟩
      · have HN2 : Hid (∀ j, j < 3 → nameU j ≠ nm.data.toList) := not_more (k := 2) HN.out (fun e => he e.symm)
        have h1 : ([100] == nm.toList) = false := by rw [beq_eq_false_iff_ne, htl]; exact fun e => he e.symm
        have h2 : (nm.toList == [100]) = false := by rw [beq_eq_false_iff_ne, htl]; exact he
        have h3 : ¬ nm.toList = [100] := by rw [htl]; exact he
        have h4 : ¬ [100] = nm.toList := by rw [htl]; exact fun e => he e.symm
        clear he htl
        go_wp2
        go_roundw
        case rel => exact ⟨3, by decide, rfl, HN2.out, HBL.out.alloc HBL.out.size _⟩
        case measure => simp [intOf]
    · have hix : ∀ W : World, (Instr.index 93 (.agg #[.string ⟨#[121]⟩, .int .i64 31536000000, .string ⟨#[119]⟩, .int .i64 604800000, .string ⟨#[100]⟩, .int .i64 86400000, .string ⟨#[104]⟩, .int .i64 3600000, .string ⟨#[109]⟩, .int .i64 60000, .string ⟨#[115]⟩, .int .i64 1000, .string ⟨#[109, 115]⟩, .int .i64 1]) (.int .i64 3)).run Tryd.prog W = .ok (.agg #[.string ⟨#[104]⟩, .int .i64 3600000]) W := fun W => by kernel_rfl
      by_cases he : nm.data.toList = [104]
      · have HR : Hid (unitV nm.data.toList = 3) := unitV_at (k := 3) (by decide) he.symm
        have h1 : nm.toList = [104] := htl.trans he
        clear he htl
        go_wp2
        go_ret
        exact ⟨by rw [HR.out]; rfl, HBL.out.alloc HBL.out.size _⟩
      · have HN2 : Hid (∀ j, j < 4 → nameU j ≠ nm.data.toList) := not_more (k := 3) HN.out (fun e => he e.symm)
        have h1 : ([104] == nm.toList) = false := by rw [beq_eq_false_iff_ne, htl]; exact fun e => he e.symm
        have h2 : (nm.toList == [104]) = false := by rw [beq_eq_false_iff_ne, htl]; exact he
        have h3 : ¬ nm.toList = [104] := by rw [htl]; exact he
        have h4 : ¬ [104] = nm.toList := by rw [htl]; exact fun e => he e.symm
        clear he htl
        go_wp2
        go_roundw
        case rel => exact ⟨4, by decide, rfl, HN2.out, HBL.out.alloc HBL.out.size _⟩
        case measure => simp [intOf]
    · have hix : ∀ W : World, (Instr.index 93 (.agg #[.string ⟨#[121]⟩, .int .i64 31536000000, .string ⟨#[119]⟩, .int .i64 604800000, .string ⟨#[100]⟩, .int .i64 86400000, .string ⟨#[104]⟩, .int .i64 3600000, .string ⟨#[109]⟩, .int .i64 60000, .string ⟨#[115]⟩, .int .i64 1000, .string ⟨#[109, 115]⟩, .int .i64 1]) (.int .i64 4)).run Tryd.prog W = .ok (.agg #[.string ⟨#[109]⟩, .int .i64 60000]) W := fun W => by kernel_rfl
      by_cases he : nm.data.toList = [109]
      · have HR : Hid (unitV nm.data.toList = 4) := unitV_at (k := 4) (by decide) he.symm
        have h1 : nm.toList = [109] := htl.trans he
        clear he htl
        go_wp2
        go_ret
        exact ⟨by rw [HR.out]; rfl, HBL.out.alloc HBL.out.size _⟩
      · have HN2 : Hid (∀ j, j < 5 → nameU j ≠ nm.data.toList) := not_more (k := 4) HN.out (fun e => he e.symm)
        have h1 : ([109] == nm.toList) = false := by rw [beq_eq_false_iff_ne, htl]; exact fun e => he e.symm
        have h2 : (nm.toList == [109]) = false := by rw [beq_eq_false_iff_ne, htl]; exact he
        have h3 : ¬ nm.toList = [109] := by rw [htl]; exact he
        have h4 : ¬ [109] = nm.toList := by rw [htl]; exact fun e => he e.symm
        clear he htl
        go_wp2
        go_roundw
        case rel => exact ⟨5, by decide, rfl, HN2.out, HBL.out.alloc HBL.out.size _⟩
        case measure => simp [intOf]
    · have hix : ∀ W : World, (Instr.index 93 (.agg #[.string ⟨#[121]⟩, .int .i64 31536000000, .string ⟨#[119]⟩, .int .i64 604800000, .string ⟨#[100]⟩, .int .i64 86400000, .string ⟨#[104]⟩, .int .i64 3600000, .string ⟨#[109]⟩, .int .i64 60000, .string ⟨#[115]⟩, .int .i64 1000, .string ⟨#[109, 115]⟩, .int .i64 1]) (.int .i64 5)).run Tryd.prog W = .ok (.agg #[.string ⟨#[115]⟩, .int .i64 1000]) W := fun W => by kernel_rfl
      by_cases he : nm.data.toList = [115]
      · have HR : Hid (unitV nm.data.toList = 5) := unitV_at (k := 5) (by decide) he.symm
        have h1 : nm.toList = [115] := htl.trans he
        clear he htl
        go_wp2
        go_ret
        exact ⟨by rw [HR.out]; rfl, HBL.out.alloc HBL.out.size _⟩
      · have HN2 : Hid (∀ j, j < 6 → nameU j ≠ nm.data.toList) := not_more (k := 5) HN.out (fun e => he e.symm)
        have h1 : ([115] == nm.toList) = false := by rw [beq_eq_false_iff_ne, htl]; exact fun e => he e.symm
        have h2 : (nm.toList == [115]) = false := by rw [beq_eq_false_iff_ne, htl]; exact he
        have h3 : ¬ nm.toList = [115] := by rw [htl]; exact he
        have h4 : ¬ [115] = nm.toList := by rw [htl]; exact fun e => he e.symm
        clear he htl
        go_wp2
        go_roundw
        case rel => exact ⟨6, by decide, rfl, HN2.out, HBL.out.alloc HBL.out.size _⟩
        case measure => simp [intOf]
    · have hix : ∀ W : World, (Instr.index 93 (.agg #[.string ⟨#[121]⟩, .int .i64 31536000000, .string ⟨#[119]⟩, .int .i64 604800000, .string ⟨#[100]⟩, .int .i64 86400000, .string ⟨#[104]⟩, .int .i64 3600000, .string ⟨#[109]⟩, .int .i64 60000, .string ⟨#[115]⟩, .int .i64 1000, .string ⟨#[109, 115]⟩, .int .i64 1]) (.int .i64 6)).run Tryd.prog W = .ok (.agg #[.string ⟨#[109, 115]⟩, .int .i64 1]) W := fun W => by kernel_rfl
      by_cases he : nm.data.toList = [109, 115]
      · have HR : Hid (unitV nm.data.toList = 6) := unitV_at (k := 6) (by decide) he.symm
        have h1 : nm.toList = [109, 115] := htl.trans he
        clear he htl
        go_wp2
        go_ret
        exact ⟨by rw [HR.out]; rfl, HBL.out.alloc HBL.out.size _⟩
      · have HN2 : Hid (∀ j, j < 7 → nameU j ≠ nm.data.toList) := not_more (k := 6) HN.out (fun e => he e.symm)
        have h1 : ([109, 115] == nm.toList) = false := by rw [beq_eq_false_iff_ne, htl]; exact fun e => he e.symm
        have h2 : (nm.toList == [109, 115]) = false := by rw [beq_eq_false_iff_ne, htl]; exact he
        have h3 : ¬ nm.toList = [109, 115] := by rw [htl]; exact he
        have h4 : ¬ [109, 115] = nm.toList := by rw [htl]; exact fun e => he e.symm
        clear he htl
        go_wp2
        go_roundw
        case rel => exact ⟨7, by decide, rfl, HN2.out, HBL.out.alloc HBL.out.size _⟩
        case measure => simp [intOf]
    · have HR : Hid (unitV nm.data.toList = -1) := unitV_none HN.out
      go_wp2
      go_ret
      exact ⟨by rw [HR.out]; rfl, HBL.out⟩
end Go.Proofs.YtmlcilalmhpmiaaDoor
