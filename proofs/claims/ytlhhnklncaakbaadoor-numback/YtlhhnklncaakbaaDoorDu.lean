/- Durations as texts. -/
import Derived.Test.YtlhhnklncaakbaaDoorDt
namespace Go.Proofs.YtlhhnklncaakbaaDoor
open Go.RowKit Go.Maps

set_option maxRecDepth 100000 in
theorem fu_inner (i : Nat) (hi : i < 100) (w : World) : Calls Tryd.prog 96 #[.int .u64 i, .int .i64 10] w fun e w' => e = .returned (.string ⟨(Lib.decDigits i).toArray⟩) ∧ w' = w := by
  have hs := Any.internal_strconv_small Tryd.lays283 i hi w
  have hs : Calls Tryd.prog 116 #[.int .i64 i] w fun e w' => e = .returned (.string ⟨(Lib.decDigits i).toArray⟩) ∧ w' = w := hs
  generalize Lib.decDigits i = D at *
  go_enter Tryd.func96, Tryd.ntmps96
  go_wp2_with (go_at_call 116; refine hs.mono ?_; clear hs; rintro e w1 ⟨rfl, hw1⟩; have hw1 := hw1.symm; subst hw1)
  go_ret
  exact ⟨rfl, rfl⟩
set_option maxRecDepth 100000 in
theorem fu_small (i : Nat) (hi : i < 100) (w : World) : Calls Tryd.prog 66 #[.int .u64 i, .int .i64 10] w fun e w' => e = .returned (.string ⟨(Lib.decDigits i).toArray⟩) ∧ Below w.heap.size w w' := by
  have hs := fu_inner i hi w
  generalize Lib.decDigits i = D at *
  go_enter Tryd.func66, Tryd.ntmps66
  go_wp2_with (go_at_call 96; refine hs.mono ?_; clear hs; rintro e w1 ⟨rfl, hw1⟩; have hw1 := hw1.symm; subst hw1)
  go_ret
  exact ⟨rfl, Below.refl _ _⟩

/-- The units of durations, as the program lays them. -/
def unitsL : List (List UInt8 × Nat) := [([121], 31536000000), ([119], 604800000), ([100], 86400000), ([104], 3600000), ([109], 60000), ([115], 1000), ([109, 115], 1)]
def Units (w : World) : Prop := w.cell? ⟨1, 0, none⟩ = some (.string ⟨#[121]⟩) ∧ w.cell? ⟨1, 1, none⟩ = some (.int .i64 31536000000) ∧ w.cell? ⟨1, 2, none⟩ = some (.string ⟨#[119]⟩) ∧ w.cell? ⟨1, 3, none⟩ = some (.int .i64 604800000) ∧ w.cell? ⟨1, 4, none⟩ = some (.string ⟨#[100]⟩) ∧ w.cell? ⟨1, 5, none⟩ = some (.int .i64 86400000) ∧ w.cell? ⟨1, 6, none⟩ = some (.string ⟨#[104]⟩) ∧ w.cell? ⟨1, 7, none⟩ = some (.int .i64 3600000) ∧ w.cell? ⟨1, 8, none⟩ = some (.string ⟨#[109]⟩) ∧ w.cell? ⟨1, 9, none⟩ = some (.int .i64 60000) ∧ w.cell? ⟨1, 10, none⟩ = some (.string ⟨#[115]⟩) ∧ w.cell? ⟨1, 11, none⟩ = some (.int .i64 1000) ∧ w.cell? ⟨1, 12, none⟩ = some (.string ⟨#[109, 115]⟩) ∧ w.cell? ⟨1, 13, none⟩ = some (.int .i64 1) ∧ 1 < w.heap.size
theorem Units.below {w w' : World} (h : Units w) (hb : Below w.heap.size w w') : Units w' := by
  have hs := hb.size
  obtain ⟨h0, h1, h2, h3, h4, h5, h6, h7, h8, h9, h10, h11, h12, h13, hl⟩ := h
  exact ⟨(hb.cell (p := ⟨1, 0, none⟩) hl).trans h0, (hb.cell (p := ⟨1, 1, none⟩) hl).trans h1, (hb.cell (p := ⟨1, 2, none⟩) hl).trans h2, (hb.cell (p := ⟨1, 3, none⟩) hl).trans h3, (hb.cell (p := ⟨1, 4, none⟩) hl).trans h4, (hb.cell (p := ⟨1, 5, none⟩) hl).trans h5, (hb.cell (p := ⟨1, 6, none⟩) hl).trans h6, (hb.cell (p := ⟨1, 7, none⟩) hl).trans h7, (hb.cell (p := ⟨1, 8, none⟩) hl).trans h8, (hb.cell (p := ⟨1, 9, none⟩) hl).trans h9, (hb.cell (p := ⟨1, 10, none⟩) hl).trans h10, (hb.cell (p := ⟨1, 11, none⟩) hl).trans h11, (hb.cell (p := ⟨1, 12, none⟩) hl).trans h12, (hb.cell (p := ⟨1, 13, none⟩) hl).trans h13, by omega⟩
/-- The parts of a duration, the first ones. -/
def durS (u : List UInt8 × Nat) (s : List UInt8 × Nat) : List UInt8 × Nat := (s.1 ++ (if 0 < s.2 / u.2 then Lib.decDigits (s.2 / u.2) ++ u.1 else []), s.2 % u.2)
def durK (n : Nat) (k : Nat) : List UInt8 × Nat := (unitsL.take k).foldl (fun s u => durS u s) ([], n)
theorem durK_succ (n k : Nat) (hk : k < 7) (u : List UInt8 × Nat) (hu : unitsL[k]? = some u) : durK n (k + 1) = durS u (durK n k) := by
  unfold durK
  have h1 : k < unitsL.length := hk
  rw [List.take_succ_eq_append_getElem h1, List.foldl_append]
  have h2 : unitsL[k] = u := by
    rw [List.getElem?_eq_getElem h1] at hu
    exact Option.some.inj hu
  rw [h2]
  rfl
end Go.Proofs.YtlhhnklncaakbaaDoor
