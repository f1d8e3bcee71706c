/- What comes in: samples; the program's two variables. -/
import Derived.Test.YtkmclgbiedbfpaaDoorKl
import Derived.Test.YtkmclgbiedbfpaaDoorRows
import Derived.Deep.Slices
import Derived.Deep.Strs
import Derived.ProofKit
import Derived.Lib.LaidU8T
import Derived.Lib.LaidIn
import Derived.MakeChecks
namespace Go.Proofs.YtkmclgbiedbfpaaDoor
open Go.ChangeShapes Go.WideShapes Go.ChangeAt Go.RowKit
open Go.Deep (open_slice choose_lt)

theorem own : ownKnob Tryd.prog.godebug = none := by kernel_rfl
theorem laidOut : laidOutB Tryd.prog = true := by kernel_rfl
theorem cells3 : Tryd.prog.cellsOf 3 = 1 := by kernel_rfl
theorem cellsF : Tryd.prog.cellsOf 33 = 1 := by kernel_rfl
theorem cellsSm : Tryd.prog.cellsOf 35 = 2 := by kernel_rfl
def brTab : List Int := Lib.deBruijn64tab.map fun (n : Nat) => (n : Int)

/-- What the row's list gives. -/
theorem laid_of {W : World} (h : laidMetH Tryd.prog Rows.chunkBackRow.laid W) : Laid W W.heap.size := by
  rw [MakeChecks.laidMetH_plain _ _ _ (by kernel_rfl)] at h
  have e1 : (Rows.laid_math_bits_deBruijn64tab : DataW Unit) = Lib.tabData .u8 brTab := by kernel_rfl
  have e2 : (Rows.laid_vigil_chunk_steps : DataW Unit) = Lib.tabData .i64 [7, 9, 12] := by kernel_rfl
  have h3 := Lib.laidMet.reads h (.head _)
  have h4 := Lib.laidMet.reads h (.tail _ (.head _))
  rw [e1] at h3
  rw [e2] at h4
  have hT : Tab W := by
    obtain ⟨g, t, cs, fuel, p, hg, hty, hvar, hd⟩ := h3
    obtain rfl := Option.some.inj ((show Tryd.prog.globalNamed "math/bits.deBruijn64tab" = some (Tryd.lays29_ren.g 1) by kernel_rfl).symm.trans hg)
    obtain rfl := Option.some.inj ((show (Tryd.prog.globals[Tryd.lays29_ren.g 1]?).map (·.type) = some 99 by kernel_rfl).symm.trans hty)
    have hcs := Lib.cells_of_tab Tryd.underlying99 Tryd.underlying5 (by kernel_rfl) (by kernel_rfl) hd
    intro j hj
    rw [World.var?_cell hg hvar j, ← Array.getElem?_toList, hcs]
    simp [brTab, List.getD, hj]
  have hS : Steps W := by
    obtain ⟨g, t, cs, fuel, p, hg, hty, hvar, hd⟩ := h4
    obtain rfl := Option.some.inj ((show Tryd.prog.globalNamed "vigil/chunk.steps" = some 1 by kernel_rfl).symm.trans hg)
    obtain rfl := Option.some.inj ((show (Tryd.prog.globals[1]?).map (·.type) = some 86 by kernel_rfl).symm.trans hty)
    have hcs := Lib.cells_of_tab Tryd.underlying86 Tryd.underlying3 (by kernel_rfl) (by kernel_rfl) hd
    refine ⟨?_, ?_, ?_⟩
    · rw [World.var?_cell hg hvar 0, ← Array.getElem?_toList, hcs]; rfl
    · rw [World.var?_cell hg hvar 1, ← Array.getElem?_toList, hcs]; rfl
    · rw [World.var?_cell hg hvar 2, ← Array.getElem?_toList, hcs]; rfl
  exact ⟨hT, hS, cell_lt hS.1, hT.lt⟩
theorem sg_back {n : Int} (h1 : -9223372036854775808 ≤ n) (h2 : n ≤ 9223372036854775807) : sg (UInt64.ofNat (n % 18446744073709551616).toNat) = n := by
  have e : (UInt64.ofNat (n % 18446744073709551616).toNat).toNat = (n % 18446744073709551616).toNat := by rw [UInt64.toNat_ofNat']; omega
  unfold sg
  rw [e]
  split <;> omega

end Go.Proofs.YtkmclgbiedbfpaaDoor
