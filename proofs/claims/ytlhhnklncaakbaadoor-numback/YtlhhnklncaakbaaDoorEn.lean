/- What comes in: the table of the powers of ten. -/
import Derived.Test.YtlhhnklncaakbaaDoorEc
import Derived.Test.YtlhhnklncaakbaaDoorEl
import Derived.SizedLaws
namespace Go.Proofs.YtlhhnklncaakbaaDoor
open Go.ChangeShapes Go.WideShapes Go.ChangeAt Go.RowKit

theorem pow_of {W : World} (h : laidMetH Tryd.prog Rows.numBackRow.laid W) : Pow W := by
  rw [MakeChecks.laidMetH_plain _ _ _ (by kernel_rfl)] at h
  have e1 : (Rows.laid_internal_strconv_uint64pow10 : DataW Unit) = Lib.tabData .u64 Lib.pow10Tab := by kernel_rfl
  have h3 := Lib.laidMet.reads h (n := "internal/strconv.uint64pow10") (d := Rows.laid_internal_strconv_uint64pow10) (.tail _ (.tail _ (.head _)))
  rw [e1] at h3
  obtain ⟨g, t, cs, fuel, p, hg, hty, hvar, hd⟩ := h3
  obtain rfl := Option.some.inj ((show Tryd.prog.globalNamed "internal/strconv.uint64pow10" = some 4 by kernel_rfl).symm.trans hg)
  obtain rfl := Option.some.inj ((show (Tryd.prog.globals[4]?).map (·.type) = some 165 by kernel_rfl).symm.trans hty)
  have hcs := Lib.cells_of_tab Tryd.underlying165 Tryd.underlying25 (by kernel_rfl) (by kernel_rfl) hd
  unfold Pow Lib.TabIs
  rw [hvar, ← hcs]
theorem laid2 {W : World} (h : laidMetH Tryd.prog Rows.numBackRow.laid W) : Units W ∧ Pow W := ⟨laid_of h, pow_of h⟩
end Go.Proofs.YtlhhnklncaakbaaDoor
