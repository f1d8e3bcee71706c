/- What comes in: bytes; the table of the powers of ten. -/
import Derived.Test.YtlhhnklncaakbabDoorEc
import Derived.Test.YtlhhnklncaakbabDoorEe
import Derived.SizedLaws
namespace Go.Proofs.YtlhhnklncaakbabDoor
open Go.ChangeShapes Go.WideShapes Go.ChangeAt Go.RowKit

theorem pow_of {W : World} (h : laidMetH Tryd.prog Rows.numNextRow.laid W) : Pow W := by
  rw [MakeChecks.laidMetH_plain _ _ _ (by kernel_rfl)] at h
  have e1 : (Rows.laid_internal_strconv_uint64pow10 : DataW Unit) = Lib.tabData .u64 Lib.pow10Tab := by kernel_rfl
  have h3 := Lib.laidMet.reads h (n := "internal/strconv.uint64pow10") (d := Rows.laid_internal_strconv_uint64pow10) (.tail _ (.tail _ (.head _)))
  rw [e1] at h3
  obtain ⟨g, t, cs, fuel, p, hg, hty, hvar, hd⟩ := h3
  obtain rfl := Option.some.inj ((show Tryd.prog.globalNamed "internal/strconv.uint64pow10" = some 2 by kernel_rfl).symm.trans hg)
  obtain rfl := Option.some.inj ((show (Tryd.prog.globals[2]?).map (·.type) = some 113 by kernel_rfl).symm.trans hty)
  have hcs := Lib.cells_of_tab Tryd.underlying113 Tryd.underlying22 (by kernel_rfl) (by kernel_rfl) hd
  unfold Pow Lib.TabIs
  rw [hvar, ← hcs]
theorem laid2 {W : World} (h : laidMetH Tryd.prog Rows.numNextRow.laid W) : Units W ∧ Pow W := ⟨laid_of h, pow_of h⟩
theorem u8_wf {n : Int} (h : (Lit.int .u8 n).wf = true) : ((UInt8.ofNat n.toNat).toNat : Int) = n := by
  have := bounds_u8 h
  rw [UInt8.toNat_ofNat']
  omega
section
variable {H : Type} {enc : TypeId × Value → H} {w : World}
/-- A slice of bytes. -/
theorem bytes_came {a : Option Addr} {len cap : Nat} {d : DataW H} {p : List MemPlace} (h : DataW.Trod enc Tryd.prog w 0 (fun _ => true) true 39 (.slice a len cap) d p) :
    ∃ bs : List UInt8, BAt w (.slice a len cap) bs := by
  obtain ⟨fuel, hf⟩ := h
  rcases open_ints Tryd.underlying39 Tryd.underlying5 (by kernel_rfl) hf with ⟨hcs, _⟩ | ⟨x, l, cap', zs, hcs, _, hl, hm, hz, _, hcell, hwz⟩
  · simp [Value.cells] at hcs
    obtain ⟨rfl, rfl, rfl⟩ := hcs
    exact ⟨[], none, 0, rfl, ⟨Nat.zero_le _, Nat.zero_le _⟩, fun k hk => by simp at hk⟩
  · simp [Value.cells] at hcs
    obtain ⟨rfl, rfl, rfl⟩ := hcs
    simp only [if_true] at hz
    have hlen : ((zs.take len).map fun n => UInt8.ofNat n.toNat).length = len := by simp; omega
    refine ⟨(zs.take len).map fun n => UInt8.ofNat n.toNat, some x, cap, by rw [hlen], ⟨by omega, hm⟩, fun k hk => ?_⟩
    have hk' : k < len := by omega
    obtain ⟨b, off, spot⟩ := x
    have hspot : spot = none := by simpa [Addr.add] using World.cell?_spot (hcell 0 (by omega))
    subst hspot
    have hkc := hcell k (by omega)
    rw [add_plain] at hkc
    have hzk : zs.getD k 0 ∈ zs := by
      have : k < zs.length := by omega
      simp [List.getD, this]
    have e : (((zs.take len).map fun n => UInt8.ofNat n.toNat)[k].toNat : Int) = zs.getD k 0 := by
      have hkz : k < zs.length := by omega
      have h9 := u8_wf (hwz _ hzk)
      simpa [List.getD, hkz] using h9
    exact ⟨b, off, rfl, World.block_lt_of_cell? w _ hkc, by rw [e]; exact hkc⟩
end
end Go.Proofs.YtlhhnklncaakbabDoor
