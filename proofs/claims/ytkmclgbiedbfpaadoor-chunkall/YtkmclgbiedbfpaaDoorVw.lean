/- What comes in: bytes. -/
import Derived.Test.YtkmclgbiedbfpaaDoorKq
import Derived.SizedLaws
import Derived.OpenShut
namespace Go.Proofs.YtkmclgbiedbfpaaDoor
open Go.ChangeShapes Go.WideShapes Go.ChangeAt Go.RowKit

theorem u8_wf {n : Int} (h : (Lit.int .u8 n).wf = true) : ((UInt8.ofNat n.toNat).toNat : Int) = n := by
  have := bounds_u8 h
  rw [UInt8.toNat_ofNat']
  omega

section
variable {H : Type} {enc : TypeId × Value → H} {w : World}

/-- A slice of bytes. -/
theorem bytes_came {a : Option Addr} {len cap : Nat} {d : DataW H} {p : List MemPlace} (h : DataW.Trod enc Tryd.prog w 0 (fun _ => true) true 24 (.slice a len cap) d p) :
    ∃ bs : List UInt8, BytesAt w (.slice a len cap) bs := by
  obtain ⟨fuel, hf⟩ := h
  rcases open_ints Tryd.underlying24 Tryd.underlying5 (by kernel_rfl) hf with ⟨hcs, _⟩ | ⟨x, l, cap', zs, hcs, _, hl, hm, hz, _, hcell, hwz⟩
  · simp [Value.cells] at hcs
    obtain ⟨rfl, rfl, rfl⟩ := hcs
    exact ⟨[], BytesAt.nil⟩
  · simp [Value.cells] at hcs
    obtain ⟨rfl, rfl, rfl⟩ := hcs
    simp only [if_true] at hz
    have hlen : ((zs.take len).map fun n => UInt8.ofNat n.toNat).length = len := by simp; omega
    refine ⟨(zs.take len).map fun n => UInt8.ofNat n.toNat, some x, cap, by rw [hlen], ⟨by omega, hm⟩, (fun e9 => by cases e9), fun k hk => ?_⟩
    have hk' : k < len := by omega
    obtain ⟨b, off, spot⟩ := x
    have hspot : spot = none := by simpa [Addr.add] using World.cell?_spot (hcell 0 (by omega))
    subst hspot
    have hkc := hcell k (by omega)
    rw [add_plain] at hkc
    have hzk : zs.getD k 0 ∈ zs := by
      have : k < zs.length := by omega
      simp [List.getD, this]
    have e : (((zs.take len).map fun n => UInt8.ofNat n.toNat)[k].toNat : Int) = zs.getD k 0 := by
      have hkz : k < zs.length := by omega
      have h9 := u8_wf (hwz _ hzk)
      simpa [List.getD, hkz] using h9
    exact ⟨b, off, rfl, World.block_lt_of_cell? w _ hkc, by rw [e]; exact hkc⟩
end

end Go.Proofs.YtkmclgbiedbfpaaDoor
