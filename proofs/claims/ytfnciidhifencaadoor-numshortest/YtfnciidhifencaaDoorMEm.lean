/- What comes in: words. -/
import Derived.Test.YtfnciidhifencaaDoorMEl
namespace Go.Proofs.YtfnciidhifencaaDoor
open Go.ChangeShapes Go.WideShapes Go.ChangeAt Go.RowKit

/-- A slice that reads as these words. -/
def UAt (w : World) (v : Value) (xs : List Nat) : Prop := ∃ a c, v = .slice a xs.length c ∧ (xs.length ≤ c ∧ c ≤ maxLen) ∧ ∀ k (hk : k < xs.length), xs[k] < 18446744073709551616 ∧ ∃ b o, a = some ⟨b, o, none⟩ ∧ b < w.heap.size ∧ w.cell? ⟨b, o + k, none⟩ = some (.int .u64 (xs[k] : Nat))
theorem UAt.below {w w' : World} {v : Value} {xs : List Nat} (h : UAt w v xs) (hb : Below w.heap.size w w') : UAt w' v xs := by
  obtain ⟨a, c, e, hlc, hk⟩ := h
  refine ⟨a, c, e, hlc, fun k hlt => ?_⟩
  obtain ⟨hx, b, o, ha, hl, h1⟩ := hk k hlt
  have := hb.size
  exact ⟨hx, b, o, ha, by omega, (hb.cell (p := ⟨b, o + k, none⟩) hl).trans h1⟩
section
variable {H : Type} {enc : TypeId × Value → H} {w : World}
/-- A slice of words. -/
theorem u64s_came {a : Option Addr} {len cap : Nat} {d : DataW H} {p : List MemPlace} (h : DataW.Trod enc Tryd.prog w 0 (fun _ => true) true 30 (.slice a len cap) d p) :
    ∃ xs : List Nat, UAt w (.slice a len cap) xs := by
  obtain ⟨fuel, hf⟩ := h
  rcases open_ints Tryd.underlying30 Tryd.underlying22 (by kernel_rfl) hf with ⟨hcs, _⟩ | ⟨x, l, cap', zs, hcs, _, hl, hm, hz, _, hcell, hwz⟩
  · simp [Value.cells] at hcs
    obtain ⟨rfl, rfl, rfl⟩ := hcs
    exact ⟨[], none, 0, rfl, ⟨Nat.zero_le _, Nat.zero_le _⟩, fun k hk => by simp at hk⟩
  · simp [Value.cells] at hcs
    obtain ⟨rfl, rfl, rfl⟩ := hcs
    simp only [if_true] at hz
    have hlen : ((zs.take len).map fun n => n.toNat).length = len := by simp; omega
    refine ⟨(zs.take len).map fun n => n.toNat, some x, cap, by rw [hlen], ⟨by omega, hm⟩, fun k hk => ?_⟩
    have hk' : k < len := by omega
    obtain ⟨b, off, spot⟩ := x
    have hspot : spot = none := by simpa [Addr.add] using World.cell?_spot (hcell 0 (by omega))
    subst hspot
    have hkc := hcell k (by omega)
    rw [add_plain] at hkc
    have hkz : k < zs.length := by omega
    have hzk : zs.getD k 0 ∈ zs := by simp [List.getD, hkz]
    have hbd := bounds_u64 (hwz _ hzk)
    have e : ((((zs.take len).map fun n => n.toNat)[k] : Nat) : Int) = zs.getD k 0 := by
      have h9 : (((zs.getD k 0).toNat : Nat) : Int) = zs.getD k 0 := by omega
      simpa [List.getD, hkz] using h9
    refine ⟨by omega, b, off, rfl, World.block_lt_of_cell? w _ hkc, by rw [e]; exact hkc⟩
end
end Go.Proofs.YtfnciidhifencaaDoor
