/- What comes in: texts. -/
import Derived.Test.YtobkomfeojhhbaaDoorCm
import Derived.SizedLaws
namespace Go.Proofs.YtobkomfeojhhbaaDoor
open Go.ChangeShapes Go.WideShapes Go.ChangeAt Go.RowKit
open Go.Deep (open_slice choose_lt)

section
variable {H : Type} {enc : TypeId × Value → H} {w : World}

/-- A slice of texts. -/
theorem texts_came {a : Option Addr} {len cap : Nat} {d : DataW H} {p : List MemPlace} (h : DataW.Trod enc Tryd.prog w 0 (fun _ => true) true 30 (.slice a len cap) d p) :
    ∃ ss : List ByteArray, TextsAt w (.slice a len cap) ss := by
  obtain ⟨fuel, hf⟩ := h
  rcases open_strings Tryd.underlying30 Tryd.underlying9 cells9 hf with ⟨hcs, hx⟩ | ⟨x, len', cap', ss, hcs, _, hl, hm, hz, hx, hcell, hws⟩
  · simp [Value.cells] at hcs
    obtain ⟨rfl, rfl, rfl⟩ := hcs
    exact ⟨[], none, 0, rfl, ⟨Nat.zero_le _, Nat.zero_le _⟩, fun k hk => absurd hk (Nat.not_lt_zero _)⟩
  · simp [Value.cells] at hcs
    obtain ⟨rfl, rfl, rfl⟩ := hcs
    simp only [if_true] at hz
    have hlen : (ss.take len).length = len := by simp; omega
    refine ⟨ss.take len, some x, cap, by rw [hlen], ⟨by omega, by omega⟩, fun k hk => ?_⟩
    have hk' : k < len := by omega
    obtain ⟨b, off, spot⟩ := x
    have hspot : spot = none := by simpa [Addr.add] using World.cell?_spot (hcell 0 (by omega))
    subst hspot
    have hkc := hcell k (by omega)
    rw [add_plain] at hkc
    have e : ss.getD k ByteArray.empty = (ss.take len)[k] := by simp [List.getD, show k < ss.length by omega]
    rw [e] at hkc
    exact ⟨b, off, rfl, World.block_lt_of_cell? w _ hkc, hkc, hws _ (by simp)⟩
end

end Go.Proofs.YtobkomfeojhhbaaDoor
