/- A slice that reads as texts. -/
import Derived.Test.YtlfcnekmdojabaaDoorL4
namespace Go.Proofs.YtlfcnekmdojabaaDoor
open Go.RowKit

/-- A slice that reads as these texts. -/
def TextsAt (w : World) (v : Value) (ss : List ByteArray) : Prop :=
  ∃ a c, v = .slice a ss.length c ∧ (ss.length ≤ c ∧ c ≤ maxLen) ∧ ∀ k (hk : k < ss.length), ∃ b o, a = some ⟨b, o, none⟩ ∧ b < w.heap.size ∧ w.cell? ⟨b, o + k, none⟩ = some (.string ss[k]) ∧ ss[k].size ≤ maxLen
theorem TextsAt.below {w w' : World} {v : Value} {ss : List ByteArray} (h : TextsAt w v ss) (hb : Below w.heap.size w w') : TextsAt w' v ss := by
  obtain ⟨a, c, e, hlc, hk⟩ := h
  refine ⟨a, c, e, hlc, fun k hlt => ?_⟩
  obtain ⟨b, o, ha, hl, h1, h2⟩ := hk k hlt
  have := hb.size
  exact ⟨b, o, ha, by omega, (hb.cell (p := ⟨b, o + k, none⟩) hl).trans h1, h2⟩
theorem TextsAt.one {w : World} {a : Option Addr} {c : Nat} {ss : List ByteArray} (h : TextsAt w (.slice a ss.length c) ss) (k : Nat) (hk : k < ss.length) : ∃ b o, a = some ⟨b, o, none⟩ ∧ ss[k].size ≤ maxLen ∧ ∀ w', Below w.heap.size w w' → w'.cell? ⟨b, o + k, none⟩ = some (.string ss[k]) := by
  obtain ⟨a', c', e, -, hc⟩ := h
  cases e
  obtain ⟨b, o, rfl, hb, h1, h2⟩ := hc k hk
  exact ⟨b, o, rfl, h2, fun w' hb' => (hb'.cell (p := ⟨b, o + k, none⟩) hb).trans h1⟩

end Go.Proofs.YtlfcnekmdojabaaDoor
