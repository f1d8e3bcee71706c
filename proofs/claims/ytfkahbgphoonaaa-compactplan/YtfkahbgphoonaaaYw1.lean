/- Slices of numbers. -/
import Derived.Test.YtfkahbgphoonaaaYv
namespace Go.Proofs.Ytfkahbgphoonaaa
open Go.RowKit Go.Shelf Go.Maps Go.Sort

abbrev enI : Int → Value := Value.int .i64
def inC (l : List Int) : List Value := l.map enI
/-- A slice that reads as numbers. -/
def InAt (w : World) (v : Value) (l : List Int) : Prop := RowAt w v 1 l.length (inC l)
theorem inC_one (l : List Int) : ∀ u ∈ inC l, u.oneCell' = true := fun u hu => by
  simp only [inC, List.mem_map] at hu
  obtain ⟨x, _, rfl⟩ := hu
  rfl
theorem inC_at (l : List Int) (k : Nat) (hk : k < l.length) : (inC l)[k]? = some (.int .i64 l[k]) := by simp [inC, hk]
theorem inC_append (l m : List Int) : inC (l ++ m) = inC l ++ inC m := by simp [inC]
theorem InAt.one {w : World} {a : Option Addr} {c : Nat} {l : List Int} (h : InAt w (.slice a l.length c) l) (k : Nat) (hk : k < l.length) : ∃ b o, a = some ⟨b, o, none⟩ ∧ ∀ w', Below w.heap.size w w' → w'.cell? ⟨b, o + k, none⟩ = some (.int .i64 l[k]) :=
  RowAt.one h (inC_at l k hk)
theorem appIn : App Try.prog 38 3 1 := App.of (z := .int .i64 0) (bytes := 8) Try.underlying38 (by kernel_rfl) rfl (by decide) (by decide)

end Go.Proofs.Ytfkahbgphoonaaa
