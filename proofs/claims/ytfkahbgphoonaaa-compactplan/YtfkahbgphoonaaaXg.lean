/- members. -/
import Derived.Test.YtfkahbgphoonaaaXf
namespace Go.Proofs.Ytfkahbgphoonaaa
open Go.RowKit Go.Shelf Go.Maps Go.Sort

def clM (m : Mt) : Mt := { m with lo := cl m.lo, hi := cl m.hi }
def b0F (span : Int) (m : Mt) : Int := max (cl m.lo) (cl m.hi) - 1 - (max (cl m.lo) (cl m.hi) - 1) % span
/-- Where the spans begin that the block stands in and that are past. -/
def spG (B span newest f : Int) : List Int := if B ≤ f ∧ B + span ≤ newest then if B + span ≤ f ∧ B + span + span ≤ newest then [B, B + span] else [B] else []
def spF (newest span : Int) (m : Mt) : List Int := spG (b0F span m) span newest (min (cl m.lo) (cl m.hi))
theorem spG_at (B span newest f : Int) (_hs : 1 ≤ span) (_h2 : f < B + span + span) (j : Nat) (hj : j ≤ 2) (h0 : 1 ≤ j → B ≤ f ∧ B + span ≤ newest) (h1 : j = 2 → B + span ≤ f ∧ B + span + span ≤ newest) (hn : ¬ (B + j * span ≤ f ∧ B + j * span + span ≤ newest)) : [B, B + span].take j = spG B span newest f := by
  unfold spG
  obtain rfl | rfl | rfl : j = 0 ∨ j = 1 ∨ j = 2 := by omega
  · rw [if_neg (by simpa using hn)]; rfl
  · rw [if_pos (h0 (by omega)), if_neg (by simpa using hn)]; rfl
  · rw [if_pos (h0 (by omega)), if_pos (h1 rfl)]; rfl
def oneF (level newest span : Int) (m : Mt) : List Mb := if m.lv = level then (spF newest span m).map fun b => (b, clM m) else []
def mbsF (level newest span : Int) (l : List Mt) : List Mb := l.flatMap (oneF level newest span)
theorem oneF_le (level newest span : Int) (m : Mt) : (oneF level newest span m).length ≤ 2 := by
  unfold oneF spF spG
  split
  · split
    · split <;> simp
    · simp
  · simp
theorem mbsF_le (level newest span : Int) (l : List Mt) : (mbsF level newest span l).length ≤ 2 * l.length := by
  induction l with
  | nil => simp [mbsF]
  | cons a r ih =>
    have := oneF_le level newest span a
    simp only [mbsF, List.flatMap_cons, List.length_append, List.length_cons] at *
    omega
theorem appMb : App Try.prog 40 63 5 := App.of (z := .agg #[.int .i64 0, .string ByteArray.empty, .int .i64 0, .int .i64 0, .int .i64 0]) (bytes := 48) Try.underlying40 (by kernel_rfl) rfl (by decide) (by decide)
theorem appMt : App Try.prog 22 31 4 := App.of (z := .agg #[.string ByteArray.empty, .int .i64 0, .int .i64 0, .int .i64 0]) (bytes := 40) Try.underlying22 (by kernel_rfl) rfl (by decide) (by decide)

end Go.Proofs.Ytfkahbgphoonaaa
