/- NumShortest, for what comes in. -/
import Derived.Test.YtfnciidhifencaaDoorMEg
import Derived.Test.YtfnciidhifencaaDoorMEi
namespace Go.Proofs.YtfnciidhifencaaDoor
open Go.ChangeShapes Go.WideShapes Go.ChangeAt Go.RowKit

theorem short_w (v : Value) (xs : List Nat) (W : World) (ha : UAt W v xs) (h : Units W ∧ Pow W) :
    Calls Tryd.prog 4 #[v] W fun e w' => e = .returned (.bool true) ∧ Below W.heap.size W w' := short_core v xs W ha h.1 h.2
end Go.Proofs.YtfnciidhifencaaDoor
