/- What wakes reads. -/
import Derived.Test.YtlhhnklncaakbabDoorDf
namespace Go.Proofs.YtlhhnklncaakbabDoor
theorem parse_wakes : parseR ⟨#[50, 46, 53, 101, 45, 49]⟩ = (4598175219545276416, 0) := by kernel_rfl
end Go.Proofs.YtlhhnklncaakbabDoor
