/- What wakes reads. -/
import Derived.Test.YtlhhnklncaakbaaDoorDf
namespace Go.Proofs.YtlhhnklncaakbaaDoor
theorem parse_wakes : parseR ⟨#[50, 46, 53, 101, 45, 49]⟩ = (4598175219545276416, 0) := by kernel_rfl
end Go.Proofs.YtlhhnklncaakbaaDoor
