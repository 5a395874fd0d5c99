/- What a row's proof asks of the program as a whole. No conditions. -/
import Derived.Test.YtkclbcfodngdkaaRows
import Derived.ProofKit
namespace Go.Proofs.Ytkclbcfodngdkaa
theorem Try.own : ownKnob Try.prog.godebug = none := by kernel_rfl
end Go.Proofs.Ytkclbcfodngdkaa
