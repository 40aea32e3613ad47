/- What the statements of chapter 4 share. -/
import Derived.Test.YtmhihnpimanhfaaC23
import Derived.ProofKit
import Derived.OpenShut
import Derived.KernelRfl
namespace Go.Proofs.Ytmhihnpimanhfaa
namespace Sp
theorem own : ownKnob Try.prog.godebug = none := by kernel_rfl
theorem laidOut : laidOutB Try.prog = true := by kernel_rfl
end Sp
end Go.Proofs.Ytmhihnpimanhfaa
