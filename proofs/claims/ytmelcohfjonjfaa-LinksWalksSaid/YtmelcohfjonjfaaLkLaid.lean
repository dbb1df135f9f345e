/- links: what every row's proof needs. -/
import Derived.Test.YtmelcohfjonjfaaLkBase
import Derived.Test.YtmelcohfjonjfaaRows
import Derived.ProofKit
import Derived.Carry
import Derived.Deep.SlicePairs
import Derived.Lib.SmallJoins
import Derived.OpenShut
namespace Go.Proofs.Ytmelcohfjonjfaa
open Go.ChangeShapes Go.WideShapes Go.ChangeAt Go.RowKit Go.Lib

theorem own : ownKnob Try.prog.godebug = none := by kernel_rfl
theorem laidOut : laidOutB Try.prog = true := by kernel_rfl
end Go.Proofs.Ytmelcohfjonjfaa
