/- SameChain of the project and of the specification, with what they call: both answer whether all parts are equal. Conditions: none. -/
import Derived.Test.YtcijggfbfpfcdaaEq
import Derived.Test.YtcijggfbfpfcdaaOpen
namespace Go.Proofs.Ytcijggfbfpfcdaa
open Go.RowKit Go.Deep

end Go.Proofs.Ytcijggfbfpfcdaa
