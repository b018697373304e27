/- SameChain of the project and of the specification, with what they call: both answer whether all parts are equal. Conditions: none. -/
import Derived.Test.YtpfpmaediefgkaaEq
import Derived.Test.YtpfpmaediefgkaaOpen
namespace Go.Proofs.Ytpfpmaediefgkaa
open Go.RowKit Go.Deep

end Go.Proofs.Ytpfpmaediefgkaa
