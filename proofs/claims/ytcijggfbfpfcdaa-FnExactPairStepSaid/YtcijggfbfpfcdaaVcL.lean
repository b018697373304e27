/- ValidCoupled of the specification, and what the law imports. Conditions: none. -/
import Derived.Test.YtcijggfbfpfcdaaVcS2
import Derived.Test.YtcijggfbfpfcdaaCoup
namespace Go.Proofs.Ytcijggfbfpfcdaa
open Go.RowKit Go.Deep
set_option linter.unusedVariables false

end Go.Proofs.Ytcijggfbfpfcdaa
