/- A state shows what it says itself. No condition. -/
import Derived.Test.YtpohnmafnpnmeaaK16
set_option linter.unusedVariables false
set_option linter.unusedSimpArgs false
namespace Go.Proofs.Ytpohnmafnpnmeaa
set_option linter.unusedSectionVars false
section
variable (r : Nat → Option Nat)
variable {r}
end
end Go.Proofs.Ytpohnmafnpnmeaa
