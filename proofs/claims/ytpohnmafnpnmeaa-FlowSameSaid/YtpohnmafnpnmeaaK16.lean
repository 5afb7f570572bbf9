/- A run that stops behind so many steps, at a place that may be told. No condition. -/
import Derived.Test.YtpohnmafnpnmeaaF1
import Derived.Test.YtpohnmafnpnmeaaK14
set_option linter.unusedVariables false
set_option linter.unusedSimpArgs false
namespace Go.Proofs.Ytpohnmafnpnmeaa
set_option linter.unusedSectionVars false
noncomputable section
end
section
variable {E : Env} (hE : EnvOk E)
include hE
end
end Go.Proofs.Ytpohnmafnpnmeaa
