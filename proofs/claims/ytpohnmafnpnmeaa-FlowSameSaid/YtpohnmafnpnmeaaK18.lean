/- How a stack is told: what is left to do, by a region's number. No condition. -/
import Derived.Test.YtpohnmafnpnmeaaE1
import Derived.Test.YtpohnmafnpnmeaaK17
set_option linter.unusedVariables false
set_option linter.unusedSimpArgs false
namespace Go.Proofs.Ytpohnmafnpnmeaa
noncomputable section
structure LpT where
  ps : Array Tmp
  ag : Code
  bd : Code
  k : List SIt
end
end Go.Proofs.Ytpohnmafnpnmeaa
