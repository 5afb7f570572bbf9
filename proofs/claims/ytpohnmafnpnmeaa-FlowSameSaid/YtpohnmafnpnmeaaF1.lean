/- The same machine, which looks at each operation's form once: quick to run by the kernel. No condition. -/
import Derived.Test.YtpohnmafnpnmeaaK2
set_option linter.unusedVariables false
set_option linter.unusedSimpArgs false
namespace Go.Proofs.Ytpohnmafnpnmeaa
noncomputable section
structure XC where
  go : Tm → SMem → XR
structure OC where
  go : (List SFr → SMem → Tree) → Nat → Nat → SFr → List SFr → SMem → Tree
structure IC where
  go : (Nat → List SFr → SMem → Tree) → Nat → SFr → List SIt → List SFr → SMem → Tree
end
end Go.Proofs.Ytpohnmafnpnmeaa
