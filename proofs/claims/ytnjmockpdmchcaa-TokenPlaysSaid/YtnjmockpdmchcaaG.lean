/- Package-level variables that are read, and what they hold. No condition. -/
import Derived.Calls
set_option linter.unusedVariables false
set_option linter.unusedSimpArgs false
namespace Go.Proofs.Ytnjmockpdmchcaa
def glTab : List (Nat × List Value) := []
end Go.Proofs.Ytnjmockpdmchcaa
