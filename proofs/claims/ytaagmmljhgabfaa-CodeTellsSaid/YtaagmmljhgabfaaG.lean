/- Package-level variables that are read, and what they hold. No condition. -/
import Derived.Calls
namespace Go.Proofs.Ytaagmmljhgabfaa
def glTab : List (Nat × List Value) := []
end Go.Proofs.Ytaagmmljhgabfaa
