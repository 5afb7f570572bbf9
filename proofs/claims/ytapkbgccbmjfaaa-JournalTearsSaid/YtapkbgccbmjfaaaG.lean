/- Package-level variables that are read, and what they hold. No condition. -/
import Derived.Calls
namespace Go.Proofs.Ytapkbgccbmjfaaa
def glTab : List (Nat × List Value) := []
end Go.Proofs.Ytapkbgccbmjfaaa
