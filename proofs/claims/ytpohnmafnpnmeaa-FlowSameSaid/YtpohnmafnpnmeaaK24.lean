/- Of rows: what is read behind what was written. No condition. -/
import Derived.Test.YtpohnmafnpnmeaaK23
set_option linter.unusedVariables false
set_option linter.unusedSimpArgs false
namespace Go.Proofs.Ytpohnmafnpnmeaa
theorem isI_of {cs : Array Value} {p : Nat} {k : IntKind} {n : Int} (h : cs[p]? = some (.int k n)) : IsInt k cs p := by unfold IsInt intAt; rw [h]
theorem intAt_of {cs : Array Value} {p : Nat} {k : IntKind} {n : Int} (h : cs[p]? = some (.int k n)) : intAt cs p = n := by unfold intAt; rw [h]
theorem isBo_of {cs : Array Value} {p : Nat} {b : Bool} (h : cs[p]? = some (.bool b)) : IsBool cs p := by unfold IsBool boolAt; rw [h]
theorem boolAt_of {cs : Array Value} {p : Nat} {b : Bool} (h : cs[p]? = some (.bool b)) : boolAt cs p = b := by unfold boolAt; rw [h]
theorem set_in {cs : Array Value} {i : Nat} {v : Value} (h : i < cs.size) : (cs.setIfInBounds i v)[i]? = some v := by rw [Array.getElem?_setIfInBounds, if_pos rfl, if_pos h]
theorem set_out {cs : Array Value} {i k : Nat} {v : Value} (h : k ≠ i) : (cs.setIfInBounds i v)[k]? = cs[k]? := by rw [Array.getElem?_setIfInBounds, if_neg (fun e => h e.symm)]
theorem beqT (b : Bool) : (b == true) = b := by cases b <;> rfl
theorem beqF (b : Bool) : (b == false) = !b := by cases b <;> rfl
end Go.Proofs.Ytpohnmafnpnmeaa
