/- Calls that are told whole: what they are handed, what they leave. No condition. -/
import Derived.Test.YtpohnmafnpnmeaaK18
import Derived.Test.YtpohnmafnpnmeaaK15
set_option linter.unusedVariables false
set_option linter.unusedSimpArgs false
namespace Go.Proofs.Ytpohnmafnpnmeaa
set_option linter.unusedSectionVars false
noncomputable section
structure CC where
  g : FuncId
  l : List SV
  n : Nat
  bl : Tr SBlk
  s0 : SV
  n' : Nat
  bl' : Tr SBlk
def lsT (bl : Tr SBlk) : List Nat → List (Nat × SBlk)
  | [] => []
  | i :: l => match getB bl i with
    | some b => (i, b) :: lsT bl l
    | none => lsT bl l
end
section
variable {f : Nat → Nat} (h : ∀ i, f i = i)
include h
end
theorem pull_cut (k : Nat) (R : Ren) : pull (fun j => j) k R = cutR R k := rfl
where
  hE_fn {g : FuncId} {fn : Func} (h : E0.fn g = some fn) : Try.prog.funcs[g]? = some fn := (E0_ok.fns _ _ h).1
noncomputable section
end
end Go.Proofs.Ytpohnmafnpnmeaa
