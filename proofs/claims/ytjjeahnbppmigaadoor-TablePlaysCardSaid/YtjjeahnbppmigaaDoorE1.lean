/- The seat's environment is so. No condition. -/
import Derived.Test.YtjjeahnbppmigaaDoorE
import Derived.Test.YtjjeahnbppmigaaDoorK12
set_option linter.unusedVariables false
set_option linter.unusedSimpArgs false
namespace Go.Proofs.YtjjeahnbppmigaaDoor
set_option linter.unusedSectionVars false
variable [Gh]
omit [Gh] in
theorem fnL_take : takeN Tryd.prog.funcs.toList 80 = some fnL := by kernel_rfl
omit [Gh] in
theorem fnL_names : allB (fun g => !(g.name == "runtime.NumGoroutine")) fnL = true := by kernel_rfl
omit [Gh] in
theorem mixed : Tryd.prog.follows .mixedOrders = true := by kernel_rfl
omit [Gh] in
theorem fn_ok (f : FuncId) (g : Func) (h : fnOf f = some g) : Tryd.prog.funcs[f]? = some g ∧ (g.name == "runtime.NumGoroutine") = false := by
  unfold fnOf at h
  rw [nth_eq] at h
  obtain ⟨h1, h2⟩ := takeN_eq fnL_take
  have hlt : f < fnL.length := (List.getElem?_eq_some_iff.1 h).1
  have hn := allB_iff.1 fnL_names g (List.mem_of_getElem? h)
  refine ⟨?_, by simpa using hn⟩
  rw [h1, List.getElem?_take] at h
  split at h
  · rw [← Array.getElem?_toList]; exact h
  · cases h
theorem E0_ok : EnvOk E0 := ⟨fn_ok, (fun _ _ _ _ _ h => by cases h), mixed⟩
end Go.Proofs.YtjjeahnbppmigaaDoor
