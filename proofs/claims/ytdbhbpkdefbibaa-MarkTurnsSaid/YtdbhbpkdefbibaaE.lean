/- The program as the symbolic machine knows it. No condition. -/
import Derived.Test.YtdbhbpkdefbibaaProg
import Derived.Test.YtdbhbpkdefbibaaK12
import Derived.KernelRfl
namespace Go.Proofs.Ytdbhbpkdefbibaa

noncomputable def fnL : List Func := [Try.f0, Try.f1, Try.f2, Try.f3, Try.f4, Try.f5, Try.f6, Try.f7, Try.f8, Try.f9, Try.f10, Try.f11, Try.f12, Try.f13, Try.f14, Try.f15, Try.f16, Try.f17, Try.f18, Try.f19, Try.f20, Try.f21, Try.f22, Try.f23]
noncomputable def fnOf (n : FuncId) : Option Func := nth fnL n
theorem fnL_take : takeN Try.prog.funcs.toList 24 = some fnL := by kernel_rfl
theorem fnL_names : allB (fun g => !(g.name == "runtime.NumGoroutine")) fnL = true := by kernel_rfl
theorem mixed : Try.prog.follows .mixedOrders = true := by kernel_rfl
theorem fn_ok (f : FuncId) (g : Func) (h : fnOf f = some g) : Try.prog.funcs[f]? = some g ∧ (g.name == "runtime.NumGoroutine") = false := by
  unfold fnOf at h
  rw [nth_eq] at h
  obtain ⟨h1, h2⟩ := takeN_eq fnL_take
  have hlt : f < fnL.length := (List.getElem?_eq_some_iff.1 h).1
  have hn := allB_iff.1 fnL_names g (List.mem_of_getElem? h)
  refine ⟨?_, by simpa using hn⟩
  rw [h1, List.getElem?_take] at h
  split at h
  · rw [← Array.getElem?_toList]; exact h
  · cases h
/-- No function by its contract. -/
noncomputable def E0 : Env := ⟨Try.prog, fnOf, fun _ _ _ => none, fun _ _ => false⟩
theorem E0_ok : EnvOk E0 := ⟨fn_ok, (fun _ _ _ _ _ h => by cases h), mixed⟩
end Go.Proofs.Ytdbhbpkdefbibaa
