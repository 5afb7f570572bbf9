/- The seat's environment is so. No condition. -/
import Derived.Test.YtldoopjnjlpbpaaGreatDoorE
import Derived.Test.YtldoopjnjlpbpaaGreatDoorK12
set_option linter.unusedVariables false
set_option linter.unusedSimpArgs false
namespace Go.Proofs.YtldoopjnjlpbpaaGreatDoor
theorem XL:takeN Tryz.prog.funcs.toList 129=some GC:=by kernel_rfl
theorem WE:gm (fun g=>!(g.name=="runtime.NumGoroutine")) GC=true:=by kernel_rfl
theorem mixed:Tryz.prog.follows .mixedOrders=true:=by kernel_rfl
theorem acd (f:FuncId) (g:Func) (h:dg f=some g):Tryz.prog.funcs[f]?=some g∧(g.name=="runtime.NumGoroutine")=false:=by
 unfold dg at h
 rw [m5] at h
 obtain ⟨h1,h2⟩:=CU XL
 have hlt:f<GC.length:=(List.getElem?_eq_some_iff.1 h).1
 have hn:=pX.1 WE g (List.mem_of_getElem? h)
 refine ⟨?_,by simpa using hn⟩
 rw [h1,List.getElem?_take] at h
 split at h
 ·rw [← Array.getElem?_toList];exact h
 ·cases h
theorem aU:bf E0:=⟨acd,(fun _ _ _ _ _ h=>by cases h),mixed⟩
end Go.Proofs.YtldoopjnjlpbpaaGreatDoor
