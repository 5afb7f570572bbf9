/- For all numbers, ListNil returns true: the run. No condition. -/
import Derived.Test.YtalaegjdldllfaaGreatDoorYa4
import Derived.Test.YtalaegjdldllfaaGreatDoorYa6
import Derived.Test.YtalaegjdldllfaaGreatDoorYa7
import Derived.Test.YtalaegjdldllfaaGreatDoorYa8
import Derived.Test.YtalaegjdldllfaaGreatDoorYa9
set_option linter.unusedVariables false
set_option linter.unusedSimpArgs false
namespace Go.Proofs.YtalaegjdldllfaaGreatDoor
set_option maxRecDepth 1000000
theorem a_wk (m : SMem) : Con E0 16 [] m (needs [] (.ret (sB (.l true)) m)) := wk_of a229_ok (by kernel_rfl) (by kernel_rfl) (by kernel_rfl) (by kernel_rfl) m
noncomputable def EA : Env := EC2 [215] 16 [a230, a231, a232, a233, a248, a251, a254, a256, a259, a260]
theorem EA_ok : EnvOk EA := EC2_ok [215] a_wk (okC a230_ok (okC a231_ok (okC a232_ok (okC a233_ok (okC a248_ok (okC a251_ok (okC a254_ok (okC a256_ok (okC a259_ok (okC a260_ok okN))))))))))
theorem a_fast (a b : Int) : (runC EA 20000 0 [callFr 3 Tryz.f3.ntmps [.s (.c (.f (.int .i64 (.o a)))), .s (.c (.f (.int .u64 (.o b))))] (Tryz.f3.body.getD .skip)] ⟨0, .nil, []⟩).allTrue = true := by kernel_rfl
theorem a_true (a b : Int) : (run EA 20000 0 [callFr 3 Tryz.f3.ntmps [.s (.c (.f (.int .i64 (.o a)))), .s (.c (.f (.int .u64 (.o b))))] (Tryz.f3.body.getD .skip)] ⟨0, .nil, []⟩).allTrue = true := by
  rw [← runC_eq]
  exact a_fast a b
end Go.Proofs.YtalaegjdldllfaaGreatDoor
