/- For all numbers, DictNil returns true: the run. No condition. -/
import Derived.Test.YtalaegjdldllfaaGreatDoorYd4
import Derived.Test.YtalaegjdldllfaaGreatDoorYd6
import Derived.Test.YtalaegjdldllfaaGreatDoorYd8
import Derived.Test.YtalaegjdldllfaaGreatDoorYd9
set_option linter.unusedVariables false
set_option linter.unusedSimpArgs false
namespace Go.Proofs.YtalaegjdldllfaaGreatDoor
set_option maxRecDepth 1000000
theorem d_wk (m : SMem) : Con E0 26 [] m (needs [] (.ret (sB (.l true)) m)) := wk_of d245_ok (by kernel_rfl) (by kernel_rfl) (by kernel_rfl) (by kernel_rfl) m
noncomputable def ED : Env := EC2 [215] 26 [d246, d247, d248, d249, d264, d266, d268]
theorem ED_ok : EnvOk ED := EC2_ok [215] d_wk (okC d246_ok (okC d247_ok (okC d248_ok (okC d249_ok (okC d264_ok (okC d266_ok (okC d268_ok okN)))))))
theorem d_fast (a b : Int) : (runC ED 20000 0 [callFr 4 Tryz.f4.ntmps [.s (.c (.f (.int .u64 (.o a)))), .s (.c (.f (.int .u64 (.o b))))] (Tryz.f4.body.getD .skip)] ⟨0, .nil, []⟩).allTrue = true := by kernel_rfl
theorem d_true (a b : Int) : (run ED 20000 0 [callFr 4 Tryz.f4.ntmps [.s (.c (.f (.int .u64 (.o a)))), .s (.c (.f (.int .u64 (.o b))))] (Tryz.f4.body.getD .skip)] ⟨0, .nil, []⟩).allTrue = true := by
  rw [← runC_eq]
  exact d_fast a b
end Go.Proofs.YtalaegjdldllfaaGreatDoor
