/- For all numbers, VecNil returns true: the run. No condition. -/
import Derived.Test.YtalaegjdldllfaaGreatDoorYv6
import Derived.Test.YtalaegjdldllfaaGreatDoorYv9
import Derived.Test.YtalaegjdldllfaaGreatDoorYv10
import Derived.Test.YtalaegjdldllfaaGreatDoorYv12
namespace Go.Proofs.YtalaegjdldllfaaGreatDoor
set_option maxRecDepth 1000000
theorem v_wk (m : SMem) : Con E0 43 [] m (needs [] (.ret (sB (.l true)) m)) := wk_of v176_ok (by kernel_rfl) (by kernel_rfl) (by kernel_rfl) (by kernel_rfl) m
noncomputable def EV : Env := EC2 [215] 43 [v177, v178, v179, v181, v185, v197, v198, v201]
theorem EV_ok : EnvOk EV := EC2_ok [215] v_wk (okC v177_ok (okC v178_ok (okC v179_ok (okC v181_ok (okC v185_ok (okC v197_ok (okC v198_ok (okC v201_ok okN))))))))
theorem v_fast (a b c : Int) : (runC EV 20000 0 [callFr 5 Tryz.f5.ntmps [.s (.c (.f (.int .i64 (.o a)))), .s (.c (.f (.int .u64 (.o b)))), .s (.c (.f (.int .i64 (.o c))))] (Tryz.f5.body.getD .skip)] ⟨0, .nil, []⟩).allTrue = true := by kernel_rfl
theorem v_true (a b c : Int) : (run EV 20000 0 [callFr 5 Tryz.f5.ntmps [.s (.c (.f (.int .i64 (.o a)))), .s (.c (.f (.int .u64 (.o b)))), .s (.c (.f (.int .i64 (.o c))))] (Tryz.f5.body.getD .skip)] ⟨0, .nil, []⟩).allTrue = true := by
  rw [← runC_eq]
  exact v_fast a b c
end Go.Proofs.YtalaegjdldllfaaGreatDoor
