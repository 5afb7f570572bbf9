/- For every number and every byte, bailiwicklaw02.PoolNil returns true: the run. No condition. -/
import Derived.Test.YtahfhgdafobfmaaDoorE1
namespace Go.Proofs.YtahfhgdafobfmaaDoor
theorem law_true (n b : Int) : (run E0 100000 0 [callFr 3 Tryd.f3.ntmps [.s (.c (.f (.int .i64 (.o n)))), .s (.c (.f (.int .u8 (.o b))))] (Tryd.f3.body.getD .skip)] ⟨0, [], []⟩).allTrue = true := by kernel_rfl
end Go.Proofs.YtahfhgdafobfmaaDoor
