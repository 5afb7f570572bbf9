/- bailiwicklaw21.PartsNil returns true: the run. No condition. -/
import Derived.Test.YtdnnkmhgnomfgaaGreatDoorE1
namespace Go.Proofs.YtdnnkmhgnomfgaaGreatDoor
theorem parts_true : (run E0 100000 0 [callFr 5 Tryz.f5.ntmps [] (Tryz.f5.body.getD .skip)] ⟨0, .nil, []⟩).allTrue = true := by kernel_rfl
end Go.Proofs.YtdnnkmhgnomfgaaGreatDoor
