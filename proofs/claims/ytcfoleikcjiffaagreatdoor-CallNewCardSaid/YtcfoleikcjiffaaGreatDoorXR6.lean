/- Of a closed run in pieces: to its end. No condition. -/
import Derived.Test.YtcfoleikcjiffaaGreatDoorX6
import Derived.Test.YtcfoleikcjiffaaGreatDoorK14
namespace Go.Proofs.YtcfoleikcjiffaaGreatDoor
set_option maxRecDepth 1000000 in
theorem xr_6 : (runC (Eh 999) 20000 0 xf6 xm6).allTrue = true := by kernel_rfl
end Go.Proofs.YtcfoleikcjiffaaGreatDoor
