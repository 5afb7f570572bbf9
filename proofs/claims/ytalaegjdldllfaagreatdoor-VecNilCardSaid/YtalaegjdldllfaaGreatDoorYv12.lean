/- Of a closed run: its calls do what is told of them. No condition. -/
import Derived.Test.YtalaegjdldllfaaGreatDoorXv
import Derived.Test.YtalaegjdldllfaaGreatDoorYv10
import Derived.Test.YtalaegjdldllfaaGreatDoorYv11
namespace Go.Proofs.YtalaegjdldllfaaGreatDoor
set_option maxRecDepth 1000000
theorem v176_run : (runC (EC [215] [v21, v38, v55, v72, v114, v131, v148, v175]) 20000 v176.n [callFr v176.g Tryz.f43.ntmps v176.l (bdy 43)] v176.ms).vc (retOk v176.n [] v176.s0 v176.ms') (fun _ _ => False) = allP (selfR v176.n [] v176.s0 v176.ms') := by kernel_rfl
theorem v176_ok : v176.Ok := CC.mk_ok (ro := [215]) (L := [v21, v38, v55, v72, v114, v131, v148, v175]) (okC v21_ok (okC v38_ok (okC v55_ok (okC v72_ok (okC v114_ok (okC v131_ok (okC v148_ok (okC v175_ok okN)))))))) v176 (fn := Tryz.f43) (b := bdy 43) (by kernel_rfl) (by kernel_rfl) (by kernel_rfl) (by kernel_rfl) v176_run
end Go.Proofs.YtalaegjdldllfaaGreatDoor
