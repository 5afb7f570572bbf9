/- Of a closed run: its calls do what is told of them. No condition. -/
import Derived.Test.YtalaegjdldllfaaGreatDoorXv
import Derived.Test.YtalaegjdldllfaaGreatDoorYv8
import Derived.Test.YtalaegjdldllfaaGreatDoorYv10
namespace Go.Proofs.YtalaegjdldllfaaGreatDoor
set_option maxRecDepth 1000000
theorem v21_run : (runC (EC [215] [v3, v20]) 20000 v21.n [callFr v21.g Tryz.f94.ntmps v21.l (bdy 94)] v21.ms).vc (retOk v21.n [(2, 2), (5, 5), (6, 6), (808, 808)] v21.s0 v21.ms') (fun _ _ => False) = allP (selfR v21.n [(2, 2), (5, 5), (6, 6), (808, 808)] v21.s0 v21.ms') := by kernel_rfl
theorem v21_ok : v21.Ok := CC.mk_ok (ro := [215]) (L := [v3, v20]) (okC v3_ok (okC v20_ok okN)) v21 (fn := Tryz.f94) (b := bdy 94) (by kernel_rfl) (by kernel_rfl) (by kernel_rfl) (by kernel_rfl) v21_run
theorem v114_run : (runC (EC [215] [v93, v97, v101, v105, v109, v113]) 20000 v114.n [callFr v114.g Tryz.f35.ntmps v114.l (bdy 35)] v114.ms).vc (retOk v114.n [] v114.s0 v114.ms') (fun _ _ => False) = allP (selfR v114.n [] v114.s0 v114.ms') := by kernel_rfl
theorem v114_ok : v114.Ok := CC.mk_ok (ro := [215]) (L := [v93, v97, v101, v105, v109, v113]) (okC v93_ok (okC v97_ok (okC v101_ok (okC v105_ok (okC v109_ok (okC v113_ok okN)))))) v114 (fn := Tryz.f35) (b := bdy 35) (by kernel_rfl) (by kernel_rfl) (by kernel_rfl) (by kernel_rfl) v114_run
theorem v175_run : (runC (EC [215] [v157, v174]) 20000 v175.n [callFr v175.g Tryz.f95.ntmps v175.l (bdy 95)] v175.ms).vc (retOk v175.n [] v175.s0 v175.ms') (fun _ _ => False) = allP (selfR v175.n [] v175.s0 v175.ms') := by kernel_rfl
theorem v175_ok : v175.Ok := CC.mk_ok (ro := [215]) (L := [v157, v174]) (okC v157_ok (okC v174_ok okN)) v175 (fn := Tryz.f95) (b := bdy 95) (by kernel_rfl) (by kernel_rfl) (by kernel_rfl) (by kernel_rfl) v175_run
end Go.Proofs.YtalaegjdldllfaaGreatDoor
