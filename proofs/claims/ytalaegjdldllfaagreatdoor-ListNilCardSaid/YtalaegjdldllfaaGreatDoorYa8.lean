/- Of a closed run: its calls do what is told of them. No condition. -/
import Derived.Test.YtalaegjdldllfaaGreatDoorXa
import Derived.Test.YtalaegjdldllfaaGreatDoorYa5
import Derived.Test.YtalaegjdldllfaaGreatDoorYa6
import Derived.Test.YtalaegjdldllfaaGreatDoorYa7
set_option linter.unusedVariables false
set_option linter.unusedSimpArgs false
namespace Go.Proofs.YtalaegjdldllfaaGreatDoor
set_option maxRecDepth 1000000
theorem a13_run : (runC (EC [215] [a3, a6, a12]) 20000 a13.n [callFr a13.g Tryz.f11.ntmps a13.l (bdy 11)] a13.ms).vc (retOk a13.n [(2, 2), (5, 5), (6, 6), (764, 764)] a13.s0 a13.ms') (fun _ _ => False) = allP (selfR a13.n [(2, 2), (5, 5), (6, 6), (764, 764)] a13.s0 a13.ms') := by kernel_rfl
theorem a13_ok : a13.Ok := CC.mk_ok (ro := [215]) (L := [a3, a6, a12]) (okC a3_ok (okC a6_ok (okC a12_ok okN))) a13 (fn := Tryz.f11) (b := bdy 11) (by kernel_rfl) (by kernel_rfl) (by kernel_rfl) (by kernel_rfl) a13_run
theorem a248_run : (runC (EC [215] [a237, a240, a247]) 20000 a248.n [callFr a248.g Tryz.f11.ntmps a248.l (bdy 11)] a248.ms).vc (retOk a248.n [(92, 92), (95, 95), (96, 96), (854, 854)] a248.s0 a248.ms') (fun _ _ => False) = allP (selfR a248.n [(92, 92), (95, 95), (96, 96), (854, 854)] a248.s0 a248.ms') := by kernel_rfl
theorem a248_ok : a248.Ok := CC.mk_ok (ro := [215]) (L := [a237, a240, a247]) (okC a237_ok (okC a240_ok (okC a247_ok okN))) a248 (fn := Tryz.f11) (b := bdy 11) (by kernel_rfl) (by kernel_rfl) (by kernel_rfl) (by kernel_rfl) a248_run
end Go.Proofs.YtalaegjdldllfaaGreatDoor
