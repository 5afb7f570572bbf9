/- Of a closed run: its calls do what is told of them. No condition. -/
import Derived.Test.YtalaegjdldllfaaGreatDoorXd
import Derived.Test.YtalaegjdldllfaaGreatDoorYd5
import Derived.Test.YtalaegjdldllfaaGreatDoorYd6
import Derived.Test.YtalaegjdldllfaaGreatDoorYd7
set_option linter.unusedVariables false
set_option linter.unusedSimpArgs false
namespace Go.Proofs.YtalaegjdldllfaaGreatDoor
set_option maxRecDepth 1000000
theorem d14_run : (runC (EC [215] [d3, d6, d13]) 20000 d14.n [callFr d14.g Tryz.f25.ntmps d14.l (bdy 25)] d14.ms).vc (retOk d14.n [(2, 2), (5, 5), (6, 6), (764, 764)] d14.s0 d14.ms') (fun _ _ => False) = allP (selfR d14.n [(2, 2), (5, 5), (6, 6), (764, 764)] d14.s0 d14.ms') := by kernel_rfl
theorem d14_ok : d14.Ok := CC.mk_ok (ro := [215]) (L := [d3, d6, d13]) (okC d3_ok (okC d6_ok (okC d13_ok okN))) d14 (fn := Tryz.f25) (b := bdy 25) (by kernel_rfl) (by kernel_rfl) (by kernel_rfl) (by kernel_rfl) d14_run
theorem d264_run : (runC (EC [215] [d253, d256, d263]) 20000 d264.n [callFr d264.g Tryz.f25.ntmps d264.l (bdy 25)] d264.ms).vc (retOk d264.n [(42, 42), (45, 45), (46, 46), (804, 804)] d264.s0 d264.ms') (fun _ _ => False) = allP (selfR d264.n [(42, 42), (45, 45), (46, 46), (804, 804)] d264.s0 d264.ms') := by kernel_rfl
theorem d264_ok : d264.Ok := CC.mk_ok (ro := [215]) (L := [d253, d256, d263]) (okC d253_ok (okC d256_ok (okC d263_ok okN))) d264 (fn := Tryz.f25) (b := bdy 25) (by kernel_rfl) (by kernel_rfl) (by kernel_rfl) (by kernel_rfl) d264_run
end Go.Proofs.YtalaegjdldllfaaGreatDoor
