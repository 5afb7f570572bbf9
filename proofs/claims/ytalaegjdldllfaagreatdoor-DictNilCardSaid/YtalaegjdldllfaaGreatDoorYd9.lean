/- Of a closed run: its calls do what is told of them. No condition. -/
import Derived.Test.YtalaegjdldllfaaGreatDoorXd
import Derived.Test.YtalaegjdldllfaaGreatDoorYd7
import Derived.Test.YtalaegjdldllfaaGreatDoorYd8
set_option linter.unusedVariables false
set_option linter.unusedSimpArgs false
namespace Go.Proofs.YtalaegjdldllfaaGreatDoor
set_option maxRecDepth 1000000
theorem d245_run : (runC (EC [215] [d14, d69, d152, d181, d218, d223, d244]) 20000 d245.n [callFr d245.g Tryz.f26.ntmps d245.l (bdy 26)] d245.ms).vc (retOk d245.n [] d245.s0 d245.ms') (fun _ _ => False) = allP (selfR d245.n [] d245.s0 d245.ms') := by kernel_rfl
theorem d245_ok : d245.Ok := CC.mk_ok (ro := [215]) (L := [d14, d69, d152, d181, d218, d223, d244]) (okC d14_ok (okC d69_ok (okC d152_ok (okC d181_ok (okC d218_ok (okC d223_ok (okC d244_ok okN))))))) d245 (fn := Tryz.f26) (b := bdy 26) (by kernel_rfl) (by kernel_rfl) (by kernel_rfl) (by kernel_rfl) d245_run
end Go.Proofs.YtalaegjdldllfaaGreatDoor
