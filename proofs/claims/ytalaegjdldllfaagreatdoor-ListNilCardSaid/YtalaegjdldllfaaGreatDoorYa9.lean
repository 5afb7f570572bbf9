/- Of a closed run: its calls do what is told of them. No condition. -/
import Derived.Test.YtalaegjdldllfaaGreatDoorXa
import Derived.Test.YtalaegjdldllfaaGreatDoorYa7
import Derived.Test.YtalaegjdldllfaaGreatDoorYa8
set_option linter.unusedVariables false
set_option linter.unusedSimpArgs false
namespace Go.Proofs.YtalaegjdldllfaaGreatDoor
set_option maxRecDepth 1000000
theorem a229_run : (runC (EC [215] [a13, a52, a89, a124, a165, a198, a203, a228]) 20000 a229.n [callFr a229.g Tryz.f16.ntmps a229.l (bdy 16)] a229.ms).vc (retOk a229.n [] a229.s0 a229.ms') (fun _ _ => False) = allP (selfR a229.n [] a229.s0 a229.ms') := by kernel_rfl
theorem a229_ok : a229.Ok := CC.mk_ok (ro := [215]) (L := [a13, a52, a89, a124, a165, a198, a203, a228]) (okC a13_ok (okC a52_ok (okC a89_ok (okC a124_ok (okC a165_ok (okC a198_ok (okC a203_ok (okC a228_ok okN)))))))) a229 (fn := Tryz.f16) (b := bdy 16) (by kernel_rfl) (by kernel_rfl) (by kernel_rfl) (by kernel_rfl) a229_run
end Go.Proofs.YtalaegjdldllfaaGreatDoor
