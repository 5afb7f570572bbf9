/- Of a closed run: its calls do what is told of them. No condition. -/
import Derived.Test.YtalaegjdldllfaaGreatDoorXv
namespace Go.Proofs.YtalaegjdldllfaaGreatDoor
set_option maxRecDepth 1000000
theorem v112_run : (runC (EC [215] []) 20000 v112.n [callFr v112.g Tryz.f126.ntmps v112.l (bdy 126)] v112.ms).vc (retOk v112.n [] v112.s0 v112.ms') (fun _ _ => False) = allP (selfR v112.n [] v112.s0 v112.ms') := by kernel_rfl
theorem v112_ok : v112.Ok := CC.mk_ok (ro := [215]) (L := []) okN v112 (fn := Tryz.f126) (b := bdy 126) (by kernel_rfl) (by kernel_rfl) (by kernel_rfl) (by kernel_rfl) v112_run
theorem v115_run : (runC (EC [215] []) 20000 v115.n [callFr v115.g Tryz.f126.ntmps v115.l (bdy 126)] v115.ms).vc (retOk v115.n [(11897, 11897)] v115.s0 v115.ms') (fun _ _ => False) = allP (selfR v115.n [(11897, 11897)] v115.s0 v115.ms') := by kernel_rfl
theorem v115_ok : v115.Ok := CC.mk_ok (ro := [215]) (L := []) okN v115 (fn := Tryz.f126) (b := bdy 126) (by kernel_rfl) (by kernel_rfl) (by kernel_rfl) (by kernel_rfl) v115_run
theorem v116_run : (runC (EC [215] []) 20000 v116.n [callFr v116.g Tryz.f126.ntmps v116.l (bdy 126)] v116.ms).vc (retOk v116.n [] v116.s0 v116.ms') (fun _ _ => False) = allP (selfR v116.n [] v116.s0 v116.ms') := by kernel_rfl
theorem v116_ok : v116.Ok := CC.mk_ok (ro := [215]) (L := []) okN v116 (fn := Tryz.f126) (b := bdy 126) (by kernel_rfl) (by kernel_rfl) (by kernel_rfl) (by kernel_rfl) v116_run
theorem v117_run : (runC (EC [215] []) 20000 v117.n [callFr v117.g Tryz.f126.ntmps v117.l (bdy 126)] v117.ms).vc (retOk v117.n [] v117.s0 v117.ms') (fun _ _ => False) = allP (selfR v117.n [] v117.s0 v117.ms') := by kernel_rfl
theorem v117_ok : v117.Ok := CC.mk_ok (ro := [215]) (L := []) okN v117 (fn := Tryz.f126) (b := bdy 126) (by kernel_rfl) (by kernel_rfl) (by kernel_rfl) (by kernel_rfl) v117_run
theorem v119_run : (runC (EC [215] []) 20000 v119.n [callFr v119.g Tryz.f126.ntmps v119.l (bdy 126)] v119.ms).vc (retOk v119.n [(12366, 12366)] v119.s0 v119.ms') (fun _ _ => False) = allP (selfR v119.n [(12366, 12366)] v119.s0 v119.ms') := by kernel_rfl
theorem v119_ok : v119.Ok := CC.mk_ok (ro := [215]) (L := []) okN v119 (fn := Tryz.f126) (b := bdy 126) (by kernel_rfl) (by kernel_rfl) (by kernel_rfl) (by kernel_rfl) v119_run
theorem v120_run : (runC (EC [215] []) 20000 v120.n [callFr v120.g Tryz.f126.ntmps v120.l (bdy 126)] v120.ms).vc (retOk v120.n [] v120.s0 v120.ms') (fun _ _ => False) = allP (selfR v120.n [] v120.s0 v120.ms') := by kernel_rfl
theorem v120_ok : v120.Ok := CC.mk_ok (ro := [215]) (L := []) okN v120 (fn := Tryz.f126) (b := bdy 126) (by kernel_rfl) (by kernel_rfl) (by kernel_rfl) (by kernel_rfl) v120_run
theorem v121_run : (runC (EC [215] []) 20000 v121.n [callFr v121.g Tryz.f126.ntmps v121.l (bdy 126)] v121.ms).vc (retOk v121.n [] v121.s0 v121.ms') (fun _ _ => False) = allP (selfR v121.n [] v121.s0 v121.ms') := by kernel_rfl
theorem v121_ok : v121.Ok := CC.mk_ok (ro := [215]) (L := []) okN v121 (fn := Tryz.f126) (b := bdy 126) (by kernel_rfl) (by kernel_rfl) (by kernel_rfl) (by kernel_rfl) v121_run
theorem v123_run : (runC (EC [215] []) 20000 v123.n [callFr v123.g Tryz.f126.ntmps v123.l (bdy 126)] v123.ms).vc (retOk v123.n [(12837, 12837)] v123.s0 v123.ms') (fun _ _ => False) = allP (selfR v123.n [(12837, 12837)] v123.s0 v123.ms') := by kernel_rfl
theorem v123_ok : v123.Ok := CC.mk_ok (ro := [215]) (L := []) okN v123 (fn := Tryz.f126) (b := bdy 126) (by kernel_rfl) (by kernel_rfl) (by kernel_rfl) (by kernel_rfl) v123_run
theorem v124_run : (runC (EC [215] []) 20000 v124.n [callFr v124.g Tryz.f126.ntmps v124.l (bdy 126)] v124.ms).vc (retOk v124.n [] v124.s0 v124.ms') (fun _ _ => False) = allP (selfR v124.n [] v124.s0 v124.ms') := by kernel_rfl
theorem v124_ok : v124.Ok := CC.mk_ok (ro := [215]) (L := []) okN v124 (fn := Tryz.f126) (b := bdy 126) (by kernel_rfl) (by kernel_rfl) (by kernel_rfl) (by kernel_rfl) v124_run
theorem v125_run : (runC (EC [215] []) 20000 v125.n [callFr v125.g Tryz.f126.ntmps v125.l (bdy 126)] v125.ms).vc (retOk v125.n [] v125.s0 v125.ms') (fun _ _ => False) = allP (selfR v125.n [] v125.s0 v125.ms') := by kernel_rfl
theorem v125_ok : v125.Ok := CC.mk_ok (ro := [215]) (L := []) okN v125 (fn := Tryz.f126) (b := bdy 126) (by kernel_rfl) (by kernel_rfl) (by kernel_rfl) (by kernel_rfl) v125_run
theorem v127_run : (runC (EC [215] []) 20000 v127.n [callFr v127.g Tryz.f126.ntmps v127.l (bdy 126)] v127.ms).vc (retOk v127.n [(13306, 13306)] v127.s0 v127.ms') (fun _ _ => False) = allP (selfR v127.n [(13306, 13306)] v127.s0 v127.ms') := by kernel_rfl
theorem v127_ok : v127.Ok := CC.mk_ok (ro := [215]) (L := []) okN v127 (fn := Tryz.f126) (b := bdy 126) (by kernel_rfl) (by kernel_rfl) (by kernel_rfl) (by kernel_rfl) v127_run
theorem v128_run : (runC (EC [215] []) 20000 v128.n [callFr v128.g Tryz.f126.ntmps v128.l (bdy 126)] v128.ms).vc (retOk v128.n [] v128.s0 v128.ms') (fun _ _ => False) = allP (selfR v128.n [] v128.s0 v128.ms') := by kernel_rfl
theorem v128_ok : v128.Ok := CC.mk_ok (ro := [215]) (L := []) okN v128 (fn := Tryz.f126) (b := bdy 126) (by kernel_rfl) (by kernel_rfl) (by kernel_rfl) (by kernel_rfl) v128_run
theorem v129_run : (runC (EC [215] []) 20000 v129.n [callFr v129.g Tryz.f126.ntmps v129.l (bdy 126)] v129.ms).vc (retOk v129.n [] v129.s0 v129.ms') (fun _ _ => False) = allP (selfR v129.n [] v129.s0 v129.ms') := by kernel_rfl
theorem v129_ok : v129.Ok := CC.mk_ok (ro := [215]) (L := []) okN v129 (fn := Tryz.f126) (b := bdy 126) (by kernel_rfl) (by kernel_rfl) (by kernel_rfl) (by kernel_rfl) v129_run
theorem v132_run : (runC (EC [215] []) 20000 v132.n [callFr v132.g Tryz.f126.ntmps v132.l (bdy 126)] v132.ms).vc (retOk v132.n [(13782, 13782)] v132.s0 v132.ms') (fun _ _ => False) = allP (selfR v132.n [(13782, 13782)] v132.s0 v132.ms') := by kernel_rfl
theorem v132_ok : v132.Ok := CC.mk_ok (ro := [215]) (L := []) okN v132 (fn := Tryz.f126) (b := bdy 126) (by kernel_rfl) (by kernel_rfl) (by kernel_rfl) (by kernel_rfl) v132_run
theorem v133_run : (runC (EC [215] []) 20000 v133.n [callFr v133.g Tryz.f126.ntmps v133.l (bdy 126)] v133.ms).vc (retOk v133.n [] v133.s0 v133.ms') (fun _ _ => False) = allP (selfR v133.n [] v133.s0 v133.ms') := by kernel_rfl
theorem v133_ok : v133.Ok := CC.mk_ok (ro := [215]) (L := []) okN v133 (fn := Tryz.f126) (b := bdy 126) (by kernel_rfl) (by kernel_rfl) (by kernel_rfl) (by kernel_rfl) v133_run
theorem v134_run : (runC (EC [215] []) 20000 v134.n [callFr v134.g Tryz.f126.ntmps v134.l (bdy 126)] v134.ms).vc (retOk v134.n [] v134.s0 v134.ms') (fun _ _ => False) = allP (selfR v134.n [] v134.s0 v134.ms') := by kernel_rfl
theorem v134_ok : v134.Ok := CC.mk_ok (ro := [215]) (L := []) okN v134 (fn := Tryz.f126) (b := bdy 126) (by kernel_rfl) (by kernel_rfl) (by kernel_rfl) (by kernel_rfl) v134_run
theorem v136_run : (runC (EC [215] []) 20000 v136.n [callFr v136.g Tryz.f126.ntmps v136.l (bdy 126)] v136.ms).vc (retOk v136.n [(14251, 14251)] v136.s0 v136.ms') (fun _ _ => False) = allP (selfR v136.n [(14251, 14251)] v136.s0 v136.ms') := by kernel_rfl
theorem v136_ok : v136.Ok := CC.mk_ok (ro := [215]) (L := []) okN v136 (fn := Tryz.f126) (b := bdy 126) (by kernel_rfl) (by kernel_rfl) (by kernel_rfl) (by kernel_rfl) v136_run
theorem v137_run : (runC (EC [215] []) 20000 v137.n [callFr v137.g Tryz.f126.ntmps v137.l (bdy 126)] v137.ms).vc (retOk v137.n [] v137.s0 v137.ms') (fun _ _ => False) = allP (selfR v137.n [] v137.s0 v137.ms') := by kernel_rfl
theorem v137_ok : v137.Ok := CC.mk_ok (ro := [215]) (L := []) okN v137 (fn := Tryz.f126) (b := bdy 126) (by kernel_rfl) (by kernel_rfl) (by kernel_rfl) (by kernel_rfl) v137_run
theorem v138_run : (runC (EC [215] []) 20000 v138.n [callFr v138.g Tryz.f126.ntmps v138.l (bdy 126)] v138.ms).vc (retOk v138.n [] v138.s0 v138.ms') (fun _ _ => False) = allP (selfR v138.n [] v138.s0 v138.ms') := by kernel_rfl
theorem v138_ok : v138.Ok := CC.mk_ok (ro := [215]) (L := []) okN v138 (fn := Tryz.f126) (b := bdy 126) (by kernel_rfl) (by kernel_rfl) (by kernel_rfl) (by kernel_rfl) v138_run
theorem v140_run : (runC (EC [215] []) 20000 v140.n [callFr v140.g Tryz.f126.ntmps v140.l (bdy 126)] v140.ms).vc (retOk v140.n [(14724, 14724)] v140.s0 v140.ms') (fun _ _ => False) = allP (selfR v140.n [(14724, 14724)] v140.s0 v140.ms') := by kernel_rfl
theorem v140_ok : v140.Ok := CC.mk_ok (ro := [215]) (L := []) okN v140 (fn := Tryz.f126) (b := bdy 126) (by kernel_rfl) (by kernel_rfl) (by kernel_rfl) (by kernel_rfl) v140_run
end Go.Proofs.YtalaegjdldllfaaGreatDoor
