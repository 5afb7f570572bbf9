/- Of a closed run: its calls do what is told of them. No condition. -/
import Derived.Test.YtalaegjdldllfaaGreatDoorXv
import Derived.Test.YtalaegjdldllfaaGreatDoorYv2
import Derived.Test.YtalaegjdldllfaaGreatDoorYv3
import Derived.Test.YtalaegjdldllfaaGreatDoorYv4
namespace Go.Proofs.YtalaegjdldllfaaGreatDoor
set_option maxRecDepth 1000000
theorem v76_run : (runC (EC [215] [v73, v74, v75]) 20000 v76.n [callFr v76.g Tryz.f56.ntmps v76.l (bdy 56)] v76.ms).vc (retOk v76.n [] v76.s0 v76.ms') (fun _ _ => False) = allP (selfR v76.n [] v76.s0 v76.ms') := by kernel_rfl
theorem v76_ok : v76.Ok := CC.mk_ok (ro := [215]) (L := [v73, v74, v75]) (okC v73_ok (okC v74_ok (okC v75_ok okN))) v76 (fn := Tryz.f56) (b := bdy 56) (by kernel_rfl) (by kernel_rfl) (by kernel_rfl) (by kernel_rfl) v76_run
theorem v80_run : (runC (EC [215] [v77, v78, v79]) 20000 v80.n [callFr v80.g Tryz.f56.ntmps v80.l (bdy 56)] v80.ms).vc (retOk v80.n [] v80.s0 v80.ms') (fun _ _ => False) = allP (selfR v80.n [] v80.s0 v80.ms') := by kernel_rfl
theorem v80_ok : v80.Ok := CC.mk_ok (ro := [215]) (L := [v77, v78, v79]) (okC v77_ok (okC v78_ok (okC v79_ok okN))) v80 (fn := Tryz.f56) (b := bdy 56) (by kernel_rfl) (by kernel_rfl) (by kernel_rfl) (by kernel_rfl) v80_run
theorem v84_run : (runC (EC [215] [v81, v82, v83]) 20000 v84.n [callFr v84.g Tryz.f56.ntmps v84.l (bdy 56)] v84.ms).vc (retOk v84.n [] v84.s0 v84.ms') (fun _ _ => False) = allP (selfR v84.n [] v84.s0 v84.ms') := by kernel_rfl
theorem v84_ok : v84.Ok := CC.mk_ok (ro := [215]) (L := [v81, v82, v83]) (okC v81_ok (okC v82_ok (okC v83_ok okN))) v84 (fn := Tryz.f56) (b := bdy 56) (by kernel_rfl) (by kernel_rfl) (by kernel_rfl) (by kernel_rfl) v84_run
theorem v88_run : (runC (EC [215] [v85, v86, v87]) 20000 v88.n [callFr v88.g Tryz.f56.ntmps v88.l (bdy 56)] v88.ms).vc (retOk v88.n [] v88.s0 v88.ms') (fun _ _ => False) = allP (selfR v88.n [] v88.s0 v88.ms') := by kernel_rfl
theorem v88_ok : v88.Ok := CC.mk_ok (ro := [215]) (L := [v85, v86, v87]) (okC v85_ok (okC v86_ok (okC v87_ok okN))) v88 (fn := Tryz.f56) (b := bdy 56) (by kernel_rfl) (by kernel_rfl) (by kernel_rfl) (by kernel_rfl) v88_run
theorem v92_run : (runC (EC [215] [v89, v90, v91]) 20000 v92.n [callFr v92.g Tryz.f56.ntmps v92.l (bdy 56)] v92.ms).vc (retOk v92.n [] v92.s0 v92.ms') (fun _ _ => False) = allP (selfR v92.n [] v92.s0 v92.ms') := by kernel_rfl
theorem v92_ok : v92.Ok := CC.mk_ok (ro := [215]) (L := [v89, v90, v91]) (okC v89_ok (okC v90_ok (okC v91_ok okN))) v92 (fn := Tryz.f56) (b := bdy 56) (by kernel_rfl) (by kernel_rfl) (by kernel_rfl) (by kernel_rfl) v92_run
theorem v97_run : (runC (EC [215] [v94, v95, v96]) 20000 v97.n [callFr v97.g Tryz.f56.ntmps v97.l (bdy 56)] v97.ms).vc (retOk v97.n [] v97.s0 v97.ms') (fun _ _ => False) = allP (selfR v97.n [] v97.s0 v97.ms') := by kernel_rfl
theorem v97_ok : v97.Ok := CC.mk_ok (ro := [215]) (L := [v94, v95, v96]) (okC v94_ok (okC v95_ok (okC v96_ok okN))) v97 (fn := Tryz.f56) (b := bdy 56) (by kernel_rfl) (by kernel_rfl) (by kernel_rfl) (by kernel_rfl) v97_run
theorem v101_run : (runC (EC [215] [v98, v99, v100]) 20000 v101.n [callFr v101.g Tryz.f56.ntmps v101.l (bdy 56)] v101.ms).vc (retOk v101.n [] v101.s0 v101.ms') (fun _ _ => False) = allP (selfR v101.n [] v101.s0 v101.ms') := by kernel_rfl
theorem v101_ok : v101.Ok := CC.mk_ok (ro := [215]) (L := [v98, v99, v100]) (okC v98_ok (okC v99_ok (okC v100_ok okN))) v101 (fn := Tryz.f56) (b := bdy 56) (by kernel_rfl) (by kernel_rfl) (by kernel_rfl) (by kernel_rfl) v101_run
theorem v105_run : (runC (EC [215] [v102, v103, v104]) 20000 v105.n [callFr v105.g Tryz.f56.ntmps v105.l (bdy 56)] v105.ms).vc (retOk v105.n [] v105.s0 v105.ms') (fun _ _ => False) = allP (selfR v105.n [] v105.s0 v105.ms') := by kernel_rfl
theorem v105_ok : v105.Ok := CC.mk_ok (ro := [215]) (L := [v102, v103, v104]) (okC v102_ok (okC v103_ok (okC v104_ok okN))) v105 (fn := Tryz.f56) (b := bdy 56) (by kernel_rfl) (by kernel_rfl) (by kernel_rfl) (by kernel_rfl) v105_run
theorem v109_run : (runC (EC [215] [v106, v107, v108]) 20000 v109.n [callFr v109.g Tryz.f56.ntmps v109.l (bdy 56)] v109.ms).vc (retOk v109.n [] v109.s0 v109.ms') (fun _ _ => False) = allP (selfR v109.n [] v109.s0 v109.ms') := by kernel_rfl
theorem v109_ok : v109.Ok := CC.mk_ok (ro := [215]) (L := [v106, v107, v108]) (okC v106_ok (okC v107_ok (okC v108_ok okN))) v109 (fn := Tryz.f56) (b := bdy 56) (by kernel_rfl) (by kernel_rfl) (by kernel_rfl) (by kernel_rfl) v109_run
theorem v113_run : (runC (EC [215] [v110, v111, v112]) 20000 v113.n [callFr v113.g Tryz.f56.ntmps v113.l (bdy 56)] v113.ms).vc (retOk v113.n [] v113.s0 v113.ms') (fun _ _ => False) = allP (selfR v113.n [] v113.s0 v113.ms') := by kernel_rfl
theorem v113_ok : v113.Ok := CC.mk_ok (ro := [215]) (L := [v110, v111, v112]) (okC v110_ok (okC v111_ok (okC v112_ok okN))) v113 (fn := Tryz.f56) (b := bdy 56) (by kernel_rfl) (by kernel_rfl) (by kernel_rfl) (by kernel_rfl) v113_run
theorem v118_run : (runC (EC [215] [v115, v116, v117]) 20000 v118.n [callFr v118.g Tryz.f56.ntmps v118.l (bdy 56)] v118.ms).vc (retOk v118.n [] v118.s0 v118.ms') (fun _ _ => False) = allP (selfR v118.n [] v118.s0 v118.ms') := by kernel_rfl
theorem v118_ok : v118.Ok := CC.mk_ok (ro := [215]) (L := [v115, v116, v117]) (okC v115_ok (okC v116_ok (okC v117_ok okN))) v118 (fn := Tryz.f56) (b := bdy 56) (by kernel_rfl) (by kernel_rfl) (by kernel_rfl) (by kernel_rfl) v118_run
theorem v122_run : (runC (EC [215] [v119, v120, v121]) 20000 v122.n [callFr v122.g Tryz.f56.ntmps v122.l (bdy 56)] v122.ms).vc (retOk v122.n [] v122.s0 v122.ms') (fun _ _ => False) = allP (selfR v122.n [] v122.s0 v122.ms') := by kernel_rfl
theorem v122_ok : v122.Ok := CC.mk_ok (ro := [215]) (L := [v119, v120, v121]) (okC v119_ok (okC v120_ok (okC v121_ok okN))) v122 (fn := Tryz.f56) (b := bdy 56) (by kernel_rfl) (by kernel_rfl) (by kernel_rfl) (by kernel_rfl) v122_run
theorem v126_run : (runC (EC [215] [v123, v124, v125]) 20000 v126.n [callFr v126.g Tryz.f56.ntmps v126.l (bdy 56)] v126.ms).vc (retOk v126.n [] v126.s0 v126.ms') (fun _ _ => False) = allP (selfR v126.n [] v126.s0 v126.ms') := by kernel_rfl
theorem v126_ok : v126.Ok := CC.mk_ok (ro := [215]) (L := [v123, v124, v125]) (okC v123_ok (okC v124_ok (okC v125_ok okN))) v126 (fn := Tryz.f56) (b := bdy 56) (by kernel_rfl) (by kernel_rfl) (by kernel_rfl) (by kernel_rfl) v126_run
theorem v130_run : (runC (EC [215] [v127, v128, v129]) 20000 v130.n [callFr v130.g Tryz.f56.ntmps v130.l (bdy 56)] v130.ms).vc (retOk v130.n [] v130.s0 v130.ms') (fun _ _ => False) = allP (selfR v130.n [] v130.s0 v130.ms') := by kernel_rfl
theorem v130_ok : v130.Ok := CC.mk_ok (ro := [215]) (L := [v127, v128, v129]) (okC v127_ok (okC v128_ok (okC v129_ok okN))) v130 (fn := Tryz.f56) (b := bdy 56) (by kernel_rfl) (by kernel_rfl) (by kernel_rfl) (by kernel_rfl) v130_run
theorem v135_run : (runC (EC [215] [v132, v133, v134]) 20000 v135.n [callFr v135.g Tryz.f56.ntmps v135.l (bdy 56)] v135.ms).vc (retOk v135.n [] v135.s0 v135.ms') (fun _ _ => False) = allP (selfR v135.n [] v135.s0 v135.ms') := by kernel_rfl
theorem v135_ok : v135.Ok := CC.mk_ok (ro := [215]) (L := [v132, v133, v134]) (okC v132_ok (okC v133_ok (okC v134_ok okN))) v135 (fn := Tryz.f56) (b := bdy 56) (by kernel_rfl) (by kernel_rfl) (by kernel_rfl) (by kernel_rfl) v135_run
theorem v139_run : (runC (EC [215] [v136, v137, v138]) 20000 v139.n [callFr v139.g Tryz.f56.ntmps v139.l (bdy 56)] v139.ms).vc (retOk v139.n [] v139.s0 v139.ms') (fun _ _ => False) = allP (selfR v139.n [] v139.s0 v139.ms') := by kernel_rfl
theorem v139_ok : v139.Ok := CC.mk_ok (ro := [215]) (L := [v136, v137, v138]) (okC v136_ok (okC v137_ok (okC v138_ok okN))) v139 (fn := Tryz.f56) (b := bdy 56) (by kernel_rfl) (by kernel_rfl) (by kernel_rfl) (by kernel_rfl) v139_run
end Go.Proofs.YtalaegjdldllfaaGreatDoor
