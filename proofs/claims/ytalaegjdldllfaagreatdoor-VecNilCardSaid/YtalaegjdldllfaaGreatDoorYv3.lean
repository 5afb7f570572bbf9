/- Of a closed run: its calls do what is told of them. No condition. -/
import Derived.Test.YtalaegjdldllfaaGreatDoorXv
namespace Go.Proofs.YtalaegjdldllfaaGreatDoor
set_option maxRecDepth 1000000
theorem v85_run : (runC (EC [215] []) 20000 v85.n [callFr v85.g Tryz.f126.ntmps v85.l (bdy 126)] v85.ms).vc (retOk v85.n [(8592, 8592)] v85.s0 v85.ms') (fun _ _ => False) = allP (selfR v85.n [(8592, 8592)] v85.s0 v85.ms') := by kernel_rfl
theorem v85_ok : v85.Ok := CC.mk_ok (ro := [215]) (L := []) okN v85 (fn := Tryz.f126) (b := bdy 126) (by kernel_rfl) (by kernel_rfl) (by kernel_rfl) (by kernel_rfl) v85_run
theorem v86_run : (runC (EC [215] []) 20000 v86.n [callFr v86.g Tryz.f126.ntmps v86.l (bdy 126)] v86.ms).vc (retOk v86.n [] v86.s0 v86.ms') (fun _ _ => False) = allP (selfR v86.n [] v86.s0 v86.ms') := by kernel_rfl
theorem v86_ok : v86.Ok := CC.mk_ok (ro := [215]) (L := []) okN v86 (fn := Tryz.f126) (b := bdy 126) (by kernel_rfl) (by kernel_rfl) (by kernel_rfl) (by kernel_rfl) v86_run
theorem v87_run : (runC (EC [215] []) 20000 v87.n [callFr v87.g Tryz.f126.ntmps v87.l (bdy 126)] v87.ms).vc (retOk v87.n [] v87.s0 v87.ms') (fun _ _ => False) = allP (selfR v87.n [] v87.s0 v87.ms') := by kernel_rfl
theorem v87_ok : v87.Ok := CC.mk_ok (ro := [215]) (L := []) okN v87 (fn := Tryz.f126) (b := bdy 126) (by kernel_rfl) (by kernel_rfl) (by kernel_rfl) (by kernel_rfl) v87_run
theorem v89_run : (runC (EC [215] []) 20000 v89.n [callFr v89.g Tryz.f126.ntmps v89.l (bdy 126)] v89.ms).vc (retOk v89.n [(9063, 9063)] v89.s0 v89.ms') (fun _ _ => False) = allP (selfR v89.n [(9063, 9063)] v89.s0 v89.ms') := by kernel_rfl
theorem v89_ok : v89.Ok := CC.mk_ok (ro := [215]) (L := []) okN v89 (fn := Tryz.f126) (b := bdy 126) (by kernel_rfl) (by kernel_rfl) (by kernel_rfl) (by kernel_rfl) v89_run
theorem v90_run : (runC (EC [215] []) 20000 v90.n [callFr v90.g Tryz.f126.ntmps v90.l (bdy 126)] v90.ms).vc (retOk v90.n [] v90.s0 v90.ms') (fun _ _ => False) = allP (selfR v90.n [] v90.s0 v90.ms') := by kernel_rfl
theorem v90_ok : v90.Ok := CC.mk_ok (ro := [215]) (L := []) okN v90 (fn := Tryz.f126) (b := bdy 126) (by kernel_rfl) (by kernel_rfl) (by kernel_rfl) (by kernel_rfl) v90_run
theorem v91_run : (runC (EC [215] []) 20000 v91.n [callFr v91.g Tryz.f126.ntmps v91.l (bdy 126)] v91.ms).vc (retOk v91.n [] v91.s0 v91.ms') (fun _ _ => False) = allP (selfR v91.n [] v91.s0 v91.ms') := by kernel_rfl
theorem v91_ok : v91.Ok := CC.mk_ok (ro := [215]) (L := []) okN v91 (fn := Tryz.f126) (b := bdy 126) (by kernel_rfl) (by kernel_rfl) (by kernel_rfl) (by kernel_rfl) v91_run
theorem v94_run : (runC (EC [215] []) 20000 v94.n [callFr v94.g Tryz.f126.ntmps v94.l (bdy 126)] v94.ms).vc (retOk v94.n [(9540, 9540)] v94.s0 v94.ms') (fun _ _ => False) = allP (selfR v94.n [(9540, 9540)] v94.s0 v94.ms') := by kernel_rfl
theorem v94_ok : v94.Ok := CC.mk_ok (ro := [215]) (L := []) okN v94 (fn := Tryz.f126) (b := bdy 126) (by kernel_rfl) (by kernel_rfl) (by kernel_rfl) (by kernel_rfl) v94_run
theorem v95_run : (runC (EC [215] []) 20000 v95.n [callFr v95.g Tryz.f126.ntmps v95.l (bdy 126)] v95.ms).vc (retOk v95.n [] v95.s0 v95.ms') (fun _ _ => False) = allP (selfR v95.n [] v95.s0 v95.ms') := by kernel_rfl
theorem v95_ok : v95.Ok := CC.mk_ok (ro := [215]) (L := []) okN v95 (fn := Tryz.f126) (b := bdy 126) (by kernel_rfl) (by kernel_rfl) (by kernel_rfl) (by kernel_rfl) v95_run
theorem v96_run : (runC (EC [215] []) 20000 v96.n [callFr v96.g Tryz.f126.ntmps v96.l (bdy 126)] v96.ms).vc (retOk v96.n [] v96.s0 v96.ms') (fun _ _ => False) = allP (selfR v96.n [] v96.s0 v96.ms') := by kernel_rfl
theorem v96_ok : v96.Ok := CC.mk_ok (ro := [215]) (L := []) okN v96 (fn := Tryz.f126) (b := bdy 126) (by kernel_rfl) (by kernel_rfl) (by kernel_rfl) (by kernel_rfl) v96_run
theorem v98_run : (runC (EC [215] []) 20000 v98.n [callFr v98.g Tryz.f126.ntmps v98.l (bdy 126)] v98.ms).vc (retOk v98.n [(10009, 10009)] v98.s0 v98.ms') (fun _ _ => False) = allP (selfR v98.n [(10009, 10009)] v98.s0 v98.ms') := by kernel_rfl
theorem v98_ok : v98.Ok := CC.mk_ok (ro := [215]) (L := []) okN v98 (fn := Tryz.f126) (b := bdy 126) (by kernel_rfl) (by kernel_rfl) (by kernel_rfl) (by kernel_rfl) v98_run
theorem v99_run : (runC (EC [215] []) 20000 v99.n [callFr v99.g Tryz.f126.ntmps v99.l (bdy 126)] v99.ms).vc (retOk v99.n [] v99.s0 v99.ms') (fun _ _ => False) = allP (selfR v99.n [] v99.s0 v99.ms') := by kernel_rfl
theorem v99_ok : v99.Ok := CC.mk_ok (ro := [215]) (L := []) okN v99 (fn := Tryz.f126) (b := bdy 126) (by kernel_rfl) (by kernel_rfl) (by kernel_rfl) (by kernel_rfl) v99_run
theorem v100_run : (runC (EC [215] []) 20000 v100.n [callFr v100.g Tryz.f126.ntmps v100.l (bdy 126)] v100.ms).vc (retOk v100.n [] v100.s0 v100.ms') (fun _ _ => False) = allP (selfR v100.n [] v100.s0 v100.ms') := by kernel_rfl
theorem v100_ok : v100.Ok := CC.mk_ok (ro := [215]) (L := []) okN v100 (fn := Tryz.f126) (b := bdy 126) (by kernel_rfl) (by kernel_rfl) (by kernel_rfl) (by kernel_rfl) v100_run
theorem v102_run : (runC (EC [215] []) 20000 v102.n [callFr v102.g Tryz.f126.ntmps v102.l (bdy 126)] v102.ms).vc (retOk v102.n [(10481, 10481)] v102.s0 v102.ms') (fun _ _ => False) = allP (selfR v102.n [(10481, 10481)] v102.s0 v102.ms') := by kernel_rfl
theorem v102_ok : v102.Ok := CC.mk_ok (ro := [215]) (L := []) okN v102 (fn := Tryz.f126) (b := bdy 126) (by kernel_rfl) (by kernel_rfl) (by kernel_rfl) (by kernel_rfl) v102_run
theorem v103_run : (runC (EC [215] []) 20000 v103.n [callFr v103.g Tryz.f126.ntmps v103.l (bdy 126)] v103.ms).vc (retOk v103.n [] v103.s0 v103.ms') (fun _ _ => False) = allP (selfR v103.n [] v103.s0 v103.ms') := by kernel_rfl
theorem v103_ok : v103.Ok := CC.mk_ok (ro := [215]) (L := []) okN v103 (fn := Tryz.f126) (b := bdy 126) (by kernel_rfl) (by kernel_rfl) (by kernel_rfl) (by kernel_rfl) v103_run
theorem v104_run : (runC (EC [215] []) 20000 v104.n [callFr v104.g Tryz.f126.ntmps v104.l (bdy 126)] v104.ms).vc (retOk v104.n [] v104.s0 v104.ms') (fun _ _ => False) = allP (selfR v104.n [] v104.s0 v104.ms') := by kernel_rfl
theorem v104_ok : v104.Ok := CC.mk_ok (ro := [215]) (L := []) okN v104 (fn := Tryz.f126) (b := bdy 126) (by kernel_rfl) (by kernel_rfl) (by kernel_rfl) (by kernel_rfl) v104_run
theorem v106_run : (runC (EC [215] []) 20000 v106.n [callFr v106.g Tryz.f126.ntmps v106.l (bdy 126)] v106.ms).vc (retOk v106.n [(10951, 10951)] v106.s0 v106.ms') (fun _ _ => False) = allP (selfR v106.n [(10951, 10951)] v106.s0 v106.ms') := by kernel_rfl
theorem v106_ok : v106.Ok := CC.mk_ok (ro := [215]) (L := []) okN v106 (fn := Tryz.f126) (b := bdy 126) (by kernel_rfl) (by kernel_rfl) (by kernel_rfl) (by kernel_rfl) v106_run
theorem v107_run : (runC (EC [215] []) 20000 v107.n [callFr v107.g Tryz.f126.ntmps v107.l (bdy 126)] v107.ms).vc (retOk v107.n [] v107.s0 v107.ms') (fun _ _ => False) = allP (selfR v107.n [] v107.s0 v107.ms') := by kernel_rfl
theorem v107_ok : v107.Ok := CC.mk_ok (ro := [215]) (L := []) okN v107 (fn := Tryz.f126) (b := bdy 126) (by kernel_rfl) (by kernel_rfl) (by kernel_rfl) (by kernel_rfl) v107_run
theorem v108_run : (runC (EC [215] []) 20000 v108.n [callFr v108.g Tryz.f126.ntmps v108.l (bdy 126)] v108.ms).vc (retOk v108.n [] v108.s0 v108.ms') (fun _ _ => False) = allP (selfR v108.n [] v108.s0 v108.ms') := by kernel_rfl
theorem v108_ok : v108.Ok := CC.mk_ok (ro := [215]) (L := []) okN v108 (fn := Tryz.f126) (b := bdy 126) (by kernel_rfl) (by kernel_rfl) (by kernel_rfl) (by kernel_rfl) v108_run
theorem v110_run : (runC (EC [215] []) 20000 v110.n [callFr v110.g Tryz.f126.ntmps v110.l (bdy 126)] v110.ms).vc (retOk v110.n [(11421, 11421)] v110.s0 v110.ms') (fun _ _ => False) = allP (selfR v110.n [(11421, 11421)] v110.s0 v110.ms') := by kernel_rfl
theorem v110_ok : v110.Ok := CC.mk_ok (ro := [215]) (L := []) okN v110 (fn := Tryz.f126) (b := bdy 126) (by kernel_rfl) (by kernel_rfl) (by kernel_rfl) (by kernel_rfl) v110_run
theorem v111_run : (runC (EC [215] []) 20000 v111.n [callFr v111.g Tryz.f126.ntmps v111.l (bdy 126)] v111.ms).vc (retOk v111.n [] v111.s0 v111.ms') (fun _ _ => False) = allP (selfR v111.n [] v111.s0 v111.ms') := by kernel_rfl
theorem v111_ok : v111.Ok := CC.mk_ok (ro := [215]) (L := []) okN v111 (fn := Tryz.f126) (b := bdy 126) (by kernel_rfl) (by kernel_rfl) (by kernel_rfl) (by kernel_rfl) v111_run
end Go.Proofs.YtalaegjdldllfaaGreatDoor
