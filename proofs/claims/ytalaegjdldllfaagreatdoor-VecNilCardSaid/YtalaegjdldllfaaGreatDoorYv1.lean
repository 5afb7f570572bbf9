/- Of a closed run: its calls do what is told of them. No condition. -/
import Derived.Test.YtalaegjdldllfaaGreatDoorXv
namespace Go.Proofs.YtalaegjdldllfaaGreatDoor
set_option maxRecDepth 1000000
theorem v28_run : (runC (EC [215] []) 20000 v28.n [callFr v28.g Tryz.f126.ntmps v28.l (bdy 126)] v28.ms).vc (retOk v28.n [] v28.s0 v28.ms') (fun _ _ => False) = allP (selfR v28.n [] v28.s0 v28.ms') := by kernel_rfl
theorem v28_ok : v28.Ok := CC.mk_ok (ro := [215]) (L := []) okN v28 (fn := Tryz.f126) (b := bdy 126) (by kernel_rfl) (by kernel_rfl) (by kernel_rfl) (by kernel_rfl) v28_run
theorem v30_run : (runC (EC [215] []) 20000 v30.n [callFr v30.g Tryz.f126.ntmps v30.l (bdy 126)] v30.ms).vc (retOk v30.n [(2460, 2460)] v30.s0 v30.ms') (fun _ _ => False) = allP (selfR v30.n [(2460, 2460)] v30.s0 v30.ms') := by kernel_rfl
theorem v30_ok : v30.Ok := CC.mk_ok (ro := [215]) (L := []) okN v30 (fn := Tryz.f126) (b := bdy 126) (by kernel_rfl) (by kernel_rfl) (by kernel_rfl) (by kernel_rfl) v30_run
theorem v31_run : (runC (EC [215] []) 20000 v31.n [callFr v31.g Tryz.f126.ntmps v31.l (bdy 126)] v31.ms).vc (retOk v31.n [] v31.s0 v31.ms') (fun _ _ => False) = allP (selfR v31.n [] v31.s0 v31.ms') := by kernel_rfl
theorem v31_ok : v31.Ok := CC.mk_ok (ro := [215]) (L := []) okN v31 (fn := Tryz.f126) (b := bdy 126) (by kernel_rfl) (by kernel_rfl) (by kernel_rfl) (by kernel_rfl) v31_run
theorem v32_run : (runC (EC [215] []) 20000 v32.n [callFr v32.g Tryz.f126.ntmps v32.l (bdy 126)] v32.ms).vc (retOk v32.n [] v32.s0 v32.ms') (fun _ _ => False) = allP (selfR v32.n [] v32.s0 v32.ms') := by kernel_rfl
theorem v32_ok : v32.Ok := CC.mk_ok (ro := [215]) (L := []) okN v32 (fn := Tryz.f126) (b := bdy 126) (by kernel_rfl) (by kernel_rfl) (by kernel_rfl) (by kernel_rfl) v32_run
theorem v34_run : (runC (EC [215] []) 20000 v34.n [callFr v34.g Tryz.f126.ntmps v34.l (bdy 126)] v34.ms).vc (retOk v34.n [(2930, 2930)] v34.s0 v34.ms') (fun _ _ => False) = allP (selfR v34.n [(2930, 2930)] v34.s0 v34.ms') := by kernel_rfl
theorem v34_ok : v34.Ok := CC.mk_ok (ro := [215]) (L := []) okN v34 (fn := Tryz.f126) (b := bdy 126) (by kernel_rfl) (by kernel_rfl) (by kernel_rfl) (by kernel_rfl) v34_run
theorem v35_run : (runC (EC [215] []) 20000 v35.n [callFr v35.g Tryz.f126.ntmps v35.l (bdy 126)] v35.ms).vc (retOk v35.n [] v35.s0 v35.ms') (fun _ _ => False) = allP (selfR v35.n [] v35.s0 v35.ms') := by kernel_rfl
theorem v35_ok : v35.Ok := CC.mk_ok (ro := [215]) (L := []) okN v35 (fn := Tryz.f126) (b := bdy 126) (by kernel_rfl) (by kernel_rfl) (by kernel_rfl) (by kernel_rfl) v35_run
theorem v36_run : (runC (EC [215] []) 20000 v36.n [callFr v36.g Tryz.f126.ntmps v36.l (bdy 126)] v36.ms).vc (retOk v36.n [] v36.s0 v36.ms') (fun _ _ => False) = allP (selfR v36.n [] v36.s0 v36.ms') := by kernel_rfl
theorem v36_ok : v36.Ok := CC.mk_ok (ro := [215]) (L := []) okN v36 (fn := Tryz.f126) (b := bdy 126) (by kernel_rfl) (by kernel_rfl) (by kernel_rfl) (by kernel_rfl) v36_run
theorem v39_run : (runC (EC [215] []) 20000 v39.n [callFr v39.g Tryz.f126.ntmps v39.l (bdy 126)] v39.ms).vc (retOk v39.n [(3406, 3406)] v39.s0 v39.ms') (fun _ _ => False) = allP (selfR v39.n [(3406, 3406)] v39.s0 v39.ms') := by kernel_rfl
theorem v39_ok : v39.Ok := CC.mk_ok (ro := [215]) (L := []) okN v39 (fn := Tryz.f126) (b := bdy 126) (by kernel_rfl) (by kernel_rfl) (by kernel_rfl) (by kernel_rfl) v39_run
theorem v40_run : (runC (EC [215] []) 20000 v40.n [callFr v40.g Tryz.f126.ntmps v40.l (bdy 126)] v40.ms).vc (retOk v40.n [] v40.s0 v40.ms') (fun _ _ => False) = allP (selfR v40.n [] v40.s0 v40.ms') := by kernel_rfl
theorem v40_ok : v40.Ok := CC.mk_ok (ro := [215]) (L := []) okN v40 (fn := Tryz.f126) (b := bdy 126) (by kernel_rfl) (by kernel_rfl) (by kernel_rfl) (by kernel_rfl) v40_run
theorem v41_run : (runC (EC [215] []) 20000 v41.n [callFr v41.g Tryz.f126.ntmps v41.l (bdy 126)] v41.ms).vc (retOk v41.n [] v41.s0 v41.ms') (fun _ _ => False) = allP (selfR v41.n [] v41.s0 v41.ms') := by kernel_rfl
theorem v41_ok : v41.Ok := CC.mk_ok (ro := [215]) (L := []) okN v41 (fn := Tryz.f126) (b := bdy 126) (by kernel_rfl) (by kernel_rfl) (by kernel_rfl) (by kernel_rfl) v41_run
theorem v43_run : (runC (EC [215] []) 20000 v43.n [callFr v43.g Tryz.f126.ntmps v43.l (bdy 126)] v43.ms).vc (retOk v43.n [(3875, 3875)] v43.s0 v43.ms') (fun _ _ => False) = allP (selfR v43.n [(3875, 3875)] v43.s0 v43.ms') := by kernel_rfl
theorem v43_ok : v43.Ok := CC.mk_ok (ro := [215]) (L := []) okN v43 (fn := Tryz.f126) (b := bdy 126) (by kernel_rfl) (by kernel_rfl) (by kernel_rfl) (by kernel_rfl) v43_run
theorem v44_run : (runC (EC [215] []) 20000 v44.n [callFr v44.g Tryz.f126.ntmps v44.l (bdy 126)] v44.ms).vc (retOk v44.n [] v44.s0 v44.ms') (fun _ _ => False) = allP (selfR v44.n [] v44.s0 v44.ms') := by kernel_rfl
theorem v44_ok : v44.Ok := CC.mk_ok (ro := [215]) (L := []) okN v44 (fn := Tryz.f126) (b := bdy 126) (by kernel_rfl) (by kernel_rfl) (by kernel_rfl) (by kernel_rfl) v44_run
theorem v45_run : (runC (EC [215] []) 20000 v45.n [callFr v45.g Tryz.f126.ntmps v45.l (bdy 126)] v45.ms).vc (retOk v45.n [] v45.s0 v45.ms') (fun _ _ => False) = allP (selfR v45.n [] v45.s0 v45.ms') := by kernel_rfl
theorem v45_ok : v45.Ok := CC.mk_ok (ro := [215]) (L := []) okN v45 (fn := Tryz.f126) (b := bdy 126) (by kernel_rfl) (by kernel_rfl) (by kernel_rfl) (by kernel_rfl) v45_run
theorem v47_run : (runC (EC [215] []) 20000 v47.n [callFr v47.g Tryz.f126.ntmps v47.l (bdy 126)] v47.ms).vc (retOk v47.n [(4347, 4347)] v47.s0 v47.ms') (fun _ _ => False) = allP (selfR v47.n [(4347, 4347)] v47.s0 v47.ms') := by kernel_rfl
theorem v47_ok : v47.Ok := CC.mk_ok (ro := [215]) (L := []) okN v47 (fn := Tryz.f126) (b := bdy 126) (by kernel_rfl) (by kernel_rfl) (by kernel_rfl) (by kernel_rfl) v47_run
theorem v48_run : (runC (EC [215] []) 20000 v48.n [callFr v48.g Tryz.f126.ntmps v48.l (bdy 126)] v48.ms).vc (retOk v48.n [] v48.s0 v48.ms') (fun _ _ => False) = allP (selfR v48.n [] v48.s0 v48.ms') := by kernel_rfl
theorem v48_ok : v48.Ok := CC.mk_ok (ro := [215]) (L := []) okN v48 (fn := Tryz.f126) (b := bdy 126) (by kernel_rfl) (by kernel_rfl) (by kernel_rfl) (by kernel_rfl) v48_run
theorem v49_run : (runC (EC [215] []) 20000 v49.n [callFr v49.g Tryz.f126.ntmps v49.l (bdy 126)] v49.ms).vc (retOk v49.n [] v49.s0 v49.ms') (fun _ _ => False) = allP (selfR v49.n [] v49.s0 v49.ms') := by kernel_rfl
theorem v49_ok : v49.Ok := CC.mk_ok (ro := [215]) (L := []) okN v49 (fn := Tryz.f126) (b := bdy 126) (by kernel_rfl) (by kernel_rfl) (by kernel_rfl) (by kernel_rfl) v49_run
theorem v51_run : (runC (EC [215] []) 20000 v51.n [callFr v51.g Tryz.f126.ntmps v51.l (bdy 126)] v51.ms).vc (retOk v51.n [(4817, 4817)] v51.s0 v51.ms') (fun _ _ => False) = allP (selfR v51.n [(4817, 4817)] v51.s0 v51.ms') := by kernel_rfl
theorem v51_ok : v51.Ok := CC.mk_ok (ro := [215]) (L := []) okN v51 (fn := Tryz.f126) (b := bdy 126) (by kernel_rfl) (by kernel_rfl) (by kernel_rfl) (by kernel_rfl) v51_run
theorem v52_run : (runC (EC [215] []) 20000 v52.n [callFr v52.g Tryz.f126.ntmps v52.l (bdy 126)] v52.ms).vc (retOk v52.n [] v52.s0 v52.ms') (fun _ _ => False) = allP (selfR v52.n [] v52.s0 v52.ms') := by kernel_rfl
theorem v52_ok : v52.Ok := CC.mk_ok (ro := [215]) (L := []) okN v52 (fn := Tryz.f126) (b := bdy 126) (by kernel_rfl) (by kernel_rfl) (by kernel_rfl) (by kernel_rfl) v52_run
theorem v53_run : (runC (EC [215] []) 20000 v53.n [callFr v53.g Tryz.f126.ntmps v53.l (bdy 126)] v53.ms).vc (retOk v53.n [] v53.s0 v53.ms') (fun _ _ => False) = allP (selfR v53.n [] v53.s0 v53.ms') := by kernel_rfl
theorem v53_ok : v53.Ok := CC.mk_ok (ro := [215]) (L := []) okN v53 (fn := Tryz.f126) (b := bdy 126) (by kernel_rfl) (by kernel_rfl) (by kernel_rfl) (by kernel_rfl) v53_run
theorem v56_run : (runC (EC [215] []) 20000 v56.n [callFr v56.g Tryz.f126.ntmps v56.l (bdy 126)] v56.ms).vc (retOk v56.n [(5293, 5293)] v56.s0 v56.ms') (fun _ _ => False) = allP (selfR v56.n [(5293, 5293)] v56.s0 v56.ms') := by kernel_rfl
theorem v56_ok : v56.Ok := CC.mk_ok (ro := [215]) (L := []) okN v56 (fn := Tryz.f126) (b := bdy 126) (by kernel_rfl) (by kernel_rfl) (by kernel_rfl) (by kernel_rfl) v56_run
end Go.Proofs.YtalaegjdldllfaaGreatDoor
