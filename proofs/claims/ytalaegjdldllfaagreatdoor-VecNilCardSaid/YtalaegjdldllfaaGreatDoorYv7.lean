/- Of a closed run: its calls do what is told of them. No condition. -/
import Derived.Test.YtalaegjdldllfaaGreatDoorXv
import Derived.Test.YtalaegjdldllfaaGreatDoorYv0
import Derived.Test.YtalaegjdldllfaaGreatDoorYv1
import Derived.Test.YtalaegjdldllfaaGreatDoorYv2
namespace Go.Proofs.YtalaegjdldllfaaGreatDoor
set_option maxRecDepth 1000000
theorem v2_run : (runC (EC [215] [v0, v1]) 20000 v2.n [callFr v2.g Tryz.f89.ntmps v2.l (bdy 89)] v2.ms).vc (retOk v2.n [(2, 2), (5, 5)] v2.s0 v2.ms') (fun _ _ => False) = allP (selfR v2.n [(2, 2), (5, 5)] v2.s0 v2.ms') := by kernel_rfl
theorem v2_ok : v2.Ok := CC.mk_ok (ro := [215]) (L := [v0, v1]) (okC v0_ok (okC v1_ok okN)) v2 (fn := Tryz.f89) (b := bdy 89) (by kernel_rfl) (by kernel_rfl) (by kernel_rfl) (by kernel_rfl) v2_run
theorem v6_run : (runC (EC [215] [v4, v5]) 20000 v6.n [callFr v6.g Tryz.f56.ntmps v6.l (bdy 56)] v6.ms).vc (retOk v6.n [] v6.s0 v6.ms') (fun _ _ => False) = allP (selfR v6.n [] v6.s0 v6.ms') := by kernel_rfl
theorem v6_ok : v6.Ok := CC.mk_ok (ro := [215]) (L := [v4, v5]) (okC v4_ok (okC v5_ok okN)) v6 (fn := Tryz.f56) (b := bdy 56) (by kernel_rfl) (by kernel_rfl) (by kernel_rfl) (by kernel_rfl) v6_run
theorem v15_run : (runC (EC [215] [v7, v8, v9, v10, v11, v12, v13, v14]) 20000 v15.n [callFr v15.g Tryz.f56.ntmps v15.l (bdy 56)] v15.ms).vc (retOk v15.n [(808, 808)] v15.s0 v15.ms') (fun _ _ => False) = allP (selfR v15.n [(808, 808)] v15.s0 v15.ms') := by kernel_rfl
theorem v15_ok : v15.Ok := CC.mk_ok (ro := [215]) (L := [v7, v8, v9, v10, v11, v12, v13, v14]) (okC v7_ok (okC v8_ok (okC v9_ok (okC v10_ok (okC v11_ok (okC v12_ok (okC v13_ok (okC v14_ok okN)))))))) v15 (fn := Tryz.f56) (b := bdy 56) (by kernel_rfl) (by kernel_rfl) (by kernel_rfl) (by kernel_rfl) v15_run
theorem v19_run : (runC (EC [215] [v16, v17, v18]) 20000 v19.n [callFr v19.g Tryz.f56.ntmps v19.l (bdy 56)] v19.ms).vc (retOk v19.n [] v19.s0 v19.ms') (fun _ _ => False) = allP (selfR v19.n [] v19.s0 v19.ms') := by kernel_rfl
theorem v19_ok : v19.Ok := CC.mk_ok (ro := [215]) (L := [v16, v17, v18]) (okC v16_ok (okC v17_ok (okC v18_ok okN))) v19 (fn := Tryz.f56) (b := bdy 56) (by kernel_rfl) (by kernel_rfl) (by kernel_rfl) (by kernel_rfl) v19_run
theorem v25_run : (runC (EC [215] [v22, v23, v24]) 20000 v25.n [callFr v25.g Tryz.f56.ntmps v25.l (bdy 56)] v25.ms).vc (retOk v25.n [] v25.s0 v25.ms') (fun _ _ => False) = allP (selfR v25.n [] v25.s0 v25.ms') := by kernel_rfl
theorem v25_ok : v25.Ok := CC.mk_ok (ro := [215]) (L := [v22, v23, v24]) (okC v22_ok (okC v23_ok (okC v24_ok okN))) v25 (fn := Tryz.f56) (b := bdy 56) (by kernel_rfl) (by kernel_rfl) (by kernel_rfl) (by kernel_rfl) v25_run
theorem v29_run : (runC (EC [215] [v26, v27, v28]) 20000 v29.n [callFr v29.g Tryz.f56.ntmps v29.l (bdy 56)] v29.ms).vc (retOk v29.n [] v29.s0 v29.ms') (fun _ _ => False) = allP (selfR v29.n [] v29.s0 v29.ms') := by kernel_rfl
theorem v29_ok : v29.Ok := CC.mk_ok (ro := [215]) (L := [v26, v27, v28]) (okC v26_ok (okC v27_ok (okC v28_ok okN))) v29 (fn := Tryz.f56) (b := bdy 56) (by kernel_rfl) (by kernel_rfl) (by kernel_rfl) (by kernel_rfl) v29_run
theorem v33_run : (runC (EC [215] [v30, v31, v32]) 20000 v33.n [callFr v33.g Tryz.f56.ntmps v33.l (bdy 56)] v33.ms).vc (retOk v33.n [] v33.s0 v33.ms') (fun _ _ => False) = allP (selfR v33.n [] v33.s0 v33.ms') := by kernel_rfl
theorem v33_ok : v33.Ok := CC.mk_ok (ro := [215]) (L := [v30, v31, v32]) (okC v30_ok (okC v31_ok (okC v32_ok okN))) v33 (fn := Tryz.f56) (b := bdy 56) (by kernel_rfl) (by kernel_rfl) (by kernel_rfl) (by kernel_rfl) v33_run
theorem v37_run : (runC (EC [215] [v34, v35, v36]) 20000 v37.n [callFr v37.g Tryz.f56.ntmps v37.l (bdy 56)] v37.ms).vc (retOk v37.n [] v37.s0 v37.ms') (fun _ _ => False) = allP (selfR v37.n [] v37.s0 v37.ms') := by kernel_rfl
theorem v37_ok : v37.Ok := CC.mk_ok (ro := [215]) (L := [v34, v35, v36]) (okC v34_ok (okC v35_ok (okC v36_ok okN))) v37 (fn := Tryz.f56) (b := bdy 56) (by kernel_rfl) (by kernel_rfl) (by kernel_rfl) (by kernel_rfl) v37_run
theorem v42_run : (runC (EC [215] [v39, v40, v41]) 20000 v42.n [callFr v42.g Tryz.f56.ntmps v42.l (bdy 56)] v42.ms).vc (retOk v42.n [] v42.s0 v42.ms') (fun _ _ => False) = allP (selfR v42.n [] v42.s0 v42.ms') := by kernel_rfl
theorem v42_ok : v42.Ok := CC.mk_ok (ro := [215]) (L := [v39, v40, v41]) (okC v39_ok (okC v40_ok (okC v41_ok okN))) v42 (fn := Tryz.f56) (b := bdy 56) (by kernel_rfl) (by kernel_rfl) (by kernel_rfl) (by kernel_rfl) v42_run
theorem v46_run : (runC (EC [215] [v43, v44, v45]) 20000 v46.n [callFr v46.g Tryz.f56.ntmps v46.l (bdy 56)] v46.ms).vc (retOk v46.n [] v46.s0 v46.ms') (fun _ _ => False) = allP (selfR v46.n [] v46.s0 v46.ms') := by kernel_rfl
theorem v46_ok : v46.Ok := CC.mk_ok (ro := [215]) (L := [v43, v44, v45]) (okC v43_ok (okC v44_ok (okC v45_ok okN))) v46 (fn := Tryz.f56) (b := bdy 56) (by kernel_rfl) (by kernel_rfl) (by kernel_rfl) (by kernel_rfl) v46_run
theorem v50_run : (runC (EC [215] [v47, v48, v49]) 20000 v50.n [callFr v50.g Tryz.f56.ntmps v50.l (bdy 56)] v50.ms).vc (retOk v50.n [] v50.s0 v50.ms') (fun _ _ => False) = allP (selfR v50.n [] v50.s0 v50.ms') := by kernel_rfl
theorem v50_ok : v50.Ok := CC.mk_ok (ro := [215]) (L := [v47, v48, v49]) (okC v47_ok (okC v48_ok (okC v49_ok okN))) v50 (fn := Tryz.f56) (b := bdy 56) (by kernel_rfl) (by kernel_rfl) (by kernel_rfl) (by kernel_rfl) v50_run
theorem v54_run : (runC (EC [215] [v51, v52, v53]) 20000 v54.n [callFr v54.g Tryz.f56.ntmps v54.l (bdy 56)] v54.ms).vc (retOk v54.n [] v54.s0 v54.ms') (fun _ _ => False) = allP (selfR v54.n [] v54.s0 v54.ms') := by kernel_rfl
theorem v54_ok : v54.Ok := CC.mk_ok (ro := [215]) (L := [v51, v52, v53]) (okC v51_ok (okC v52_ok (okC v53_ok okN))) v54 (fn := Tryz.f56) (b := bdy 56) (by kernel_rfl) (by kernel_rfl) (by kernel_rfl) (by kernel_rfl) v54_run
theorem v59_run : (runC (EC [215] [v56, v57, v58]) 20000 v59.n [callFr v59.g Tryz.f56.ntmps v59.l (bdy 56)] v59.ms).vc (retOk v59.n [] v59.s0 v59.ms') (fun _ _ => False) = allP (selfR v59.n [] v59.s0 v59.ms') := by kernel_rfl
theorem v59_ok : v59.Ok := CC.mk_ok (ro := [215]) (L := [v56, v57, v58]) (okC v56_ok (okC v57_ok (okC v58_ok okN))) v59 (fn := Tryz.f56) (b := bdy 56) (by kernel_rfl) (by kernel_rfl) (by kernel_rfl) (by kernel_rfl) v59_run
theorem v63_run : (runC (EC [215] [v60, v61, v62]) 20000 v63.n [callFr v63.g Tryz.f56.ntmps v63.l (bdy 56)] v63.ms).vc (retOk v63.n [] v63.s0 v63.ms') (fun _ _ => False) = allP (selfR v63.n [] v63.s0 v63.ms') := by kernel_rfl
theorem v63_ok : v63.Ok := CC.mk_ok (ro := [215]) (L := [v60, v61, v62]) (okC v60_ok (okC v61_ok (okC v62_ok okN))) v63 (fn := Tryz.f56) (b := bdy 56) (by kernel_rfl) (by kernel_rfl) (by kernel_rfl) (by kernel_rfl) v63_run
theorem v67_run : (runC (EC [215] [v64, v65, v66]) 20000 v67.n [callFr v67.g Tryz.f56.ntmps v67.l (bdy 56)] v67.ms).vc (retOk v67.n [] v67.s0 v67.ms') (fun _ _ => False) = allP (selfR v67.n [] v67.s0 v67.ms') := by kernel_rfl
theorem v67_ok : v67.Ok := CC.mk_ok (ro := [215]) (L := [v64, v65, v66]) (okC v64_ok (okC v65_ok (okC v66_ok okN))) v67 (fn := Tryz.f56) (b := bdy 56) (by kernel_rfl) (by kernel_rfl) (by kernel_rfl) (by kernel_rfl) v67_run
theorem v71_run : (runC (EC [215] [v68, v69, v70]) 20000 v71.n [callFr v71.g Tryz.f56.ntmps v71.l (bdy 56)] v71.ms).vc (retOk v71.n [] v71.s0 v71.ms') (fun _ _ => False) = allP (selfR v71.n [] v71.s0 v71.ms') := by kernel_rfl
theorem v71_ok : v71.Ok := CC.mk_ok (ro := [215]) (L := [v68, v69, v70]) (okC v68_ok (okC v69_ok (okC v70_ok okN))) v71 (fn := Tryz.f56) (b := bdy 56) (by kernel_rfl) (by kernel_rfl) (by kernel_rfl) (by kernel_rfl) v71_run
end Go.Proofs.YtalaegjdldllfaaGreatDoor
