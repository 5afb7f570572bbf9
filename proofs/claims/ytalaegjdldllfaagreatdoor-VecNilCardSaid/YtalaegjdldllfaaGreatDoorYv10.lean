/- Of a closed run: its calls do what is told of them. No condition. -/
import Derived.Test.YtalaegjdldllfaaGreatDoorXv
import Derived.Test.YtalaegjdldllfaaGreatDoorYv7
import Derived.Test.YtalaegjdldllfaaGreatDoorYv8
import Derived.Test.YtalaegjdldllfaaGreatDoorYv9
namespace Go.Proofs.YtalaegjdldllfaaGreatDoor
set_option maxRecDepth 1000000
theorem v3_run : (runC (EC [215] [v2]) 20000 v3.n [callFr v3.g Tryz.f38.ntmps v3.l (bdy 38)] v3.ms).vc (retOk v3.n [(2, 2), (5, 5), (6, 6)] v3.s0 v3.ms') (fun _ _ => False) = allP (selfR v3.n [(2, 2), (5, 5), (6, 6)] v3.s0 v3.ms') := by kernel_rfl
theorem v3_ok : v3.Ok := CC.mk_ok (ro := [215]) (L := [v2]) (okC v2_ok okN) v3 (fn := Tryz.f38) (b := bdy 38) (by kernel_rfl) (by kernel_rfl) (by kernel_rfl) (by kernel_rfl) v3_run
theorem v20_run : (runC (EC [215] [v6, v15, v19]) 20000 v20.n [callFr v20.g Tryz.f27.ntmps v20.l (bdy 27)] v20.ms).vc (retOk v20.n [(808, 808)] v20.s0 v20.ms') (fun _ _ => False) = allP (selfR v20.n [(808, 808)] v20.s0 v20.ms') := by kernel_rfl
theorem v20_ok : v20.Ok := CC.mk_ok (ro := [215]) (L := [v6, v15, v19]) (okC v6_ok (okC v15_ok (okC v19_ok okN))) v20 (fn := Tryz.f27) (b := bdy 27) (by kernel_rfl) (by kernel_rfl) (by kernel_rfl) (by kernel_rfl) v20_run
theorem v38_run : (runC (EC [215] [v25, v29, v33, v37]) 20000 v38.n [callFr v38.g Tryz.f33.ntmps v38.l (bdy 33)] v38.ms).vc (retOk v38.n [] v38.s0 v38.ms') (fun _ _ => False) = allP (selfR v38.n [] v38.s0 v38.ms') := by kernel_rfl
theorem v38_ok : v38.Ok := CC.mk_ok (ro := [215]) (L := [v25, v29, v33, v37]) (okC v25_ok (okC v29_ok (okC v33_ok (okC v37_ok okN)))) v38 (fn := Tryz.f33) (b := bdy 33) (by kernel_rfl) (by kernel_rfl) (by kernel_rfl) (by kernel_rfl) v38_run
theorem v55_run : (runC (EC [215] [v42, v46, v50, v54]) 20000 v55.n [callFr v55.g Tryz.f33.ntmps v55.l (bdy 33)] v55.ms).vc (retOk v55.n [] v55.s0 v55.ms') (fun _ _ => False) = allP (selfR v55.n [] v55.s0 v55.ms') := by kernel_rfl
theorem v55_ok : v55.Ok := CC.mk_ok (ro := [215]) (L := [v42, v46, v50, v54]) (okC v42_ok (okC v46_ok (okC v50_ok (okC v54_ok okN)))) v55 (fn := Tryz.f33) (b := bdy 33) (by kernel_rfl) (by kernel_rfl) (by kernel_rfl) (by kernel_rfl) v55_run
theorem v72_run : (runC (EC [215] [v59, v63, v67, v71]) 20000 v72.n [callFr v72.g Tryz.f33.ntmps v72.l (bdy 33)] v72.ms).vc (retOk v72.n [] v72.s0 v72.ms') (fun _ _ => False) = allP (selfR v72.n [] v72.s0 v72.ms') := by kernel_rfl
theorem v72_ok : v72.Ok := CC.mk_ok (ro := [215]) (L := [v59, v63, v67, v71]) (okC v59_ok (okC v63_ok (okC v67_ok (okC v71_ok okN)))) v72 (fn := Tryz.f33) (b := bdy 33) (by kernel_rfl) (by kernel_rfl) (by kernel_rfl) (by kernel_rfl) v72_run
theorem v93_run : (runC (EC [215] [v76, v80, v84, v88, v92]) 20000 v93.n [callFr v93.g Tryz.f31.ntmps v93.l (bdy 31)] v93.ms).vc (retOk v93.n [(9417, 9417)] v93.s0 v93.ms') (fun _ _ => False) = allP (selfR v93.n [(9417, 9417)] v93.s0 v93.ms') := by kernel_rfl
theorem v93_ok : v93.Ok := CC.mk_ok (ro := [215]) (L := [v76, v80, v84, v88, v92]) (okC v76_ok (okC v80_ok (okC v84_ok (okC v88_ok (okC v92_ok okN))))) v93 (fn := Tryz.f31) (b := bdy 31) (by kernel_rfl) (by kernel_rfl) (by kernel_rfl) (by kernel_rfl) v93_run
theorem v131_run : (runC (EC [215] [v118, v122, v126, v130]) 20000 v131.n [callFr v131.g Tryz.f32.ntmps v131.l (bdy 32)] v131.ms).vc (retOk v131.n [] v131.s0 v131.ms') (fun _ _ => False) = allP (selfR v131.n [] v131.s0 v131.ms') := by kernel_rfl
theorem v131_ok : v131.Ok := CC.mk_ok (ro := [215]) (L := [v118, v122, v126, v130]) (okC v118_ok (okC v122_ok (okC v126_ok (okC v130_ok okN)))) v131 (fn := Tryz.f32) (b := bdy 32) (by kernel_rfl) (by kernel_rfl) (by kernel_rfl) (by kernel_rfl) v131_run
theorem v148_run : (runC (EC [215] [v135, v139, v143, v147]) 20000 v148.n [callFr v148.g Tryz.f29.ntmps v148.l (bdy 29)] v148.ms).vc (retOk v148.n [] v148.s0 v148.ms') (fun _ _ => False) = allP (selfR v148.n [] v148.s0 v148.ms') := by kernel_rfl
theorem v148_ok : v148.Ok := CC.mk_ok (ro := [215]) (L := [v135, v139, v143, v147]) (okC v135_ok (okC v139_ok (okC v143_ok (okC v147_ok okN)))) v148 (fn := Tryz.f29) (b := bdy 29) (by kernel_rfl) (by kernel_rfl) (by kernel_rfl) (by kernel_rfl) v148_run
theorem v157_run : (runC (EC [215] [v152, v156]) 20000 v157.n [callFr v157.g Tryz.f28.ntmps v157.l (bdy 28)] v157.ms).vc (retOk v157.n [] v157.s0 v157.ms') (fun _ _ => False) = allP (selfR v157.n [] v157.s0 v157.ms') := by kernel_rfl
theorem v157_ok : v157.Ok := CC.mk_ok (ro := [215]) (L := [v152, v156]) (okC v152_ok (okC v156_ok okN)) v157 (fn := Tryz.f28) (b := bdy 28) (by kernel_rfl) (by kernel_rfl) (by kernel_rfl) (by kernel_rfl) v157_run
theorem v174_run : (runC (EC [215] [v161, v165, v169, v173]) 20000 v174.n [callFr v174.g Tryz.f31.ntmps v174.l (bdy 31)] v174.ms).vc (retOk v174.n [(18385, 18385)] v174.s0 v174.ms') (fun _ _ => False) = allP (selfR v174.n [(18385, 18385)] v174.s0 v174.ms') := by kernel_rfl
theorem v174_ok : v174.Ok := CC.mk_ok (ro := [215]) (L := [v161, v165, v169, v173]) (okC v161_ok (okC v165_ok (okC v169_ok (okC v173_ok okN)))) v174 (fn := Tryz.f31) (b := bdy 31) (by kernel_rfl) (by kernel_rfl) (by kernel_rfl) (by kernel_rfl) v174_run
theorem v185_run : (runC (EC [215] [v184]) 20000 v185.n [callFr v185.g Tryz.f38.ntmps v185.l (bdy 38)] v185.ms).vc (retOk v185.n [(151, 151), (154, 154), (155, 155)] v185.s0 v185.ms') (fun _ _ => False) = allP (selfR v185.n [(151, 151), (154, 154), (155, 155)] v185.s0 v185.ms') := by kernel_rfl
theorem v185_ok : v185.Ok := CC.mk_ok (ro := [215]) (L := [v184]) (okC v184_ok okN) v185 (fn := Tryz.f38) (b := bdy 38) (by kernel_rfl) (by kernel_rfl) (by kernel_rfl) (by kernel_rfl) v185_run
theorem v197_run : (runC (EC [215] [v188, v192, v196]) 20000 v197.n [callFr v197.g Tryz.f27.ntmps v197.l (bdy 27)] v197.ms).vc (retOk v197.n [] v197.s0 v197.ms') (fun _ _ => False) = allP (selfR v197.n [] v197.s0 v197.ms') := by kernel_rfl
theorem v197_ok : v197.Ok := CC.mk_ok (ro := [215]) (L := [v188, v192, v196]) (okC v188_ok (okC v192_ok (okC v196_ok okN))) v197 (fn := Tryz.f27) (b := bdy 27) (by kernel_rfl) (by kernel_rfl) (by kernel_rfl) (by kernel_rfl) v197_run
theorem v201_run : (runC (EC [215] [v200]) 20000 v201.n [callFr v201.g Tryz.f27.ntmps v201.l (bdy 27)] v201.ms).vc (retOk v201.n [] v201.s0 v201.ms') (fun _ _ => False) = allP (selfR v201.n [] v201.s0 v201.ms') := by kernel_rfl
theorem v201_ok : v201.Ok := CC.mk_ok (ro := [215]) (L := [v200]) (okC v200_ok okN) v201 (fn := Tryz.f27) (b := bdy 27) (by kernel_rfl) (by kernel_rfl) (by kernel_rfl) (by kernel_rfl) v201_run
end Go.Proofs.YtalaegjdldllfaaGreatDoor
