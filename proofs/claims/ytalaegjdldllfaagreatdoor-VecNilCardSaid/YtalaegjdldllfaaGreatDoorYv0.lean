/- Of a closed run: its calls do what is told of them. No condition. -/
import Derived.Test.YtalaegjdldllfaaGreatDoorXv
namespace Go.Proofs.YtalaegjdldllfaaGreatDoor
set_option maxRecDepth 1000000
theorem v0_run : (runC (EC [215] []) 20000 v0.n [callFr v0.g Tryz.f118.ntmps v0.l (bdy 118)] v0.ms).vc (retOk v0.n [(2, 2)] v0.s0 v0.ms') (fun _ _ => False) = allP (selfR v0.n [(2, 2)] v0.s0 v0.ms') := by kernel_rfl
theorem v0_ok : v0.Ok := CC.mk_ok (ro := [215]) (L := []) okN v0 (fn := Tryz.f118) (b := bdy 118) (by kernel_rfl) (by kernel_rfl) (by kernel_rfl) (by kernel_rfl) v0_run
theorem v1_run : (runC (EC [215] []) 20000 v1.n [callFr v1.g Tryz.f119.ntmps v1.l (bdy 119)] v1.ms).vc (retOk v1.n [] v1.s0 v1.ms') (fun _ _ => False) = allP (selfR v1.n [] v1.s0 v1.ms') := by kernel_rfl
theorem v1_ok : v1.Ok := CC.mk_ok (ro := [215]) (L := []) okN v1 (fn := Tryz.f119) (b := bdy 119) (by kernel_rfl) (by kernel_rfl) (by kernel_rfl) (by kernel_rfl) v1_run
theorem v4_run : (runC (EC [215] []) 20000 v4.n [callFr v4.g Tryz.f126.ntmps v4.l (bdy 126)] v4.ms).vc (retOk v4.n [] v4.s0 v4.ms') (fun _ _ => False) = allP (selfR v4.n [] v4.s0 v4.ms') := by kernel_rfl
theorem v4_ok : v4.Ok := CC.mk_ok (ro := [215]) (L := []) okN v4 (fn := Tryz.f126) (b := bdy 126) (by kernel_rfl) (by kernel_rfl) (by kernel_rfl) (by kernel_rfl) v4_run
theorem v5_run : (runC (EC [215] []) 20000 v5.n [callFr v5.g Tryz.f126.ntmps v5.l (bdy 126)] v5.ms).vc (retOk v5.n [] v5.s0 v5.ms') (fun _ _ => False) = allP (selfR v5.n [] v5.s0 v5.ms') := by kernel_rfl
theorem v5_ok : v5.Ok := CC.mk_ok (ro := [215]) (L := []) okN v5 (fn := Tryz.f126) (b := bdy 126) (by kernel_rfl) (by kernel_rfl) (by kernel_rfl) (by kernel_rfl) v5_run
theorem v7_run : (runC (EC [215] []) 20000 v7.n [callFr v7.g Tryz.f126.ntmps v7.l (bdy 126)] v7.ms).vc (retOk v7.n [(365, 365)] v7.s0 v7.ms') (fun _ _ => False) = allP (selfR v7.n [(365, 365)] v7.s0 v7.ms') := by kernel_rfl
theorem v7_ok : v7.Ok := CC.mk_ok (ro := [215]) (L := []) okN v7 (fn := Tryz.f126) (b := bdy 126) (by kernel_rfl) (by kernel_rfl) (by kernel_rfl) (by kernel_rfl) v7_run
theorem v8_run : (runC (EC [215] []) 20000 v8.n [callFr v8.g Tryz.f126.ntmps v8.l (bdy 126)] v8.ms).vc (retOk v8.n [] v8.s0 v8.ms') (fun _ _ => False) = allP (selfR v8.n [] v8.s0 v8.ms') := by kernel_rfl
theorem v8_ok : v8.Ok := CC.mk_ok (ro := [215]) (L := []) okN v8 (fn := Tryz.f126) (b := bdy 126) (by kernel_rfl) (by kernel_rfl) (by kernel_rfl) (by kernel_rfl) v8_run
theorem v9_run : (runC (EC [215] []) 20000 v9.n [callFr v9.g Tryz.f126.ntmps v9.l (bdy 126)] v9.ms).vc (retOk v9.n [(387, 387)] v9.s0 v9.ms') (fun _ _ => False) = allP (selfR v9.n [(387, 387)] v9.s0 v9.ms') := by kernel_rfl
theorem v9_ok : v9.Ok := CC.mk_ok (ro := [215]) (L := []) okN v9 (fn := Tryz.f126) (b := bdy 126) (by kernel_rfl) (by kernel_rfl) (by kernel_rfl) (by kernel_rfl) v9_run
theorem v10_run : (runC (EC [215] []) 20000 v10.n [callFr v10.g Tryz.f126.ntmps v10.l (bdy 126)] v10.ms).vc (retOk v10.n [(505, 505)] v10.s0 v10.ms') (fun _ _ => False) = allP (selfR v10.n [(505, 505)] v10.s0 v10.ms') := by kernel_rfl
theorem v10_ok : v10.Ok := CC.mk_ok (ro := [215]) (L := []) okN v10 (fn := Tryz.f126) (b := bdy 126) (by kernel_rfl) (by kernel_rfl) (by kernel_rfl) (by kernel_rfl) v10_run
theorem v11_run : (runC (EC [215] []) 20000 v11.n [callFr v11.g Tryz.f126.ntmps v11.l (bdy 126)] v11.ms).vc (retOk v11.n [(519, 519)] v11.s0 v11.ms') (fun _ _ => False) = allP (selfR v11.n [(519, 519)] v11.s0 v11.ms') := by kernel_rfl
theorem v11_ok : v11.Ok := CC.mk_ok (ro := [215]) (L := []) okN v11 (fn := Tryz.f126) (b := bdy 126) (by kernel_rfl) (by kernel_rfl) (by kernel_rfl) (by kernel_rfl) v11_run
theorem v12_run : (runC (EC [215] []) 20000 v12.n [callFr v12.g Tryz.f126.ntmps v12.l (bdy 126)] v12.ms).vc (retOk v12.n [(533, 533)] v12.s0 v12.ms') (fun _ _ => False) = allP (selfR v12.n [(533, 533)] v12.s0 v12.ms') := by kernel_rfl
theorem v12_ok : v12.Ok := CC.mk_ok (ro := [215]) (L := []) okN v12 (fn := Tryz.f126) (b := bdy 126) (by kernel_rfl) (by kernel_rfl) (by kernel_rfl) (by kernel_rfl) v12_run
theorem v13_run : (runC (EC [215] []) 20000 v13.n [callFr v13.g Tryz.f126.ntmps v13.l (bdy 126)] v13.ms).vc (retOk v13.n [(547, 547)] v13.s0 v13.ms') (fun _ _ => False) = allP (selfR v13.n [(547, 547)] v13.s0 v13.ms') := by kernel_rfl
theorem v13_ok : v13.Ok := CC.mk_ok (ro := [215]) (L := []) okN v13 (fn := Tryz.f126) (b := bdy 126) (by kernel_rfl) (by kernel_rfl) (by kernel_rfl) (by kernel_rfl) v13_run
theorem v14_run : (runC (EC [215] []) 20000 v14.n [callFr v14.g Tryz.f126.ntmps v14.l (bdy 126)] v14.ms).vc (retOk v14.n [(808, 808)] v14.s0 v14.ms') (fun _ _ => False) = allP (selfR v14.n [(808, 808)] v14.s0 v14.ms') := by kernel_rfl
theorem v14_ok : v14.Ok := CC.mk_ok (ro := [215]) (L := []) okN v14 (fn := Tryz.f126) (b := bdy 126) (by kernel_rfl) (by kernel_rfl) (by kernel_rfl) (by kernel_rfl) v14_run
theorem v16_run : (runC (EC [215] []) 20000 v16.n [callFr v16.g Tryz.f126.ntmps v16.l (bdy 126)] v16.ms).vc (retOk v16.n [(1041, 1041)] v16.s0 v16.ms') (fun _ _ => False) = allP (selfR v16.n [(1041, 1041)] v16.s0 v16.ms') := by kernel_rfl
theorem v16_ok : v16.Ok := CC.mk_ok (ro := [215]) (L := []) okN v16 (fn := Tryz.f126) (b := bdy 126) (by kernel_rfl) (by kernel_rfl) (by kernel_rfl) (by kernel_rfl) v16_run
theorem v17_run : (runC (EC [215] []) 20000 v17.n [callFr v17.g Tryz.f126.ntmps v17.l (bdy 126)] v17.ms).vc (retOk v17.n [] v17.s0 v17.ms') (fun _ _ => False) = allP (selfR v17.n [] v17.s0 v17.ms') := by kernel_rfl
theorem v17_ok : v17.Ok := CC.mk_ok (ro := [215]) (L := []) okN v17 (fn := Tryz.f126) (b := bdy 126) (by kernel_rfl) (by kernel_rfl) (by kernel_rfl) (by kernel_rfl) v17_run
theorem v18_run : (runC (EC [215] []) 20000 v18.n [callFr v18.g Tryz.f126.ntmps v18.l (bdy 126)] v18.ms).vc (retOk v18.n [] v18.s0 v18.ms') (fun _ _ => False) = allP (selfR v18.n [] v18.s0 v18.ms') := by kernel_rfl
theorem v18_ok : v18.Ok := CC.mk_ok (ro := [215]) (L := []) okN v18 (fn := Tryz.f126) (b := bdy 126) (by kernel_rfl) (by kernel_rfl) (by kernel_rfl) (by kernel_rfl) v18_run
theorem v22_run : (runC (EC [215] []) 20000 v22.n [callFr v22.g Tryz.f126.ntmps v22.l (bdy 126)] v22.ms).vc (retOk v22.n [(1519, 1519)] v22.s0 v22.ms') (fun _ _ => False) = allP (selfR v22.n [(1519, 1519)] v22.s0 v22.ms') := by kernel_rfl
theorem v22_ok : v22.Ok := CC.mk_ok (ro := [215]) (L := []) okN v22 (fn := Tryz.f126) (b := bdy 126) (by kernel_rfl) (by kernel_rfl) (by kernel_rfl) (by kernel_rfl) v22_run
theorem v23_run : (runC (EC [215] []) 20000 v23.n [callFr v23.g Tryz.f126.ntmps v23.l (bdy 126)] v23.ms).vc (retOk v23.n [] v23.s0 v23.ms') (fun _ _ => False) = allP (selfR v23.n [] v23.s0 v23.ms') := by kernel_rfl
theorem v23_ok : v23.Ok := CC.mk_ok (ro := [215]) (L := []) okN v23 (fn := Tryz.f126) (b := bdy 126) (by kernel_rfl) (by kernel_rfl) (by kernel_rfl) (by kernel_rfl) v23_run
theorem v24_run : (runC (EC [215] []) 20000 v24.n [callFr v24.g Tryz.f126.ntmps v24.l (bdy 126)] v24.ms).vc (retOk v24.n [] v24.s0 v24.ms') (fun _ _ => False) = allP (selfR v24.n [] v24.s0 v24.ms') := by kernel_rfl
theorem v24_ok : v24.Ok := CC.mk_ok (ro := [215]) (L := []) okN v24 (fn := Tryz.f126) (b := bdy 126) (by kernel_rfl) (by kernel_rfl) (by kernel_rfl) (by kernel_rfl) v24_run
theorem v26_run : (runC (EC [215] []) 20000 v26.n [callFr v26.g Tryz.f126.ntmps v26.l (bdy 126)] v26.ms).vc (retOk v26.n [(1988, 1988)] v26.s0 v26.ms') (fun _ _ => False) = allP (selfR v26.n [(1988, 1988)] v26.s0 v26.ms') := by kernel_rfl
theorem v26_ok : v26.Ok := CC.mk_ok (ro := [215]) (L := []) okN v26 (fn := Tryz.f126) (b := bdy 126) (by kernel_rfl) (by kernel_rfl) (by kernel_rfl) (by kernel_rfl) v26_run
theorem v27_run : (runC (EC [215] []) 20000 v27.n [callFr v27.g Tryz.f126.ntmps v27.l (bdy 126)] v27.ms).vc (retOk v27.n [] v27.s0 v27.ms') (fun _ _ => False) = allP (selfR v27.n [] v27.s0 v27.ms') := by kernel_rfl
theorem v27_ok : v27.Ok := CC.mk_ok (ro := [215]) (L := []) okN v27 (fn := Tryz.f126) (b := bdy 126) (by kernel_rfl) (by kernel_rfl) (by kernel_rfl) (by kernel_rfl) v27_run
end Go.Proofs.YtalaegjdldllfaaGreatDoor
