/- Of a closed run: its calls do what is told of them. No condition. -/
import Derived.Test.YtalaegjdldllfaaGreatDoorXv
namespace Go.Proofs.YtalaegjdldllfaaGreatDoor
set_option maxRecDepth 1000000
theorem v57_run : (runC (EC [215] []) 20000 v57.n [callFr v57.g Tryz.f126.ntmps v57.l (bdy 126)] v57.ms).vc (retOk v57.n [] v57.s0 v57.ms') (fun _ _ => False) = allP (selfR v57.n [] v57.s0 v57.ms') := by kernel_rfl
theorem v57_ok : v57.Ok := CC.mk_ok (ro := [215]) (L := []) okN v57 (fn := Tryz.f126) (b := bdy 126) (by kernel_rfl) (by kernel_rfl) (by kernel_rfl) (by kernel_rfl) v57_run
theorem v58_run : (runC (EC [215] []) 20000 v58.n [callFr v58.g Tryz.f126.ntmps v58.l (bdy 126)] v58.ms).vc (retOk v58.n [] v58.s0 v58.ms') (fun _ _ => False) = allP (selfR v58.n [] v58.s0 v58.ms') := by kernel_rfl
theorem v58_ok : v58.Ok := CC.mk_ok (ro := [215]) (L := []) okN v58 (fn := Tryz.f126) (b := bdy 126) (by kernel_rfl) (by kernel_rfl) (by kernel_rfl) (by kernel_rfl) v58_run
theorem v60_run : (runC (EC [215] []) 20000 v60.n [callFr v60.g Tryz.f126.ntmps v60.l (bdy 126)] v60.ms).vc (retOk v60.n [(5762, 5762)] v60.s0 v60.ms') (fun _ _ => False) = allP (selfR v60.n [(5762, 5762)] v60.s0 v60.ms') := by kernel_rfl
theorem v60_ok : v60.Ok := CC.mk_ok (ro := [215]) (L := []) okN v60 (fn := Tryz.f126) (b := bdy 126) (by kernel_rfl) (by kernel_rfl) (by kernel_rfl) (by kernel_rfl) v60_run
theorem v61_run : (runC (EC [215] []) 20000 v61.n [callFr v61.g Tryz.f126.ntmps v61.l (bdy 126)] v61.ms).vc (retOk v61.n [] v61.s0 v61.ms') (fun _ _ => False) = allP (selfR v61.n [] v61.s0 v61.ms') := by kernel_rfl
theorem v61_ok : v61.Ok := CC.mk_ok (ro := [215]) (L := []) okN v61 (fn := Tryz.f126) (b := bdy 126) (by kernel_rfl) (by kernel_rfl) (by kernel_rfl) (by kernel_rfl) v61_run
theorem v62_run : (runC (EC [215] []) 20000 v62.n [callFr v62.g Tryz.f126.ntmps v62.l (bdy 126)] v62.ms).vc (retOk v62.n [] v62.s0 v62.ms') (fun _ _ => False) = allP (selfR v62.n [] v62.s0 v62.ms') := by kernel_rfl
theorem v62_ok : v62.Ok := CC.mk_ok (ro := [215]) (L := []) okN v62 (fn := Tryz.f126) (b := bdy 126) (by kernel_rfl) (by kernel_rfl) (by kernel_rfl) (by kernel_rfl) v62_run
theorem v64_run : (runC (EC [215] []) 20000 v64.n [callFr v64.g Tryz.f126.ntmps v64.l (bdy 126)] v64.ms).vc (retOk v64.n [(6234, 6234)] v64.s0 v64.ms') (fun _ _ => False) = allP (selfR v64.n [(6234, 6234)] v64.s0 v64.ms') := by kernel_rfl
theorem v64_ok : v64.Ok := CC.mk_ok (ro := [215]) (L := []) okN v64 (fn := Tryz.f126) (b := bdy 126) (by kernel_rfl) (by kernel_rfl) (by kernel_rfl) (by kernel_rfl) v64_run
theorem v65_run : (runC (EC [215] []) 20000 v65.n [callFr v65.g Tryz.f126.ntmps v65.l (bdy 126)] v65.ms).vc (retOk v65.n [] v65.s0 v65.ms') (fun _ _ => False) = allP (selfR v65.n [] v65.s0 v65.ms') := by kernel_rfl
theorem v65_ok : v65.Ok := CC.mk_ok (ro := [215]) (L := []) okN v65 (fn := Tryz.f126) (b := bdy 126) (by kernel_rfl) (by kernel_rfl) (by kernel_rfl) (by kernel_rfl) v65_run
theorem v66_run : (runC (EC [215] []) 20000 v66.n [callFr v66.g Tryz.f126.ntmps v66.l (bdy 126)] v66.ms).vc (retOk v66.n [] v66.s0 v66.ms') (fun _ _ => False) = allP (selfR v66.n [] v66.s0 v66.ms') := by kernel_rfl
theorem v66_ok : v66.Ok := CC.mk_ok (ro := [215]) (L := []) okN v66 (fn := Tryz.f126) (b := bdy 126) (by kernel_rfl) (by kernel_rfl) (by kernel_rfl) (by kernel_rfl) v66_run
theorem v68_run : (runC (EC [215] []) 20000 v68.n [callFr v68.g Tryz.f126.ntmps v68.l (bdy 126)] v68.ms).vc (retOk v68.n [(6704, 6704)] v68.s0 v68.ms') (fun _ _ => False) = allP (selfR v68.n [(6704, 6704)] v68.s0 v68.ms') := by kernel_rfl
theorem v68_ok : v68.Ok := CC.mk_ok (ro := [215]) (L := []) okN v68 (fn := Tryz.f126) (b := bdy 126) (by kernel_rfl) (by kernel_rfl) (by kernel_rfl) (by kernel_rfl) v68_run
theorem v69_run : (runC (EC [215] []) 20000 v69.n [callFr v69.g Tryz.f126.ntmps v69.l (bdy 126)] v69.ms).vc (retOk v69.n [] v69.s0 v69.ms') (fun _ _ => False) = allP (selfR v69.n [] v69.s0 v69.ms') := by kernel_rfl
theorem v69_ok : v69.Ok := CC.mk_ok (ro := [215]) (L := []) okN v69 (fn := Tryz.f126) (b := bdy 126) (by kernel_rfl) (by kernel_rfl) (by kernel_rfl) (by kernel_rfl) v69_run
theorem v70_run : (runC (EC [215] []) 20000 v70.n [callFr v70.g Tryz.f126.ntmps v70.l (bdy 126)] v70.ms).vc (retOk v70.n [] v70.s0 v70.ms') (fun _ _ => False) = allP (selfR v70.n [] v70.s0 v70.ms') := by kernel_rfl
theorem v70_ok : v70.Ok := CC.mk_ok (ro := [215]) (L := []) okN v70 (fn := Tryz.f126) (b := bdy 126) (by kernel_rfl) (by kernel_rfl) (by kernel_rfl) (by kernel_rfl) v70_run
theorem v73_run : (runC (EC [215] []) 20000 v73.n [callFr v73.g Tryz.f126.ntmps v73.l (bdy 126)] v73.ms).vc (retOk v73.n [(7181, 7181)] v73.s0 v73.ms') (fun _ _ => False) = allP (selfR v73.n [(7181, 7181)] v73.s0 v73.ms') := by kernel_rfl
theorem v73_ok : v73.Ok := CC.mk_ok (ro := [215]) (L := []) okN v73 (fn := Tryz.f126) (b := bdy 126) (by kernel_rfl) (by kernel_rfl) (by kernel_rfl) (by kernel_rfl) v73_run
theorem v74_run : (runC (EC [215] []) 20000 v74.n [callFr v74.g Tryz.f126.ntmps v74.l (bdy 126)] v74.ms).vc (retOk v74.n [] v74.s0 v74.ms') (fun _ _ => False) = allP (selfR v74.n [] v74.s0 v74.ms') := by kernel_rfl
theorem v74_ok : v74.Ok := CC.mk_ok (ro := [215]) (L := []) okN v74 (fn := Tryz.f126) (b := bdy 126) (by kernel_rfl) (by kernel_rfl) (by kernel_rfl) (by kernel_rfl) v74_run
theorem v75_run : (runC (EC [215] []) 20000 v75.n [callFr v75.g Tryz.f126.ntmps v75.l (bdy 126)] v75.ms).vc (retOk v75.n [] v75.s0 v75.ms') (fun _ _ => False) = allP (selfR v75.n [] v75.s0 v75.ms') := by kernel_rfl
theorem v75_ok : v75.Ok := CC.mk_ok (ro := [215]) (L := []) okN v75 (fn := Tryz.f126) (b := bdy 126) (by kernel_rfl) (by kernel_rfl) (by kernel_rfl) (by kernel_rfl) v75_run
theorem v77_run : (runC (EC [215] []) 20000 v77.n [callFr v77.g Tryz.f126.ntmps v77.l (bdy 126)] v77.ms).vc (retOk v77.n [(7650, 7650)] v77.s0 v77.ms') (fun _ _ => False) = allP (selfR v77.n [(7650, 7650)] v77.s0 v77.ms') := by kernel_rfl
theorem v77_ok : v77.Ok := CC.mk_ok (ro := [215]) (L := []) okN v77 (fn := Tryz.f126) (b := bdy 126) (by kernel_rfl) (by kernel_rfl) (by kernel_rfl) (by kernel_rfl) v77_run
theorem v78_run : (runC (EC [215] []) 20000 v78.n [callFr v78.g Tryz.f126.ntmps v78.l (bdy 126)] v78.ms).vc (retOk v78.n [] v78.s0 v78.ms') (fun _ _ => False) = allP (selfR v78.n [] v78.s0 v78.ms') := by kernel_rfl
theorem v78_ok : v78.Ok := CC.mk_ok (ro := [215]) (L := []) okN v78 (fn := Tryz.f126) (b := bdy 126) (by kernel_rfl) (by kernel_rfl) (by kernel_rfl) (by kernel_rfl) v78_run
theorem v79_run : (runC (EC [215] []) 20000 v79.n [callFr v79.g Tryz.f126.ntmps v79.l (bdy 126)] v79.ms).vc (retOk v79.n [] v79.s0 v79.ms') (fun _ _ => False) = allP (selfR v79.n [] v79.s0 v79.ms') := by kernel_rfl
theorem v79_ok : v79.Ok := CC.mk_ok (ro := [215]) (L := []) okN v79 (fn := Tryz.f126) (b := bdy 126) (by kernel_rfl) (by kernel_rfl) (by kernel_rfl) (by kernel_rfl) v79_run
theorem v81_run : (runC (EC [215] []) 20000 v81.n [callFr v81.g Tryz.f126.ntmps v81.l (bdy 126)] v81.ms).vc (retOk v81.n [(8121, 8121)] v81.s0 v81.ms') (fun _ _ => False) = allP (selfR v81.n [(8121, 8121)] v81.s0 v81.ms') := by kernel_rfl
theorem v81_ok : v81.Ok := CC.mk_ok (ro := [215]) (L := []) okN v81 (fn := Tryz.f126) (b := bdy 126) (by kernel_rfl) (by kernel_rfl) (by kernel_rfl) (by kernel_rfl) v81_run
theorem v82_run : (runC (EC [215] []) 20000 v82.n [callFr v82.g Tryz.f126.ntmps v82.l (bdy 126)] v82.ms).vc (retOk v82.n [] v82.s0 v82.ms') (fun _ _ => False) = allP (selfR v82.n [] v82.s0 v82.ms') := by kernel_rfl
theorem v82_ok : v82.Ok := CC.mk_ok (ro := [215]) (L := []) okN v82 (fn := Tryz.f126) (b := bdy 126) (by kernel_rfl) (by kernel_rfl) (by kernel_rfl) (by kernel_rfl) v82_run
theorem v83_run : (runC (EC [215] []) 20000 v83.n [callFr v83.g Tryz.f126.ntmps v83.l (bdy 126)] v83.ms).vc (retOk v83.n [] v83.s0 v83.ms') (fun _ _ => False) = allP (selfR v83.n [] v83.s0 v83.ms') := by kernel_rfl
theorem v83_ok : v83.Ok := CC.mk_ok (ro := [215]) (L := []) okN v83 (fn := Tryz.f126) (b := bdy 126) (by kernel_rfl) (by kernel_rfl) (by kernel_rfl) (by kernel_rfl) v83_run
end Go.Proofs.YtalaegjdldllfaaGreatDoor
