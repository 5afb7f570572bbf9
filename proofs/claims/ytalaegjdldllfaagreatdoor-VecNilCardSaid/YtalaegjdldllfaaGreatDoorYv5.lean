/- Of a closed run: its calls do what is told of them. No condition. -/
import Derived.Test.YtalaegjdldllfaaGreatDoorXv
namespace Go.Proofs.YtalaegjdldllfaaGreatDoor
set_option maxRecDepth 1000000
theorem v141_run : (runC (EC [215] []) 20000 v141.n [callFr v141.g Tryz.f126.ntmps v141.l (bdy 126)] v141.ms).vc (retOk v141.n [] v141.s0 v141.ms') (fun _ _ => False) = allP (selfR v141.n [] v141.s0 v141.ms') := by kernel_rfl
theorem v141_ok : v141.Ok := CC.mk_ok (ro := [215]) (L := []) okN v141 (fn := Tryz.f126) (b := bdy 126) (by kernel_rfl) (by kernel_rfl) (by kernel_rfl) (by kernel_rfl) v141_run
theorem v142_run : (runC (EC [215] []) 20000 v142.n [callFr v142.g Tryz.f126.ntmps v142.l (bdy 126)] v142.ms).vc (retOk v142.n [] v142.s0 v142.ms') (fun _ _ => False) = allP (selfR v142.n [] v142.s0 v142.ms') := by kernel_rfl
theorem v142_ok : v142.Ok := CC.mk_ok (ro := [215]) (L := []) okN v142 (fn := Tryz.f126) (b := bdy 126) (by kernel_rfl) (by kernel_rfl) (by kernel_rfl) (by kernel_rfl) v142_run
theorem v144_run : (runC (EC [215] []) 20000 v144.n [callFr v144.g Tryz.f126.ntmps v144.l (bdy 126)] v144.ms).vc (retOk v144.n [(15194, 15194)] v144.s0 v144.ms') (fun _ _ => False) = allP (selfR v144.n [(15194, 15194)] v144.s0 v144.ms') := by kernel_rfl
theorem v144_ok : v144.Ok := CC.mk_ok (ro := [215]) (L := []) okN v144 (fn := Tryz.f126) (b := bdy 126) (by kernel_rfl) (by kernel_rfl) (by kernel_rfl) (by kernel_rfl) v144_run
theorem v145_run : (runC (EC [215] []) 20000 v145.n [callFr v145.g Tryz.f126.ntmps v145.l (bdy 126)] v145.ms).vc (retOk v145.n [] v145.s0 v145.ms') (fun _ _ => False) = allP (selfR v145.n [] v145.s0 v145.ms') := by kernel_rfl
theorem v145_ok : v145.Ok := CC.mk_ok (ro := [215]) (L := []) okN v145 (fn := Tryz.f126) (b := bdy 126) (by kernel_rfl) (by kernel_rfl) (by kernel_rfl) (by kernel_rfl) v145_run
theorem v146_run : (runC (EC [215] []) 20000 v146.n [callFr v146.g Tryz.f126.ntmps v146.l (bdy 126)] v146.ms).vc (retOk v146.n [] v146.s0 v146.ms') (fun _ _ => False) = allP (selfR v146.n [] v146.s0 v146.ms') := by kernel_rfl
theorem v146_ok : v146.Ok := CC.mk_ok (ro := [215]) (L := []) okN v146 (fn := Tryz.f126) (b := bdy 126) (by kernel_rfl) (by kernel_rfl) (by kernel_rfl) (by kernel_rfl) v146_run
theorem v149_run : (runC (EC [215] []) 20000 v149.n [callFr v149.g Tryz.f126.ntmps v149.l (bdy 126)] v149.ms).vc (retOk v149.n [(15673, 15673)] v149.s0 v149.ms') (fun _ _ => False) = allP (selfR v149.n [(15673, 15673)] v149.s0 v149.ms') := by kernel_rfl
theorem v149_ok : v149.Ok := CC.mk_ok (ro := [215]) (L := []) okN v149 (fn := Tryz.f126) (b := bdy 126) (by kernel_rfl) (by kernel_rfl) (by kernel_rfl) (by kernel_rfl) v149_run
theorem v150_run : (runC (EC [215] []) 20000 v150.n [callFr v150.g Tryz.f126.ntmps v150.l (bdy 126)] v150.ms).vc (retOk v150.n [] v150.s0 v150.ms') (fun _ _ => False) = allP (selfR v150.n [] v150.s0 v150.ms') := by kernel_rfl
theorem v150_ok : v150.Ok := CC.mk_ok (ro := [215]) (L := []) okN v150 (fn := Tryz.f126) (b := bdy 126) (by kernel_rfl) (by kernel_rfl) (by kernel_rfl) (by kernel_rfl) v150_run
theorem v151_run : (runC (EC [215] []) 20000 v151.n [callFr v151.g Tryz.f126.ntmps v151.l (bdy 126)] v151.ms).vc (retOk v151.n [] v151.s0 v151.ms') (fun _ _ => False) = allP (selfR v151.n [] v151.s0 v151.ms') := by kernel_rfl
theorem v151_ok : v151.Ok := CC.mk_ok (ro := [215]) (L := []) okN v151 (fn := Tryz.f126) (b := bdy 126) (by kernel_rfl) (by kernel_rfl) (by kernel_rfl) (by kernel_rfl) v151_run
theorem v153_run : (runC (EC [215] []) 20000 v153.n [callFr v153.g Tryz.f126.ntmps v153.l (bdy 126)] v153.ms).vc (retOk v153.n [(16142, 16142)] v153.s0 v153.ms') (fun _ _ => False) = allP (selfR v153.n [(16142, 16142)] v153.s0 v153.ms') := by kernel_rfl
theorem v153_ok : v153.Ok := CC.mk_ok (ro := [215]) (L := []) okN v153 (fn := Tryz.f126) (b := bdy 126) (by kernel_rfl) (by kernel_rfl) (by kernel_rfl) (by kernel_rfl) v153_run
theorem v154_run : (runC (EC [215] []) 20000 v154.n [callFr v154.g Tryz.f126.ntmps v154.l (bdy 126)] v154.ms).vc (retOk v154.n [] v154.s0 v154.ms') (fun _ _ => False) = allP (selfR v154.n [] v154.s0 v154.ms') := by kernel_rfl
theorem v154_ok : v154.Ok := CC.mk_ok (ro := [215]) (L := []) okN v154 (fn := Tryz.f126) (b := bdy 126) (by kernel_rfl) (by kernel_rfl) (by kernel_rfl) (by kernel_rfl) v154_run
theorem v155_run : (runC (EC [215] []) 20000 v155.n [callFr v155.g Tryz.f126.ntmps v155.l (bdy 126)] v155.ms).vc (retOk v155.n [] v155.s0 v155.ms') (fun _ _ => False) = allP (selfR v155.n [] v155.s0 v155.ms') := by kernel_rfl
theorem v155_ok : v155.Ok := CC.mk_ok (ro := [215]) (L := []) okN v155 (fn := Tryz.f126) (b := bdy 126) (by kernel_rfl) (by kernel_rfl) (by kernel_rfl) (by kernel_rfl) v155_run
theorem v158_run : (runC (EC [215] []) 20000 v158.n [callFr v158.g Tryz.f126.ntmps v158.l (bdy 126)] v158.ms).vc (retOk v158.n [(16620, 16620)] v158.s0 v158.ms') (fun _ _ => False) = allP (selfR v158.n [(16620, 16620)] v158.s0 v158.ms') := by kernel_rfl
theorem v158_ok : v158.Ok := CC.mk_ok (ro := [215]) (L := []) okN v158 (fn := Tryz.f126) (b := bdy 126) (by kernel_rfl) (by kernel_rfl) (by kernel_rfl) (by kernel_rfl) v158_run
theorem v159_run : (runC (EC [215] []) 20000 v159.n [callFr v159.g Tryz.f126.ntmps v159.l (bdy 126)] v159.ms).vc (retOk v159.n [] v159.s0 v159.ms') (fun _ _ => False) = allP (selfR v159.n [] v159.s0 v159.ms') := by kernel_rfl
theorem v159_ok : v159.Ok := CC.mk_ok (ro := [215]) (L := []) okN v159 (fn := Tryz.f126) (b := bdy 126) (by kernel_rfl) (by kernel_rfl) (by kernel_rfl) (by kernel_rfl) v159_run
theorem v160_run : (runC (EC [215] []) 20000 v160.n [callFr v160.g Tryz.f126.ntmps v160.l (bdy 126)] v160.ms).vc (retOk v160.n [] v160.s0 v160.ms') (fun _ _ => False) = allP (selfR v160.n [] v160.s0 v160.ms') := by kernel_rfl
theorem v160_ok : v160.Ok := CC.mk_ok (ro := [215]) (L := []) okN v160 (fn := Tryz.f126) (b := bdy 126) (by kernel_rfl) (by kernel_rfl) (by kernel_rfl) (by kernel_rfl) v160_run
theorem v162_run : (runC (EC [215] []) 20000 v162.n [callFr v162.g Tryz.f126.ntmps v162.l (bdy 126)] v162.ms).vc (retOk v162.n [(17089, 17089)] v162.s0 v162.ms') (fun _ _ => False) = allP (selfR v162.n [(17089, 17089)] v162.s0 v162.ms') := by kernel_rfl
theorem v162_ok : v162.Ok := CC.mk_ok (ro := [215]) (L := []) okN v162 (fn := Tryz.f126) (b := bdy 126) (by kernel_rfl) (by kernel_rfl) (by kernel_rfl) (by kernel_rfl) v162_run
theorem v163_run : (runC (EC [215] []) 20000 v163.n [callFr v163.g Tryz.f126.ntmps v163.l (bdy 126)] v163.ms).vc (retOk v163.n [] v163.s0 v163.ms') (fun _ _ => False) = allP (selfR v163.n [] v163.s0 v163.ms') := by kernel_rfl
theorem v163_ok : v163.Ok := CC.mk_ok (ro := [215]) (L := []) okN v163 (fn := Tryz.f126) (b := bdy 126) (by kernel_rfl) (by kernel_rfl) (by kernel_rfl) (by kernel_rfl) v163_run
theorem v164_run : (runC (EC [215] []) 20000 v164.n [callFr v164.g Tryz.f126.ntmps v164.l (bdy 126)] v164.ms).vc (retOk v164.n [] v164.s0 v164.ms') (fun _ _ => False) = allP (selfR v164.n [] v164.s0 v164.ms') := by kernel_rfl
theorem v164_ok : v164.Ok := CC.mk_ok (ro := [215]) (L := []) okN v164 (fn := Tryz.f126) (b := bdy 126) (by kernel_rfl) (by kernel_rfl) (by kernel_rfl) (by kernel_rfl) v164_run
theorem v166_run : (runC (EC [215] []) 20000 v166.n [callFr v166.g Tryz.f126.ntmps v166.l (bdy 126)] v166.ms).vc (retOk v166.n [(17560, 17560)] v166.s0 v166.ms') (fun _ _ => False) = allP (selfR v166.n [(17560, 17560)] v166.s0 v166.ms') := by kernel_rfl
theorem v166_ok : v166.Ok := CC.mk_ok (ro := [215]) (L := []) okN v166 (fn := Tryz.f126) (b := bdy 126) (by kernel_rfl) (by kernel_rfl) (by kernel_rfl) (by kernel_rfl) v166_run
theorem v167_run : (runC (EC [215] []) 20000 v167.n [callFr v167.g Tryz.f126.ntmps v167.l (bdy 126)] v167.ms).vc (retOk v167.n [] v167.s0 v167.ms') (fun _ _ => False) = allP (selfR v167.n [] v167.s0 v167.ms') := by kernel_rfl
theorem v167_ok : v167.Ok := CC.mk_ok (ro := [215]) (L := []) okN v167 (fn := Tryz.f126) (b := bdy 126) (by kernel_rfl) (by kernel_rfl) (by kernel_rfl) (by kernel_rfl) v167_run
theorem v168_run : (runC (EC [215] []) 20000 v168.n [callFr v168.g Tryz.f126.ntmps v168.l (bdy 126)] v168.ms).vc (retOk v168.n [] v168.s0 v168.ms') (fun _ _ => False) = allP (selfR v168.n [] v168.s0 v168.ms') := by kernel_rfl
theorem v168_ok : v168.Ok := CC.mk_ok (ro := [215]) (L := []) okN v168 (fn := Tryz.f126) (b := bdy 126) (by kernel_rfl) (by kernel_rfl) (by kernel_rfl) (by kernel_rfl) v168_run
end Go.Proofs.YtalaegjdldllfaaGreatDoor
