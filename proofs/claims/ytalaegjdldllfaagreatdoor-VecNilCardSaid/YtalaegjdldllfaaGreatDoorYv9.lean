/- Of a closed run: its calls do what is told of them. No condition. -/
import Derived.Test.YtalaegjdldllfaaGreatDoorXv
import Derived.Test.YtalaegjdldllfaaGreatDoorYv4
import Derived.Test.YtalaegjdldllfaaGreatDoorYv5
import Derived.Test.YtalaegjdldllfaaGreatDoorYv6
namespace Go.Proofs.YtalaegjdldllfaaGreatDoor
set_option maxRecDepth 1000000
theorem v143_run : (runC (EC [215] [v140, v141, v142]) 20000 v143.n [callFr v143.g Tryz.f56.ntmps v143.l (bdy 56)] v143.ms).vc (retOk v143.n [] v143.s0 v143.ms') (fun _ _ => False) = allP (selfR v143.n [] v143.s0 v143.ms') := by kernel_rfl
theorem v143_ok : v143.Ok := CC.mk_ok (ro := [215]) (L := [v140, v141, v142]) (okC v140_ok (okC v141_ok (okC v142_ok okN))) v143 (fn := Tryz.f56) (b := bdy 56) (by kernel_rfl) (by kernel_rfl) (by kernel_rfl) (by kernel_rfl) v143_run
theorem v147_run : (runC (EC [215] [v144, v145, v146]) 20000 v147.n [callFr v147.g Tryz.f56.ntmps v147.l (bdy 56)] v147.ms).vc (retOk v147.n [] v147.s0 v147.ms') (fun _ _ => False) = allP (selfR v147.n [] v147.s0 v147.ms') := by kernel_rfl
theorem v147_ok : v147.Ok := CC.mk_ok (ro := [215]) (L := [v144, v145, v146]) (okC v144_ok (okC v145_ok (okC v146_ok okN))) v147 (fn := Tryz.f56) (b := bdy 56) (by kernel_rfl) (by kernel_rfl) (by kernel_rfl) (by kernel_rfl) v147_run
theorem v152_run : (runC (EC [215] [v149, v150, v151]) 20000 v152.n [callFr v152.g Tryz.f56.ntmps v152.l (bdy 56)] v152.ms).vc (retOk v152.n [] v152.s0 v152.ms') (fun _ _ => False) = allP (selfR v152.n [] v152.s0 v152.ms') := by kernel_rfl
theorem v152_ok : v152.Ok := CC.mk_ok (ro := [215]) (L := [v149, v150, v151]) (okC v149_ok (okC v150_ok (okC v151_ok okN))) v152 (fn := Tryz.f56) (b := bdy 56) (by kernel_rfl) (by kernel_rfl) (by kernel_rfl) (by kernel_rfl) v152_run
theorem v156_run : (runC (EC [215] [v153, v154, v155]) 20000 v156.n [callFr v156.g Tryz.f56.ntmps v156.l (bdy 56)] v156.ms).vc (retOk v156.n [] v156.s0 v156.ms') (fun _ _ => False) = allP (selfR v156.n [] v156.s0 v156.ms') := by kernel_rfl
theorem v156_ok : v156.Ok := CC.mk_ok (ro := [215]) (L := [v153, v154, v155]) (okC v153_ok (okC v154_ok (okC v155_ok okN))) v156 (fn := Tryz.f56) (b := bdy 56) (by kernel_rfl) (by kernel_rfl) (by kernel_rfl) (by kernel_rfl) v156_run
theorem v161_run : (runC (EC [215] [v158, v159, v160]) 20000 v161.n [callFr v161.g Tryz.f56.ntmps v161.l (bdy 56)] v161.ms).vc (retOk v161.n [] v161.s0 v161.ms') (fun _ _ => False) = allP (selfR v161.n [] v161.s0 v161.ms') := by kernel_rfl
theorem v161_ok : v161.Ok := CC.mk_ok (ro := [215]) (L := [v158, v159, v160]) (okC v158_ok (okC v159_ok (okC v160_ok okN))) v161 (fn := Tryz.f56) (b := bdy 56) (by kernel_rfl) (by kernel_rfl) (by kernel_rfl) (by kernel_rfl) v161_run
theorem v165_run : (runC (EC [215] [v162, v163, v164]) 20000 v165.n [callFr v165.g Tryz.f56.ntmps v165.l (bdy 56)] v165.ms).vc (retOk v165.n [] v165.s0 v165.ms') (fun _ _ => False) = allP (selfR v165.n [] v165.s0 v165.ms') := by kernel_rfl
theorem v165_ok : v165.Ok := CC.mk_ok (ro := [215]) (L := [v162, v163, v164]) (okC v162_ok (okC v163_ok (okC v164_ok okN))) v165 (fn := Tryz.f56) (b := bdy 56) (by kernel_rfl) (by kernel_rfl) (by kernel_rfl) (by kernel_rfl) v165_run
theorem v169_run : (runC (EC [215] [v166, v167, v168]) 20000 v169.n [callFr v169.g Tryz.f56.ntmps v169.l (bdy 56)] v169.ms).vc (retOk v169.n [] v169.s0 v169.ms') (fun _ _ => False) = allP (selfR v169.n [] v169.s0 v169.ms') := by kernel_rfl
theorem v169_ok : v169.Ok := CC.mk_ok (ro := [215]) (L := [v166, v167, v168]) (okC v166_ok (okC v167_ok (okC v168_ok okN))) v169 (fn := Tryz.f56) (b := bdy 56) (by kernel_rfl) (by kernel_rfl) (by kernel_rfl) (by kernel_rfl) v169_run
theorem v173_run : (runC (EC [215] [v170, v171, v172]) 20000 v173.n [callFr v173.g Tryz.f56.ntmps v173.l (bdy 56)] v173.ms).vc (retOk v173.n [] v173.s0 v173.ms') (fun _ _ => False) = allP (selfR v173.n [] v173.s0 v173.ms') := by kernel_rfl
theorem v173_ok : v173.Ok := CC.mk_ok (ro := [215]) (L := [v170, v171, v172]) (okC v170_ok (okC v171_ok (okC v172_ok okN))) v173 (fn := Tryz.f56) (b := bdy 56) (by kernel_rfl) (by kernel_rfl) (by kernel_rfl) (by kernel_rfl) v173_run
theorem v181_run : (runC (EC [215] [v180]) 20000 v181.n [callFr v181.g Tryz.f35.ntmps v181.l (bdy 35)] v181.ms).vc (retOk v181.n [] v181.s0 v181.ms') (fun _ _ => False) = allP (selfR v181.n [] v181.s0 v181.ms') := by kernel_rfl
theorem v181_ok : v181.Ok := CC.mk_ok (ro := [215]) (L := [v180]) (okC v180_ok okN) v181 (fn := Tryz.f35) (b := bdy 35) (by kernel_rfl) (by kernel_rfl) (by kernel_rfl) (by kernel_rfl) v181_run
theorem v184_run : (runC (EC [215] [v182, v183]) 20000 v184.n [callFr v184.g Tryz.f89.ntmps v184.l (bdy 89)] v184.ms).vc (retOk v184.n [(151, 151), (154, 154)] v184.s0 v184.ms') (fun _ _ => False) = allP (selfR v184.n [(151, 151), (154, 154)] v184.s0 v184.ms') := by kernel_rfl
theorem v184_ok : v184.Ok := CC.mk_ok (ro := [215]) (L := [v182, v183]) (okC v182_ok (okC v183_ok okN)) v184 (fn := Tryz.f89) (b := bdy 89) (by kernel_rfl) (by kernel_rfl) (by kernel_rfl) (by kernel_rfl) v184_run
theorem v188_run : (runC (EC [215] [v186, v187]) 20000 v188.n [callFr v188.g Tryz.f56.ntmps v188.l (bdy 56)] v188.ms).vc (retOk v188.n [] v188.s0 v188.ms') (fun _ _ => False) = allP (selfR v188.n [] v188.s0 v188.ms') := by kernel_rfl
theorem v188_ok : v188.Ok := CC.mk_ok (ro := [215]) (L := [v186, v187]) (okC v186_ok (okC v187_ok okN)) v188 (fn := Tryz.f56) (b := bdy 56) (by kernel_rfl) (by kernel_rfl) (by kernel_rfl) (by kernel_rfl) v188_run
theorem v192_run : (runC (EC [215] [v189, v190, v191]) 20000 v192.n [callFr v192.g Tryz.f56.ntmps v192.l (bdy 56)] v192.ms).vc (retOk v192.n [] v192.s0 v192.ms') (fun _ _ => False) = allP (selfR v192.n [] v192.s0 v192.ms') := by kernel_rfl
theorem v192_ok : v192.Ok := CC.mk_ok (ro := [215]) (L := [v189, v190, v191]) (okC v189_ok (okC v190_ok (okC v191_ok okN))) v192 (fn := Tryz.f56) (b := bdy 56) (by kernel_rfl) (by kernel_rfl) (by kernel_rfl) (by kernel_rfl) v192_run
theorem v196_run : (runC (EC [215] [v193, v194, v195]) 20000 v196.n [callFr v196.g Tryz.f56.ntmps v196.l (bdy 56)] v196.ms).vc (retOk v196.n [] v196.s0 v196.ms') (fun _ _ => False) = allP (selfR v196.n [] v196.s0 v196.ms') := by kernel_rfl
theorem v196_ok : v196.Ok := CC.mk_ok (ro := [215]) (L := [v193, v194, v195]) (okC v193_ok (okC v194_ok (okC v195_ok okN))) v196 (fn := Tryz.f56) (b := bdy 56) (by kernel_rfl) (by kernel_rfl) (by kernel_rfl) (by kernel_rfl) v196_run
theorem v200_run : (runC (EC [215] [v199]) 20000 v200.n [callFr v200.g Tryz.f56.ntmps v200.l (bdy 56)] v200.ms).vc (retOk v200.n [] v200.s0 v200.ms') (fun _ _ => False) = allP (selfR v200.n [] v200.s0 v200.ms') := by kernel_rfl
theorem v200_ok : v200.Ok := CC.mk_ok (ro := [215]) (L := [v199]) (okC v199_ok okN) v200 (fn := Tryz.f56) (b := bdy 56) (by kernel_rfl) (by kernel_rfl) (by kernel_rfl) (by kernel_rfl) v200_run
end Go.Proofs.YtalaegjdldllfaaGreatDoor
