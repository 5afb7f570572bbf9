/- Of a closed run: its calls do what is told of them. No condition. -/
import Derived.Test.YtalaegjdldllfaaGreatDoorXv
namespace Go.Proofs.YtalaegjdldllfaaGreatDoor
set_option maxRecDepth 1000000
theorem v170_run : (runC (EC [215] []) 20000 v170.n [callFr v170.g Tryz.f126.ntmps v170.l (bdy 126)] v170.ms).vc (retOk v170.n [(18031, 18031)] v170.s0 v170.ms') (fun _ _ => False) = allP (selfR v170.n [(18031, 18031)] v170.s0 v170.ms') := by kernel_rfl
theorem v170_ok : v170.Ok := CC.mk_ok (ro := [215]) (L := []) okN v170 (fn := Tryz.f126) (b := bdy 126) (by kernel_rfl) (by kernel_rfl) (by kernel_rfl) (by kernel_rfl) v170_run
theorem v171_run : (runC (EC [215] []) 20000 v171.n [callFr v171.g Tryz.f126.ntmps v171.l (bdy 126)] v171.ms).vc (retOk v171.n [] v171.s0 v171.ms') (fun _ _ => False) = allP (selfR v171.n [] v171.s0 v171.ms') := by kernel_rfl
theorem v171_ok : v171.Ok := CC.mk_ok (ro := [215]) (L := []) okN v171 (fn := Tryz.f126) (b := bdy 126) (by kernel_rfl) (by kernel_rfl) (by kernel_rfl) (by kernel_rfl) v171_run
theorem v172_run : (runC (EC [215] []) 20000 v172.n [callFr v172.g Tryz.f126.ntmps v172.l (bdy 126)] v172.ms).vc (retOk v172.n [] v172.s0 v172.ms') (fun _ _ => False) = allP (selfR v172.n [] v172.s0 v172.ms') := by kernel_rfl
theorem v172_ok : v172.Ok := CC.mk_ok (ro := [215]) (L := []) okN v172 (fn := Tryz.f126) (b := bdy 126) (by kernel_rfl) (by kernel_rfl) (by kernel_rfl) (by kernel_rfl) v172_run
theorem v177_run : (runC (EC [215] []) 20000 v177.n [callFr v177.g Tryz.f28.ntmps v177.l (bdy 28)] v177.ms).vc (retOk v177.n [] v177.s0 v177.ms') (fun _ _ => False) = allP (selfR v177.n [] v177.s0 v177.ms') := by kernel_rfl
theorem v177_ok : v177.Ok := CC.mk_ok (ro := [215]) (L := []) okN v177 (fn := Tryz.f28) (b := bdy 28) (by kernel_rfl) (by kernel_rfl) (by kernel_rfl) (by kernel_rfl) v177_run
theorem v178_run : (runC (EC [215] []) 20000 v178.n [callFr v178.g Tryz.f29.ntmps v178.l (bdy 29)] v178.ms).vc (retOk v178.n [] v178.s0 v178.ms') (fun _ _ => False) = allP (selfR v178.n [] v178.s0 v178.ms') := by kernel_rfl
theorem v178_ok : v178.Ok := CC.mk_ok (ro := [215]) (L := []) okN v178 (fn := Tryz.f29) (b := bdy 29) (by kernel_rfl) (by kernel_rfl) (by kernel_rfl) (by kernel_rfl) v178_run
theorem v179_run : (runC (EC [215] []) 20000 v179.n [callFr v179.g Tryz.f31.ntmps v179.l (bdy 31)] v179.ms).vc (retOk v179.n [] v179.s0 v179.ms') (fun _ _ => False) = allP (selfR v179.n [] v179.s0 v179.ms') := by kernel_rfl
theorem v179_ok : v179.Ok := CC.mk_ok (ro := [215]) (L := []) okN v179 (fn := Tryz.f31) (b := bdy 31) (by kernel_rfl) (by kernel_rfl) (by kernel_rfl) (by kernel_rfl) v179_run
theorem v180_run : (runC (EC [215] []) 20000 v180.n [callFr v180.g Tryz.f31.ntmps v180.l (bdy 31)] v180.ms).vc (retOk v180.n [] v180.s0 v180.ms') (fun _ _ => False) = allP (selfR v180.n [] v180.s0 v180.ms') := by kernel_rfl
theorem v180_ok : v180.Ok := CC.mk_ok (ro := [215]) (L := []) okN v180 (fn := Tryz.f31) (b := bdy 31) (by kernel_rfl) (by kernel_rfl) (by kernel_rfl) (by kernel_rfl) v180_run
theorem v182_run : (runC (EC [215] []) 20000 v182.n [callFr v182.g Tryz.f118.ntmps v182.l (bdy 118)] v182.ms).vc (retOk v182.n [(151, 151)] v182.s0 v182.ms') (fun _ _ => False) = allP (selfR v182.n [(151, 151)] v182.s0 v182.ms') := by kernel_rfl
theorem v182_ok : v182.Ok := CC.mk_ok (ro := [215]) (L := []) okN v182 (fn := Tryz.f118) (b := bdy 118) (by kernel_rfl) (by kernel_rfl) (by kernel_rfl) (by kernel_rfl) v182_run
theorem v183_run : (runC (EC [215] []) 20000 v183.n [callFr v183.g Tryz.f119.ntmps v183.l (bdy 119)] v183.ms).vc (retOk v183.n [] v183.s0 v183.ms') (fun _ _ => False) = allP (selfR v183.n [] v183.s0 v183.ms') := by kernel_rfl
theorem v183_ok : v183.Ok := CC.mk_ok (ro := [215]) (L := []) okN v183 (fn := Tryz.f119) (b := bdy 119) (by kernel_rfl) (by kernel_rfl) (by kernel_rfl) (by kernel_rfl) v183_run
theorem v186_run : (runC (EC [215] []) 20000 v186.n [callFr v186.g Tryz.f126.ntmps v186.l (bdy 126)] v186.ms).vc (retOk v186.n [] v186.s0 v186.ms') (fun _ _ => False) = allP (selfR v186.n [] v186.s0 v186.ms') := by kernel_rfl
theorem v186_ok : v186.Ok := CC.mk_ok (ro := [215]) (L := []) okN v186 (fn := Tryz.f126) (b := bdy 126) (by kernel_rfl) (by kernel_rfl) (by kernel_rfl) (by kernel_rfl) v186_run
theorem v187_run : (runC (EC [215] []) 20000 v187.n [callFr v187.g Tryz.f126.ntmps v187.l (bdy 126)] v187.ms).vc (retOk v187.n [] v187.s0 v187.ms') (fun _ _ => False) = allP (selfR v187.n [] v187.s0 v187.ms') := by kernel_rfl
theorem v187_ok : v187.Ok := CC.mk_ok (ro := [215]) (L := []) okN v187 (fn := Tryz.f126) (b := bdy 126) (by kernel_rfl) (by kernel_rfl) (by kernel_rfl) (by kernel_rfl) v187_run
theorem v189_run : (runC (EC [215] []) 20000 v189.n [callFr v189.g Tryz.f126.ntmps v189.l (bdy 126)] v189.ms).vc (retOk v189.n [(514, 514)] v189.s0 v189.ms') (fun _ _ => False) = allP (selfR v189.n [(514, 514)] v189.s0 v189.ms') := by kernel_rfl
theorem v189_ok : v189.Ok := CC.mk_ok (ro := [215]) (L := []) okN v189 (fn := Tryz.f126) (b := bdy 126) (by kernel_rfl) (by kernel_rfl) (by kernel_rfl) (by kernel_rfl) v189_run
theorem v190_run : (runC (EC [215] []) 20000 v190.n [callFr v190.g Tryz.f126.ntmps v190.l (bdy 126)] v190.ms).vc (retOk v190.n [] v190.s0 v190.ms') (fun _ _ => False) = allP (selfR v190.n [] v190.s0 v190.ms') := by kernel_rfl
theorem v190_ok : v190.Ok := CC.mk_ok (ro := [215]) (L := []) okN v190 (fn := Tryz.f126) (b := bdy 126) (by kernel_rfl) (by kernel_rfl) (by kernel_rfl) (by kernel_rfl) v190_run
theorem v191_run : (runC (EC [215] []) 20000 v191.n [callFr v191.g Tryz.f126.ntmps v191.l (bdy 126)] v191.ms).vc (retOk v191.n [] v191.s0 v191.ms') (fun _ _ => False) = allP (selfR v191.n [] v191.s0 v191.ms') := by kernel_rfl
theorem v191_ok : v191.Ok := CC.mk_ok (ro := [215]) (L := []) okN v191 (fn := Tryz.f126) (b := bdy 126) (by kernel_rfl) (by kernel_rfl) (by kernel_rfl) (by kernel_rfl) v191_run
theorem v193_run : (runC (EC [215] []) 20000 v193.n [callFr v193.g Tryz.f126.ntmps v193.l (bdy 126)] v193.ms).vc (retOk v193.n [(1034, 1034)] v193.s0 v193.ms') (fun _ _ => False) = allP (selfR v193.n [(1034, 1034)] v193.s0 v193.ms') := by kernel_rfl
theorem v193_ok : v193.Ok := CC.mk_ok (ro := [215]) (L := []) okN v193 (fn := Tryz.f126) (b := bdy 126) (by kernel_rfl) (by kernel_rfl) (by kernel_rfl) (by kernel_rfl) v193_run
theorem v194_run : (runC (EC [215] []) 20000 v194.n [callFr v194.g Tryz.f126.ntmps v194.l (bdy 126)] v194.ms).vc (retOk v194.n [] v194.s0 v194.ms') (fun _ _ => False) = allP (selfR v194.n [] v194.s0 v194.ms') := by kernel_rfl
theorem v194_ok : v194.Ok := CC.mk_ok (ro := [215]) (L := []) okN v194 (fn := Tryz.f126) (b := bdy 126) (by kernel_rfl) (by kernel_rfl) (by kernel_rfl) (by kernel_rfl) v194_run
theorem v195_run : (runC (EC [215] []) 20000 v195.n [callFr v195.g Tryz.f126.ntmps v195.l (bdy 126)] v195.ms).vc (retOk v195.n [] v195.s0 v195.ms') (fun _ _ => False) = allP (selfR v195.n [] v195.s0 v195.ms') := by kernel_rfl
theorem v195_ok : v195.Ok := CC.mk_ok (ro := [215]) (L := []) okN v195 (fn := Tryz.f126) (b := bdy 126) (by kernel_rfl) (by kernel_rfl) (by kernel_rfl) (by kernel_rfl) v195_run
theorem v198_run : (runC (EC [215] []) 20000 v198.n [callFr v198.g Tryz.f27.ntmps v198.l (bdy 27)] v198.ms).vc (retOk v198.n [] v198.s0 v198.ms') (fun _ _ => False) = allP (selfR v198.n [] v198.s0 v198.ms') := by kernel_rfl
theorem v198_ok : v198.Ok := CC.mk_ok (ro := [215]) (L := []) okN v198 (fn := Tryz.f27) (b := bdy 27) (by kernel_rfl) (by kernel_rfl) (by kernel_rfl) (by kernel_rfl) v198_run
theorem v199_run : (runC (EC [215] []) 20000 v199.n [callFr v199.g Tryz.f126.ntmps v199.l (bdy 126)] v199.ms).vc (retOk v199.n [] v199.s0 v199.ms') (fun _ _ => False) = allP (selfR v199.n [] v199.s0 v199.ms') := by kernel_rfl
theorem v199_ok : v199.Ok := CC.mk_ok (ro := [215]) (L := []) okN v199 (fn := Tryz.f126) (b := bdy 126) (by kernel_rfl) (by kernel_rfl) (by kernel_rfl) (by kernel_rfl) v199_run
end Go.Proofs.YtalaegjdldllfaaGreatDoor
