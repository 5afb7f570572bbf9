/- Of a closed run: its calls do what is told of them. No condition. -/
import Derived.Test.YtalaegjdldllfaaGreatDoorXd
set_option linter.unusedVariables false
set_option linter.unusedSimpArgs false
namespace Go.Proofs.YtalaegjdldllfaaGreatDoor
set_option maxRecDepth 1000000
theorem d212_run : (runC (EC [215] []) 20000 d212.n [callFr d212.g Tryz.f126.ntmps d212.l (bdy 126)] d212.ms).vc (retOk d212.n [] d212.s0 d212.ms') (fun _ _ => False) = allP (selfR d212.n [] d212.s0 d212.ms') := by kernel_rfl
theorem d212_ok : d212.Ok := CC.mk_ok (ro := [215]) (L := []) okN d212 (fn := Tryz.f126) (b := bdy 126) (by kernel_rfl) (by kernel_rfl) (by kernel_rfl) (by kernel_rfl) d212_run
theorem d214_run : (runC (EC [215] []) 20000 d214.n [callFr d214.g Tryz.f126.ntmps d214.l (bdy 126)] d214.ms).vc (retOk d214.n [(24579, 24579)] d214.s0 d214.ms') (fun _ _ => False) = allP (selfR d214.n [(24579, 24579)] d214.s0 d214.ms') := by kernel_rfl
theorem d214_ok : d214.Ok := CC.mk_ok (ro := [215]) (L := []) okN d214 (fn := Tryz.f126) (b := bdy 126) (by kernel_rfl) (by kernel_rfl) (by kernel_rfl) (by kernel_rfl) d214_run
theorem d215_run : (runC (EC [215] []) 20000 d215.n [callFr d215.g Tryz.f126.ntmps d215.l (bdy 126)] d215.ms).vc (retOk d215.n [] d215.s0 d215.ms') (fun _ _ => False) = allP (selfR d215.n [] d215.s0 d215.ms') := by kernel_rfl
theorem d215_ok : d215.Ok := CC.mk_ok (ro := [215]) (L := []) okN d215 (fn := Tryz.f126) (b := bdy 126) (by kernel_rfl) (by kernel_rfl) (by kernel_rfl) (by kernel_rfl) d215_run
theorem d216_run : (runC (EC [215] []) 20000 d216.n [callFr d216.g Tryz.f126.ntmps d216.l (bdy 126)] d216.ms).vc (retOk d216.n [] d216.s0 d216.ms') (fun _ _ => False) = allP (selfR d216.n [] d216.s0 d216.ms') := by kernel_rfl
theorem d216_ok : d216.Ok := CC.mk_ok (ro := [215]) (L := []) okN d216 (fn := Tryz.f126) (b := bdy 126) (by kernel_rfl) (by kernel_rfl) (by kernel_rfl) (by kernel_rfl) d216_run
theorem d219_run : (runC (EC [215] []) 20000 d219.n [callFr d219.g Tryz.f126.ntmps d219.l (bdy 126)] d219.ms).vc (retOk d219.n [(25066, 25066)] d219.s0 d219.ms') (fun _ _ => False) = allP (selfR d219.n [(25066, 25066)] d219.s0 d219.ms') := by kernel_rfl
theorem d219_ok : d219.Ok := CC.mk_ok (ro := [215]) (L := []) okN d219 (fn := Tryz.f126) (b := bdy 126) (by kernel_rfl) (by kernel_rfl) (by kernel_rfl) (by kernel_rfl) d219_run
theorem d220_run : (runC (EC [215] []) 20000 d220.n [callFr d220.g Tryz.f126.ntmps d220.l (bdy 126)] d220.ms).vc (retOk d220.n [] d220.s0 d220.ms') (fun _ _ => False) = allP (selfR d220.n [] d220.s0 d220.ms') := by kernel_rfl
theorem d220_ok : d220.Ok := CC.mk_ok (ro := [215]) (L := []) okN d220 (fn := Tryz.f126) (b := bdy 126) (by kernel_rfl) (by kernel_rfl) (by kernel_rfl) (by kernel_rfl) d220_run
theorem d221_run : (runC (EC [215] []) 20000 d221.n [callFr d221.g Tryz.f126.ntmps d221.l (bdy 126)] d221.ms).vc (retOk d221.n [] d221.s0 d221.ms') (fun _ _ => False) = allP (selfR d221.n [] d221.s0 d221.ms') := by kernel_rfl
theorem d221_ok : d221.Ok := CC.mk_ok (ro := [215]) (L := []) okN d221 (fn := Tryz.f126) (b := bdy 126) (by kernel_rfl) (by kernel_rfl) (by kernel_rfl) (by kernel_rfl) d221_run
theorem d224_run : (runC (EC [215] []) 20000 d224.n [callFr d224.g Tryz.f126.ntmps d224.l (bdy 126)] d224.ms).vc (retOk d224.n [(25539, 25539)] d224.s0 d224.ms') (fun _ _ => False) = allP (selfR d224.n [(25539, 25539)] d224.s0 d224.ms') := by kernel_rfl
theorem d224_ok : d224.Ok := CC.mk_ok (ro := [215]) (L := []) okN d224 (fn := Tryz.f126) (b := bdy 126) (by kernel_rfl) (by kernel_rfl) (by kernel_rfl) (by kernel_rfl) d224_run
theorem d225_run : (runC (EC [215] []) 20000 d225.n [callFr d225.g Tryz.f126.ntmps d225.l (bdy 126)] d225.ms).vc (retOk d225.n [] d225.s0 d225.ms') (fun _ _ => False) = allP (selfR d225.n [] d225.s0 d225.ms') := by kernel_rfl
theorem d225_ok : d225.Ok := CC.mk_ok (ro := [215]) (L := []) okN d225 (fn := Tryz.f126) (b := bdy 126) (by kernel_rfl) (by kernel_rfl) (by kernel_rfl) (by kernel_rfl) d225_run
theorem d226_run : (runC (EC [215] []) 20000 d226.n [callFr d226.g Tryz.f126.ntmps d226.l (bdy 126)] d226.ms).vc (retOk d226.n [] d226.s0 d226.ms') (fun _ _ => False) = allP (selfR d226.n [] d226.s0 d226.ms') := by kernel_rfl
theorem d226_ok : d226.Ok := CC.mk_ok (ro := [215]) (L := []) okN d226 (fn := Tryz.f126) (b := bdy 126) (by kernel_rfl) (by kernel_rfl) (by kernel_rfl) (by kernel_rfl) d226_run
theorem d228_run : (runC (EC [215] []) 20000 d228.n [callFr d228.g Tryz.f126.ntmps d228.l (bdy 126)] d228.ms).vc (retOk d228.n [(26005, 26005)] d228.s0 d228.ms') (fun _ _ => False) = allP (selfR d228.n [(26005, 26005)] d228.s0 d228.ms') := by kernel_rfl
theorem d228_ok : d228.Ok := CC.mk_ok (ro := [215]) (L := []) okN d228 (fn := Tryz.f126) (b := bdy 126) (by kernel_rfl) (by kernel_rfl) (by kernel_rfl) (by kernel_rfl) d228_run
theorem d229_run : (runC (EC [215] []) 20000 d229.n [callFr d229.g Tryz.f126.ntmps d229.l (bdy 126)] d229.ms).vc (retOk d229.n [] d229.s0 d229.ms') (fun _ _ => False) = allP (selfR d229.n [] d229.s0 d229.ms') := by kernel_rfl
theorem d229_ok : d229.Ok := CC.mk_ok (ro := [215]) (L := []) okN d229 (fn := Tryz.f126) (b := bdy 126) (by kernel_rfl) (by kernel_rfl) (by kernel_rfl) (by kernel_rfl) d229_run
theorem d230_run : (runC (EC [215] []) 20000 d230.n [callFr d230.g Tryz.f126.ntmps d230.l (bdy 126)] d230.ms).vc (retOk d230.n [] d230.s0 d230.ms') (fun _ _ => False) = allP (selfR d230.n [] d230.s0 d230.ms') := by kernel_rfl
theorem d230_ok : d230.Ok := CC.mk_ok (ro := [215]) (L := []) okN d230 (fn := Tryz.f126) (b := bdy 126) (by kernel_rfl) (by kernel_rfl) (by kernel_rfl) (by kernel_rfl) d230_run
theorem d232_run : (runC (EC [215] []) 20000 d232.n [callFr d232.g Tryz.f126.ntmps d232.l (bdy 126)] d232.ms).vc (retOk d232.n [(26503, 26503)] d232.s0 d232.ms') (fun _ _ => False) = allP (selfR d232.n [(26503, 26503)] d232.s0 d232.ms') := by kernel_rfl
theorem d232_ok : d232.Ok := CC.mk_ok (ro := [215]) (L := []) okN d232 (fn := Tryz.f126) (b := bdy 126) (by kernel_rfl) (by kernel_rfl) (by kernel_rfl) (by kernel_rfl) d232_run
theorem d233_run : (runC (EC [215] []) 20000 d233.n [callFr d233.g Tryz.f126.ntmps d233.l (bdy 126)] d233.ms).vc (retOk d233.n [] d233.s0 d233.ms') (fun _ _ => False) = allP (selfR d233.n [] d233.s0 d233.ms') := by kernel_rfl
theorem d233_ok : d233.Ok := CC.mk_ok (ro := [215]) (L := []) okN d233 (fn := Tryz.f126) (b := bdy 126) (by kernel_rfl) (by kernel_rfl) (by kernel_rfl) (by kernel_rfl) d233_run
theorem d234_run : (runC (EC [215] []) 20000 d234.n [callFr d234.g Tryz.f126.ntmps d234.l (bdy 126)] d234.ms).vc (retOk d234.n [] d234.s0 d234.ms') (fun _ _ => False) = allP (selfR d234.n [] d234.s0 d234.ms') := by kernel_rfl
theorem d234_ok : d234.Ok := CC.mk_ok (ro := [215]) (L := []) okN d234 (fn := Tryz.f126) (b := bdy 126) (by kernel_rfl) (by kernel_rfl) (by kernel_rfl) (by kernel_rfl) d234_run
theorem d236_run : (runC (EC [215] []) 20000 d236.n [callFr d236.g Tryz.f126.ntmps d236.l (bdy 126)] d236.ms).vc (retOk d236.n [(27001, 27001)] d236.s0 d236.ms') (fun _ _ => False) = allP (selfR d236.n [(27001, 27001)] d236.s0 d236.ms') := by kernel_rfl
theorem d236_ok : d236.Ok := CC.mk_ok (ro := [215]) (L := []) okN d236 (fn := Tryz.f126) (b := bdy 126) (by kernel_rfl) (by kernel_rfl) (by kernel_rfl) (by kernel_rfl) d236_run
theorem d237_run : (runC (EC [215] []) 20000 d237.n [callFr d237.g Tryz.f126.ntmps d237.l (bdy 126)] d237.ms).vc (retOk d237.n [] d237.s0 d237.ms') (fun _ _ => False) = allP (selfR d237.n [] d237.s0 d237.ms') := by kernel_rfl
theorem d237_ok : d237.Ok := CC.mk_ok (ro := [215]) (L := []) okN d237 (fn := Tryz.f126) (b := bdy 126) (by kernel_rfl) (by kernel_rfl) (by kernel_rfl) (by kernel_rfl) d237_run
theorem d238_run : (runC (EC [215] []) 20000 d238.n [callFr d238.g Tryz.f126.ntmps d238.l (bdy 126)] d238.ms).vc (retOk d238.n [] d238.s0 d238.ms') (fun _ _ => False) = allP (selfR d238.n [] d238.s0 d238.ms') := by kernel_rfl
theorem d238_ok : d238.Ok := CC.mk_ok (ro := [215]) (L := []) okN d238 (fn := Tryz.f126) (b := bdy 126) (by kernel_rfl) (by kernel_rfl) (by kernel_rfl) (by kernel_rfl) d238_run
theorem d240_run : (runC (EC [215] []) 20000 d240.n [callFr d240.g Tryz.f126.ntmps d240.l (bdy 126)] d240.ms).vc (retOk d240.n [(27483, 27483)] d240.s0 d240.ms') (fun _ _ => False) = allP (selfR d240.n [(27483, 27483)] d240.s0 d240.ms') := by kernel_rfl
theorem d240_ok : d240.Ok := CC.mk_ok (ro := [215]) (L := []) okN d240 (fn := Tryz.f126) (b := bdy 126) (by kernel_rfl) (by kernel_rfl) (by kernel_rfl) (by kernel_rfl) d240_run
theorem d241_run : (runC (EC [215] []) 20000 d241.n [callFr d241.g Tryz.f126.ntmps d241.l (bdy 126)] d241.ms).vc (retOk d241.n [] d241.s0 d241.ms') (fun _ _ => False) = allP (selfR d241.n [] d241.s0 d241.ms') := by kernel_rfl
theorem d241_ok : d241.Ok := CC.mk_ok (ro := [215]) (L := []) okN d241 (fn := Tryz.f126) (b := bdy 126) (by kernel_rfl) (by kernel_rfl) (by kernel_rfl) (by kernel_rfl) d241_run
theorem d242_run : (runC (EC [215] []) 20000 d242.n [callFr d242.g Tryz.f126.ntmps d242.l (bdy 126)] d242.ms).vc (retOk d242.n [] d242.s0 d242.ms') (fun _ _ => False) = allP (selfR d242.n [] d242.s0 d242.ms') := by kernel_rfl
theorem d242_ok : d242.Ok := CC.mk_ok (ro := [215]) (L := []) okN d242 (fn := Tryz.f126) (b := bdy 126) (by kernel_rfl) (by kernel_rfl) (by kernel_rfl) (by kernel_rfl) d242_run
theorem d246_run : (runC (EC [215] []) 20000 d246.n [callFr d246.g Tryz.f17.ntmps d246.l (bdy 17)] d246.ms).vc (retOk d246.n [] d246.s0 d246.ms') (fun _ _ => False) = allP (selfR d246.n [] d246.s0 d246.ms') := by kernel_rfl
theorem d246_ok : d246.Ok := CC.mk_ok (ro := [215]) (L := []) okN d246 (fn := Tryz.f17) (b := bdy 17) (by kernel_rfl) (by kernel_rfl) (by kernel_rfl) (by kernel_rfl) d246_run
theorem d247_run : (runC (EC [215] []) 20000 d247.n [callFr d247.g Tryz.f18.ntmps d247.l (bdy 18)] d247.ms).vc (retOk d247.n [] d247.s0 d247.ms') (fun _ _ => False) = allP (selfR d247.n [] d247.s0 d247.ms') := by kernel_rfl
theorem d247_ok : d247.Ok := CC.mk_ok (ro := [215]) (L := []) okN d247 (fn := Tryz.f18) (b := bdy 18) (by kernel_rfl) (by kernel_rfl) (by kernel_rfl) (by kernel_rfl) d247_run
theorem d248_run : (runC (EC [215] []) 20000 d248.n [callFr d248.g Tryz.f22.ntmps d248.l (bdy 22)] d248.ms).vc (retOk d248.n [] d248.s0 d248.ms') (fun _ _ => False) = allP (selfR d248.n [] d248.s0 d248.ms') := by kernel_rfl
theorem d248_ok : d248.Ok := CC.mk_ok (ro := [215]) (L := []) okN d248 (fn := Tryz.f22) (b := bdy 22) (by kernel_rfl) (by kernel_rfl) (by kernel_rfl) (by kernel_rfl) d248_run
theorem d249_run : (runC (EC [215] []) 20000 d249.n [callFr d249.g Tryz.f24.ntmps d249.l (bdy 24)] d249.ms).vc (retOk d249.n [] d249.s0 d249.ms') (fun _ _ => False) = allP (selfR d249.n [] d249.s0 d249.ms') := by kernel_rfl
theorem d249_ok : d249.Ok := CC.mk_ok (ro := [215]) (L := []) okN d249 (fn := Tryz.f24) (b := bdy 24) (by kernel_rfl) (by kernel_rfl) (by kernel_rfl) (by kernel_rfl) d249_run
theorem d250_run : (runC (EC [215] []) 20000 d250.n [callFr d250.g Tryz.f118.ntmps d250.l (bdy 118)] d250.ms).vc (retOk d250.n [(42, 42)] d250.s0 d250.ms') (fun _ _ => False) = allP (selfR d250.n [(42, 42)] d250.s0 d250.ms') := by kernel_rfl
theorem d250_ok : d250.Ok := CC.mk_ok (ro := [215]) (L := []) okN d250 (fn := Tryz.f118) (b := bdy 118) (by kernel_rfl) (by kernel_rfl) (by kernel_rfl) (by kernel_rfl) d250_run
theorem d251_run : (runC (EC [215] []) 20000 d251.n [callFr d251.g Tryz.f119.ntmps d251.l (bdy 119)] d251.ms).vc (retOk d251.n [] d251.s0 d251.ms') (fun _ _ => False) = allP (selfR d251.n [] d251.s0 d251.ms') := by kernel_rfl
theorem d251_ok : d251.Ok := CC.mk_ok (ro := [215]) (L := []) okN d251 (fn := Tryz.f119) (b := bdy 119) (by kernel_rfl) (by kernel_rfl) (by kernel_rfl) (by kernel_rfl) d251_run
theorem d254_run : (runC (EC [215] []) 20000 d254.n [callFr d254.g Tryz.f126.ntmps d254.l (bdy 126)] d254.ms).vc (retOk d254.n [] d254.s0 d254.ms') (fun _ _ => False) = allP (selfR d254.n [] d254.s0 d254.ms') := by kernel_rfl
theorem d254_ok : d254.Ok := CC.mk_ok (ro := [215]) (L := []) okN d254 (fn := Tryz.f126) (b := bdy 126) (by kernel_rfl) (by kernel_rfl) (by kernel_rfl) (by kernel_rfl) d254_run
theorem d255_run : (runC (EC [215] []) 20000 d255.n [callFr d255.g Tryz.f126.ntmps d255.l (bdy 126)] d255.ms).vc (retOk d255.n [] d255.s0 d255.ms') (fun _ _ => False) = allP (selfR d255.n [] d255.s0 d255.ms') := by kernel_rfl
theorem d255_ok : d255.Ok := CC.mk_ok (ro := [215]) (L := []) okN d255 (fn := Tryz.f126) (b := bdy 126) (by kernel_rfl) (by kernel_rfl) (by kernel_rfl) (by kernel_rfl) d255_run
theorem d257_run : (runC (EC [215] []) 20000 d257.n [callFr d257.g Tryz.f126.ntmps d257.l (bdy 126)] d257.ms).vc (retOk d257.n [(403, 403)] d257.s0 d257.ms') (fun _ _ => False) = allP (selfR d257.n [(403, 403)] d257.s0 d257.ms') := by kernel_rfl
theorem d257_ok : d257.Ok := CC.mk_ok (ro := [215]) (L := []) okN d257 (fn := Tryz.f126) (b := bdy 126) (by kernel_rfl) (by kernel_rfl) (by kernel_rfl) (by kernel_rfl) d257_run
theorem d258_run : (runC (EC [215] []) 20000 d258.n [callFr d258.g Tryz.f126.ntmps d258.l (bdy 126)] d258.ms).vc (retOk d258.n [] d258.s0 d258.ms') (fun _ _ => False) = allP (selfR d258.n [] d258.s0 d258.ms') := by kernel_rfl
theorem d258_ok : d258.Ok := CC.mk_ok (ro := [215]) (L := []) okN d258 (fn := Tryz.f126) (b := bdy 126) (by kernel_rfl) (by kernel_rfl) (by kernel_rfl) (by kernel_rfl) d258_run
theorem d259_run : (runC (EC [215] []) 20000 d259.n [callFr d259.g Tryz.f126.ntmps d259.l (bdy 126)] d259.ms).vc (retOk d259.n [(425, 425)] d259.s0 d259.ms') (fun _ _ => False) = allP (selfR d259.n [(425, 425)] d259.s0 d259.ms') := by kernel_rfl
theorem d259_ok : d259.Ok := CC.mk_ok (ro := [215]) (L := []) okN d259 (fn := Tryz.f126) (b := bdy 126) (by kernel_rfl) (by kernel_rfl) (by kernel_rfl) (by kernel_rfl) d259_run
theorem d260_run : (runC (EC [215] []) 20000 d260.n [callFr d260.g Tryz.f126.ntmps d260.l (bdy 126)] d260.ms).vc (retOk d260.n [(543, 543)] d260.s0 d260.ms') (fun _ _ => False) = allP (selfR d260.n [(543, 543)] d260.s0 d260.ms') := by kernel_rfl
theorem d260_ok : d260.Ok := CC.mk_ok (ro := [215]) (L := []) okN d260 (fn := Tryz.f126) (b := bdy 126) (by kernel_rfl) (by kernel_rfl) (by kernel_rfl) (by kernel_rfl) d260_run
theorem d261_run : (runC (EC [215] []) 20000 d261.n [callFr d261.g Tryz.f126.ntmps d261.l (bdy 126)] d261.ms).vc (retOk d261.n [(804, 804)] d261.s0 d261.ms') (fun _ _ => False) = allP (selfR d261.n [(804, 804)] d261.s0 d261.ms') := by kernel_rfl
theorem d261_ok : d261.Ok := CC.mk_ok (ro := [215]) (L := []) okN d261 (fn := Tryz.f126) (b := bdy 126) (by kernel_rfl) (by kernel_rfl) (by kernel_rfl) (by kernel_rfl) d261_run
theorem d265_run : (runC (EC [215] []) 20000 d265.n [callFr d265.g Tryz.f126.ntmps d265.l (bdy 126)] d265.ms).vc (retOk d265.n [] d265.s0 d265.ms') (fun _ _ => False) = allP (selfR d265.n [] d265.s0 d265.ms') := by kernel_rfl
theorem d265_ok : d265.Ok := CC.mk_ok (ro := [215]) (L := []) okN d265 (fn := Tryz.f126) (b := bdy 126) (by kernel_rfl) (by kernel_rfl) (by kernel_rfl) (by kernel_rfl) d265_run
theorem d267_run : (runC (EC [215] []) 20000 d267.n [callFr d267.g Tryz.f126.ntmps d267.l (bdy 126)] d267.ms).vc (retOk d267.n [] d267.s0 d267.ms') (fun _ _ => False) = allP (selfR d267.n [] d267.s0 d267.ms') := by kernel_rfl
theorem d267_ok : d267.Ok := CC.mk_ok (ro := [215]) (L := []) okN d267 (fn := Tryz.f126) (b := bdy 126) (by kernel_rfl) (by kernel_rfl) (by kernel_rfl) (by kernel_rfl) d267_run
end Go.Proofs.YtalaegjdldllfaaGreatDoor
