/- Of a closed run: its calls do what is told of them. No condition. -/
import Derived.Test.YtalaegjdldllfaaGreatDoorXa
set_option linter.unusedVariables false
set_option linter.unusedSimpArgs false
namespace Go.Proofs.YtalaegjdldllfaaGreatDoor
set_option maxRecDepth 1000000
theorem a101_run : (runC (EC [215] []) 20000 a101.n [callFr a101.g Tryz.f126.ntmps a101.l (bdy 126)] a101.ms).vc (retOk a101.n [] a101.s0 a101.ms') (fun _ _ => False) = allP (selfR a101.n [] a101.s0 a101.ms') := by kernel_rfl
theorem a101_ok : a101.Ok := CC.mk_ok (ro := [215]) (L := []) okN a101 (fn := Tryz.f126) (b := bdy 126) (by kernel_rfl) (by kernel_rfl) (by kernel_rfl) (by kernel_rfl) a101_run
theorem a102_run : (runC (EC [215] []) 20000 a102.n [callFr a102.g Tryz.f126.ntmps a102.l (bdy 126)] a102.ms).vc (retOk a102.n [] a102.s0 a102.ms') (fun _ _ => False) = allP (selfR a102.n [] a102.s0 a102.ms') := by kernel_rfl
theorem a102_ok : a102.Ok := CC.mk_ok (ro := [215]) (L := []) okN a102 (fn := Tryz.f126) (b := bdy 126) (by kernel_rfl) (by kernel_rfl) (by kernel_rfl) (by kernel_rfl) a102_run
theorem a104_run : (runC (EC [215] []) 20000 a104.n [callFr a104.g Tryz.f126.ntmps a104.l (bdy 126)] a104.ms).vc (retOk a104.n [(11656, 11656)] a104.s0 a104.ms') (fun _ _ => False) = allP (selfR a104.n [(11656, 11656)] a104.s0 a104.ms') := by kernel_rfl
theorem a104_ok : a104.Ok := CC.mk_ok (ro := [215]) (L := []) okN a104 (fn := Tryz.f126) (b := bdy 126) (by kernel_rfl) (by kernel_rfl) (by kernel_rfl) (by kernel_rfl) a104_run
theorem a105_run : (runC (EC [215] []) 20000 a105.n [callFr a105.g Tryz.f126.ntmps a105.l (bdy 126)] a105.ms).vc (retOk a105.n [] a105.s0 a105.ms') (fun _ _ => False) = allP (selfR a105.n [] a105.s0 a105.ms') := by kernel_rfl
theorem a105_ok : a105.Ok := CC.mk_ok (ro := [215]) (L := []) okN a105 (fn := Tryz.f126) (b := bdy 126) (by kernel_rfl) (by kernel_rfl) (by kernel_rfl) (by kernel_rfl) a105_run
theorem a106_run : (runC (EC [215] []) 20000 a106.n [callFr a106.g Tryz.f126.ntmps a106.l (bdy 126)] a106.ms).vc (retOk a106.n [] a106.s0 a106.ms') (fun _ _ => False) = allP (selfR a106.n [] a106.s0 a106.ms') := by kernel_rfl
theorem a106_ok : a106.Ok := CC.mk_ok (ro := [215]) (L := []) okN a106 (fn := Tryz.f126) (b := bdy 126) (by kernel_rfl) (by kernel_rfl) (by kernel_rfl) (by kernel_rfl) a106_run
theorem a108_run : (runC (EC [215] []) 20000 a108.n [callFr a108.g Tryz.f126.ntmps a108.l (bdy 126)] a108.ms).vc (retOk a108.n [(12158, 12158)] a108.s0 a108.ms') (fun _ _ => False) = allP (selfR a108.n [(12158, 12158)] a108.s0 a108.ms') := by kernel_rfl
theorem a108_ok : a108.Ok := CC.mk_ok (ro := [215]) (L := []) okN a108 (fn := Tryz.f126) (b := bdy 126) (by kernel_rfl) (by kernel_rfl) (by kernel_rfl) (by kernel_rfl) a108_run
theorem a109_run : (runC (EC [215] []) 20000 a109.n [callFr a109.g Tryz.f126.ntmps a109.l (bdy 126)] a109.ms).vc (retOk a109.n [] a109.s0 a109.ms') (fun _ _ => False) = allP (selfR a109.n [] a109.s0 a109.ms') := by kernel_rfl
theorem a109_ok : a109.Ok := CC.mk_ok (ro := [215]) (L := []) okN a109 (fn := Tryz.f126) (b := bdy 126) (by kernel_rfl) (by kernel_rfl) (by kernel_rfl) (by kernel_rfl) a109_run
theorem a110_run : (runC (EC [215] []) 20000 a110.n [callFr a110.g Tryz.f126.ntmps a110.l (bdy 126)] a110.ms).vc (retOk a110.n [] a110.s0 a110.ms') (fun _ _ => False) = allP (selfR a110.n [] a110.s0 a110.ms') := by kernel_rfl
theorem a110_ok : a110.Ok := CC.mk_ok (ro := [215]) (L := []) okN a110 (fn := Tryz.f126) (b := bdy 126) (by kernel_rfl) (by kernel_rfl) (by kernel_rfl) (by kernel_rfl) a110_run
theorem a112_run : (runC (EC [215] []) 20000 a112.n [callFr a112.g Tryz.f126.ntmps a112.l (bdy 126)] a112.ms).vc (retOk a112.n [(12660, 12660)] a112.s0 a112.ms') (fun _ _ => False) = allP (selfR a112.n [(12660, 12660)] a112.s0 a112.ms') := by kernel_rfl
theorem a112_ok : a112.Ok := CC.mk_ok (ro := [215]) (L := []) okN a112 (fn := Tryz.f126) (b := bdy 126) (by kernel_rfl) (by kernel_rfl) (by kernel_rfl) (by kernel_rfl) a112_run
theorem a113_run : (runC (EC [215] []) 20000 a113.n [callFr a113.g Tryz.f126.ntmps a113.l (bdy 126)] a113.ms).vc (retOk a113.n [] a113.s0 a113.ms') (fun _ _ => False) = allP (selfR a113.n [] a113.s0 a113.ms') := by kernel_rfl
theorem a113_ok : a113.Ok := CC.mk_ok (ro := [215]) (L := []) okN a113 (fn := Tryz.f126) (b := bdy 126) (by kernel_rfl) (by kernel_rfl) (by kernel_rfl) (by kernel_rfl) a113_run
theorem a114_run : (runC (EC [215] []) 20000 a114.n [callFr a114.g Tryz.f126.ntmps a114.l (bdy 126)] a114.ms).vc (retOk a114.n [] a114.s0 a114.ms') (fun _ _ => False) = allP (selfR a114.n [] a114.s0 a114.ms') := by kernel_rfl
theorem a114_ok : a114.Ok := CC.mk_ok (ro := [215]) (L := []) okN a114 (fn := Tryz.f126) (b := bdy 126) (by kernel_rfl) (by kernel_rfl) (by kernel_rfl) (by kernel_rfl) a114_run
theorem a116_run : (runC (EC [215] []) 20000 a116.n [callFr a116.g Tryz.f126.ntmps a116.l (bdy 126)] a116.ms).vc (retOk a116.n [(13129, 13129)] a116.s0 a116.ms') (fun _ _ => False) = allP (selfR a116.n [(13129, 13129)] a116.s0 a116.ms') := by kernel_rfl
theorem a116_ok : a116.Ok := CC.mk_ok (ro := [215]) (L := []) okN a116 (fn := Tryz.f126) (b := bdy 126) (by kernel_rfl) (by kernel_rfl) (by kernel_rfl) (by kernel_rfl) a116_run
theorem a117_run : (runC (EC [215] []) 20000 a117.n [callFr a117.g Tryz.f126.ntmps a117.l (bdy 126)] a117.ms).vc (retOk a117.n [] a117.s0 a117.ms') (fun _ _ => False) = allP (selfR a117.n [] a117.s0 a117.ms') := by kernel_rfl
theorem a117_ok : a117.Ok := CC.mk_ok (ro := [215]) (L := []) okN a117 (fn := Tryz.f126) (b := bdy 126) (by kernel_rfl) (by kernel_rfl) (by kernel_rfl) (by kernel_rfl) a117_run
theorem a118_run : (runC (EC [215] []) 20000 a118.n [callFr a118.g Tryz.f126.ntmps a118.l (bdy 126)] a118.ms).vc (retOk a118.n [] a118.s0 a118.ms') (fun _ _ => False) = allP (selfR a118.n [] a118.s0 a118.ms') := by kernel_rfl
theorem a118_ok : a118.Ok := CC.mk_ok (ro := [215]) (L := []) okN a118 (fn := Tryz.f126) (b := bdy 126) (by kernel_rfl) (by kernel_rfl) (by kernel_rfl) (by kernel_rfl) a118_run
theorem a120_run : (runC (EC [215] []) 20000 a120.n [callFr a120.g Tryz.f126.ntmps a120.l (bdy 126)] a120.ms).vc (retOk a120.n [(13599, 13599)] a120.s0 a120.ms') (fun _ _ => False) = allP (selfR a120.n [(13599, 13599)] a120.s0 a120.ms') := by kernel_rfl
theorem a120_ok : a120.Ok := CC.mk_ok (ro := [215]) (L := []) okN a120 (fn := Tryz.f126) (b := bdy 126) (by kernel_rfl) (by kernel_rfl) (by kernel_rfl) (by kernel_rfl) a120_run
theorem a121_run : (runC (EC [215] []) 20000 a121.n [callFr a121.g Tryz.f126.ntmps a121.l (bdy 126)] a121.ms).vc (retOk a121.n [] a121.s0 a121.ms') (fun _ _ => False) = allP (selfR a121.n [] a121.s0 a121.ms') := by kernel_rfl
theorem a121_ok : a121.Ok := CC.mk_ok (ro := [215]) (L := []) okN a121 (fn := Tryz.f126) (b := bdy 126) (by kernel_rfl) (by kernel_rfl) (by kernel_rfl) (by kernel_rfl) a121_run
theorem a122_run : (runC (EC [215] []) 20000 a122.n [callFr a122.g Tryz.f126.ntmps a122.l (bdy 126)] a122.ms).vc (retOk a122.n [] a122.s0 a122.ms') (fun _ _ => False) = allP (selfR a122.n [] a122.s0 a122.ms') := by kernel_rfl
theorem a122_ok : a122.Ok := CC.mk_ok (ro := [215]) (L := []) okN a122 (fn := Tryz.f126) (b := bdy 126) (by kernel_rfl) (by kernel_rfl) (by kernel_rfl) (by kernel_rfl) a122_run
theorem a125_run : (runC (EC [215] []) 20000 a125.n [callFr a125.g Tryz.f126.ntmps a125.l (bdy 126)] a125.ms).vc (retOk a125.n [(14075, 14075)] a125.s0 a125.ms') (fun _ _ => False) = allP (selfR a125.n [(14075, 14075)] a125.s0 a125.ms') := by kernel_rfl
theorem a125_ok : a125.Ok := CC.mk_ok (ro := [215]) (L := []) okN a125 (fn := Tryz.f126) (b := bdy 126) (by kernel_rfl) (by kernel_rfl) (by kernel_rfl) (by kernel_rfl) a125_run
theorem a126_run : (runC (EC [215] []) 20000 a126.n [callFr a126.g Tryz.f126.ntmps a126.l (bdy 126)] a126.ms).vc (retOk a126.n [] a126.s0 a126.ms') (fun _ _ => False) = allP (selfR a126.n [] a126.s0 a126.ms') := by kernel_rfl
theorem a126_ok : a126.Ok := CC.mk_ok (ro := [215]) (L := []) okN a126 (fn := Tryz.f126) (b := bdy 126) (by kernel_rfl) (by kernel_rfl) (by kernel_rfl) (by kernel_rfl) a126_run
theorem a127_run : (runC (EC [215] []) 20000 a127.n [callFr a127.g Tryz.f126.ntmps a127.l (bdy 126)] a127.ms).vc (retOk a127.n [] a127.s0 a127.ms') (fun _ _ => False) = allP (selfR a127.n [] a127.s0 a127.ms') := by kernel_rfl
theorem a127_ok : a127.Ok := CC.mk_ok (ro := [215]) (L := []) okN a127 (fn := Tryz.f126) (b := bdy 126) (by kernel_rfl) (by kernel_rfl) (by kernel_rfl) (by kernel_rfl) a127_run
theorem a129_run : (runC (EC [215] []) 20000 a129.n [callFr a129.g Tryz.f126.ntmps a129.l (bdy 126)] a129.ms).vc (retOk a129.n [(14546, 14546)] a129.s0 a129.ms') (fun _ _ => False) = allP (selfR a129.n [(14546, 14546)] a129.s0 a129.ms') := by kernel_rfl
theorem a129_ok : a129.Ok := CC.mk_ok (ro := [215]) (L := []) okN a129 (fn := Tryz.f126) (b := bdy 126) (by kernel_rfl) (by kernel_rfl) (by kernel_rfl) (by kernel_rfl) a129_run
theorem a130_run : (runC (EC [215] []) 20000 a130.n [callFr a130.g Tryz.f126.ntmps a130.l (bdy 126)] a130.ms).vc (retOk a130.n [] a130.s0 a130.ms') (fun _ _ => False) = allP (selfR a130.n [] a130.s0 a130.ms') := by kernel_rfl
theorem a130_ok : a130.Ok := CC.mk_ok (ro := [215]) (L := []) okN a130 (fn := Tryz.f126) (b := bdy 126) (by kernel_rfl) (by kernel_rfl) (by kernel_rfl) (by kernel_rfl) a130_run
theorem a131_run : (runC (EC [215] []) 20000 a131.n [callFr a131.g Tryz.f126.ntmps a131.l (bdy 126)] a131.ms).vc (retOk a131.n [] a131.s0 a131.ms') (fun _ _ => False) = allP (selfR a131.n [] a131.s0 a131.ms') := by kernel_rfl
theorem a131_ok : a131.Ok := CC.mk_ok (ro := [215]) (L := []) okN a131 (fn := Tryz.f126) (b := bdy 126) (by kernel_rfl) (by kernel_rfl) (by kernel_rfl) (by kernel_rfl) a131_run
theorem a133_run : (runC (EC [215] []) 20000 a133.n [callFr a133.g Tryz.f126.ntmps a133.l (bdy 126)] a133.ms).vc (retOk a133.n [(15015, 15015)] a133.s0 a133.ms') (fun _ _ => False) = allP (selfR a133.n [(15015, 15015)] a133.s0 a133.ms') := by kernel_rfl
theorem a133_ok : a133.Ok := CC.mk_ok (ro := [215]) (L := []) okN a133 (fn := Tryz.f126) (b := bdy 126) (by kernel_rfl) (by kernel_rfl) (by kernel_rfl) (by kernel_rfl) a133_run
theorem a134_run : (runC (EC [215] []) 20000 a134.n [callFr a134.g Tryz.f126.ntmps a134.l (bdy 126)] a134.ms).vc (retOk a134.n [] a134.s0 a134.ms') (fun _ _ => False) = allP (selfR a134.n [] a134.s0 a134.ms') := by kernel_rfl
theorem a134_ok : a134.Ok := CC.mk_ok (ro := [215]) (L := []) okN a134 (fn := Tryz.f126) (b := bdy 126) (by kernel_rfl) (by kernel_rfl) (by kernel_rfl) (by kernel_rfl) a134_run
theorem a135_run : (runC (EC [215] []) 20000 a135.n [callFr a135.g Tryz.f126.ntmps a135.l (bdy 126)] a135.ms).vc (retOk a135.n [] a135.s0 a135.ms') (fun _ _ => False) = allP (selfR a135.n [] a135.s0 a135.ms') := by kernel_rfl
theorem a135_ok : a135.Ok := CC.mk_ok (ro := [215]) (L := []) okN a135 (fn := Tryz.f126) (b := bdy 126) (by kernel_rfl) (by kernel_rfl) (by kernel_rfl) (by kernel_rfl) a135_run
theorem a137_run : (runC (EC [215] []) 20000 a137.n [callFr a137.g Tryz.f126.ntmps a137.l (bdy 126)] a137.ms).vc (retOk a137.n [(15516, 15516)] a137.s0 a137.ms') (fun _ _ => False) = allP (selfR a137.n [(15516, 15516)] a137.s0 a137.ms') := by kernel_rfl
theorem a137_ok : a137.Ok := CC.mk_ok (ro := [215]) (L := []) okN a137 (fn := Tryz.f126) (b := bdy 126) (by kernel_rfl) (by kernel_rfl) (by kernel_rfl) (by kernel_rfl) a137_run
theorem a138_run : (runC (EC [215] []) 20000 a138.n [callFr a138.g Tryz.f126.ntmps a138.l (bdy 126)] a138.ms).vc (retOk a138.n [] a138.s0 a138.ms') (fun _ _ => False) = allP (selfR a138.n [] a138.s0 a138.ms') := by kernel_rfl
theorem a138_ok : a138.Ok := CC.mk_ok (ro := [215]) (L := []) okN a138 (fn := Tryz.f126) (b := bdy 126) (by kernel_rfl) (by kernel_rfl) (by kernel_rfl) (by kernel_rfl) a138_run
theorem a139_run : (runC (EC [215] []) 20000 a139.n [callFr a139.g Tryz.f126.ntmps a139.l (bdy 126)] a139.ms).vc (retOk a139.n [] a139.s0 a139.ms') (fun _ _ => False) = allP (selfR a139.n [] a139.s0 a139.ms') := by kernel_rfl
theorem a139_ok : a139.Ok := CC.mk_ok (ro := [215]) (L := []) okN a139 (fn := Tryz.f126) (b := bdy 126) (by kernel_rfl) (by kernel_rfl) (by kernel_rfl) (by kernel_rfl) a139_run
theorem a141_run : (runC (EC [215] []) 20000 a141.n [callFr a141.g Tryz.f126.ntmps a141.l (bdy 126)] a141.ms).vc (retOk a141.n [(16018, 16018)] a141.s0 a141.ms') (fun _ _ => False) = allP (selfR a141.n [(16018, 16018)] a141.s0 a141.ms') := by kernel_rfl
theorem a141_ok : a141.Ok := CC.mk_ok (ro := [215]) (L := []) okN a141 (fn := Tryz.f126) (b := bdy 126) (by kernel_rfl) (by kernel_rfl) (by kernel_rfl) (by kernel_rfl) a141_run
theorem a142_run : (runC (EC [215] []) 20000 a142.n [callFr a142.g Tryz.f126.ntmps a142.l (bdy 126)] a142.ms).vc (retOk a142.n [] a142.s0 a142.ms') (fun _ _ => False) = allP (selfR a142.n [] a142.s0 a142.ms') := by kernel_rfl
theorem a142_ok : a142.Ok := CC.mk_ok (ro := [215]) (L := []) okN a142 (fn := Tryz.f126) (b := bdy 126) (by kernel_rfl) (by kernel_rfl) (by kernel_rfl) (by kernel_rfl) a142_run
theorem a143_run : (runC (EC [215] []) 20000 a143.n [callFr a143.g Tryz.f126.ntmps a143.l (bdy 126)] a143.ms).vc (retOk a143.n [] a143.s0 a143.ms') (fun _ _ => False) = allP (selfR a143.n [] a143.s0 a143.ms') := by kernel_rfl
theorem a143_ok : a143.Ok := CC.mk_ok (ro := [215]) (L := []) okN a143 (fn := Tryz.f126) (b := bdy 126) (by kernel_rfl) (by kernel_rfl) (by kernel_rfl) (by kernel_rfl) a143_run
theorem a145_run : (runC (EC [215] []) 20000 a145.n [callFr a145.g Tryz.f126.ntmps a145.l (bdy 126)] a145.ms).vc (retOk a145.n [(16487, 16487)] a145.s0 a145.ms') (fun _ _ => False) = allP (selfR a145.n [(16487, 16487)] a145.s0 a145.ms') := by kernel_rfl
theorem a145_ok : a145.Ok := CC.mk_ok (ro := [215]) (L := []) okN a145 (fn := Tryz.f126) (b := bdy 126) (by kernel_rfl) (by kernel_rfl) (by kernel_rfl) (by kernel_rfl) a145_run
theorem a146_run : (runC (EC [215] []) 20000 a146.n [callFr a146.g Tryz.f126.ntmps a146.l (bdy 126)] a146.ms).vc (retOk a146.n [] a146.s0 a146.ms') (fun _ _ => False) = allP (selfR a146.n [] a146.s0 a146.ms') := by kernel_rfl
theorem a146_ok : a146.Ok := CC.mk_ok (ro := [215]) (L := []) okN a146 (fn := Tryz.f126) (b := bdy 126) (by kernel_rfl) (by kernel_rfl) (by kernel_rfl) (by kernel_rfl) a146_run
theorem a147_run : (runC (EC [215] []) 20000 a147.n [callFr a147.g Tryz.f126.ntmps a147.l (bdy 126)] a147.ms).vc (retOk a147.n [] a147.s0 a147.ms') (fun _ _ => False) = allP (selfR a147.n [] a147.s0 a147.ms') := by kernel_rfl
theorem a147_ok : a147.Ok := CC.mk_ok (ro := [215]) (L := []) okN a147 (fn := Tryz.f126) (b := bdy 126) (by kernel_rfl) (by kernel_rfl) (by kernel_rfl) (by kernel_rfl) a147_run
theorem a149_run : (runC (EC [215] []) 20000 a149.n [callFr a149.g Tryz.f126.ntmps a149.l (bdy 126)] a149.ms).vc (retOk a149.n [(16957, 16957)] a149.s0 a149.ms') (fun _ _ => False) = allP (selfR a149.n [(16957, 16957)] a149.s0 a149.ms') := by kernel_rfl
theorem a149_ok : a149.Ok := CC.mk_ok (ro := [215]) (L := []) okN a149 (fn := Tryz.f126) (b := bdy 126) (by kernel_rfl) (by kernel_rfl) (by kernel_rfl) (by kernel_rfl) a149_run
theorem a150_run : (runC (EC [215] []) 20000 a150.n [callFr a150.g Tryz.f126.ntmps a150.l (bdy 126)] a150.ms).vc (retOk a150.n [] a150.s0 a150.ms') (fun _ _ => False) = allP (selfR a150.n [] a150.s0 a150.ms') := by kernel_rfl
theorem a150_ok : a150.Ok := CC.mk_ok (ro := [215]) (L := []) okN a150 (fn := Tryz.f126) (b := bdy 126) (by kernel_rfl) (by kernel_rfl) (by kernel_rfl) (by kernel_rfl) a150_run
end Go.Proofs.YtalaegjdldllfaaGreatDoor
