/- Of a closed run: its calls do what is told of them. No condition. -/
import Derived.Test.YtalaegjdldllfaaGreatDoorXd
set_option linter.unusedVariables false
set_option linter.unusedSimpArgs false
namespace Go.Proofs.YtalaegjdldllfaaGreatDoor
set_option maxRecDepth 1000000
theorem d106_run : (runC (EC [215] []) 20000 d106.n [callFr d106.g Tryz.f126.ntmps d106.l (bdy 126)] d106.ms).vc (retOk d106.n [] d106.s0 d106.ms') (fun _ _ => False) = allP (selfR d106.n [] d106.s0 d106.ms') := by kernel_rfl
theorem d106_ok : d106.Ok := CC.mk_ok (ro := [215]) (L := []) okN d106 (fn := Tryz.f126) (b := bdy 126) (by kernel_rfl) (by kernel_rfl) (by kernel_rfl) (by kernel_rfl) d106_run
theorem d108_run : (runC (EC [215] []) 20000 d108.n [callFr d108.g Tryz.f126.ntmps d108.l (bdy 126)] d108.ms).vc (retOk d108.n [(11968, 11968)] d108.s0 d108.ms') (fun _ _ => False) = allP (selfR d108.n [(11968, 11968)] d108.s0 d108.ms') := by kernel_rfl
theorem d108_ok : d108.Ok := CC.mk_ok (ro := [215]) (L := []) okN d108 (fn := Tryz.f126) (b := bdy 126) (by kernel_rfl) (by kernel_rfl) (by kernel_rfl) (by kernel_rfl) d108_run
theorem d109_run : (runC (EC [215] []) 20000 d109.n [callFr d109.g Tryz.f126.ntmps d109.l (bdy 126)] d109.ms).vc (retOk d109.n [] d109.s0 d109.ms') (fun _ _ => False) = allP (selfR d109.n [] d109.s0 d109.ms') := by kernel_rfl
theorem d109_ok : d109.Ok := CC.mk_ok (ro := [215]) (L := []) okN d109 (fn := Tryz.f126) (b := bdy 126) (by kernel_rfl) (by kernel_rfl) (by kernel_rfl) (by kernel_rfl) d109_run
theorem d110_run : (runC (EC [215] []) 20000 d110.n [callFr d110.g Tryz.f126.ntmps d110.l (bdy 126)] d110.ms).vc (retOk d110.n [] d110.s0 d110.ms') (fun _ _ => False) = allP (selfR d110.n [] d110.s0 d110.ms') := by kernel_rfl
theorem d110_ok : d110.Ok := CC.mk_ok (ro := [215]) (L := []) okN d110 (fn := Tryz.f126) (b := bdy 126) (by kernel_rfl) (by kernel_rfl) (by kernel_rfl) (by kernel_rfl) d110_run
theorem d112_run : (runC (EC [215] []) 20000 d112.n [callFr d112.g Tryz.f126.ntmps d112.l (bdy 126)] d112.ms).vc (retOk d112.n [(12434, 12434)] d112.s0 d112.ms') (fun _ _ => False) = allP (selfR d112.n [(12434, 12434)] d112.s0 d112.ms') := by kernel_rfl
theorem d112_ok : d112.Ok := CC.mk_ok (ro := [215]) (L := []) okN d112 (fn := Tryz.f126) (b := bdy 126) (by kernel_rfl) (by kernel_rfl) (by kernel_rfl) (by kernel_rfl) d112_run
theorem d113_run : (runC (EC [215] []) 20000 d113.n [callFr d113.g Tryz.f126.ntmps d113.l (bdy 126)] d113.ms).vc (retOk d113.n [] d113.s0 d113.ms') (fun _ _ => False) = allP (selfR d113.n [] d113.s0 d113.ms') := by kernel_rfl
theorem d113_ok : d113.Ok := CC.mk_ok (ro := [215]) (L := []) okN d113 (fn := Tryz.f126) (b := bdy 126) (by kernel_rfl) (by kernel_rfl) (by kernel_rfl) (by kernel_rfl) d113_run
theorem d114_run : (runC (EC [215] []) 20000 d114.n [callFr d114.g Tryz.f126.ntmps d114.l (bdy 126)] d114.ms).vc (retOk d114.n [] d114.s0 d114.ms') (fun _ _ => False) = allP (selfR d114.n [] d114.s0 d114.ms') := by kernel_rfl
theorem d114_ok : d114.Ok := CC.mk_ok (ro := [215]) (L := []) okN d114 (fn := Tryz.f126) (b := bdy 126) (by kernel_rfl) (by kernel_rfl) (by kernel_rfl) (by kernel_rfl) d114_run
theorem d116_run : (runC (EC [215] []) 20000 d116.n [callFr d116.g Tryz.f126.ntmps d116.l (bdy 126)] d116.ms).vc (retOk d116.n [(12916, 12916)] d116.s0 d116.ms') (fun _ _ => False) = allP (selfR d116.n [(12916, 12916)] d116.s0 d116.ms') := by kernel_rfl
theorem d116_ok : d116.Ok := CC.mk_ok (ro := [215]) (L := []) okN d116 (fn := Tryz.f126) (b := bdy 126) (by kernel_rfl) (by kernel_rfl) (by kernel_rfl) (by kernel_rfl) d116_run
theorem d117_run : (runC (EC [215] []) 20000 d117.n [callFr d117.g Tryz.f126.ntmps d117.l (bdy 126)] d117.ms).vc (retOk d117.n [] d117.s0 d117.ms') (fun _ _ => False) = allP (selfR d117.n [] d117.s0 d117.ms') := by kernel_rfl
theorem d117_ok : d117.Ok := CC.mk_ok (ro := [215]) (L := []) okN d117 (fn := Tryz.f126) (b := bdy 126) (by kernel_rfl) (by kernel_rfl) (by kernel_rfl) (by kernel_rfl) d117_run
theorem d118_run : (runC (EC [215] []) 20000 d118.n [callFr d118.g Tryz.f126.ntmps d118.l (bdy 126)] d118.ms).vc (retOk d118.n [] d118.s0 d118.ms') (fun _ _ => False) = allP (selfR d118.n [] d118.s0 d118.ms') := by kernel_rfl
theorem d118_ok : d118.Ok := CC.mk_ok (ro := [215]) (L := []) okN d118 (fn := Tryz.f126) (b := bdy 126) (by kernel_rfl) (by kernel_rfl) (by kernel_rfl) (by kernel_rfl) d118_run
theorem d120_run : (runC (EC [215] []) 20000 d120.n [callFr d120.g Tryz.f126.ntmps d120.l (bdy 126)] d120.ms).vc (retOk d120.n [(13383, 13383)] d120.s0 d120.ms') (fun _ _ => False) = allP (selfR d120.n [(13383, 13383)] d120.s0 d120.ms') := by kernel_rfl
theorem d120_ok : d120.Ok := CC.mk_ok (ro := [215]) (L := []) okN d120 (fn := Tryz.f126) (b := bdy 126) (by kernel_rfl) (by kernel_rfl) (by kernel_rfl) (by kernel_rfl) d120_run
theorem d121_run : (runC (EC [215] []) 20000 d121.n [callFr d121.g Tryz.f126.ntmps d121.l (bdy 126)] d121.ms).vc (retOk d121.n [] d121.s0 d121.ms') (fun _ _ => False) = allP (selfR d121.n [] d121.s0 d121.ms') := by kernel_rfl
theorem d121_ok : d121.Ok := CC.mk_ok (ro := [215]) (L := []) okN d121 (fn := Tryz.f126) (b := bdy 126) (by kernel_rfl) (by kernel_rfl) (by kernel_rfl) (by kernel_rfl) d121_run
theorem d122_run : (runC (EC [215] []) 20000 d122.n [callFr d122.g Tryz.f126.ntmps d122.l (bdy 126)] d122.ms).vc (retOk d122.n [] d122.s0 d122.ms') (fun _ _ => False) = allP (selfR d122.n [] d122.s0 d122.ms') := by kernel_rfl
theorem d122_ok : d122.Ok := CC.mk_ok (ro := [215]) (L := []) okN d122 (fn := Tryz.f126) (b := bdy 126) (by kernel_rfl) (by kernel_rfl) (by kernel_rfl) (by kernel_rfl) d122_run
theorem d124_run : (runC (EC [215] []) 20000 d124.n [callFr d124.g Tryz.f126.ntmps d124.l (bdy 126)] d124.ms).vc (retOk d124.n [(13849, 13849)] d124.s0 d124.ms') (fun _ _ => False) = allP (selfR d124.n [(13849, 13849)] d124.s0 d124.ms') := by kernel_rfl
theorem d124_ok : d124.Ok := CC.mk_ok (ro := [215]) (L := []) okN d124 (fn := Tryz.f126) (b := bdy 126) (by kernel_rfl) (by kernel_rfl) (by kernel_rfl) (by kernel_rfl) d124_run
theorem d125_run : (runC (EC [215] []) 20000 d125.n [callFr d125.g Tryz.f126.ntmps d125.l (bdy 126)] d125.ms).vc (retOk d125.n [] d125.s0 d125.ms') (fun _ _ => False) = allP (selfR d125.n [] d125.s0 d125.ms') := by kernel_rfl
theorem d125_ok : d125.Ok := CC.mk_ok (ro := [215]) (L := []) okN d125 (fn := Tryz.f126) (b := bdy 126) (by kernel_rfl) (by kernel_rfl) (by kernel_rfl) (by kernel_rfl) d125_run
theorem d126_run : (runC (EC [215] []) 20000 d126.n [callFr d126.g Tryz.f126.ntmps d126.l (bdy 126)] d126.ms).vc (retOk d126.n [] d126.s0 d126.ms') (fun _ _ => False) = allP (selfR d126.n [] d126.s0 d126.ms') := by kernel_rfl
theorem d126_ok : d126.Ok := CC.mk_ok (ro := [215]) (L := []) okN d126 (fn := Tryz.f126) (b := bdy 126) (by kernel_rfl) (by kernel_rfl) (by kernel_rfl) (by kernel_rfl) d126_run
theorem d128_run : (runC (EC [215] []) 20000 d128.n [callFr d128.g Tryz.f126.ntmps d128.l (bdy 126)] d128.ms).vc (retOk d128.n [(14332, 14332)] d128.s0 d128.ms') (fun _ _ => False) = allP (selfR d128.n [(14332, 14332)] d128.s0 d128.ms') := by kernel_rfl
theorem d128_ok : d128.Ok := CC.mk_ok (ro := [215]) (L := []) okN d128 (fn := Tryz.f126) (b := bdy 126) (by kernel_rfl) (by kernel_rfl) (by kernel_rfl) (by kernel_rfl) d128_run
theorem d129_run : (runC (EC [215] []) 20000 d129.n [callFr d129.g Tryz.f126.ntmps d129.l (bdy 126)] d129.ms).vc (retOk d129.n [] d129.s0 d129.ms') (fun _ _ => False) = allP (selfR d129.n [] d129.s0 d129.ms') := by kernel_rfl
theorem d129_ok : d129.Ok := CC.mk_ok (ro := [215]) (L := []) okN d129 (fn := Tryz.f126) (b := bdy 126) (by kernel_rfl) (by kernel_rfl) (by kernel_rfl) (by kernel_rfl) d129_run
theorem d130_run : (runC (EC [215] []) 20000 d130.n [callFr d130.g Tryz.f126.ntmps d130.l (bdy 126)] d130.ms).vc (retOk d130.n [] d130.s0 d130.ms') (fun _ _ => False) = allP (selfR d130.n [] d130.s0 d130.ms') := by kernel_rfl
theorem d130_ok : d130.Ok := CC.mk_ok (ro := [215]) (L := []) okN d130 (fn := Tryz.f126) (b := bdy 126) (by kernel_rfl) (by kernel_rfl) (by kernel_rfl) (by kernel_rfl) d130_run
theorem d132_run : (runC (EC [215] []) 20000 d132.n [callFr d132.g Tryz.f126.ntmps d132.l (bdy 126)] d132.ms).vc (retOk d132.n [(14830, 14830)] d132.s0 d132.ms') (fun _ _ => False) = allP (selfR d132.n [(14830, 14830)] d132.s0 d132.ms') := by kernel_rfl
theorem d132_ok : d132.Ok := CC.mk_ok (ro := [215]) (L := []) okN d132 (fn := Tryz.f126) (b := bdy 126) (by kernel_rfl) (by kernel_rfl) (by kernel_rfl) (by kernel_rfl) d132_run
theorem d133_run : (runC (EC [215] []) 20000 d133.n [callFr d133.g Tryz.f126.ntmps d133.l (bdy 126)] d133.ms).vc (retOk d133.n [] d133.s0 d133.ms') (fun _ _ => False) = allP (selfR d133.n [] d133.s0 d133.ms') := by kernel_rfl
theorem d133_ok : d133.Ok := CC.mk_ok (ro := [215]) (L := []) okN d133 (fn := Tryz.f126) (b := bdy 126) (by kernel_rfl) (by kernel_rfl) (by kernel_rfl) (by kernel_rfl) d133_run
theorem d134_run : (runC (EC [215] []) 20000 d134.n [callFr d134.g Tryz.f126.ntmps d134.l (bdy 126)] d134.ms).vc (retOk d134.n [] d134.s0 d134.ms') (fun _ _ => False) = allP (selfR d134.n [] d134.s0 d134.ms') := by kernel_rfl
theorem d134_ok : d134.Ok := CC.mk_ok (ro := [215]) (L := []) okN d134 (fn := Tryz.f126) (b := bdy 126) (by kernel_rfl) (by kernel_rfl) (by kernel_rfl) (by kernel_rfl) d134_run
theorem d136_run : (runC (EC [215] []) 20000 d136.n [callFr d136.g Tryz.f126.ntmps d136.l (bdy 126)] d136.ms).vc (retOk d136.n [(15313, 15313)] d136.s0 d136.ms') (fun _ _ => False) = allP (selfR d136.n [(15313, 15313)] d136.s0 d136.ms') := by kernel_rfl
theorem d136_ok : d136.Ok := CC.mk_ok (ro := [215]) (L := []) okN d136 (fn := Tryz.f126) (b := bdy 126) (by kernel_rfl) (by kernel_rfl) (by kernel_rfl) (by kernel_rfl) d136_run
theorem d137_run : (runC (EC [215] []) 20000 d137.n [callFr d137.g Tryz.f126.ntmps d137.l (bdy 126)] d137.ms).vc (retOk d137.n [] d137.s0 d137.ms') (fun _ _ => False) = allP (selfR d137.n [] d137.s0 d137.ms') := by kernel_rfl
theorem d137_ok : d137.Ok := CC.mk_ok (ro := [215]) (L := []) okN d137 (fn := Tryz.f126) (b := bdy 126) (by kernel_rfl) (by kernel_rfl) (by kernel_rfl) (by kernel_rfl) d137_run
theorem d138_run : (runC (EC [215] []) 20000 d138.n [callFr d138.g Tryz.f126.ntmps d138.l (bdy 126)] d138.ms).vc (retOk d138.n [] d138.s0 d138.ms') (fun _ _ => False) = allP (selfR d138.n [] d138.s0 d138.ms') := by kernel_rfl
theorem d138_ok : d138.Ok := CC.mk_ok (ro := [215]) (L := []) okN d138 (fn := Tryz.f126) (b := bdy 126) (by kernel_rfl) (by kernel_rfl) (by kernel_rfl) (by kernel_rfl) d138_run
theorem d140_run : (runC (EC [215] []) 20000 d140.n [callFr d140.g Tryz.f126.ntmps d140.l (bdy 126)] d140.ms).vc (retOk d140.n [(15812, 15812)] d140.s0 d140.ms') (fun _ _ => False) = allP (selfR d140.n [(15812, 15812)] d140.s0 d140.ms') := by kernel_rfl
theorem d140_ok : d140.Ok := CC.mk_ok (ro := [215]) (L := []) okN d140 (fn := Tryz.f126) (b := bdy 126) (by kernel_rfl) (by kernel_rfl) (by kernel_rfl) (by kernel_rfl) d140_run
theorem d141_run : (runC (EC [215] []) 20000 d141.n [callFr d141.g Tryz.f126.ntmps d141.l (bdy 126)] d141.ms).vc (retOk d141.n [] d141.s0 d141.ms') (fun _ _ => False) = allP (selfR d141.n [] d141.s0 d141.ms') := by kernel_rfl
theorem d141_ok : d141.Ok := CC.mk_ok (ro := [215]) (L := []) okN d141 (fn := Tryz.f126) (b := bdy 126) (by kernel_rfl) (by kernel_rfl) (by kernel_rfl) (by kernel_rfl) d141_run
theorem d142_run : (runC (EC [215] []) 20000 d142.n [callFr d142.g Tryz.f126.ntmps d142.l (bdy 126)] d142.ms).vc (retOk d142.n [] d142.s0 d142.ms') (fun _ _ => False) = allP (selfR d142.n [] d142.s0 d142.ms') := by kernel_rfl
theorem d142_ok : d142.Ok := CC.mk_ok (ro := [215]) (L := []) okN d142 (fn := Tryz.f126) (b := bdy 126) (by kernel_rfl) (by kernel_rfl) (by kernel_rfl) (by kernel_rfl) d142_run
theorem d144_run : (runC (EC [215] []) 20000 d144.n [callFr d144.g Tryz.f126.ntmps d144.l (bdy 126)] d144.ms).vc (retOk d144.n [(16294, 16294)] d144.s0 d144.ms') (fun _ _ => False) = allP (selfR d144.n [(16294, 16294)] d144.s0 d144.ms') := by kernel_rfl
theorem d144_ok : d144.Ok := CC.mk_ok (ro := [215]) (L := []) okN d144 (fn := Tryz.f126) (b := bdy 126) (by kernel_rfl) (by kernel_rfl) (by kernel_rfl) (by kernel_rfl) d144_run
theorem d145_run : (runC (EC [215] []) 20000 d145.n [callFr d145.g Tryz.f126.ntmps d145.l (bdy 126)] d145.ms).vc (retOk d145.n [] d145.s0 d145.ms') (fun _ _ => False) = allP (selfR d145.n [] d145.s0 d145.ms') := by kernel_rfl
theorem d145_ok : d145.Ok := CC.mk_ok (ro := [215]) (L := []) okN d145 (fn := Tryz.f126) (b := bdy 126) (by kernel_rfl) (by kernel_rfl) (by kernel_rfl) (by kernel_rfl) d145_run
theorem d146_run : (runC (EC [215] []) 20000 d146.n [callFr d146.g Tryz.f126.ntmps d146.l (bdy 126)] d146.ms).vc (retOk d146.n [] d146.s0 d146.ms') (fun _ _ => False) = allP (selfR d146.n [] d146.s0 d146.ms') := by kernel_rfl
theorem d146_ok : d146.Ok := CC.mk_ok (ro := [215]) (L := []) okN d146 (fn := Tryz.f126) (b := bdy 126) (by kernel_rfl) (by kernel_rfl) (by kernel_rfl) (by kernel_rfl) d146_run
theorem d148_run : (runC (EC [215] []) 20000 d148.n [callFr d148.g Tryz.f126.ntmps d148.l (bdy 126)] d148.ms).vc (retOk d148.n [(16761, 16761)] d148.s0 d148.ms') (fun _ _ => False) = allP (selfR d148.n [(16761, 16761)] d148.s0 d148.ms') := by kernel_rfl
theorem d148_ok : d148.Ok := CC.mk_ok (ro := [215]) (L := []) okN d148 (fn := Tryz.f126) (b := bdy 126) (by kernel_rfl) (by kernel_rfl) (by kernel_rfl) (by kernel_rfl) d148_run
theorem d149_run : (runC (EC [215] []) 20000 d149.n [callFr d149.g Tryz.f126.ntmps d149.l (bdy 126)] d149.ms).vc (retOk d149.n [] d149.s0 d149.ms') (fun _ _ => False) = allP (selfR d149.n [] d149.s0 d149.ms') := by kernel_rfl
theorem d149_ok : d149.Ok := CC.mk_ok (ro := [215]) (L := []) okN d149 (fn := Tryz.f126) (b := bdy 126) (by kernel_rfl) (by kernel_rfl) (by kernel_rfl) (by kernel_rfl) d149_run
theorem d150_run : (runC (EC [215] []) 20000 d150.n [callFr d150.g Tryz.f126.ntmps d150.l (bdy 126)] d150.ms).vc (retOk d150.n [] d150.s0 d150.ms') (fun _ _ => False) = allP (selfR d150.n [] d150.s0 d150.ms') := by kernel_rfl
theorem d150_ok : d150.Ok := CC.mk_ok (ro := [215]) (L := []) okN d150 (fn := Tryz.f126) (b := bdy 126) (by kernel_rfl) (by kernel_rfl) (by kernel_rfl) (by kernel_rfl) d150_run
theorem d153_run : (runC (EC [215] []) 20000 d153.n [callFr d153.g Tryz.f126.ntmps d153.l (bdy 126)] d153.ms).vc (retOk d153.n [(17236, 17236)] d153.s0 d153.ms') (fun _ _ => False) = allP (selfR d153.n [(17236, 17236)] d153.s0 d153.ms') := by kernel_rfl
theorem d153_ok : d153.Ok := CC.mk_ok (ro := [215]) (L := []) okN d153 (fn := Tryz.f126) (b := bdy 126) (by kernel_rfl) (by kernel_rfl) (by kernel_rfl) (by kernel_rfl) d153_run
theorem d154_run : (runC (EC [215] []) 20000 d154.n [callFr d154.g Tryz.f126.ntmps d154.l (bdy 126)] d154.ms).vc (retOk d154.n [] d154.s0 d154.ms') (fun _ _ => False) = allP (selfR d154.n [] d154.s0 d154.ms') := by kernel_rfl
theorem d154_ok : d154.Ok := CC.mk_ok (ro := [215]) (L := []) okN d154 (fn := Tryz.f126) (b := bdy 126) (by kernel_rfl) (by kernel_rfl) (by kernel_rfl) (by kernel_rfl) d154_run
theorem d155_run : (runC (EC [215] []) 20000 d155.n [callFr d155.g Tryz.f126.ntmps d155.l (bdy 126)] d155.ms).vc (retOk d155.n [] d155.s0 d155.ms') (fun _ _ => False) = allP (selfR d155.n [] d155.s0 d155.ms') := by kernel_rfl
theorem d155_ok : d155.Ok := CC.mk_ok (ro := [215]) (L := []) okN d155 (fn := Tryz.f126) (b := bdy 126) (by kernel_rfl) (by kernel_rfl) (by kernel_rfl) (by kernel_rfl) d155_run
theorem d157_run : (runC (EC [215] []) 20000 d157.n [callFr d157.g Tryz.f126.ntmps d157.l (bdy 126)] d157.ms).vc (retOk d157.n [(17702, 17702)] d157.s0 d157.ms') (fun _ _ => False) = allP (selfR d157.n [(17702, 17702)] d157.s0 d157.ms') := by kernel_rfl
theorem d157_ok : d157.Ok := CC.mk_ok (ro := [215]) (L := []) okN d157 (fn := Tryz.f126) (b := bdy 126) (by kernel_rfl) (by kernel_rfl) (by kernel_rfl) (by kernel_rfl) d157_run
theorem d158_run : (runC (EC [215] []) 20000 d158.n [callFr d158.g Tryz.f126.ntmps d158.l (bdy 126)] d158.ms).vc (retOk d158.n [] d158.s0 d158.ms') (fun _ _ => False) = allP (selfR d158.n [] d158.s0 d158.ms') := by kernel_rfl
theorem d158_ok : d158.Ok := CC.mk_ok (ro := [215]) (L := []) okN d158 (fn := Tryz.f126) (b := bdy 126) (by kernel_rfl) (by kernel_rfl) (by kernel_rfl) (by kernel_rfl) d158_run
end Go.Proofs.YtalaegjdldllfaaGreatDoor
