/- Of a closed run: its calls do what is told of them. No condition. -/
import Derived.Test.YtalaegjdldllfaaGreatDoorXa
set_option linter.unusedVariables false
set_option linter.unusedSimpArgs false
namespace Go.Proofs.YtalaegjdldllfaaGreatDoor
set_option maxRecDepth 1000000
theorem a50_run : (runC (EC [215] []) 20000 a50.n [callFr a50.g Tryz.f126.ntmps a50.l (bdy 126)] a50.ms).vc (retOk a50.n [] a50.s0 a50.ms') (fun _ _ => False) = allP (selfR a50.n [] a50.s0 a50.ms') := by kernel_rfl
theorem a50_ok : a50.Ok := CC.mk_ok (ro := [215]) (L := []) okN a50 (fn := Tryz.f126) (b := bdy 126) (by kernel_rfl) (by kernel_rfl) (by kernel_rfl) (by kernel_rfl) a50_run
theorem a53_run : (runC (EC [215] []) 20000 a53.n [callFr a53.g Tryz.f126.ntmps a53.l (bdy 126)] a53.ms).vc (retOk a53.n [(5500, 5500)] a53.s0 a53.ms') (fun _ _ => False) = allP (selfR a53.n [(5500, 5500)] a53.s0 a53.ms') := by kernel_rfl
theorem a53_ok : a53.Ok := CC.mk_ok (ro := [215]) (L := []) okN a53 (fn := Tryz.f126) (b := bdy 126) (by kernel_rfl) (by kernel_rfl) (by kernel_rfl) (by kernel_rfl) a53_run
theorem a54_run : (runC (EC [215] []) 20000 a54.n [callFr a54.g Tryz.f126.ntmps a54.l (bdy 126)] a54.ms).vc (retOk a54.n [] a54.s0 a54.ms') (fun _ _ => False) = allP (selfR a54.n [] a54.s0 a54.ms') := by kernel_rfl
theorem a54_ok : a54.Ok := CC.mk_ok (ro := [215]) (L := []) okN a54 (fn := Tryz.f126) (b := bdy 126) (by kernel_rfl) (by kernel_rfl) (by kernel_rfl) (by kernel_rfl) a54_run
theorem a55_run : (runC (EC [215] []) 20000 a55.n [callFr a55.g Tryz.f126.ntmps a55.l (bdy 126)] a55.ms).vc (retOk a55.n [] a55.s0 a55.ms') (fun _ _ => False) = allP (selfR a55.n [] a55.s0 a55.ms') := by kernel_rfl
theorem a55_ok : a55.Ok := CC.mk_ok (ro := [215]) (L := []) okN a55 (fn := Tryz.f126) (b := bdy 126) (by kernel_rfl) (by kernel_rfl) (by kernel_rfl) (by kernel_rfl) a55_run
theorem a57_run : (runC (EC [215] []) 20000 a57.n [callFr a57.g Tryz.f126.ntmps a57.l (bdy 126)] a57.ms).vc (retOk a57.n [(6129, 6129)] a57.s0 a57.ms') (fun _ _ => False) = allP (selfR a57.n [(6129, 6129)] a57.s0 a57.ms') := by kernel_rfl
theorem a57_ok : a57.Ok := CC.mk_ok (ro := [215]) (L := []) okN a57 (fn := Tryz.f126) (b := bdy 126) (by kernel_rfl) (by kernel_rfl) (by kernel_rfl) (by kernel_rfl) a57_run
theorem a58_run : (runC (EC [215] []) 20000 a58.n [callFr a58.g Tryz.f126.ntmps a58.l (bdy 126)] a58.ms).vc (retOk a58.n [] a58.s0 a58.ms') (fun _ _ => False) = allP (selfR a58.n [] a58.s0 a58.ms') := by kernel_rfl
theorem a58_ok : a58.Ok := CC.mk_ok (ro := [215]) (L := []) okN a58 (fn := Tryz.f126) (b := bdy 126) (by kernel_rfl) (by kernel_rfl) (by kernel_rfl) (by kernel_rfl) a58_run
theorem a59_run : (runC (EC [215] []) 20000 a59.n [callFr a59.g Tryz.f126.ntmps a59.l (bdy 126)] a59.ms).vc (retOk a59.n [(6399, 6399)] a59.s0 a59.ms') (fun _ _ => False) = allP (selfR a59.n [(6399, 6399)] a59.s0 a59.ms') := by kernel_rfl
theorem a59_ok : a59.Ok := CC.mk_ok (ro := [215]) (L := []) okN a59 (fn := Tryz.f126) (b := bdy 126) (by kernel_rfl) (by kernel_rfl) (by kernel_rfl) (by kernel_rfl) a59_run
theorem a61_run : (runC (EC [215] []) 20000 a61.n [callFr a61.g Tryz.f126.ntmps a61.l (bdy 126)] a61.ms).vc (retOk a61.n [(6636, 6636)] a61.s0 a61.ms') (fun _ _ => False) = allP (selfR a61.n [(6636, 6636)] a61.s0 a61.ms') := by kernel_rfl
theorem a61_ok : a61.Ok := CC.mk_ok (ro := [215]) (L := []) okN a61 (fn := Tryz.f126) (b := bdy 126) (by kernel_rfl) (by kernel_rfl) (by kernel_rfl) (by kernel_rfl) a61_run
theorem a62_run : (runC (EC [215] []) 20000 a62.n [callFr a62.g Tryz.f126.ntmps a62.l (bdy 126)] a62.ms).vc (retOk a62.n [] a62.s0 a62.ms') (fun _ _ => False) = allP (selfR a62.n [] a62.s0 a62.ms') := by kernel_rfl
theorem a62_ok : a62.Ok := CC.mk_ok (ro := [215]) (L := []) okN a62 (fn := Tryz.f126) (b := bdy 126) (by kernel_rfl) (by kernel_rfl) (by kernel_rfl) (by kernel_rfl) a62_run
theorem a63_run : (runC (EC [215] []) 20000 a63.n [callFr a63.g Tryz.f126.ntmps a63.l (bdy 126)] a63.ms).vc (retOk a63.n [] a63.s0 a63.ms') (fun _ _ => False) = allP (selfR a63.n [] a63.s0 a63.ms') := by kernel_rfl
theorem a63_ok : a63.Ok := CC.mk_ok (ro := [215]) (L := []) okN a63 (fn := Tryz.f126) (b := bdy 126) (by kernel_rfl) (by kernel_rfl) (by kernel_rfl) (by kernel_rfl) a63_run
theorem a65_run : (runC (EC [215] []) 20000 a65.n [callFr a65.g Tryz.f126.ntmps a65.l (bdy 126)] a65.ms).vc (retOk a65.n [(7106, 7106)] a65.s0 a65.ms') (fun _ _ => False) = allP (selfR a65.n [(7106, 7106)] a65.s0 a65.ms') := by kernel_rfl
theorem a65_ok : a65.Ok := CC.mk_ok (ro := [215]) (L := []) okN a65 (fn := Tryz.f126) (b := bdy 126) (by kernel_rfl) (by kernel_rfl) (by kernel_rfl) (by kernel_rfl) a65_run
theorem a66_run : (runC (EC [215] []) 20000 a66.n [callFr a66.g Tryz.f126.ntmps a66.l (bdy 126)] a66.ms).vc (retOk a66.n [] a66.s0 a66.ms') (fun _ _ => False) = allP (selfR a66.n [] a66.s0 a66.ms') := by kernel_rfl
theorem a66_ok : a66.Ok := CC.mk_ok (ro := [215]) (L := []) okN a66 (fn := Tryz.f126) (b := bdy 126) (by kernel_rfl) (by kernel_rfl) (by kernel_rfl) (by kernel_rfl) a66_run
theorem a67_run : (runC (EC [215] []) 20000 a67.n [callFr a67.g Tryz.f126.ntmps a67.l (bdy 126)] a67.ms).vc (retOk a67.n [] a67.s0 a67.ms') (fun _ _ => False) = allP (selfR a67.n [] a67.s0 a67.ms') := by kernel_rfl
theorem a67_ok : a67.Ok := CC.mk_ok (ro := [215]) (L := []) okN a67 (fn := Tryz.f126) (b := bdy 126) (by kernel_rfl) (by kernel_rfl) (by kernel_rfl) (by kernel_rfl) a67_run
theorem a69_run : (runC (EC [215] []) 20000 a69.n [callFr a69.g Tryz.f126.ntmps a69.l (bdy 126)] a69.ms).vc (retOk a69.n [(7592, 7592)] a69.s0 a69.ms') (fun _ _ => False) = allP (selfR a69.n [(7592, 7592)] a69.s0 a69.ms') := by kernel_rfl
theorem a69_ok : a69.Ok := CC.mk_ok (ro := [215]) (L := []) okN a69 (fn := Tryz.f126) (b := bdy 126) (by kernel_rfl) (by kernel_rfl) (by kernel_rfl) (by kernel_rfl) a69_run
theorem a70_run : (runC (EC [215] []) 20000 a70.n [callFr a70.g Tryz.f126.ntmps a70.l (bdy 126)] a70.ms).vc (retOk a70.n [] a70.s0 a70.ms') (fun _ _ => False) = allP (selfR a70.n [] a70.s0 a70.ms') := by kernel_rfl
theorem a70_ok : a70.Ok := CC.mk_ok (ro := [215]) (L := []) okN a70 (fn := Tryz.f126) (b := bdy 126) (by kernel_rfl) (by kernel_rfl) (by kernel_rfl) (by kernel_rfl) a70_run
theorem a71_run : (runC (EC [215] []) 20000 a71.n [callFr a71.g Tryz.f126.ntmps a71.l (bdy 126)] a71.ms).vc (retOk a71.n [] a71.s0 a71.ms') (fun _ _ => False) = allP (selfR a71.n [] a71.s0 a71.ms') := by kernel_rfl
theorem a71_ok : a71.Ok := CC.mk_ok (ro := [215]) (L := []) okN a71 (fn := Tryz.f126) (b := bdy 126) (by kernel_rfl) (by kernel_rfl) (by kernel_rfl) (by kernel_rfl) a71_run
theorem a73_run : (runC (EC [215] []) 20000 a73.n [callFr a73.g Tryz.f126.ntmps a73.l (bdy 126)] a73.ms).vc (retOk a73.n [(8078, 8078)] a73.s0 a73.ms') (fun _ _ => False) = allP (selfR a73.n [(8078, 8078)] a73.s0 a73.ms') := by kernel_rfl
theorem a73_ok : a73.Ok := CC.mk_ok (ro := [215]) (L := []) okN a73 (fn := Tryz.f126) (b := bdy 126) (by kernel_rfl) (by kernel_rfl) (by kernel_rfl) (by kernel_rfl) a73_run
theorem a74_run : (runC (EC [215] []) 20000 a74.n [callFr a74.g Tryz.f126.ntmps a74.l (bdy 126)] a74.ms).vc (retOk a74.n [] a74.s0 a74.ms') (fun _ _ => False) = allP (selfR a74.n [] a74.s0 a74.ms') := by kernel_rfl
theorem a74_ok : a74.Ok := CC.mk_ok (ro := [215]) (L := []) okN a74 (fn := Tryz.f126) (b := bdy 126) (by kernel_rfl) (by kernel_rfl) (by kernel_rfl) (by kernel_rfl) a74_run
theorem a75_run : (runC (EC [215] []) 20000 a75.n [callFr a75.g Tryz.f126.ntmps a75.l (bdy 126)] a75.ms).vc (retOk a75.n [] a75.s0 a75.ms') (fun _ _ => False) = allP (selfR a75.n [] a75.s0 a75.ms') := by kernel_rfl
theorem a75_ok : a75.Ok := CC.mk_ok (ro := [215]) (L := []) okN a75 (fn := Tryz.f126) (b := bdy 126) (by kernel_rfl) (by kernel_rfl) (by kernel_rfl) (by kernel_rfl) a75_run
theorem a77_run : (runC (EC [215] []) 20000 a77.n [callFr a77.g Tryz.f126.ntmps a77.l (bdy 126)] a77.ms).vc (retOk a77.n [(8564, 8564)] a77.s0 a77.ms') (fun _ _ => False) = allP (selfR a77.n [(8564, 8564)] a77.s0 a77.ms') := by kernel_rfl
theorem a77_ok : a77.Ok := CC.mk_ok (ro := [215]) (L := []) okN a77 (fn := Tryz.f126) (b := bdy 126) (by kernel_rfl) (by kernel_rfl) (by kernel_rfl) (by kernel_rfl) a77_run
theorem a78_run : (runC (EC [215] []) 20000 a78.n [callFr a78.g Tryz.f126.ntmps a78.l (bdy 126)] a78.ms).vc (retOk a78.n [] a78.s0 a78.ms') (fun _ _ => False) = allP (selfR a78.n [] a78.s0 a78.ms') := by kernel_rfl
theorem a78_ok : a78.Ok := CC.mk_ok (ro := [215]) (L := []) okN a78 (fn := Tryz.f126) (b := bdy 126) (by kernel_rfl) (by kernel_rfl) (by kernel_rfl) (by kernel_rfl) a78_run
theorem a79_run : (runC (EC [215] []) 20000 a79.n [callFr a79.g Tryz.f126.ntmps a79.l (bdy 126)] a79.ms).vc (retOk a79.n [] a79.s0 a79.ms') (fun _ _ => False) = allP (selfR a79.n [] a79.s0 a79.ms') := by kernel_rfl
theorem a79_ok : a79.Ok := CC.mk_ok (ro := [215]) (L := []) okN a79 (fn := Tryz.f126) (b := bdy 126) (by kernel_rfl) (by kernel_rfl) (by kernel_rfl) (by kernel_rfl) a79_run
theorem a81_run : (runC (EC [215] []) 20000 a81.n [callFr a81.g Tryz.f126.ntmps a81.l (bdy 126)] a81.ms).vc (retOk a81.n [(9033, 9033)] a81.s0 a81.ms') (fun _ _ => False) = allP (selfR a81.n [(9033, 9033)] a81.s0 a81.ms') := by kernel_rfl
theorem a81_ok : a81.Ok := CC.mk_ok (ro := [215]) (L := []) okN a81 (fn := Tryz.f126) (b := bdy 126) (by kernel_rfl) (by kernel_rfl) (by kernel_rfl) (by kernel_rfl) a81_run
theorem a82_run : (runC (EC [215] []) 20000 a82.n [callFr a82.g Tryz.f126.ntmps a82.l (bdy 126)] a82.ms).vc (retOk a82.n [] a82.s0 a82.ms') (fun _ _ => False) = allP (selfR a82.n [] a82.s0 a82.ms') := by kernel_rfl
theorem a82_ok : a82.Ok := CC.mk_ok (ro := [215]) (L := []) okN a82 (fn := Tryz.f126) (b := bdy 126) (by kernel_rfl) (by kernel_rfl) (by kernel_rfl) (by kernel_rfl) a82_run
theorem a83_run : (runC (EC [215] []) 20000 a83.n [callFr a83.g Tryz.f126.ntmps a83.l (bdy 126)] a83.ms).vc (retOk a83.n [] a83.s0 a83.ms') (fun _ _ => False) = allP (selfR a83.n [] a83.s0 a83.ms') := by kernel_rfl
theorem a83_ok : a83.Ok := CC.mk_ok (ro := [215]) (L := []) okN a83 (fn := Tryz.f126) (b := bdy 126) (by kernel_rfl) (by kernel_rfl) (by kernel_rfl) (by kernel_rfl) a83_run
theorem a85_run : (runC (EC [215] []) 20000 a85.n [callFr a85.g Tryz.f126.ntmps a85.l (bdy 126)] a85.ms).vc (retOk a85.n [(9503, 9503)] a85.s0 a85.ms') (fun _ _ => False) = allP (selfR a85.n [(9503, 9503)] a85.s0 a85.ms') := by kernel_rfl
theorem a85_ok : a85.Ok := CC.mk_ok (ro := [215]) (L := []) okN a85 (fn := Tryz.f126) (b := bdy 126) (by kernel_rfl) (by kernel_rfl) (by kernel_rfl) (by kernel_rfl) a85_run
theorem a86_run : (runC (EC [215] []) 20000 a86.n [callFr a86.g Tryz.f126.ntmps a86.l (bdy 126)] a86.ms).vc (retOk a86.n [] a86.s0 a86.ms') (fun _ _ => False) = allP (selfR a86.n [] a86.s0 a86.ms') := by kernel_rfl
theorem a86_ok : a86.Ok := CC.mk_ok (ro := [215]) (L := []) okN a86 (fn := Tryz.f126) (b := bdy 126) (by kernel_rfl) (by kernel_rfl) (by kernel_rfl) (by kernel_rfl) a86_run
theorem a87_run : (runC (EC [215] []) 20000 a87.n [callFr a87.g Tryz.f126.ntmps a87.l (bdy 126)] a87.ms).vc (retOk a87.n [] a87.s0 a87.ms') (fun _ _ => False) = allP (selfR a87.n [] a87.s0 a87.ms') := by kernel_rfl
theorem a87_ok : a87.Ok := CC.mk_ok (ro := [215]) (L := []) okN a87 (fn := Tryz.f126) (b := bdy 126) (by kernel_rfl) (by kernel_rfl) (by kernel_rfl) (by kernel_rfl) a87_run
theorem a90_run : (runC (EC [215] []) 20000 a90.n [callFr a90.g Tryz.f126.ntmps a90.l (bdy 126)] a90.ms).vc (retOk a90.n [(9979, 9979)] a90.s0 a90.ms') (fun _ _ => False) = allP (selfR a90.n [(9979, 9979)] a90.s0 a90.ms') := by kernel_rfl
theorem a90_ok : a90.Ok := CC.mk_ok (ro := [215]) (L := []) okN a90 (fn := Tryz.f126) (b := bdy 126) (by kernel_rfl) (by kernel_rfl) (by kernel_rfl) (by kernel_rfl) a90_run
theorem a91_run : (runC (EC [215] []) 20000 a91.n [callFr a91.g Tryz.f126.ntmps a91.l (bdy 126)] a91.ms).vc (retOk a91.n [] a91.s0 a91.ms') (fun _ _ => False) = allP (selfR a91.n [] a91.s0 a91.ms') := by kernel_rfl
theorem a91_ok : a91.Ok := CC.mk_ok (ro := [215]) (L := []) okN a91 (fn := Tryz.f126) (b := bdy 126) (by kernel_rfl) (by kernel_rfl) (by kernel_rfl) (by kernel_rfl) a91_run
theorem a92_run : (runC (EC [215] []) 20000 a92.n [callFr a92.g Tryz.f126.ntmps a92.l (bdy 126)] a92.ms).vc (retOk a92.n [] a92.s0 a92.ms') (fun _ _ => False) = allP (selfR a92.n [] a92.s0 a92.ms') := by kernel_rfl
theorem a92_ok : a92.Ok := CC.mk_ok (ro := [215]) (L := []) okN a92 (fn := Tryz.f126) (b := bdy 126) (by kernel_rfl) (by kernel_rfl) (by kernel_rfl) (by kernel_rfl) a92_run
theorem a94_run : (runC (EC [215] []) 20000 a94.n [callFr a94.g Tryz.f126.ntmps a94.l (bdy 126)] a94.ms).vc (retOk a94.n [(10452, 10452)] a94.s0 a94.ms') (fun _ _ => False) = allP (selfR a94.n [(10452, 10452)] a94.s0 a94.ms') := by kernel_rfl
theorem a94_ok : a94.Ok := CC.mk_ok (ro := [215]) (L := []) okN a94 (fn := Tryz.f126) (b := bdy 126) (by kernel_rfl) (by kernel_rfl) (by kernel_rfl) (by kernel_rfl) a94_run
theorem a95_run : (runC (EC [215] []) 20000 a95.n [callFr a95.g Tryz.f126.ntmps a95.l (bdy 126)] a95.ms).vc (retOk a95.n [] a95.s0 a95.ms') (fun _ _ => False) = allP (selfR a95.n [] a95.s0 a95.ms') := by kernel_rfl
theorem a95_ok : a95.Ok := CC.mk_ok (ro := [215]) (L := []) okN a95 (fn := Tryz.f126) (b := bdy 126) (by kernel_rfl) (by kernel_rfl) (by kernel_rfl) (by kernel_rfl) a95_run
theorem a96_run : (runC (EC [215] []) 20000 a96.n [callFr a96.g Tryz.f126.ntmps a96.l (bdy 126)] a96.ms).vc (retOk a96.n [(10474, 10474)] a96.s0 a96.ms') (fun _ _ => False) = allP (selfR a96.n [(10474, 10474)] a96.s0 a96.ms') := by kernel_rfl
theorem a96_ok : a96.Ok := CC.mk_ok (ro := [215]) (L := []) okN a96 (fn := Tryz.f126) (b := bdy 126) (by kernel_rfl) (by kernel_rfl) (by kernel_rfl) (by kernel_rfl) a96_run
theorem a97_run : (runC (EC [215] []) 20000 a97.n [callFr a97.g Tryz.f126.ntmps a97.l (bdy 126)] a97.ms).vc (retOk a97.n [(10600, 10600)] a97.s0 a97.ms') (fun _ _ => False) = allP (selfR a97.n [(10600, 10600)] a97.s0 a97.ms') := by kernel_rfl
theorem a97_ok : a97.Ok := CC.mk_ok (ro := [215]) (L := []) okN a97 (fn := Tryz.f126) (b := bdy 126) (by kernel_rfl) (by kernel_rfl) (by kernel_rfl) (by kernel_rfl) a97_run
theorem a98_run : (runC (EC [215] []) 20000 a98.n [callFr a98.g Tryz.f126.ntmps a98.l (bdy 126)] a98.ms).vc (retOk a98.n [(10949, 10949)] a98.s0 a98.ms') (fun _ _ => False) = allP (selfR a98.n [(10949, 10949)] a98.s0 a98.ms') := by kernel_rfl
theorem a98_ok : a98.Ok := CC.mk_ok (ro := [215]) (L := []) okN a98 (fn := Tryz.f126) (b := bdy 126) (by kernel_rfl) (by kernel_rfl) (by kernel_rfl) (by kernel_rfl) a98_run
theorem a100_run : (runC (EC [215] []) 20000 a100.n [callFr a100.g Tryz.f126.ntmps a100.l (bdy 126)] a100.ms).vc (retOk a100.n [(11186, 11186)] a100.s0 a100.ms') (fun _ _ => False) = allP (selfR a100.n [(11186, 11186)] a100.s0 a100.ms') := by kernel_rfl
theorem a100_ok : a100.Ok := CC.mk_ok (ro := [215]) (L := []) okN a100 (fn := Tryz.f126) (b := bdy 126) (by kernel_rfl) (by kernel_rfl) (by kernel_rfl) (by kernel_rfl) a100_run
end Go.Proofs.YtalaegjdldllfaaGreatDoor
