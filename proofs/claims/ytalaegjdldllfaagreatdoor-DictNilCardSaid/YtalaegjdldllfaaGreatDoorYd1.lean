/- Of a closed run: its calls do what is told of them. No condition. -/
import Derived.Test.YtalaegjdldllfaaGreatDoorXd
set_option linter.unusedVariables false
set_option linter.unusedSimpArgs false
namespace Go.Proofs.YtalaegjdldllfaaGreatDoor
set_option maxRecDepth 1000000
theorem d54_run : (runC (EC [215] []) 20000 d54.n [callFr d54.g Tryz.f126.ntmps d54.l (bdy 126)] d54.ms).vc (retOk d54.n [] d54.s0 d54.ms') (fun _ _ => False) = allP (selfR d54.n [] d54.s0 d54.ms') := by kernel_rfl
theorem d54_ok : d54.Ok := CC.mk_ok (ro := [215]) (L := []) okN d54 (fn := Tryz.f126) (b := bdy 126) (by kernel_rfl) (by kernel_rfl) (by kernel_rfl) (by kernel_rfl) d54_run
theorem d55_run : (runC (EC [215] []) 20000 d55.n [callFr d55.g Tryz.f126.ntmps d55.l (bdy 126)] d55.ms).vc (retOk d55.n [] d55.s0 d55.ms') (fun _ _ => False) = allP (selfR d55.n [] d55.s0 d55.ms') := by kernel_rfl
theorem d55_ok : d55.Ok := CC.mk_ok (ro := [215]) (L := []) okN d55 (fn := Tryz.f126) (b := bdy 126) (by kernel_rfl) (by kernel_rfl) (by kernel_rfl) (by kernel_rfl) d55_run
theorem d57_run : (runC (EC [215] []) 20000 d57.n [callFr d57.g Tryz.f126.ntmps d57.l (bdy 126)] d57.ms).vc (retOk d57.n [(5949, 5949)] d57.s0 d57.ms') (fun _ _ => False) = allP (selfR d57.n [(5949, 5949)] d57.s0 d57.ms') := by kernel_rfl
theorem d57_ok : d57.Ok := CC.mk_ok (ro := [215]) (L := []) okN d57 (fn := Tryz.f126) (b := bdy 126) (by kernel_rfl) (by kernel_rfl) (by kernel_rfl) (by kernel_rfl) d57_run
theorem d58_run : (runC (EC [215] []) 20000 d58.n [callFr d58.g Tryz.f126.ntmps d58.l (bdy 126)] d58.ms).vc (retOk d58.n [] d58.s0 d58.ms') (fun _ _ => False) = allP (selfR d58.n [] d58.s0 d58.ms') := by kernel_rfl
theorem d58_ok : d58.Ok := CC.mk_ok (ro := [215]) (L := []) okN d58 (fn := Tryz.f126) (b := bdy 126) (by kernel_rfl) (by kernel_rfl) (by kernel_rfl) (by kernel_rfl) d58_run
theorem d59_run : (runC (EC [215] []) 20000 d59.n [callFr d59.g Tryz.f126.ntmps d59.l (bdy 126)] d59.ms).vc (retOk d59.n [] d59.s0 d59.ms') (fun _ _ => False) = allP (selfR d59.n [] d59.s0 d59.ms') := by kernel_rfl
theorem d59_ok : d59.Ok := CC.mk_ok (ro := [215]) (L := []) okN d59 (fn := Tryz.f126) (b := bdy 126) (by kernel_rfl) (by kernel_rfl) (by kernel_rfl) (by kernel_rfl) d59_run
theorem d61_run : (runC (EC [215] []) 20000 d61.n [callFr d61.g Tryz.f126.ntmps d61.l (bdy 126)] d61.ms).vc (retOk d61.n [(6431, 6431)] d61.s0 d61.ms') (fun _ _ => False) = allP (selfR d61.n [(6431, 6431)] d61.s0 d61.ms') := by kernel_rfl
theorem d61_ok : d61.Ok := CC.mk_ok (ro := [215]) (L := []) okN d61 (fn := Tryz.f126) (b := bdy 126) (by kernel_rfl) (by kernel_rfl) (by kernel_rfl) (by kernel_rfl) d61_run
theorem d62_run : (runC (EC [215] []) 20000 d62.n [callFr d62.g Tryz.f126.ntmps d62.l (bdy 126)] d62.ms).vc (retOk d62.n [] d62.s0 d62.ms') (fun _ _ => False) = allP (selfR d62.n [] d62.s0 d62.ms') := by kernel_rfl
theorem d62_ok : d62.Ok := CC.mk_ok (ro := [215]) (L := []) okN d62 (fn := Tryz.f126) (b := bdy 126) (by kernel_rfl) (by kernel_rfl) (by kernel_rfl) (by kernel_rfl) d62_run
theorem d63_run : (runC (EC [215] []) 20000 d63.n [callFr d63.g Tryz.f126.ntmps d63.l (bdy 126)] d63.ms).vc (retOk d63.n [] d63.s0 d63.ms') (fun _ _ => False) = allP (selfR d63.n [] d63.s0 d63.ms') := by kernel_rfl
theorem d63_ok : d63.Ok := CC.mk_ok (ro := [215]) (L := []) okN d63 (fn := Tryz.f126) (b := bdy 126) (by kernel_rfl) (by kernel_rfl) (by kernel_rfl) (by kernel_rfl) d63_run
theorem d65_run : (runC (EC [215] []) 20000 d65.n [callFr d65.g Tryz.f126.ntmps d65.l (bdy 126)] d65.ms).vc (retOk d65.n [(6898, 6898)] d65.s0 d65.ms') (fun _ _ => False) = allP (selfR d65.n [(6898, 6898)] d65.s0 d65.ms') := by kernel_rfl
theorem d65_ok : d65.Ok := CC.mk_ok (ro := [215]) (L := []) okN d65 (fn := Tryz.f126) (b := bdy 126) (by kernel_rfl) (by kernel_rfl) (by kernel_rfl) (by kernel_rfl) d65_run
theorem d66_run : (runC (EC [215] []) 20000 d66.n [callFr d66.g Tryz.f126.ntmps d66.l (bdy 126)] d66.ms).vc (retOk d66.n [] d66.s0 d66.ms') (fun _ _ => False) = allP (selfR d66.n [] d66.s0 d66.ms') := by kernel_rfl
theorem d66_ok : d66.Ok := CC.mk_ok (ro := [215]) (L := []) okN d66 (fn := Tryz.f126) (b := bdy 126) (by kernel_rfl) (by kernel_rfl) (by kernel_rfl) (by kernel_rfl) d66_run
theorem d67_run : (runC (EC [215] []) 20000 d67.n [callFr d67.g Tryz.f126.ntmps d67.l (bdy 126)] d67.ms).vc (retOk d67.n [] d67.s0 d67.ms') (fun _ _ => False) = allP (selfR d67.n [] d67.s0 d67.ms') := by kernel_rfl
theorem d67_ok : d67.Ok := CC.mk_ok (ro := [215]) (L := []) okN d67 (fn := Tryz.f126) (b := bdy 126) (by kernel_rfl) (by kernel_rfl) (by kernel_rfl) (by kernel_rfl) d67_run
theorem d70_run : (runC (EC [215] []) 20000 d70.n [callFr d70.g Tryz.f126.ntmps d70.l (bdy 126)] d70.ms).vc (retOk d70.n [(7373, 7373)] d70.s0 d70.ms') (fun _ _ => False) = allP (selfR d70.n [(7373, 7373)] d70.s0 d70.ms') := by kernel_rfl
theorem d70_ok : d70.Ok := CC.mk_ok (ro := [215]) (L := []) okN d70 (fn := Tryz.f126) (b := bdy 126) (by kernel_rfl) (by kernel_rfl) (by kernel_rfl) (by kernel_rfl) d70_run
theorem d71_run : (runC (EC [215] []) 20000 d71.n [callFr d71.g Tryz.f126.ntmps d71.l (bdy 126)] d71.ms).vc (retOk d71.n [] d71.s0 d71.ms') (fun _ _ => False) = allP (selfR d71.n [] d71.s0 d71.ms') := by kernel_rfl
theorem d71_ok : d71.Ok := CC.mk_ok (ro := [215]) (L := []) okN d71 (fn := Tryz.f126) (b := bdy 126) (by kernel_rfl) (by kernel_rfl) (by kernel_rfl) (by kernel_rfl) d71_run
theorem d72_run : (runC (EC [215] []) 20000 d72.n [callFr d72.g Tryz.f126.ntmps d72.l (bdy 126)] d72.ms).vc (retOk d72.n [] d72.s0 d72.ms') (fun _ _ => False) = allP (selfR d72.n [] d72.s0 d72.ms') := by kernel_rfl
theorem d72_ok : d72.Ok := CC.mk_ok (ro := [215]) (L := []) okN d72 (fn := Tryz.f126) (b := bdy 126) (by kernel_rfl) (by kernel_rfl) (by kernel_rfl) (by kernel_rfl) d72_run
theorem d74_run : (runC (EC [215] []) 20000 d74.n [callFr d74.g Tryz.f126.ntmps d74.l (bdy 126)] d74.ms).vc (retOk d74.n [(7839, 7839)] d74.s0 d74.ms') (fun _ _ => False) = allP (selfR d74.n [(7839, 7839)] d74.s0 d74.ms') := by kernel_rfl
theorem d74_ok : d74.Ok := CC.mk_ok (ro := [215]) (L := []) okN d74 (fn := Tryz.f126) (b := bdy 126) (by kernel_rfl) (by kernel_rfl) (by kernel_rfl) (by kernel_rfl) d74_run
theorem d75_run : (runC (EC [215] []) 20000 d75.n [callFr d75.g Tryz.f126.ntmps d75.l (bdy 126)] d75.ms).vc (retOk d75.n [] d75.s0 d75.ms') (fun _ _ => False) = allP (selfR d75.n [] d75.s0 d75.ms') := by kernel_rfl
theorem d75_ok : d75.Ok := CC.mk_ok (ro := [215]) (L := []) okN d75 (fn := Tryz.f126) (b := bdy 126) (by kernel_rfl) (by kernel_rfl) (by kernel_rfl) (by kernel_rfl) d75_run
theorem d76_run : (runC (EC [215] []) 20000 d76.n [callFr d76.g Tryz.f126.ntmps d76.l (bdy 126)] d76.ms).vc (retOk d76.n [] d76.s0 d76.ms') (fun _ _ => False) = allP (selfR d76.n [] d76.s0 d76.ms') := by kernel_rfl
theorem d76_ok : d76.Ok := CC.mk_ok (ro := [215]) (L := []) okN d76 (fn := Tryz.f126) (b := bdy 126) (by kernel_rfl) (by kernel_rfl) (by kernel_rfl) (by kernel_rfl) d76_run
theorem d78_run : (runC (EC [215] []) 20000 d78.n [callFr d78.g Tryz.f126.ntmps d78.l (bdy 126)] d78.ms).vc (retOk d78.n [(8321, 8321)] d78.s0 d78.ms') (fun _ _ => False) = allP (selfR d78.n [(8321, 8321)] d78.s0 d78.ms') := by kernel_rfl
theorem d78_ok : d78.Ok := CC.mk_ok (ro := [215]) (L := []) okN d78 (fn := Tryz.f126) (b := bdy 126) (by kernel_rfl) (by kernel_rfl) (by kernel_rfl) (by kernel_rfl) d78_run
theorem d79_run : (runC (EC [215] []) 20000 d79.n [callFr d79.g Tryz.f126.ntmps d79.l (bdy 126)] d79.ms).vc (retOk d79.n [] d79.s0 d79.ms') (fun _ _ => False) = allP (selfR d79.n [] d79.s0 d79.ms') := by kernel_rfl
theorem d79_ok : d79.Ok := CC.mk_ok (ro := [215]) (L := []) okN d79 (fn := Tryz.f126) (b := bdy 126) (by kernel_rfl) (by kernel_rfl) (by kernel_rfl) (by kernel_rfl) d79_run
theorem d80_run : (runC (EC [215] []) 20000 d80.n [callFr d80.g Tryz.f126.ntmps d80.l (bdy 126)] d80.ms).vc (retOk d80.n [] d80.s0 d80.ms') (fun _ _ => False) = allP (selfR d80.n [] d80.s0 d80.ms') := by kernel_rfl
theorem d80_ok : d80.Ok := CC.mk_ok (ro := [215]) (L := []) okN d80 (fn := Tryz.f126) (b := bdy 126) (by kernel_rfl) (by kernel_rfl) (by kernel_rfl) (by kernel_rfl) d80_run
theorem d82_run : (runC (EC [215] []) 20000 d82.n [callFr d82.g Tryz.f126.ntmps d82.l (bdy 126)] d82.ms).vc (retOk d82.n [(8803, 8803)] d82.s0 d82.ms') (fun _ _ => False) = allP (selfR d82.n [(8803, 8803)] d82.s0 d82.ms') := by kernel_rfl
theorem d82_ok : d82.Ok := CC.mk_ok (ro := [215]) (L := []) okN d82 (fn := Tryz.f126) (b := bdy 126) (by kernel_rfl) (by kernel_rfl) (by kernel_rfl) (by kernel_rfl) d82_run
theorem d83_run : (runC (EC [215] []) 20000 d83.n [callFr d83.g Tryz.f126.ntmps d83.l (bdy 126)] d83.ms).vc (retOk d83.n [] d83.s0 d83.ms') (fun _ _ => False) = allP (selfR d83.n [] d83.s0 d83.ms') := by kernel_rfl
theorem d83_ok : d83.Ok := CC.mk_ok (ro := [215]) (L := []) okN d83 (fn := Tryz.f126) (b := bdy 126) (by kernel_rfl) (by kernel_rfl) (by kernel_rfl) (by kernel_rfl) d83_run
theorem d84_run : (runC (EC [215] []) 20000 d84.n [callFr d84.g Tryz.f126.ntmps d84.l (bdy 126)] d84.ms).vc (retOk d84.n [] d84.s0 d84.ms') (fun _ _ => False) = allP (selfR d84.n [] d84.s0 d84.ms') := by kernel_rfl
theorem d84_ok : d84.Ok := CC.mk_ok (ro := [215]) (L := []) okN d84 (fn := Tryz.f126) (b := bdy 126) (by kernel_rfl) (by kernel_rfl) (by kernel_rfl) (by kernel_rfl) d84_run
theorem d86_run : (runC (EC [215] []) 20000 d86.n [callFr d86.g Tryz.f126.ntmps d86.l (bdy 126)] d86.ms).vc (retOk d86.n [(9285, 9285)] d86.s0 d86.ms') (fun _ _ => False) = allP (selfR d86.n [(9285, 9285)] d86.s0 d86.ms') := by kernel_rfl
theorem d86_ok : d86.Ok := CC.mk_ok (ro := [215]) (L := []) okN d86 (fn := Tryz.f126) (b := bdy 126) (by kernel_rfl) (by kernel_rfl) (by kernel_rfl) (by kernel_rfl) d86_run
theorem d87_run : (runC (EC [215] []) 20000 d87.n [callFr d87.g Tryz.f126.ntmps d87.l (bdy 126)] d87.ms).vc (retOk d87.n [] d87.s0 d87.ms') (fun _ _ => False) = allP (selfR d87.n [] d87.s0 d87.ms') := by kernel_rfl
theorem d87_ok : d87.Ok := CC.mk_ok (ro := [215]) (L := []) okN d87 (fn := Tryz.f126) (b := bdy 126) (by kernel_rfl) (by kernel_rfl) (by kernel_rfl) (by kernel_rfl) d87_run
theorem d88_run : (runC (EC [215] []) 20000 d88.n [callFr d88.g Tryz.f126.ntmps d88.l (bdy 126)] d88.ms).vc (retOk d88.n [] d88.s0 d88.ms') (fun _ _ => False) = allP (selfR d88.n [] d88.s0 d88.ms') := by kernel_rfl
theorem d88_ok : d88.Ok := CC.mk_ok (ro := [215]) (L := []) okN d88 (fn := Tryz.f126) (b := bdy 126) (by kernel_rfl) (by kernel_rfl) (by kernel_rfl) (by kernel_rfl) d88_run
theorem d90_run : (runC (EC [215] []) 20000 d90.n [callFr d90.g Tryz.f126.ntmps d90.l (bdy 126)] d90.ms).vc (retOk d90.n [(9767, 9767)] d90.s0 d90.ms') (fun _ _ => False) = allP (selfR d90.n [(9767, 9767)] d90.s0 d90.ms') := by kernel_rfl
theorem d90_ok : d90.Ok := CC.mk_ok (ro := [215]) (L := []) okN d90 (fn := Tryz.f126) (b := bdy 126) (by kernel_rfl) (by kernel_rfl) (by kernel_rfl) (by kernel_rfl) d90_run
theorem d91_run : (runC (EC [215] []) 20000 d91.n [callFr d91.g Tryz.f126.ntmps d91.l (bdy 126)] d91.ms).vc (retOk d91.n [] d91.s0 d91.ms') (fun _ _ => False) = allP (selfR d91.n [] d91.s0 d91.ms') := by kernel_rfl
theorem d91_ok : d91.Ok := CC.mk_ok (ro := [215]) (L := []) okN d91 (fn := Tryz.f126) (b := bdy 126) (by kernel_rfl) (by kernel_rfl) (by kernel_rfl) (by kernel_rfl) d91_run
theorem d92_run : (runC (EC [215] []) 20000 d92.n [callFr d92.g Tryz.f126.ntmps d92.l (bdy 126)] d92.ms).vc (retOk d92.n [] d92.s0 d92.ms') (fun _ _ => False) = allP (selfR d92.n [] d92.s0 d92.ms') := by kernel_rfl
theorem d92_ok : d92.Ok := CC.mk_ok (ro := [215]) (L := []) okN d92 (fn := Tryz.f126) (b := bdy 126) (by kernel_rfl) (by kernel_rfl) (by kernel_rfl) (by kernel_rfl) d92_run
theorem d94_run : (runC (EC [215] []) 20000 d94.n [callFr d94.g Tryz.f126.ntmps d94.l (bdy 126)] d94.ms).vc (retOk d94.n [(10237, 10237)] d94.s0 d94.ms') (fun _ _ => False) = allP (selfR d94.n [(10237, 10237)] d94.s0 d94.ms') := by kernel_rfl
theorem d94_ok : d94.Ok := CC.mk_ok (ro := [215]) (L := []) okN d94 (fn := Tryz.f126) (b := bdy 126) (by kernel_rfl) (by kernel_rfl) (by kernel_rfl) (by kernel_rfl) d94_run
theorem d95_run : (runC (EC [215] []) 20000 d95.n [callFr d95.g Tryz.f126.ntmps d95.l (bdy 126)] d95.ms).vc (retOk d95.n [] d95.s0 d95.ms') (fun _ _ => False) = allP (selfR d95.n [] d95.s0 d95.ms') := by kernel_rfl
theorem d95_ok : d95.Ok := CC.mk_ok (ro := [215]) (L := []) okN d95 (fn := Tryz.f126) (b := bdy 126) (by kernel_rfl) (by kernel_rfl) (by kernel_rfl) (by kernel_rfl) d95_run
theorem d96_run : (runC (EC [215] []) 20000 d96.n [callFr d96.g Tryz.f126.ntmps d96.l (bdy 126)] d96.ms).vc (retOk d96.n [(10259, 10259)] d96.s0 d96.ms') (fun _ _ => False) = allP (selfR d96.n [(10259, 10259)] d96.s0 d96.ms') := by kernel_rfl
theorem d96_ok : d96.Ok := CC.mk_ok (ro := [215]) (L := []) okN d96 (fn := Tryz.f126) (b := bdy 126) (by kernel_rfl) (by kernel_rfl) (by kernel_rfl) (by kernel_rfl) d96_run
theorem d97_run : (runC (EC [215] []) 20000 d97.n [callFr d97.g Tryz.f126.ntmps d97.l (bdy 126)] d97.ms).vc (retOk d97.n [(10385, 10385)] d97.s0 d97.ms') (fun _ _ => False) = allP (selfR d97.n [(10385, 10385)] d97.s0 d97.ms') := by kernel_rfl
theorem d97_ok : d97.Ok := CC.mk_ok (ro := [215]) (L := []) okN d97 (fn := Tryz.f126) (b := bdy 126) (by kernel_rfl) (by kernel_rfl) (by kernel_rfl) (by kernel_rfl) d97_run
theorem d98_run : (runC (EC [215] []) 20000 d98.n [callFr d98.g Tryz.f126.ntmps d98.l (bdy 126)] d98.ms).vc (retOk d98.n [(10734, 10734)] d98.s0 d98.ms') (fun _ _ => False) = allP (selfR d98.n [(10734, 10734)] d98.s0 d98.ms') := by kernel_rfl
theorem d98_ok : d98.Ok := CC.mk_ok (ro := [215]) (L := []) okN d98 (fn := Tryz.f126) (b := bdy 126) (by kernel_rfl) (by kernel_rfl) (by kernel_rfl) (by kernel_rfl) d98_run
theorem d100_run : (runC (EC [215] []) 20000 d100.n [callFr d100.g Tryz.f126.ntmps d100.l (bdy 126)] d100.ms).vc (retOk d100.n [(10969, 10969)] d100.s0 d100.ms') (fun _ _ => False) = allP (selfR d100.n [(10969, 10969)] d100.s0 d100.ms') := by kernel_rfl
theorem d100_ok : d100.Ok := CC.mk_ok (ro := [215]) (L := []) okN d100 (fn := Tryz.f126) (b := bdy 126) (by kernel_rfl) (by kernel_rfl) (by kernel_rfl) (by kernel_rfl) d100_run
theorem d101_run : (runC (EC [215] []) 20000 d101.n [callFr d101.g Tryz.f126.ntmps d101.l (bdy 126)] d101.ms).vc (retOk d101.n [] d101.s0 d101.ms') (fun _ _ => False) = allP (selfR d101.n [] d101.s0 d101.ms') := by kernel_rfl
theorem d101_ok : d101.Ok := CC.mk_ok (ro := [215]) (L := []) okN d101 (fn := Tryz.f126) (b := bdy 126) (by kernel_rfl) (by kernel_rfl) (by kernel_rfl) (by kernel_rfl) d101_run
theorem d102_run : (runC (EC [215] []) 20000 d102.n [callFr d102.g Tryz.f126.ntmps d102.l (bdy 126)] d102.ms).vc (retOk d102.n [] d102.s0 d102.ms') (fun _ _ => False) = allP (selfR d102.n [] d102.s0 d102.ms') := by kernel_rfl
theorem d102_ok : d102.Ok := CC.mk_ok (ro := [215]) (L := []) okN d102 (fn := Tryz.f126) (b := bdy 126) (by kernel_rfl) (by kernel_rfl) (by kernel_rfl) (by kernel_rfl) d102_run
theorem d104_run : (runC (EC [215] []) 20000 d104.n [callFr d104.g Tryz.f126.ntmps d104.l (bdy 126)] d104.ms).vc (retOk d104.n [(11468, 11468)] d104.s0 d104.ms') (fun _ _ => False) = allP (selfR d104.n [(11468, 11468)] d104.s0 d104.ms') := by kernel_rfl
theorem d104_ok : d104.Ok := CC.mk_ok (ro := [215]) (L := []) okN d104 (fn := Tryz.f126) (b := bdy 126) (by kernel_rfl) (by kernel_rfl) (by kernel_rfl) (by kernel_rfl) d104_run
theorem d105_run : (runC (EC [215] []) 20000 d105.n [callFr d105.g Tryz.f126.ntmps d105.l (bdy 126)] d105.ms).vc (retOk d105.n [] d105.s0 d105.ms') (fun _ _ => False) = allP (selfR d105.n [] d105.s0 d105.ms') := by kernel_rfl
theorem d105_ok : d105.Ok := CC.mk_ok (ro := [215]) (L := []) okN d105 (fn := Tryz.f126) (b := bdy 126) (by kernel_rfl) (by kernel_rfl) (by kernel_rfl) (by kernel_rfl) d105_run
end Go.Proofs.YtalaegjdldllfaaGreatDoor
