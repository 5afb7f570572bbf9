/- Of a closed run: its calls do what is told of them. No condition. -/
import Derived.Test.YtalaegjdldllfaaGreatDoorXd
set_option linter.unusedVariables false
set_option linter.unusedSimpArgs false
namespace Go.Proofs.YtalaegjdldllfaaGreatDoor
set_option maxRecDepth 1000000
theorem d0_run : (runC (EC [215] []) 20000 d0.n [callFr d0.g Tryz.f118.ntmps d0.l (bdy 118)] d0.ms).vc (retOk d0.n [(2, 2)] d0.s0 d0.ms') (fun _ _ => False) = allP (selfR d0.n [(2, 2)] d0.s0 d0.ms') := by kernel_rfl
theorem d0_ok : d0.Ok := CC.mk_ok (ro := [215]) (L := []) okN d0 (fn := Tryz.f118) (b := bdy 118) (by kernel_rfl) (by kernel_rfl) (by kernel_rfl) (by kernel_rfl) d0_run
theorem d1_run : (runC (EC [215] []) 20000 d1.n [callFr d1.g Tryz.f119.ntmps d1.l (bdy 119)] d1.ms).vc (retOk d1.n [] d1.s0 d1.ms') (fun _ _ => False) = allP (selfR d1.n [] d1.s0 d1.ms') := by kernel_rfl
theorem d1_ok : d1.Ok := CC.mk_ok (ro := [215]) (L := []) okN d1 (fn := Tryz.f119) (b := bdy 119) (by kernel_rfl) (by kernel_rfl) (by kernel_rfl) (by kernel_rfl) d1_run
theorem d4_run : (runC (EC [215] []) 20000 d4.n [callFr d4.g Tryz.f126.ntmps d4.l (bdy 126)] d4.ms).vc (retOk d4.n [] d4.s0 d4.ms') (fun _ _ => False) = allP (selfR d4.n [] d4.s0 d4.ms') := by kernel_rfl
theorem d4_ok : d4.Ok := CC.mk_ok (ro := [215]) (L := []) okN d4 (fn := Tryz.f126) (b := bdy 126) (by kernel_rfl) (by kernel_rfl) (by kernel_rfl) (by kernel_rfl) d4_run
theorem d5_run : (runC (EC [215] []) 20000 d5.n [callFr d5.g Tryz.f126.ntmps d5.l (bdy 126)] d5.ms).vc (retOk d5.n [] d5.s0 d5.ms') (fun _ _ => False) = allP (selfR d5.n [] d5.s0 d5.ms') := by kernel_rfl
theorem d5_ok : d5.Ok := CC.mk_ok (ro := [215]) (L := []) okN d5 (fn := Tryz.f126) (b := bdy 126) (by kernel_rfl) (by kernel_rfl) (by kernel_rfl) (by kernel_rfl) d5_run
theorem d7_run : (runC (EC [215] []) 20000 d7.n [callFr d7.g Tryz.f126.ntmps d7.l (bdy 126)] d7.ms).vc (retOk d7.n [(363, 363)] d7.s0 d7.ms') (fun _ _ => False) = allP (selfR d7.n [(363, 363)] d7.s0 d7.ms') := by kernel_rfl
theorem d7_ok : d7.Ok := CC.mk_ok (ro := [215]) (L := []) okN d7 (fn := Tryz.f126) (b := bdy 126) (by kernel_rfl) (by kernel_rfl) (by kernel_rfl) (by kernel_rfl) d7_run
theorem d8_run : (runC (EC [215] []) 20000 d8.n [callFr d8.g Tryz.f126.ntmps d8.l (bdy 126)] d8.ms).vc (retOk d8.n [] d8.s0 d8.ms') (fun _ _ => False) = allP (selfR d8.n [] d8.s0 d8.ms') := by kernel_rfl
theorem d8_ok : d8.Ok := CC.mk_ok (ro := [215]) (L := []) okN d8 (fn := Tryz.f126) (b := bdy 126) (by kernel_rfl) (by kernel_rfl) (by kernel_rfl) (by kernel_rfl) d8_run
theorem d9_run : (runC (EC [215] []) 20000 d9.n [callFr d9.g Tryz.f126.ntmps d9.l (bdy 126)] d9.ms).vc (retOk d9.n [(385, 385)] d9.s0 d9.ms') (fun _ _ => False) = allP (selfR d9.n [(385, 385)] d9.s0 d9.ms') := by kernel_rfl
theorem d9_ok : d9.Ok := CC.mk_ok (ro := [215]) (L := []) okN d9 (fn := Tryz.f126) (b := bdy 126) (by kernel_rfl) (by kernel_rfl) (by kernel_rfl) (by kernel_rfl) d9_run
theorem d10_run : (runC (EC [215] []) 20000 d10.n [callFr d10.g Tryz.f126.ntmps d10.l (bdy 126)] d10.ms).vc (retOk d10.n [(503, 503)] d10.s0 d10.ms') (fun _ _ => False) = allP (selfR d10.n [(503, 503)] d10.s0 d10.ms') := by kernel_rfl
theorem d10_ok : d10.Ok := CC.mk_ok (ro := [215]) (L := []) okN d10 (fn := Tryz.f126) (b := bdy 126) (by kernel_rfl) (by kernel_rfl) (by kernel_rfl) (by kernel_rfl) d10_run
theorem d11_run : (runC (EC [215] []) 20000 d11.n [callFr d11.g Tryz.f126.ntmps d11.l (bdy 126)] d11.ms).vc (retOk d11.n [(764, 764)] d11.s0 d11.ms') (fun _ _ => False) = allP (selfR d11.n [(764, 764)] d11.s0 d11.ms') := by kernel_rfl
theorem d11_ok : d11.Ok := CC.mk_ok (ro := [215]) (L := []) okN d11 (fn := Tryz.f126) (b := bdy 126) (by kernel_rfl) (by kernel_rfl) (by kernel_rfl) (by kernel_rfl) d11_run
theorem d15_run : (runC (EC [215] []) 20000 d15.n [callFr d15.g Tryz.f126.ntmps d15.l (bdy 126)] d15.ms).vc (retOk d15.n [(1007, 1007)] d15.s0 d15.ms') (fun _ _ => False) = allP (selfR d15.n [(1007, 1007)] d15.s0 d15.ms') := by kernel_rfl
theorem d15_ok : d15.Ok := CC.mk_ok (ro := [215]) (L := []) okN d15 (fn := Tryz.f126) (b := bdy 126) (by kernel_rfl) (by kernel_rfl) (by kernel_rfl) (by kernel_rfl) d15_run
theorem d16_run : (runC (EC [215] []) 20000 d16.n [callFr d16.g Tryz.f126.ntmps d16.l (bdy 126)] d16.ms).vc (retOk d16.n [] d16.s0 d16.ms') (fun _ _ => False) = allP (selfR d16.n [] d16.s0 d16.ms') := by kernel_rfl
theorem d16_ok : d16.Ok := CC.mk_ok (ro := [215]) (L := []) okN d16 (fn := Tryz.f126) (b := bdy 126) (by kernel_rfl) (by kernel_rfl) (by kernel_rfl) (by kernel_rfl) d16_run
theorem d17_run : (runC (EC [215] []) 20000 d17.n [callFr d17.g Tryz.f126.ntmps d17.l (bdy 126)] d17.ms).vc (retOk d17.n [] d17.s0 d17.ms') (fun _ _ => False) = allP (selfR d17.n [] d17.s0 d17.ms') := by kernel_rfl
theorem d17_ok : d17.Ok := CC.mk_ok (ro := [215]) (L := []) okN d17 (fn := Tryz.f126) (b := bdy 126) (by kernel_rfl) (by kernel_rfl) (by kernel_rfl) (by kernel_rfl) d17_run
theorem d19_run : (runC (EC [215] []) 20000 d19.n [callFr d19.g Tryz.f126.ntmps d19.l (bdy 126)] d19.ms).vc (retOk d19.n [(1473, 1473)] d19.s0 d19.ms') (fun _ _ => False) = allP (selfR d19.n [(1473, 1473)] d19.s0 d19.ms') := by kernel_rfl
theorem d19_ok : d19.Ok := CC.mk_ok (ro := [215]) (L := []) okN d19 (fn := Tryz.f126) (b := bdy 126) (by kernel_rfl) (by kernel_rfl) (by kernel_rfl) (by kernel_rfl) d19_run
theorem d20_run : (runC (EC [215] []) 20000 d20.n [callFr d20.g Tryz.f126.ntmps d20.l (bdy 126)] d20.ms).vc (retOk d20.n [] d20.s0 d20.ms') (fun _ _ => False) = allP (selfR d20.n [] d20.s0 d20.ms') := by kernel_rfl
theorem d20_ok : d20.Ok := CC.mk_ok (ro := [215]) (L := []) okN d20 (fn := Tryz.f126) (b := bdy 126) (by kernel_rfl) (by kernel_rfl) (by kernel_rfl) (by kernel_rfl) d20_run
theorem d21_run : (runC (EC [215] []) 20000 d21.n [callFr d21.g Tryz.f126.ntmps d21.l (bdy 126)] d21.ms).vc (retOk d21.n [] d21.s0 d21.ms') (fun _ _ => False) = allP (selfR d21.n [] d21.s0 d21.ms') := by kernel_rfl
theorem d21_ok : d21.Ok := CC.mk_ok (ro := [215]) (L := []) okN d21 (fn := Tryz.f126) (b := bdy 126) (by kernel_rfl) (by kernel_rfl) (by kernel_rfl) (by kernel_rfl) d21_run
theorem d23_run : (runC (EC [215] []) 20000 d23.n [callFr d23.g Tryz.f126.ntmps d23.l (bdy 126)] d23.ms).vc (retOk d23.n [(1939, 1939)] d23.s0 d23.ms') (fun _ _ => False) = allP (selfR d23.n [(1939, 1939)] d23.s0 d23.ms') := by kernel_rfl
theorem d23_ok : d23.Ok := CC.mk_ok (ro := [215]) (L := []) okN d23 (fn := Tryz.f126) (b := bdy 126) (by kernel_rfl) (by kernel_rfl) (by kernel_rfl) (by kernel_rfl) d23_run
theorem d24_run : (runC (EC [215] []) 20000 d24.n [callFr d24.g Tryz.f126.ntmps d24.l (bdy 126)] d24.ms).vc (retOk d24.n [] d24.s0 d24.ms') (fun _ _ => False) = allP (selfR d24.n [] d24.s0 d24.ms') := by kernel_rfl
theorem d24_ok : d24.Ok := CC.mk_ok (ro := [215]) (L := []) okN d24 (fn := Tryz.f126) (b := bdy 126) (by kernel_rfl) (by kernel_rfl) (by kernel_rfl) (by kernel_rfl) d24_run
theorem d25_run : (runC (EC [215] []) 20000 d25.n [callFr d25.g Tryz.f126.ntmps d25.l (bdy 126)] d25.ms).vc (retOk d25.n [] d25.s0 d25.ms') (fun _ _ => False) = allP (selfR d25.n [] d25.s0 d25.ms') := by kernel_rfl
theorem d25_ok : d25.Ok := CC.mk_ok (ro := [215]) (L := []) okN d25 (fn := Tryz.f126) (b := bdy 126) (by kernel_rfl) (by kernel_rfl) (by kernel_rfl) (by kernel_rfl) d25_run
theorem d27_run : (runC (EC [215] []) 20000 d27.n [callFr d27.g Tryz.f126.ntmps d27.l (bdy 126)] d27.ms).vc (retOk d27.n [(2407, 2407)] d27.s0 d27.ms') (fun _ _ => False) = allP (selfR d27.n [(2407, 2407)] d27.s0 d27.ms') := by kernel_rfl
theorem d27_ok : d27.Ok := CC.mk_ok (ro := [215]) (L := []) okN d27 (fn := Tryz.f126) (b := bdy 126) (by kernel_rfl) (by kernel_rfl) (by kernel_rfl) (by kernel_rfl) d27_run
theorem d28_run : (runC (EC [215] []) 20000 d28.n [callFr d28.g Tryz.f126.ntmps d28.l (bdy 126)] d28.ms).vc (retOk d28.n [] d28.s0 d28.ms') (fun _ _ => False) = allP (selfR d28.n [] d28.s0 d28.ms') := by kernel_rfl
theorem d28_ok : d28.Ok := CC.mk_ok (ro := [215]) (L := []) okN d28 (fn := Tryz.f126) (b := bdy 126) (by kernel_rfl) (by kernel_rfl) (by kernel_rfl) (by kernel_rfl) d28_run
theorem d29_run : (runC (EC [215] []) 20000 d29.n [callFr d29.g Tryz.f126.ntmps d29.l (bdy 126)] d29.ms).vc (retOk d29.n [(2429, 2429)] d29.s0 d29.ms') (fun _ _ => False) = allP (selfR d29.n [(2429, 2429)] d29.s0 d29.ms') := by kernel_rfl
theorem d29_ok : d29.Ok := CC.mk_ok (ro := [215]) (L := []) okN d29 (fn := Tryz.f126) (b := bdy 126) (by kernel_rfl) (by kernel_rfl) (by kernel_rfl) (by kernel_rfl) d29_run
theorem d30_run : (runC (EC [215] []) 20000 d30.n [callFr d30.g Tryz.f126.ntmps d30.l (bdy 126)] d30.ms).vc (retOk d30.n [(2553, 2553)] d30.s0 d30.ms') (fun _ _ => False) = allP (selfR d30.n [(2553, 2553)] d30.s0 d30.ms') := by kernel_rfl
theorem d30_ok : d30.Ok := CC.mk_ok (ro := [215]) (L := []) okN d30 (fn := Tryz.f126) (b := bdy 126) (by kernel_rfl) (by kernel_rfl) (by kernel_rfl) (by kernel_rfl) d30_run
theorem d31_run : (runC (EC [215] []) 20000 d31.n [callFr d31.g Tryz.f126.ntmps d31.l (bdy 126)] d31.ms).vc (retOk d31.n [(2864, 2864)] d31.s0 d31.ms') (fun _ _ => False) = allP (selfR d31.n [(2864, 2864)] d31.s0 d31.ms') := by kernel_rfl
theorem d31_ok : d31.Ok := CC.mk_ok (ro := [215]) (L := []) okN d31 (fn := Tryz.f126) (b := bdy 126) (by kernel_rfl) (by kernel_rfl) (by kernel_rfl) (by kernel_rfl) d31_run
theorem d33_run : (runC (EC [215] []) 20000 d33.n [callFr d33.g Tryz.f126.ntmps d33.l (bdy 126)] d33.ms).vc (retOk d33.n [(3099, 3099)] d33.s0 d33.ms') (fun _ _ => False) = allP (selfR d33.n [(3099, 3099)] d33.s0 d33.ms') := by kernel_rfl
theorem d33_ok : d33.Ok := CC.mk_ok (ro := [215]) (L := []) okN d33 (fn := Tryz.f126) (b := bdy 126) (by kernel_rfl) (by kernel_rfl) (by kernel_rfl) (by kernel_rfl) d33_run
theorem d34_run : (runC (EC [215] []) 20000 d34.n [callFr d34.g Tryz.f126.ntmps d34.l (bdy 126)] d34.ms).vc (retOk d34.n [] d34.s0 d34.ms') (fun _ _ => False) = allP (selfR d34.n [] d34.s0 d34.ms') := by kernel_rfl
theorem d34_ok : d34.Ok := CC.mk_ok (ro := [215]) (L := []) okN d34 (fn := Tryz.f126) (b := bdy 126) (by kernel_rfl) (by kernel_rfl) (by kernel_rfl) (by kernel_rfl) d34_run
theorem d35_run : (runC (EC [215] []) 20000 d35.n [callFr d35.g Tryz.f126.ntmps d35.l (bdy 126)] d35.ms).vc (retOk d35.n [] d35.s0 d35.ms') (fun _ _ => False) = allP (selfR d35.n [] d35.s0 d35.ms') := by kernel_rfl
theorem d35_ok : d35.Ok := CC.mk_ok (ro := [215]) (L := []) okN d35 (fn := Tryz.f126) (b := bdy 126) (by kernel_rfl) (by kernel_rfl) (by kernel_rfl) (by kernel_rfl) d35_run
theorem d37_run : (runC (EC [215] []) 20000 d37.n [callFr d37.g Tryz.f126.ntmps d37.l (bdy 126)] d37.ms).vc (retOk d37.n [(3582, 3582)] d37.s0 d37.ms') (fun _ _ => False) = allP (selfR d37.n [(3582, 3582)] d37.s0 d37.ms') := by kernel_rfl
theorem d37_ok : d37.Ok := CC.mk_ok (ro := [215]) (L := []) okN d37 (fn := Tryz.f126) (b := bdy 126) (by kernel_rfl) (by kernel_rfl) (by kernel_rfl) (by kernel_rfl) d37_run
theorem d38_run : (runC (EC [215] []) 20000 d38.n [callFr d38.g Tryz.f126.ntmps d38.l (bdy 126)] d38.ms).vc (retOk d38.n [] d38.s0 d38.ms') (fun _ _ => False) = allP (selfR d38.n [] d38.s0 d38.ms') := by kernel_rfl
theorem d38_ok : d38.Ok := CC.mk_ok (ro := [215]) (L := []) okN d38 (fn := Tryz.f126) (b := bdy 126) (by kernel_rfl) (by kernel_rfl) (by kernel_rfl) (by kernel_rfl) d38_run
theorem d39_run : (runC (EC [215] []) 20000 d39.n [callFr d39.g Tryz.f126.ntmps d39.l (bdy 126)] d39.ms).vc (retOk d39.n [] d39.s0 d39.ms') (fun _ _ => False) = allP (selfR d39.n [] d39.s0 d39.ms') := by kernel_rfl
theorem d39_ok : d39.Ok := CC.mk_ok (ro := [215]) (L := []) okN d39 (fn := Tryz.f126) (b := bdy 126) (by kernel_rfl) (by kernel_rfl) (by kernel_rfl) (by kernel_rfl) d39_run
theorem d41_run : (runC (EC [215] []) 20000 d41.n [callFr d41.g Tryz.f126.ntmps d41.l (bdy 126)] d41.ms).vc (retOk d41.n [(4066, 4066)] d41.s0 d41.ms') (fun _ _ => False) = allP (selfR d41.n [(4066, 4066)] d41.s0 d41.ms') := by kernel_rfl
theorem d41_ok : d41.Ok := CC.mk_ok (ro := [215]) (L := []) okN d41 (fn := Tryz.f126) (b := bdy 126) (by kernel_rfl) (by kernel_rfl) (by kernel_rfl) (by kernel_rfl) d41_run
theorem d42_run : (runC (EC [215] []) 20000 d42.n [callFr d42.g Tryz.f126.ntmps d42.l (bdy 126)] d42.ms).vc (retOk d42.n [] d42.s0 d42.ms') (fun _ _ => False) = allP (selfR d42.n [] d42.s0 d42.ms') := by kernel_rfl
theorem d42_ok : d42.Ok := CC.mk_ok (ro := [215]) (L := []) okN d42 (fn := Tryz.f126) (b := bdy 126) (by kernel_rfl) (by kernel_rfl) (by kernel_rfl) (by kernel_rfl) d42_run
theorem d43_run : (runC (EC [215] []) 20000 d43.n [callFr d43.g Tryz.f126.ntmps d43.l (bdy 126)] d43.ms).vc (retOk d43.n [] d43.s0 d43.ms') (fun _ _ => False) = allP (selfR d43.n [] d43.s0 d43.ms') := by kernel_rfl
theorem d43_ok : d43.Ok := CC.mk_ok (ro := [215]) (L := []) okN d43 (fn := Tryz.f126) (b := bdy 126) (by kernel_rfl) (by kernel_rfl) (by kernel_rfl) (by kernel_rfl) d43_run
theorem d45_run : (runC (EC [215] []) 20000 d45.n [callFr d45.g Tryz.f126.ntmps d45.l (bdy 126)] d45.ms).vc (retOk d45.n [(4532, 4532)] d45.s0 d45.ms') (fun _ _ => False) = allP (selfR d45.n [(4532, 4532)] d45.s0 d45.ms') := by kernel_rfl
theorem d45_ok : d45.Ok := CC.mk_ok (ro := [215]) (L := []) okN d45 (fn := Tryz.f126) (b := bdy 126) (by kernel_rfl) (by kernel_rfl) (by kernel_rfl) (by kernel_rfl) d45_run
theorem d46_run : (runC (EC [215] []) 20000 d46.n [callFr d46.g Tryz.f126.ntmps d46.l (bdy 126)] d46.ms).vc (retOk d46.n [] d46.s0 d46.ms') (fun _ _ => False) = allP (selfR d46.n [] d46.s0 d46.ms') := by kernel_rfl
theorem d46_ok : d46.Ok := CC.mk_ok (ro := [215]) (L := []) okN d46 (fn := Tryz.f126) (b := bdy 126) (by kernel_rfl) (by kernel_rfl) (by kernel_rfl) (by kernel_rfl) d46_run
theorem d47_run : (runC (EC [215] []) 20000 d47.n [callFr d47.g Tryz.f126.ntmps d47.l (bdy 126)] d47.ms).vc (retOk d47.n [] d47.s0 d47.ms') (fun _ _ => False) = allP (selfR d47.n [] d47.s0 d47.ms') := by kernel_rfl
theorem d47_ok : d47.Ok := CC.mk_ok (ro := [215]) (L := []) okN d47 (fn := Tryz.f126) (b := bdy 126) (by kernel_rfl) (by kernel_rfl) (by kernel_rfl) (by kernel_rfl) d47_run
theorem d49_run : (runC (EC [215] []) 20000 d49.n [callFr d49.g Tryz.f126.ntmps d49.l (bdy 126)] d49.ms).vc (retOk d49.n [(4999, 4999)] d49.s0 d49.ms') (fun _ _ => False) = allP (selfR d49.n [(4999, 4999)] d49.s0 d49.ms') := by kernel_rfl
theorem d49_ok : d49.Ok := CC.mk_ok (ro := [215]) (L := []) okN d49 (fn := Tryz.f126) (b := bdy 126) (by kernel_rfl) (by kernel_rfl) (by kernel_rfl) (by kernel_rfl) d49_run
theorem d50_run : (runC (EC [215] []) 20000 d50.n [callFr d50.g Tryz.f126.ntmps d50.l (bdy 126)] d50.ms).vc (retOk d50.n [] d50.s0 d50.ms') (fun _ _ => False) = allP (selfR d50.n [] d50.s0 d50.ms') := by kernel_rfl
theorem d50_ok : d50.Ok := CC.mk_ok (ro := [215]) (L := []) okN d50 (fn := Tryz.f126) (b := bdy 126) (by kernel_rfl) (by kernel_rfl) (by kernel_rfl) (by kernel_rfl) d50_run
theorem d51_run : (runC (EC [215] []) 20000 d51.n [callFr d51.g Tryz.f126.ntmps d51.l (bdy 126)] d51.ms).vc (retOk d51.n [] d51.s0 d51.ms') (fun _ _ => False) = allP (selfR d51.n [] d51.s0 d51.ms') := by kernel_rfl
theorem d51_ok : d51.Ok := CC.mk_ok (ro := [215]) (L := []) okN d51 (fn := Tryz.f126) (b := bdy 126) (by kernel_rfl) (by kernel_rfl) (by kernel_rfl) (by kernel_rfl) d51_run
theorem d53_run : (runC (EC [215] []) 20000 d53.n [callFr d53.g Tryz.f126.ntmps d53.l (bdy 126)] d53.ms).vc (retOk d53.n [(5466, 5466)] d53.s0 d53.ms') (fun _ _ => False) = allP (selfR d53.n [(5466, 5466)] d53.s0 d53.ms') := by kernel_rfl
theorem d53_ok : d53.Ok := CC.mk_ok (ro := [215]) (L := []) okN d53 (fn := Tryz.f126) (b := bdy 126) (by kernel_rfl) (by kernel_rfl) (by kernel_rfl) (by kernel_rfl) d53_run
end Go.Proofs.YtalaegjdldllfaaGreatDoor
