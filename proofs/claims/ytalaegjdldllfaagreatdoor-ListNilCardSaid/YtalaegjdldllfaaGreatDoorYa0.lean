/- Of a closed run: its calls do what is told of them. No condition. -/
import Derived.Test.YtalaegjdldllfaaGreatDoorXa
set_option linter.unusedVariables false
set_option linter.unusedSimpArgs false
namespace Go.Proofs.YtalaegjdldllfaaGreatDoor
set_option maxRecDepth 1000000
theorem a0_run : (runC (EC [215] []) 20000 a0.n [callFr a0.g Tryz.f118.ntmps a0.l (bdy 118)] a0.ms).vc (retOk a0.n [(2, 2)] a0.s0 a0.ms') (fun _ _ => False) = allP (selfR a0.n [(2, 2)] a0.s0 a0.ms') := by kernel_rfl
theorem a0_ok : a0.Ok := CC.mk_ok (ro := [215]) (L := []) okN a0 (fn := Tryz.f118) (b := bdy 118) (by kernel_rfl) (by kernel_rfl) (by kernel_rfl) (by kernel_rfl) a0_run
theorem a1_run : (runC (EC [215] []) 20000 a1.n [callFr a1.g Tryz.f119.ntmps a1.l (bdy 119)] a1.ms).vc (retOk a1.n [] a1.s0 a1.ms') (fun _ _ => False) = allP (selfR a1.n [] a1.s0 a1.ms') := by kernel_rfl
theorem a1_ok : a1.Ok := CC.mk_ok (ro := [215]) (L := []) okN a1 (fn := Tryz.f119) (b := bdy 119) (by kernel_rfl) (by kernel_rfl) (by kernel_rfl) (by kernel_rfl) a1_run
theorem a4_run : (runC (EC [215] []) 20000 a4.n [callFr a4.g Tryz.f126.ntmps a4.l (bdy 126)] a4.ms).vc (retOk a4.n [] a4.s0 a4.ms') (fun _ _ => False) = allP (selfR a4.n [] a4.s0 a4.ms') := by kernel_rfl
theorem a4_ok : a4.Ok := CC.mk_ok (ro := [215]) (L := []) okN a4 (fn := Tryz.f126) (b := bdy 126) (by kernel_rfl) (by kernel_rfl) (by kernel_rfl) (by kernel_rfl) a4_run
theorem a5_run : (runC (EC [215] []) 20000 a5.n [callFr a5.g Tryz.f126.ntmps a5.l (bdy 126)] a5.ms).vc (retOk a5.n [] a5.s0 a5.ms') (fun _ _ => False) = allP (selfR a5.n [] a5.s0 a5.ms') := by kernel_rfl
theorem a5_ok : a5.Ok := CC.mk_ok (ro := [215]) (L := []) okN a5 (fn := Tryz.f126) (b := bdy 126) (by kernel_rfl) (by kernel_rfl) (by kernel_rfl) (by kernel_rfl) a5_run
theorem a7_run : (runC (EC [215] []) 20000 a7.n [callFr a7.g Tryz.f126.ntmps a7.l (bdy 126)] a7.ms).vc (retOk a7.n [(363, 363)] a7.s0 a7.ms') (fun _ _ => False) = allP (selfR a7.n [(363, 363)] a7.s0 a7.ms') := by kernel_rfl
theorem a7_ok : a7.Ok := CC.mk_ok (ro := [215]) (L := []) okN a7 (fn := Tryz.f126) (b := bdy 126) (by kernel_rfl) (by kernel_rfl) (by kernel_rfl) (by kernel_rfl) a7_run
theorem a8_run : (runC (EC [215] []) 20000 a8.n [callFr a8.g Tryz.f126.ntmps a8.l (bdy 126)] a8.ms).vc (retOk a8.n [] a8.s0 a8.ms') (fun _ _ => False) = allP (selfR a8.n [] a8.s0 a8.ms') := by kernel_rfl
theorem a8_ok : a8.Ok := CC.mk_ok (ro := [215]) (L := []) okN a8 (fn := Tryz.f126) (b := bdy 126) (by kernel_rfl) (by kernel_rfl) (by kernel_rfl) (by kernel_rfl) a8_run
theorem a9_run : (runC (EC [215] []) 20000 a9.n [callFr a9.g Tryz.f126.ntmps a9.l (bdy 126)] a9.ms).vc (retOk a9.n [(385, 385)] a9.s0 a9.ms') (fun _ _ => False) = allP (selfR a9.n [(385, 385)] a9.s0 a9.ms') := by kernel_rfl
theorem a9_ok : a9.Ok := CC.mk_ok (ro := [215]) (L := []) okN a9 (fn := Tryz.f126) (b := bdy 126) (by kernel_rfl) (by kernel_rfl) (by kernel_rfl) (by kernel_rfl) a9_run
theorem a10_run : (runC (EC [215] []) 20000 a10.n [callFr a10.g Tryz.f126.ntmps a10.l (bdy 126)] a10.ms).vc (retOk a10.n [(503, 503)] a10.s0 a10.ms') (fun _ _ => False) = allP (selfR a10.n [(503, 503)] a10.s0 a10.ms') := by kernel_rfl
theorem a10_ok : a10.Ok := CC.mk_ok (ro := [215]) (L := []) okN a10 (fn := Tryz.f126) (b := bdy 126) (by kernel_rfl) (by kernel_rfl) (by kernel_rfl) (by kernel_rfl) a10_run
theorem a11_run : (runC (EC [215] []) 20000 a11.n [callFr a11.g Tryz.f126.ntmps a11.l (bdy 126)] a11.ms).vc (retOk a11.n [(764, 764)] a11.s0 a11.ms') (fun _ _ => False) = allP (selfR a11.n [(764, 764)] a11.s0 a11.ms') := by kernel_rfl
theorem a11_ok : a11.Ok := CC.mk_ok (ro := [215]) (L := []) okN a11 (fn := Tryz.f126) (b := bdy 126) (by kernel_rfl) (by kernel_rfl) (by kernel_rfl) (by kernel_rfl) a11_run
theorem a14_run : (runC (EC [215] []) 20000 a14.n [callFr a14.g Tryz.f126.ntmps a14.l (bdy 126)] a14.ms).vc (retOk a14.n [(1008, 1008)] a14.s0 a14.ms') (fun _ _ => False) = allP (selfR a14.n [(1008, 1008)] a14.s0 a14.ms') := by kernel_rfl
theorem a14_ok : a14.Ok := CC.mk_ok (ro := [215]) (L := []) okN a14 (fn := Tryz.f126) (b := bdy 126) (by kernel_rfl) (by kernel_rfl) (by kernel_rfl) (by kernel_rfl) a14_run
theorem a15_run : (runC (EC [215] []) 20000 a15.n [callFr a15.g Tryz.f126.ntmps a15.l (bdy 126)] a15.ms).vc (retOk a15.n [] a15.s0 a15.ms') (fun _ _ => False) = allP (selfR a15.n [] a15.s0 a15.ms') := by kernel_rfl
theorem a15_ok : a15.Ok := CC.mk_ok (ro := [215]) (L := []) okN a15 (fn := Tryz.f126) (b := bdy 126) (by kernel_rfl) (by kernel_rfl) (by kernel_rfl) (by kernel_rfl) a15_run
theorem a16_run : (runC (EC [215] []) 20000 a16.n [callFr a16.g Tryz.f126.ntmps a16.l (bdy 126)] a16.ms).vc (retOk a16.n [] a16.s0 a16.ms') (fun _ _ => False) = allP (selfR a16.n [] a16.s0 a16.ms') := by kernel_rfl
theorem a16_ok : a16.Ok := CC.mk_ok (ro := [215]) (L := []) okN a16 (fn := Tryz.f126) (b := bdy 126) (by kernel_rfl) (by kernel_rfl) (by kernel_rfl) (by kernel_rfl) a16_run
theorem a18_run : (runC (EC [215] []) 20000 a18.n [callFr a18.g Tryz.f126.ntmps a18.l (bdy 126)] a18.ms).vc (retOk a18.n [(1479, 1479)] a18.s0 a18.ms') (fun _ _ => False) = allP (selfR a18.n [(1479, 1479)] a18.s0 a18.ms') := by kernel_rfl
theorem a18_ok : a18.Ok := CC.mk_ok (ro := [215]) (L := []) okN a18 (fn := Tryz.f126) (b := bdy 126) (by kernel_rfl) (by kernel_rfl) (by kernel_rfl) (by kernel_rfl) a18_run
theorem a19_run : (runC (EC [215] []) 20000 a19.n [callFr a19.g Tryz.f126.ntmps a19.l (bdy 126)] a19.ms).vc (retOk a19.n [] a19.s0 a19.ms') (fun _ _ => False) = allP (selfR a19.n [] a19.s0 a19.ms') := by kernel_rfl
theorem a19_ok : a19.Ok := CC.mk_ok (ro := [215]) (L := []) okN a19 (fn := Tryz.f126) (b := bdy 126) (by kernel_rfl) (by kernel_rfl) (by kernel_rfl) (by kernel_rfl) a19_run
theorem a20_run : (runC (EC [215] []) 20000 a20.n [callFr a20.g Tryz.f126.ntmps a20.l (bdy 126)] a20.ms).vc (retOk a20.n [(1501, 1501)] a20.s0 a20.ms') (fun _ _ => False) = allP (selfR a20.n [(1501, 1501)] a20.s0 a20.ms') := by kernel_rfl
theorem a20_ok : a20.Ok := CC.mk_ok (ro := [215]) (L := []) okN a20 (fn := Tryz.f126) (b := bdy 126) (by kernel_rfl) (by kernel_rfl) (by kernel_rfl) (by kernel_rfl) a20_run
theorem a21_run : (runC (EC [215] []) 20000 a21.n [callFr a21.g Tryz.f126.ntmps a21.l (bdy 126)] a21.ms).vc (retOk a21.n [(1625, 1625)] a21.s0 a21.ms') (fun _ _ => False) = allP (selfR a21.n [(1625, 1625)] a21.s0 a21.ms') := by kernel_rfl
theorem a21_ok : a21.Ok := CC.mk_ok (ro := [215]) (L := []) okN a21 (fn := Tryz.f126) (b := bdy 126) (by kernel_rfl) (by kernel_rfl) (by kernel_rfl) (by kernel_rfl) a21_run
theorem a22_run : (runC (EC [215] []) 20000 a22.n [callFr a22.g Tryz.f126.ntmps a22.l (bdy 126)] a22.ms).vc (retOk a22.n [(1936, 1936)] a22.s0 a22.ms') (fun _ _ => False) = allP (selfR a22.n [(1936, 1936)] a22.s0 a22.ms') := by kernel_rfl
theorem a22_ok : a22.Ok := CC.mk_ok (ro := [215]) (L := []) okN a22 (fn := Tryz.f126) (b := bdy 126) (by kernel_rfl) (by kernel_rfl) (by kernel_rfl) (by kernel_rfl) a22_run
theorem a24_run : (runC (EC [215] []) 20000 a24.n [callFr a24.g Tryz.f126.ntmps a24.l (bdy 126)] a24.ms).vc (retOk a24.n [(2173, 2173)] a24.s0 a24.ms') (fun _ _ => False) = allP (selfR a24.n [(2173, 2173)] a24.s0 a24.ms') := by kernel_rfl
theorem a24_ok : a24.Ok := CC.mk_ok (ro := [215]) (L := []) okN a24 (fn := Tryz.f126) (b := bdy 126) (by kernel_rfl) (by kernel_rfl) (by kernel_rfl) (by kernel_rfl) a24_run
theorem a25_run : (runC (EC [215] []) 20000 a25.n [callFr a25.g Tryz.f126.ntmps a25.l (bdy 126)] a25.ms).vc (retOk a25.n [] a25.s0 a25.ms') (fun _ _ => False) = allP (selfR a25.n [] a25.s0 a25.ms') := by kernel_rfl
theorem a25_ok : a25.Ok := CC.mk_ok (ro := [215]) (L := []) okN a25 (fn := Tryz.f126) (b := bdy 126) (by kernel_rfl) (by kernel_rfl) (by kernel_rfl) (by kernel_rfl) a25_run
theorem a26_run : (runC (EC [215] []) 20000 a26.n [callFr a26.g Tryz.f126.ntmps a26.l (bdy 126)] a26.ms).vc (retOk a26.n [] a26.s0 a26.ms') (fun _ _ => False) = allP (selfR a26.n [] a26.s0 a26.ms') := by kernel_rfl
theorem a26_ok : a26.Ok := CC.mk_ok (ro := [215]) (L := []) okN a26 (fn := Tryz.f126) (b := bdy 126) (by kernel_rfl) (by kernel_rfl) (by kernel_rfl) (by kernel_rfl) a26_run
theorem a28_run : (runC (EC [215] []) 20000 a28.n [callFr a28.g Tryz.f126.ntmps a28.l (bdy 126)] a28.ms).vc (retOk a28.n [(2643, 2643)] a28.s0 a28.ms') (fun _ _ => False) = allP (selfR a28.n [(2643, 2643)] a28.s0 a28.ms') := by kernel_rfl
theorem a28_ok : a28.Ok := CC.mk_ok (ro := [215]) (L := []) okN a28 (fn := Tryz.f126) (b := bdy 126) (by kernel_rfl) (by kernel_rfl) (by kernel_rfl) (by kernel_rfl) a28_run
theorem a29_run : (runC (EC [215] []) 20000 a29.n [callFr a29.g Tryz.f126.ntmps a29.l (bdy 126)] a29.ms).vc (retOk a29.n [] a29.s0 a29.ms') (fun _ _ => False) = allP (selfR a29.n [] a29.s0 a29.ms') := by kernel_rfl
theorem a29_ok : a29.Ok := CC.mk_ok (ro := [215]) (L := []) okN a29 (fn := Tryz.f126) (b := bdy 126) (by kernel_rfl) (by kernel_rfl) (by kernel_rfl) (by kernel_rfl) a29_run
theorem a30_run : (runC (EC [215] []) 20000 a30.n [callFr a30.g Tryz.f126.ntmps a30.l (bdy 126)] a30.ms).vc (retOk a30.n [] a30.s0 a30.ms') (fun _ _ => False) = allP (selfR a30.n [] a30.s0 a30.ms') := by kernel_rfl
theorem a30_ok : a30.Ok := CC.mk_ok (ro := [215]) (L := []) okN a30 (fn := Tryz.f126) (b := bdy 126) (by kernel_rfl) (by kernel_rfl) (by kernel_rfl) (by kernel_rfl) a30_run
theorem a32_run : (runC (EC [215] []) 20000 a32.n [callFr a32.g Tryz.f126.ntmps a32.l (bdy 126)] a32.ms).vc (retOk a32.n [(3129, 3129)] a32.s0 a32.ms') (fun _ _ => False) = allP (selfR a32.n [(3129, 3129)] a32.s0 a32.ms') := by kernel_rfl
theorem a32_ok : a32.Ok := CC.mk_ok (ro := [215]) (L := []) okN a32 (fn := Tryz.f126) (b := bdy 126) (by kernel_rfl) (by kernel_rfl) (by kernel_rfl) (by kernel_rfl) a32_run
theorem a33_run : (runC (EC [215] []) 20000 a33.n [callFr a33.g Tryz.f126.ntmps a33.l (bdy 126)] a33.ms).vc (retOk a33.n [] a33.s0 a33.ms') (fun _ _ => False) = allP (selfR a33.n [] a33.s0 a33.ms') := by kernel_rfl
theorem a33_ok : a33.Ok := CC.mk_ok (ro := [215]) (L := []) okN a33 (fn := Tryz.f126) (b := bdy 126) (by kernel_rfl) (by kernel_rfl) (by kernel_rfl) (by kernel_rfl) a33_run
theorem a34_run : (runC (EC [215] []) 20000 a34.n [callFr a34.g Tryz.f126.ntmps a34.l (bdy 126)] a34.ms).vc (retOk a34.n [] a34.s0 a34.ms') (fun _ _ => False) = allP (selfR a34.n [] a34.s0 a34.ms') := by kernel_rfl
theorem a34_ok : a34.Ok := CC.mk_ok (ro := [215]) (L := []) okN a34 (fn := Tryz.f126) (b := bdy 126) (by kernel_rfl) (by kernel_rfl) (by kernel_rfl) (by kernel_rfl) a34_run
theorem a36_run : (runC (EC [215] []) 20000 a36.n [callFr a36.g Tryz.f126.ntmps a36.l (bdy 126)] a36.ms).vc (retOk a36.n [(3615, 3615)] a36.s0 a36.ms') (fun _ _ => False) = allP (selfR a36.n [(3615, 3615)] a36.s0 a36.ms') := by kernel_rfl
theorem a36_ok : a36.Ok := CC.mk_ok (ro := [215]) (L := []) okN a36 (fn := Tryz.f126) (b := bdy 126) (by kernel_rfl) (by kernel_rfl) (by kernel_rfl) (by kernel_rfl) a36_run
theorem a37_run : (runC (EC [215] []) 20000 a37.n [callFr a37.g Tryz.f126.ntmps a37.l (bdy 126)] a37.ms).vc (retOk a37.n [] a37.s0 a37.ms') (fun _ _ => False) = allP (selfR a37.n [] a37.s0 a37.ms') := by kernel_rfl
theorem a37_ok : a37.Ok := CC.mk_ok (ro := [215]) (L := []) okN a37 (fn := Tryz.f126) (b := bdy 126) (by kernel_rfl) (by kernel_rfl) (by kernel_rfl) (by kernel_rfl) a37_run
theorem a38_run : (runC (EC [215] []) 20000 a38.n [callFr a38.g Tryz.f126.ntmps a38.l (bdy 126)] a38.ms).vc (retOk a38.n [] a38.s0 a38.ms') (fun _ _ => False) = allP (selfR a38.n [] a38.s0 a38.ms') := by kernel_rfl
theorem a38_ok : a38.Ok := CC.mk_ok (ro := [215]) (L := []) okN a38 (fn := Tryz.f126) (b := bdy 126) (by kernel_rfl) (by kernel_rfl) (by kernel_rfl) (by kernel_rfl) a38_run
theorem a40_run : (runC (EC [215] []) 20000 a40.n [callFr a40.g Tryz.f126.ntmps a40.l (bdy 126)] a40.ms).vc (retOk a40.n [(4085, 4085)] a40.s0 a40.ms') (fun _ _ => False) = allP (selfR a40.n [(4085, 4085)] a40.s0 a40.ms') := by kernel_rfl
theorem a40_ok : a40.Ok := CC.mk_ok (ro := [215]) (L := []) okN a40 (fn := Tryz.f126) (b := bdy 126) (by kernel_rfl) (by kernel_rfl) (by kernel_rfl) (by kernel_rfl) a40_run
theorem a41_run : (runC (EC [215] []) 20000 a41.n [callFr a41.g Tryz.f126.ntmps a41.l (bdy 126)] a41.ms).vc (retOk a41.n [] a41.s0 a41.ms') (fun _ _ => False) = allP (selfR a41.n [] a41.s0 a41.ms') := by kernel_rfl
theorem a41_ok : a41.Ok := CC.mk_ok (ro := [215]) (L := []) okN a41 (fn := Tryz.f126) (b := bdy 126) (by kernel_rfl) (by kernel_rfl) (by kernel_rfl) (by kernel_rfl) a41_run
theorem a42_run : (runC (EC [215] []) 20000 a42.n [callFr a42.g Tryz.f126.ntmps a42.l (bdy 126)] a42.ms).vc (retOk a42.n [] a42.s0 a42.ms') (fun _ _ => False) = allP (selfR a42.n [] a42.s0 a42.ms') := by kernel_rfl
theorem a42_ok : a42.Ok := CC.mk_ok (ro := [215]) (L := []) okN a42 (fn := Tryz.f126) (b := bdy 126) (by kernel_rfl) (by kernel_rfl) (by kernel_rfl) (by kernel_rfl) a42_run
theorem a44_run : (runC (EC [215] []) 20000 a44.n [callFr a44.g Tryz.f126.ntmps a44.l (bdy 126)] a44.ms).vc (retOk a44.n [(4554, 4554)] a44.s0 a44.ms') (fun _ _ => False) = allP (selfR a44.n [(4554, 4554)] a44.s0 a44.ms') := by kernel_rfl
theorem a44_ok : a44.Ok := CC.mk_ok (ro := [215]) (L := []) okN a44 (fn := Tryz.f126) (b := bdy 126) (by kernel_rfl) (by kernel_rfl) (by kernel_rfl) (by kernel_rfl) a44_run
theorem a45_run : (runC (EC [215] []) 20000 a45.n [callFr a45.g Tryz.f126.ntmps a45.l (bdy 126)] a45.ms).vc (retOk a45.n [] a45.s0 a45.ms') (fun _ _ => False) = allP (selfR a45.n [] a45.s0 a45.ms') := by kernel_rfl
theorem a45_ok : a45.Ok := CC.mk_ok (ro := [215]) (L := []) okN a45 (fn := Tryz.f126) (b := bdy 126) (by kernel_rfl) (by kernel_rfl) (by kernel_rfl) (by kernel_rfl) a45_run
theorem a46_run : (runC (EC [215] []) 20000 a46.n [callFr a46.g Tryz.f126.ntmps a46.l (bdy 126)] a46.ms).vc (retOk a46.n [] a46.s0 a46.ms') (fun _ _ => False) = allP (selfR a46.n [] a46.s0 a46.ms') := by kernel_rfl
theorem a46_ok : a46.Ok := CC.mk_ok (ro := [215]) (L := []) okN a46 (fn := Tryz.f126) (b := bdy 126) (by kernel_rfl) (by kernel_rfl) (by kernel_rfl) (by kernel_rfl) a46_run
theorem a48_run : (runC (EC [215] []) 20000 a48.n [callFr a48.g Tryz.f126.ntmps a48.l (bdy 126)] a48.ms).vc (retOk a48.n [(5024, 5024)] a48.s0 a48.ms') (fun _ _ => False) = allP (selfR a48.n [(5024, 5024)] a48.s0 a48.ms') := by kernel_rfl
theorem a48_ok : a48.Ok := CC.mk_ok (ro := [215]) (L := []) okN a48 (fn := Tryz.f126) (b := bdy 126) (by kernel_rfl) (by kernel_rfl) (by kernel_rfl) (by kernel_rfl) a48_run
theorem a49_run : (runC (EC [215] []) 20000 a49.n [callFr a49.g Tryz.f126.ntmps a49.l (bdy 126)] a49.ms).vc (retOk a49.n [] a49.s0 a49.ms') (fun _ _ => False) = allP (selfR a49.n [] a49.s0 a49.ms') := by kernel_rfl
theorem a49_ok : a49.Ok := CC.mk_ok (ro := [215]) (L := []) okN a49 (fn := Tryz.f126) (b := bdy 126) (by kernel_rfl) (by kernel_rfl) (by kernel_rfl) (by kernel_rfl) a49_run
end Go.Proofs.YtalaegjdldllfaaGreatDoor
