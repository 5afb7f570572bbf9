/- Of a closed run: its calls do what is told of them. No condition. -/
import Derived.Test.YtalaegjdldllfaaGreatDoorXa
set_option linter.unusedVariables false
set_option linter.unusedSimpArgs false
namespace Go.Proofs.YtalaegjdldllfaaGreatDoor
set_option maxRecDepth 1000000
theorem a151_run : (runC (EC [215] []) 20000 a151.n [callFr a151.g Tryz.f126.ntmps a151.l (bdy 126)] a151.ms).vc (retOk a151.n [] a151.s0 a151.ms') (fun _ _ => False) = allP (selfR a151.n [] a151.s0 a151.ms') := by kernel_rfl
theorem a151_ok : a151.Ok := CC.mk_ok (ro := [215]) (L := []) okN a151 (fn := Tryz.f126) (b := bdy 126) (by kernel_rfl) (by kernel_rfl) (by kernel_rfl) (by kernel_rfl) a151_run
theorem a153_run : (runC (EC [215] []) 20000 a153.n [callFr a153.g Tryz.f126.ntmps a153.l (bdy 126)] a153.ms).vc (retOk a153.n [(17426, 17426)] a153.s0 a153.ms') (fun _ _ => False) = allP (selfR a153.n [(17426, 17426)] a153.s0 a153.ms') := by kernel_rfl
theorem a153_ok : a153.Ok := CC.mk_ok (ro := [215]) (L := []) okN a153 (fn := Tryz.f126) (b := bdy 126) (by kernel_rfl) (by kernel_rfl) (by kernel_rfl) (by kernel_rfl) a153_run
theorem a154_run : (runC (EC [215] []) 20000 a154.n [callFr a154.g Tryz.f126.ntmps a154.l (bdy 126)] a154.ms).vc (retOk a154.n [] a154.s0 a154.ms') (fun _ _ => False) = allP (selfR a154.n [] a154.s0 a154.ms') := by kernel_rfl
theorem a154_ok : a154.Ok := CC.mk_ok (ro := [215]) (L := []) okN a154 (fn := Tryz.f126) (b := bdy 126) (by kernel_rfl) (by kernel_rfl) (by kernel_rfl) (by kernel_rfl) a154_run
theorem a155_run : (runC (EC [215] []) 20000 a155.n [callFr a155.g Tryz.f126.ntmps a155.l (bdy 126)] a155.ms).vc (retOk a155.n [] a155.s0 a155.ms') (fun _ _ => False) = allP (selfR a155.n [] a155.s0 a155.ms') := by kernel_rfl
theorem a155_ok : a155.Ok := CC.mk_ok (ro := [215]) (L := []) okN a155 (fn := Tryz.f126) (b := bdy 126) (by kernel_rfl) (by kernel_rfl) (by kernel_rfl) (by kernel_rfl) a155_run
theorem a157_run : (runC (EC [215] []) 20000 a157.n [callFr a157.g Tryz.f126.ntmps a157.l (bdy 126)] a157.ms).vc (retOk a157.n [(17896, 17896)] a157.s0 a157.ms') (fun _ _ => False) = allP (selfR a157.n [(17896, 17896)] a157.s0 a157.ms') := by kernel_rfl
theorem a157_ok : a157.Ok := CC.mk_ok (ro := [215]) (L := []) okN a157 (fn := Tryz.f126) (b := bdy 126) (by kernel_rfl) (by kernel_rfl) (by kernel_rfl) (by kernel_rfl) a157_run
theorem a158_run : (runC (EC [215] []) 20000 a158.n [callFr a158.g Tryz.f126.ntmps a158.l (bdy 126)] a158.ms).vc (retOk a158.n [] a158.s0 a158.ms') (fun _ _ => False) = allP (selfR a158.n [] a158.s0 a158.ms') := by kernel_rfl
theorem a158_ok : a158.Ok := CC.mk_ok (ro := [215]) (L := []) okN a158 (fn := Tryz.f126) (b := bdy 126) (by kernel_rfl) (by kernel_rfl) (by kernel_rfl) (by kernel_rfl) a158_run
theorem a159_run : (runC (EC [215] []) 20000 a159.n [callFr a159.g Tryz.f126.ntmps a159.l (bdy 126)] a159.ms).vc (retOk a159.n [] a159.s0 a159.ms') (fun _ _ => False) = allP (selfR a159.n [] a159.s0 a159.ms') := by kernel_rfl
theorem a159_ok : a159.Ok := CC.mk_ok (ro := [215]) (L := []) okN a159 (fn := Tryz.f126) (b := bdy 126) (by kernel_rfl) (by kernel_rfl) (by kernel_rfl) (by kernel_rfl) a159_run
theorem a161_run : (runC (EC [215] []) 20000 a161.n [callFr a161.g Tryz.f126.ntmps a161.l (bdy 126)] a161.ms).vc (retOk a161.n [(18398, 18398)] a161.s0 a161.ms') (fun _ _ => False) = allP (selfR a161.n [(18398, 18398)] a161.s0 a161.ms') := by kernel_rfl
theorem a161_ok : a161.Ok := CC.mk_ok (ro := [215]) (L := []) okN a161 (fn := Tryz.f126) (b := bdy 126) (by kernel_rfl) (by kernel_rfl) (by kernel_rfl) (by kernel_rfl) a161_run
theorem a162_run : (runC (EC [215] []) 20000 a162.n [callFr a162.g Tryz.f126.ntmps a162.l (bdy 126)] a162.ms).vc (retOk a162.n [] a162.s0 a162.ms') (fun _ _ => False) = allP (selfR a162.n [] a162.s0 a162.ms') := by kernel_rfl
theorem a162_ok : a162.Ok := CC.mk_ok (ro := [215]) (L := []) okN a162 (fn := Tryz.f126) (b := bdy 126) (by kernel_rfl) (by kernel_rfl) (by kernel_rfl) (by kernel_rfl) a162_run
theorem a163_run : (runC (EC [215] []) 20000 a163.n [callFr a163.g Tryz.f126.ntmps a163.l (bdy 126)] a163.ms).vc (retOk a163.n [] a163.s0 a163.ms') (fun _ _ => False) = allP (selfR a163.n [] a163.s0 a163.ms') := by kernel_rfl
theorem a163_ok : a163.Ok := CC.mk_ok (ro := [215]) (L := []) okN a163 (fn := Tryz.f126) (b := bdy 126) (by kernel_rfl) (by kernel_rfl) (by kernel_rfl) (by kernel_rfl) a163_run
theorem a166_run : (runC (EC [215] []) 20000 a166.n [callFr a166.g Tryz.f126.ntmps a166.l (bdy 126)] a166.ms).vc (retOk a166.n [(18875, 18875)] a166.s0 a166.ms') (fun _ _ => False) = allP (selfR a166.n [(18875, 18875)] a166.s0 a166.ms') := by kernel_rfl
theorem a166_ok : a166.Ok := CC.mk_ok (ro := [215]) (L := []) okN a166 (fn := Tryz.f126) (b := bdy 126) (by kernel_rfl) (by kernel_rfl) (by kernel_rfl) (by kernel_rfl) a166_run
theorem a167_run : (runC (EC [215] []) 20000 a167.n [callFr a167.g Tryz.f126.ntmps a167.l (bdy 126)] a167.ms).vc (retOk a167.n [] a167.s0 a167.ms') (fun _ _ => False) = allP (selfR a167.n [] a167.s0 a167.ms') := by kernel_rfl
theorem a167_ok : a167.Ok := CC.mk_ok (ro := [215]) (L := []) okN a167 (fn := Tryz.f126) (b := bdy 126) (by kernel_rfl) (by kernel_rfl) (by kernel_rfl) (by kernel_rfl) a167_run
theorem a168_run : (runC (EC [215] []) 20000 a168.n [callFr a168.g Tryz.f126.ntmps a168.l (bdy 126)] a168.ms).vc (retOk a168.n [] a168.s0 a168.ms') (fun _ _ => False) = allP (selfR a168.n [] a168.s0 a168.ms') := by kernel_rfl
theorem a168_ok : a168.Ok := CC.mk_ok (ro := [215]) (L := []) okN a168 (fn := Tryz.f126) (b := bdy 126) (by kernel_rfl) (by kernel_rfl) (by kernel_rfl) (by kernel_rfl) a168_run
theorem a170_run : (runC (EC [215] []) 20000 a170.n [callFr a170.g Tryz.f126.ntmps a170.l (bdy 126)] a170.ms).vc (retOk a170.n [(19348, 19348)] a170.s0 a170.ms') (fun _ _ => False) = allP (selfR a170.n [(19348, 19348)] a170.s0 a170.ms') := by kernel_rfl
theorem a170_ok : a170.Ok := CC.mk_ok (ro := [215]) (L := []) okN a170 (fn := Tryz.f126) (b := bdy 126) (by kernel_rfl) (by kernel_rfl) (by kernel_rfl) (by kernel_rfl) a170_run
theorem a171_run : (runC (EC [215] []) 20000 a171.n [callFr a171.g Tryz.f126.ntmps a171.l (bdy 126)] a171.ms).vc (retOk a171.n [] a171.s0 a171.ms') (fun _ _ => False) = allP (selfR a171.n [] a171.s0 a171.ms') := by kernel_rfl
theorem a171_ok : a171.Ok := CC.mk_ok (ro := [215]) (L := []) okN a171 (fn := Tryz.f126) (b := bdy 126) (by kernel_rfl) (by kernel_rfl) (by kernel_rfl) (by kernel_rfl) a171_run
theorem a172_run : (runC (EC [215] []) 20000 a172.n [callFr a172.g Tryz.f126.ntmps a172.l (bdy 126)] a172.ms).vc (retOk a172.n [] a172.s0 a172.ms') (fun _ _ => False) = allP (selfR a172.n [] a172.s0 a172.ms') := by kernel_rfl
theorem a172_ok : a172.Ok := CC.mk_ok (ro := [215]) (L := []) okN a172 (fn := Tryz.f126) (b := bdy 126) (by kernel_rfl) (by kernel_rfl) (by kernel_rfl) (by kernel_rfl) a172_run
theorem a174_run : (runC (EC [215] []) 20000 a174.n [callFr a174.g Tryz.f126.ntmps a174.l (bdy 126)] a174.ms).vc (retOk a174.n [(19819, 19819)] a174.s0 a174.ms') (fun _ _ => False) = allP (selfR a174.n [(19819, 19819)] a174.s0 a174.ms') := by kernel_rfl
theorem a174_ok : a174.Ok := CC.mk_ok (ro := [215]) (L := []) okN a174 (fn := Tryz.f126) (b := bdy 126) (by kernel_rfl) (by kernel_rfl) (by kernel_rfl) (by kernel_rfl) a174_run
theorem a175_run : (runC (EC [215] []) 20000 a175.n [callFr a175.g Tryz.f126.ntmps a175.l (bdy 126)] a175.ms).vc (retOk a175.n [] a175.s0 a175.ms') (fun _ _ => False) = allP (selfR a175.n [] a175.s0 a175.ms') := by kernel_rfl
theorem a175_ok : a175.Ok := CC.mk_ok (ro := [215]) (L := []) okN a175 (fn := Tryz.f126) (b := bdy 126) (by kernel_rfl) (by kernel_rfl) (by kernel_rfl) (by kernel_rfl) a175_run
theorem a176_run : (runC (EC [215] []) 20000 a176.n [callFr a176.g Tryz.f126.ntmps a176.l (bdy 126)] a176.ms).vc (retOk a176.n [] a176.s0 a176.ms') (fun _ _ => False) = allP (selfR a176.n [] a176.s0 a176.ms') := by kernel_rfl
theorem a176_ok : a176.Ok := CC.mk_ok (ro := [215]) (L := []) okN a176 (fn := Tryz.f126) (b := bdy 126) (by kernel_rfl) (by kernel_rfl) (by kernel_rfl) (by kernel_rfl) a176_run
theorem a178_run : (runC (EC [215] []) 20000 a178.n [callFr a178.g Tryz.f126.ntmps a178.l (bdy 126)] a178.ms).vc (retOk a178.n [(20308, 20308)] a178.s0 a178.ms') (fun _ _ => False) = allP (selfR a178.n [(20308, 20308)] a178.s0 a178.ms') := by kernel_rfl
theorem a178_ok : a178.Ok := CC.mk_ok (ro := [215]) (L := []) okN a178 (fn := Tryz.f126) (b := bdy 126) (by kernel_rfl) (by kernel_rfl) (by kernel_rfl) (by kernel_rfl) a178_run
theorem a179_run : (runC (EC [215] []) 20000 a179.n [callFr a179.g Tryz.f126.ntmps a179.l (bdy 126)] a179.ms).vc (retOk a179.n [] a179.s0 a179.ms') (fun _ _ => False) = allP (selfR a179.n [] a179.s0 a179.ms') := by kernel_rfl
theorem a179_ok : a179.Ok := CC.mk_ok (ro := [215]) (L := []) okN a179 (fn := Tryz.f126) (b := bdy 126) (by kernel_rfl) (by kernel_rfl) (by kernel_rfl) (by kernel_rfl) a179_run
theorem a180_run : (runC (EC [215] []) 20000 a180.n [callFr a180.g Tryz.f126.ntmps a180.l (bdy 126)] a180.ms).vc (retOk a180.n [] a180.s0 a180.ms') (fun _ _ => False) = allP (selfR a180.n [] a180.s0 a180.ms') := by kernel_rfl
theorem a180_ok : a180.Ok := CC.mk_ok (ro := [215]) (L := []) okN a180 (fn := Tryz.f126) (b := bdy 126) (by kernel_rfl) (by kernel_rfl) (by kernel_rfl) (by kernel_rfl) a180_run
theorem a182_run : (runC (EC [215] []) 20000 a182.n [callFr a182.g Tryz.f126.ntmps a182.l (bdy 126)] a182.ms).vc (retOk a182.n [(20796, 20796)] a182.s0 a182.ms') (fun _ _ => False) = allP (selfR a182.n [(20796, 20796)] a182.s0 a182.ms') := by kernel_rfl
theorem a182_ok : a182.Ok := CC.mk_ok (ro := [215]) (L := []) okN a182 (fn := Tryz.f126) (b := bdy 126) (by kernel_rfl) (by kernel_rfl) (by kernel_rfl) (by kernel_rfl) a182_run
theorem a183_run : (runC (EC [215] []) 20000 a183.n [callFr a183.g Tryz.f126.ntmps a183.l (bdy 126)] a183.ms).vc (retOk a183.n [] a183.s0 a183.ms') (fun _ _ => False) = allP (selfR a183.n [] a183.s0 a183.ms') := by kernel_rfl
theorem a183_ok : a183.Ok := CC.mk_ok (ro := [215]) (L := []) okN a183 (fn := Tryz.f126) (b := bdy 126) (by kernel_rfl) (by kernel_rfl) (by kernel_rfl) (by kernel_rfl) a183_run
theorem a184_run : (runC (EC [215] []) 20000 a184.n [callFr a184.g Tryz.f126.ntmps a184.l (bdy 126)] a184.ms).vc (retOk a184.n [] a184.s0 a184.ms') (fun _ _ => False) = allP (selfR a184.n [] a184.s0 a184.ms') := by kernel_rfl
theorem a184_ok : a184.Ok := CC.mk_ok (ro := [215]) (L := []) okN a184 (fn := Tryz.f126) (b := bdy 126) (by kernel_rfl) (by kernel_rfl) (by kernel_rfl) (by kernel_rfl) a184_run
theorem a186_run : (runC (EC [215] []) 20000 a186.n [callFr a186.g Tryz.f126.ntmps a186.l (bdy 126)] a186.ms).vc (retOk a186.n [(21282, 21282)] a186.s0 a186.ms') (fun _ _ => False) = allP (selfR a186.n [(21282, 21282)] a186.s0 a186.ms') := by kernel_rfl
theorem a186_ok : a186.Ok := CC.mk_ok (ro := [215]) (L := []) okN a186 (fn := Tryz.f126) (b := bdy 126) (by kernel_rfl) (by kernel_rfl) (by kernel_rfl) (by kernel_rfl) a186_run
theorem a187_run : (runC (EC [215] []) 20000 a187.n [callFr a187.g Tryz.f126.ntmps a187.l (bdy 126)] a187.ms).vc (retOk a187.n [] a187.s0 a187.ms') (fun _ _ => False) = allP (selfR a187.n [] a187.s0 a187.ms') := by kernel_rfl
theorem a187_ok : a187.Ok := CC.mk_ok (ro := [215]) (L := []) okN a187 (fn := Tryz.f126) (b := bdy 126) (by kernel_rfl) (by kernel_rfl) (by kernel_rfl) (by kernel_rfl) a187_run
theorem a188_run : (runC (EC [215] []) 20000 a188.n [callFr a188.g Tryz.f126.ntmps a188.l (bdy 126)] a188.ms).vc (retOk a188.n [] a188.s0 a188.ms') (fun _ _ => False) = allP (selfR a188.n [] a188.s0 a188.ms') := by kernel_rfl
theorem a188_ok : a188.Ok := CC.mk_ok (ro := [215]) (L := []) okN a188 (fn := Tryz.f126) (b := bdy 126) (by kernel_rfl) (by kernel_rfl) (by kernel_rfl) (by kernel_rfl) a188_run
theorem a190_run : (runC (EC [215] []) 20000 a190.n [callFr a190.g Tryz.f126.ntmps a190.l (bdy 126)] a190.ms).vc (retOk a190.n [(21768, 21768)] a190.s0 a190.ms') (fun _ _ => False) = allP (selfR a190.n [(21768, 21768)] a190.s0 a190.ms') := by kernel_rfl
theorem a190_ok : a190.Ok := CC.mk_ok (ro := [215]) (L := []) okN a190 (fn := Tryz.f126) (b := bdy 126) (by kernel_rfl) (by kernel_rfl) (by kernel_rfl) (by kernel_rfl) a190_run
theorem a191_run : (runC (EC [215] []) 20000 a191.n [callFr a191.g Tryz.f126.ntmps a191.l (bdy 126)] a191.ms).vc (retOk a191.n [] a191.s0 a191.ms') (fun _ _ => False) = allP (selfR a191.n [] a191.s0 a191.ms') := by kernel_rfl
theorem a191_ok : a191.Ok := CC.mk_ok (ro := [215]) (L := []) okN a191 (fn := Tryz.f126) (b := bdy 126) (by kernel_rfl) (by kernel_rfl) (by kernel_rfl) (by kernel_rfl) a191_run
theorem a192_run : (runC (EC [215] []) 20000 a192.n [callFr a192.g Tryz.f126.ntmps a192.l (bdy 126)] a192.ms).vc (retOk a192.n [] a192.s0 a192.ms') (fun _ _ => False) = allP (selfR a192.n [] a192.s0 a192.ms') := by kernel_rfl
theorem a192_ok : a192.Ok := CC.mk_ok (ro := [215]) (L := []) okN a192 (fn := Tryz.f126) (b := bdy 126) (by kernel_rfl) (by kernel_rfl) (by kernel_rfl) (by kernel_rfl) a192_run
theorem a194_run : (runC (EC [215] []) 20000 a194.n [callFr a194.g Tryz.f126.ntmps a194.l (bdy 126)] a194.ms).vc (retOk a194.n [(22238, 22238)] a194.s0 a194.ms') (fun _ _ => False) = allP (selfR a194.n [(22238, 22238)] a194.s0 a194.ms') := by kernel_rfl
theorem a194_ok : a194.Ok := CC.mk_ok (ro := [215]) (L := []) okN a194 (fn := Tryz.f126) (b := bdy 126) (by kernel_rfl) (by kernel_rfl) (by kernel_rfl) (by kernel_rfl) a194_run
theorem a195_run : (runC (EC [215] []) 20000 a195.n [callFr a195.g Tryz.f126.ntmps a195.l (bdy 126)] a195.ms).vc (retOk a195.n [] a195.s0 a195.ms') (fun _ _ => False) = allP (selfR a195.n [] a195.s0 a195.ms') := by kernel_rfl
theorem a195_ok : a195.Ok := CC.mk_ok (ro := [215]) (L := []) okN a195 (fn := Tryz.f126) (b := bdy 126) (by kernel_rfl) (by kernel_rfl) (by kernel_rfl) (by kernel_rfl) a195_run
theorem a196_run : (runC (EC [215] []) 20000 a196.n [callFr a196.g Tryz.f126.ntmps a196.l (bdy 126)] a196.ms).vc (retOk a196.n [] a196.s0 a196.ms') (fun _ _ => False) = allP (selfR a196.n [] a196.s0 a196.ms') := by kernel_rfl
theorem a196_ok : a196.Ok := CC.mk_ok (ro := [215]) (L := []) okN a196 (fn := Tryz.f126) (b := bdy 126) (by kernel_rfl) (by kernel_rfl) (by kernel_rfl) (by kernel_rfl) a196_run
theorem a199_run : (runC (EC [215] []) 20000 a199.n [callFr a199.g Tryz.f126.ntmps a199.l (bdy 126)] a199.ms).vc (retOk a199.n [(22717, 22717)] a199.s0 a199.ms') (fun _ _ => False) = allP (selfR a199.n [(22717, 22717)] a199.s0 a199.ms') := by kernel_rfl
theorem a199_ok : a199.Ok := CC.mk_ok (ro := [215]) (L := []) okN a199 (fn := Tryz.f126) (b := bdy 126) (by kernel_rfl) (by kernel_rfl) (by kernel_rfl) (by kernel_rfl) a199_run
theorem a200_run : (runC (EC [215] []) 20000 a200.n [callFr a200.g Tryz.f126.ntmps a200.l (bdy 126)] a200.ms).vc (retOk a200.n [] a200.s0 a200.ms') (fun _ _ => False) = allP (selfR a200.n [] a200.s0 a200.ms') := by kernel_rfl
theorem a200_ok : a200.Ok := CC.mk_ok (ro := [215]) (L := []) okN a200 (fn := Tryz.f126) (b := bdy 126) (by kernel_rfl) (by kernel_rfl) (by kernel_rfl) (by kernel_rfl) a200_run
theorem a201_run : (runC (EC [215] []) 20000 a201.n [callFr a201.g Tryz.f126.ntmps a201.l (bdy 126)] a201.ms).vc (retOk a201.n [] a201.s0 a201.ms') (fun _ _ => False) = allP (selfR a201.n [] a201.s0 a201.ms') := by kernel_rfl
theorem a201_ok : a201.Ok := CC.mk_ok (ro := [215]) (L := []) okN a201 (fn := Tryz.f126) (b := bdy 126) (by kernel_rfl) (by kernel_rfl) (by kernel_rfl) (by kernel_rfl) a201_run
end Go.Proofs.YtalaegjdldllfaaGreatDoor
