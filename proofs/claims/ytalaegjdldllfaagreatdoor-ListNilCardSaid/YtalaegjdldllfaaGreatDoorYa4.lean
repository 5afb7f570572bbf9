/- Of a closed run: its calls do what is told of them. No condition. -/
import Derived.Test.YtalaegjdldllfaaGreatDoorXa
set_option linter.unusedVariables false
set_option linter.unusedSimpArgs false
namespace Go.Proofs.YtalaegjdldllfaaGreatDoor
set_option maxRecDepth 1000000
theorem a204_run : (runC (EC [215] []) 20000 a204.n [callFr a204.g Tryz.f126.ntmps a204.l (bdy 126)] a204.ms).vc (retOk a204.n [(23195, 23195)] a204.s0 a204.ms') (fun _ _ => False) = allP (selfR a204.n [(23195, 23195)] a204.s0 a204.ms') := by kernel_rfl
theorem a204_ok : a204.Ok := CC.mk_ok (ro := [215]) (L := []) okN a204 (fn := Tryz.f126) (b := bdy 126) (by kernel_rfl) (by kernel_rfl) (by kernel_rfl) (by kernel_rfl) a204_run
theorem a205_run : (runC (EC [215] []) 20000 a205.n [callFr a205.g Tryz.f126.ntmps a205.l (bdy 126)] a205.ms).vc (retOk a205.n [] a205.s0 a205.ms') (fun _ _ => False) = allP (selfR a205.n [] a205.s0 a205.ms') := by kernel_rfl
theorem a205_ok : a205.Ok := CC.mk_ok (ro := [215]) (L := []) okN a205 (fn := Tryz.f126) (b := bdy 126) (by kernel_rfl) (by kernel_rfl) (by kernel_rfl) (by kernel_rfl) a205_run
theorem a206_run : (runC (EC [215] []) 20000 a206.n [callFr a206.g Tryz.f126.ntmps a206.l (bdy 126)] a206.ms).vc (retOk a206.n [] a206.s0 a206.ms') (fun _ _ => False) = allP (selfR a206.n [] a206.s0 a206.ms') := by kernel_rfl
theorem a206_ok : a206.Ok := CC.mk_ok (ro := [215]) (L := []) okN a206 (fn := Tryz.f126) (b := bdy 126) (by kernel_rfl) (by kernel_rfl) (by kernel_rfl) (by kernel_rfl) a206_run
theorem a208_run : (runC (EC [215] []) 20000 a208.n [callFr a208.g Tryz.f126.ntmps a208.l (bdy 126)] a208.ms).vc (retOk a208.n [(23668, 23668)] a208.s0 a208.ms') (fun _ _ => False) = allP (selfR a208.n [(23668, 23668)] a208.s0 a208.ms') := by kernel_rfl
theorem a208_ok : a208.Ok := CC.mk_ok (ro := [215]) (L := []) okN a208 (fn := Tryz.f126) (b := bdy 126) (by kernel_rfl) (by kernel_rfl) (by kernel_rfl) (by kernel_rfl) a208_run
theorem a209_run : (runC (EC [215] []) 20000 a209.n [callFr a209.g Tryz.f126.ntmps a209.l (bdy 126)] a209.ms).vc (retOk a209.n [] a209.s0 a209.ms') (fun _ _ => False) = allP (selfR a209.n [] a209.s0 a209.ms') := by kernel_rfl
theorem a209_ok : a209.Ok := CC.mk_ok (ro := [215]) (L := []) okN a209 (fn := Tryz.f126) (b := bdy 126) (by kernel_rfl) (by kernel_rfl) (by kernel_rfl) (by kernel_rfl) a209_run
theorem a210_run : (runC (EC [215] []) 20000 a210.n [callFr a210.g Tryz.f126.ntmps a210.l (bdy 126)] a210.ms).vc (retOk a210.n [] a210.s0 a210.ms') (fun _ _ => False) = allP (selfR a210.n [] a210.s0 a210.ms') := by kernel_rfl
theorem a210_ok : a210.Ok := CC.mk_ok (ro := [215]) (L := []) okN a210 (fn := Tryz.f126) (b := bdy 126) (by kernel_rfl) (by kernel_rfl) (by kernel_rfl) (by kernel_rfl) a210_run
theorem a212_run : (runC (EC [215] []) 20000 a212.n [callFr a212.g Tryz.f126.ntmps a212.l (bdy 126)] a212.ms).vc (retOk a212.n [(24139, 24139)] a212.s0 a212.ms') (fun _ _ => False) = allP (selfR a212.n [(24139, 24139)] a212.s0 a212.ms') := by kernel_rfl
theorem a212_ok : a212.Ok := CC.mk_ok (ro := [215]) (L := []) okN a212 (fn := Tryz.f126) (b := bdy 126) (by kernel_rfl) (by kernel_rfl) (by kernel_rfl) (by kernel_rfl) a212_run
theorem a213_run : (runC (EC [215] []) 20000 a213.n [callFr a213.g Tryz.f126.ntmps a213.l (bdy 126)] a213.ms).vc (retOk a213.n [] a213.s0 a213.ms') (fun _ _ => False) = allP (selfR a213.n [] a213.s0 a213.ms') := by kernel_rfl
theorem a213_ok : a213.Ok := CC.mk_ok (ro := [215]) (L := []) okN a213 (fn := Tryz.f126) (b := bdy 126) (by kernel_rfl) (by kernel_rfl) (by kernel_rfl) (by kernel_rfl) a213_run
theorem a214_run : (runC (EC [215] []) 20000 a214.n [callFr a214.g Tryz.f126.ntmps a214.l (bdy 126)] a214.ms).vc (retOk a214.n [] a214.s0 a214.ms') (fun _ _ => False) = allP (selfR a214.n [] a214.s0 a214.ms') := by kernel_rfl
theorem a214_ok : a214.Ok := CC.mk_ok (ro := [215]) (L := []) okN a214 (fn := Tryz.f126) (b := bdy 126) (by kernel_rfl) (by kernel_rfl) (by kernel_rfl) (by kernel_rfl) a214_run
theorem a216_run : (runC (EC [215] []) 20000 a216.n [callFr a216.g Tryz.f126.ntmps a216.l (bdy 126)] a216.ms).vc (retOk a216.n [(24624, 24624)] a216.s0 a216.ms') (fun _ _ => False) = allP (selfR a216.n [(24624, 24624)] a216.s0 a216.ms') := by kernel_rfl
theorem a216_ok : a216.Ok := CC.mk_ok (ro := [215]) (L := []) okN a216 (fn := Tryz.f126) (b := bdy 126) (by kernel_rfl) (by kernel_rfl) (by kernel_rfl) (by kernel_rfl) a216_run
theorem a217_run : (runC (EC [215] []) 20000 a217.n [callFr a217.g Tryz.f126.ntmps a217.l (bdy 126)] a217.ms).vc (retOk a217.n [] a217.s0 a217.ms') (fun _ _ => False) = allP (selfR a217.n [] a217.s0 a217.ms') := by kernel_rfl
theorem a217_ok : a217.Ok := CC.mk_ok (ro := [215]) (L := []) okN a217 (fn := Tryz.f126) (b := bdy 126) (by kernel_rfl) (by kernel_rfl) (by kernel_rfl) (by kernel_rfl) a217_run
theorem a218_run : (runC (EC [215] []) 20000 a218.n [callFr a218.g Tryz.f126.ntmps a218.l (bdy 126)] a218.ms).vc (retOk a218.n [] a218.s0 a218.ms') (fun _ _ => False) = allP (selfR a218.n [] a218.s0 a218.ms') := by kernel_rfl
theorem a218_ok : a218.Ok := CC.mk_ok (ro := [215]) (L := []) okN a218 (fn := Tryz.f126) (b := bdy 126) (by kernel_rfl) (by kernel_rfl) (by kernel_rfl) (by kernel_rfl) a218_run
theorem a220_run : (runC (EC [215] []) 20000 a220.n [callFr a220.g Tryz.f126.ntmps a220.l (bdy 126)] a220.ms).vc (retOk a220.n [(25113, 25113)] a220.s0 a220.ms') (fun _ _ => False) = allP (selfR a220.n [(25113, 25113)] a220.s0 a220.ms') := by kernel_rfl
theorem a220_ok : a220.Ok := CC.mk_ok (ro := [215]) (L := []) okN a220 (fn := Tryz.f126) (b := bdy 126) (by kernel_rfl) (by kernel_rfl) (by kernel_rfl) (by kernel_rfl) a220_run
theorem a221_run : (runC (EC [215] []) 20000 a221.n [callFr a221.g Tryz.f126.ntmps a221.l (bdy 126)] a221.ms).vc (retOk a221.n [] a221.s0 a221.ms') (fun _ _ => False) = allP (selfR a221.n [] a221.s0 a221.ms') := by kernel_rfl
theorem a221_ok : a221.Ok := CC.mk_ok (ro := [215]) (L := []) okN a221 (fn := Tryz.f126) (b := bdy 126) (by kernel_rfl) (by kernel_rfl) (by kernel_rfl) (by kernel_rfl) a221_run
theorem a222_run : (runC (EC [215] []) 20000 a222.n [callFr a222.g Tryz.f126.ntmps a222.l (bdy 126)] a222.ms).vc (retOk a222.n [] a222.s0 a222.ms') (fun _ _ => False) = allP (selfR a222.n [] a222.s0 a222.ms') := by kernel_rfl
theorem a222_ok : a222.Ok := CC.mk_ok (ro := [215]) (L := []) okN a222 (fn := Tryz.f126) (b := bdy 126) (by kernel_rfl) (by kernel_rfl) (by kernel_rfl) (by kernel_rfl) a222_run
theorem a224_run : (runC (EC [215] []) 20000 a224.n [callFr a224.g Tryz.f126.ntmps a224.l (bdy 126)] a224.ms).vc (retOk a224.n [(25598, 25598)] a224.s0 a224.ms') (fun _ _ => False) = allP (selfR a224.n [(25598, 25598)] a224.s0 a224.ms') := by kernel_rfl
theorem a224_ok : a224.Ok := CC.mk_ok (ro := [215]) (L := []) okN a224 (fn := Tryz.f126) (b := bdy 126) (by kernel_rfl) (by kernel_rfl) (by kernel_rfl) (by kernel_rfl) a224_run
theorem a225_run : (runC (EC [215] []) 20000 a225.n [callFr a225.g Tryz.f126.ntmps a225.l (bdy 126)] a225.ms).vc (retOk a225.n [] a225.s0 a225.ms') (fun _ _ => False) = allP (selfR a225.n [] a225.s0 a225.ms') := by kernel_rfl
theorem a225_ok : a225.Ok := CC.mk_ok (ro := [215]) (L := []) okN a225 (fn := Tryz.f126) (b := bdy 126) (by kernel_rfl) (by kernel_rfl) (by kernel_rfl) (by kernel_rfl) a225_run
theorem a226_run : (runC (EC [215] []) 20000 a226.n [callFr a226.g Tryz.f126.ntmps a226.l (bdy 126)] a226.ms).vc (retOk a226.n [] a226.s0 a226.ms') (fun _ _ => False) = allP (selfR a226.n [] a226.s0 a226.ms') := by kernel_rfl
theorem a226_ok : a226.Ok := CC.mk_ok (ro := [215]) (L := []) okN a226 (fn := Tryz.f126) (b := bdy 126) (by kernel_rfl) (by kernel_rfl) (by kernel_rfl) (by kernel_rfl) a226_run
theorem a230_run : (runC (EC [215] []) 20000 a230.n [callFr a230.g Tryz.f6.ntmps a230.l (bdy 6)] a230.ms).vc (retOk a230.n [] a230.s0 a230.ms') (fun _ _ => False) = allP (selfR a230.n [] a230.s0 a230.ms') := by kernel_rfl
theorem a230_ok : a230.Ok := CC.mk_ok (ro := [215]) (L := []) okN a230 (fn := Tryz.f6) (b := bdy 6) (by kernel_rfl) (by kernel_rfl) (by kernel_rfl) (by kernel_rfl) a230_run
theorem a231_run : (runC (EC [215] []) 20000 a231.n [callFr a231.g Tryz.f7.ntmps a231.l (bdy 7)] a231.ms).vc (retOk a231.n [] a231.s0 a231.ms') (fun _ _ => False) = allP (selfR a231.n [] a231.s0 a231.ms') := by kernel_rfl
theorem a231_ok : a231.Ok := CC.mk_ok (ro := [215]) (L := []) okN a231 (fn := Tryz.f7) (b := bdy 7) (by kernel_rfl) (by kernel_rfl) (by kernel_rfl) (by kernel_rfl) a231_run
theorem a232_run : (runC (EC [215] []) 20000 a232.n [callFr a232.g Tryz.f8.ntmps a232.l (bdy 8)] a232.ms).vc (retOk a232.n [] a232.s0 a232.ms') (fun _ _ => False) = allP (selfR a232.n [] a232.s0 a232.ms') := by kernel_rfl
theorem a232_ok : a232.Ok := CC.mk_ok (ro := [215]) (L := []) okN a232 (fn := Tryz.f8) (b := bdy 8) (by kernel_rfl) (by kernel_rfl) (by kernel_rfl) (by kernel_rfl) a232_run
theorem a233_run : (runC (EC [215] []) 20000 a233.n [callFr a233.g Tryz.f10.ntmps a233.l (bdy 10)] a233.ms).vc (retOk a233.n [] a233.s0 a233.ms') (fun _ _ => False) = allP (selfR a233.n [] a233.s0 a233.ms') := by kernel_rfl
theorem a233_ok : a233.Ok := CC.mk_ok (ro := [215]) (L := []) okN a233 (fn := Tryz.f10) (b := bdy 10) (by kernel_rfl) (by kernel_rfl) (by kernel_rfl) (by kernel_rfl) a233_run
theorem a234_run : (runC (EC [215] []) 20000 a234.n [callFr a234.g Tryz.f118.ntmps a234.l (bdy 118)] a234.ms).vc (retOk a234.n [(92, 92)] a234.s0 a234.ms') (fun _ _ => False) = allP (selfR a234.n [(92, 92)] a234.s0 a234.ms') := by kernel_rfl
theorem a234_ok : a234.Ok := CC.mk_ok (ro := [215]) (L := []) okN a234 (fn := Tryz.f118) (b := bdy 118) (by kernel_rfl) (by kernel_rfl) (by kernel_rfl) (by kernel_rfl) a234_run
theorem a235_run : (runC (EC [215] []) 20000 a235.n [callFr a235.g Tryz.f119.ntmps a235.l (bdy 119)] a235.ms).vc (retOk a235.n [] a235.s0 a235.ms') (fun _ _ => False) = allP (selfR a235.n [] a235.s0 a235.ms') := by kernel_rfl
theorem a235_ok : a235.Ok := CC.mk_ok (ro := [215]) (L := []) okN a235 (fn := Tryz.f119) (b := bdy 119) (by kernel_rfl) (by kernel_rfl) (by kernel_rfl) (by kernel_rfl) a235_run
theorem a238_run : (runC (EC [215] []) 20000 a238.n [callFr a238.g Tryz.f126.ntmps a238.l (bdy 126)] a238.ms).vc (retOk a238.n [] a238.s0 a238.ms') (fun _ _ => False) = allP (selfR a238.n [] a238.s0 a238.ms') := by kernel_rfl
theorem a238_ok : a238.Ok := CC.mk_ok (ro := [215]) (L := []) okN a238 (fn := Tryz.f126) (b := bdy 126) (by kernel_rfl) (by kernel_rfl) (by kernel_rfl) (by kernel_rfl) a238_run
theorem a239_run : (runC (EC [215] []) 20000 a239.n [callFr a239.g Tryz.f126.ntmps a239.l (bdy 126)] a239.ms).vc (retOk a239.n [] a239.s0 a239.ms') (fun _ _ => False) = allP (selfR a239.n [] a239.s0 a239.ms') := by kernel_rfl
theorem a239_ok : a239.Ok := CC.mk_ok (ro := [215]) (L := []) okN a239 (fn := Tryz.f126) (b := bdy 126) (by kernel_rfl) (by kernel_rfl) (by kernel_rfl) (by kernel_rfl) a239_run
theorem a241_run : (runC (EC [215] []) 20000 a241.n [callFr a241.g Tryz.f126.ntmps a241.l (bdy 126)] a241.ms).vc (retOk a241.n [(453, 453)] a241.s0 a241.ms') (fun _ _ => False) = allP (selfR a241.n [(453, 453)] a241.s0 a241.ms') := by kernel_rfl
theorem a241_ok : a241.Ok := CC.mk_ok (ro := [215]) (L := []) okN a241 (fn := Tryz.f126) (b := bdy 126) (by kernel_rfl) (by kernel_rfl) (by kernel_rfl) (by kernel_rfl) a241_run
theorem a242_run : (runC (EC [215] []) 20000 a242.n [callFr a242.g Tryz.f126.ntmps a242.l (bdy 126)] a242.ms).vc (retOk a242.n [] a242.s0 a242.ms') (fun _ _ => False) = allP (selfR a242.n [] a242.s0 a242.ms') := by kernel_rfl
theorem a242_ok : a242.Ok := CC.mk_ok (ro := [215]) (L := []) okN a242 (fn := Tryz.f126) (b := bdy 126) (by kernel_rfl) (by kernel_rfl) (by kernel_rfl) (by kernel_rfl) a242_run
theorem a243_run : (runC (EC [215] []) 20000 a243.n [callFr a243.g Tryz.f126.ntmps a243.l (bdy 126)] a243.ms).vc (retOk a243.n [(475, 475)] a243.s0 a243.ms') (fun _ _ => False) = allP (selfR a243.n [(475, 475)] a243.s0 a243.ms') := by kernel_rfl
theorem a243_ok : a243.Ok := CC.mk_ok (ro := [215]) (L := []) okN a243 (fn := Tryz.f126) (b := bdy 126) (by kernel_rfl) (by kernel_rfl) (by kernel_rfl) (by kernel_rfl) a243_run
theorem a244_run : (runC (EC [215] []) 20000 a244.n [callFr a244.g Tryz.f126.ntmps a244.l (bdy 126)] a244.ms).vc (retOk a244.n [(593, 593)] a244.s0 a244.ms') (fun _ _ => False) = allP (selfR a244.n [(593, 593)] a244.s0 a244.ms') := by kernel_rfl
theorem a244_ok : a244.Ok := CC.mk_ok (ro := [215]) (L := []) okN a244 (fn := Tryz.f126) (b := bdy 126) (by kernel_rfl) (by kernel_rfl) (by kernel_rfl) (by kernel_rfl) a244_run
theorem a245_run : (runC (EC [215] []) 20000 a245.n [callFr a245.g Tryz.f126.ntmps a245.l (bdy 126)] a245.ms).vc (retOk a245.n [(854, 854)] a245.s0 a245.ms') (fun _ _ => False) = allP (selfR a245.n [(854, 854)] a245.s0 a245.ms') := by kernel_rfl
theorem a245_ok : a245.Ok := CC.mk_ok (ro := [215]) (L := []) okN a245 (fn := Tryz.f126) (b := bdy 126) (by kernel_rfl) (by kernel_rfl) (by kernel_rfl) (by kernel_rfl) a245_run
theorem a249_run : (runC (EC [215] []) 20000 a249.n [callFr a249.g Tryz.f126.ntmps a249.l (bdy 126)] a249.ms).vc (retOk a249.n [] a249.s0 a249.ms') (fun _ _ => False) = allP (selfR a249.n [] a249.s0 a249.ms') := by kernel_rfl
theorem a249_ok : a249.Ok := CC.mk_ok (ro := [215]) (L := []) okN a249 (fn := Tryz.f126) (b := bdy 126) (by kernel_rfl) (by kernel_rfl) (by kernel_rfl) (by kernel_rfl) a249_run
theorem a252_run : (runC (EC [215] []) 20000 a252.n [callFr a252.g Tryz.f126.ntmps a252.l (bdy 126)] a252.ms).vc (retOk a252.n [] a252.s0 a252.ms') (fun _ _ => False) = allP (selfR a252.n [] a252.s0 a252.ms') := by kernel_rfl
theorem a252_ok : a252.Ok := CC.mk_ok (ro := [215]) (L := []) okN a252 (fn := Tryz.f126) (b := bdy 126) (by kernel_rfl) (by kernel_rfl) (by kernel_rfl) (by kernel_rfl) a252_run
theorem a255_run : (runC (EC [215] []) 20000 a255.n [callFr a255.g Tryz.f126.ntmps a255.l (bdy 126)] a255.ms).vc (retOk a255.n [] a255.s0 a255.ms') (fun _ _ => False) = allP (selfR a255.n [] a255.s0 a255.ms') := by kernel_rfl
theorem a255_ok : a255.Ok := CC.mk_ok (ro := [215]) (L := []) okN a255 (fn := Tryz.f126) (b := bdy 126) (by kernel_rfl) (by kernel_rfl) (by kernel_rfl) (by kernel_rfl) a255_run
theorem a257_run : (runC (EC [215] []) 20000 a257.n [callFr a257.g Tryz.f126.ntmps a257.l (bdy 126)] a257.ms).vc (retOk a257.n [] a257.s0 a257.ms') (fun _ _ => False) = allP (selfR a257.n [] a257.s0 a257.ms') := by kernel_rfl
theorem a257_ok : a257.Ok := CC.mk_ok (ro := [215]) (L := []) okN a257 (fn := Tryz.f126) (b := bdy 126) (by kernel_rfl) (by kernel_rfl) (by kernel_rfl) (by kernel_rfl) a257_run
theorem a260_run : (runC (EC [215] []) 20000 a260.n [callFr a260.g Tryz.f15.ntmps a260.l (bdy 15)] a260.ms).vc (retOk a260.n [] a260.s0 a260.ms') (fun _ _ => False) = allP (selfR a260.n [] a260.s0 a260.ms') := by kernel_rfl
theorem a260_ok : a260.Ok := CC.mk_ok (ro := [215]) (L := []) okN a260 (fn := Tryz.f15) (b := bdy 15) (by kernel_rfl) (by kernel_rfl) (by kernel_rfl) (by kernel_rfl) a260_run
end Go.Proofs.YtalaegjdldllfaaGreatDoor
