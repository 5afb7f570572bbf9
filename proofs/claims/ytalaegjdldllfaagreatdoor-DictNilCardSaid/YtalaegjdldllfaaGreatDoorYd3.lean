/- Of a closed run: its calls do what is told of them. No condition. -/
import Derived.Test.YtalaegjdldllfaaGreatDoorXd
set_option linter.unusedVariables false
set_option linter.unusedSimpArgs false
namespace Go.Proofs.YtalaegjdldllfaaGreatDoor
set_option maxRecDepth 1000000
theorem d159_run : (runC (EC [215] []) 20000 d159.n [callFr d159.g Tryz.f126.ntmps d159.l (bdy 126)] d159.ms).vc (retOk d159.n [] d159.s0 d159.ms') (fun _ _ => False) = allP (selfR d159.n [] d159.s0 d159.ms') := by kernel_rfl
theorem d159_ok : d159.Ok := CC.mk_ok (ro := [215]) (L := []) okN d159 (fn := Tryz.f126) (b := bdy 126) (by kernel_rfl) (by kernel_rfl) (by kernel_rfl) (by kernel_rfl) d159_run
theorem d161_run : (runC (EC [215] []) 20000 d161.n [callFr d161.g Tryz.f126.ntmps d161.l (bdy 126)] d161.ms).vc (retOk d161.n [(18200, 18200)] d161.s0 d161.ms') (fun _ _ => False) = allP (selfR d161.n [(18200, 18200)] d161.s0 d161.ms') := by kernel_rfl
theorem d161_ok : d161.Ok := CC.mk_ok (ro := [215]) (L := []) okN d161 (fn := Tryz.f126) (b := bdy 126) (by kernel_rfl) (by kernel_rfl) (by kernel_rfl) (by kernel_rfl) d161_run
theorem d162_run : (runC (EC [215] []) 20000 d162.n [callFr d162.g Tryz.f126.ntmps d162.l (bdy 126)] d162.ms).vc (retOk d162.n [] d162.s0 d162.ms') (fun _ _ => False) = allP (selfR d162.n [] d162.s0 d162.ms') := by kernel_rfl
theorem d162_ok : d162.Ok := CC.mk_ok (ro := [215]) (L := []) okN d162 (fn := Tryz.f126) (b := bdy 126) (by kernel_rfl) (by kernel_rfl) (by kernel_rfl) (by kernel_rfl) d162_run
theorem d163_run : (runC (EC [215] []) 20000 d163.n [callFr d163.g Tryz.f126.ntmps d163.l (bdy 126)] d163.ms).vc (retOk d163.n [] d163.s0 d163.ms') (fun _ _ => False) = allP (selfR d163.n [] d163.s0 d163.ms') := by kernel_rfl
theorem d163_ok : d163.Ok := CC.mk_ok (ro := [215]) (L := []) okN d163 (fn := Tryz.f126) (b := bdy 126) (by kernel_rfl) (by kernel_rfl) (by kernel_rfl) (by kernel_rfl) d163_run
theorem d165_run : (runC (EC [215] []) 20000 d165.n [callFr d165.g Tryz.f126.ntmps d165.l (bdy 126)] d165.ms).vc (retOk d165.n [(18698, 18698)] d165.s0 d165.ms') (fun _ _ => False) = allP (selfR d165.n [(18698, 18698)] d165.s0 d165.ms') := by kernel_rfl
theorem d165_ok : d165.Ok := CC.mk_ok (ro := [215]) (L := []) okN d165 (fn := Tryz.f126) (b := bdy 126) (by kernel_rfl) (by kernel_rfl) (by kernel_rfl) (by kernel_rfl) d165_run
theorem d166_run : (runC (EC [215] []) 20000 d166.n [callFr d166.g Tryz.f126.ntmps d166.l (bdy 126)] d166.ms).vc (retOk d166.n [] d166.s0 d166.ms') (fun _ _ => False) = allP (selfR d166.n [] d166.s0 d166.ms') := by kernel_rfl
theorem d166_ok : d166.Ok := CC.mk_ok (ro := [215]) (L := []) okN d166 (fn := Tryz.f126) (b := bdy 126) (by kernel_rfl) (by kernel_rfl) (by kernel_rfl) (by kernel_rfl) d166_run
theorem d167_run : (runC (EC [215] []) 20000 d167.n [callFr d167.g Tryz.f126.ntmps d167.l (bdy 126)] d167.ms).vc (retOk d167.n [] d167.s0 d167.ms') (fun _ _ => False) = allP (selfR d167.n [] d167.s0 d167.ms') := by kernel_rfl
theorem d167_ok : d167.Ok := CC.mk_ok (ro := [215]) (L := []) okN d167 (fn := Tryz.f126) (b := bdy 126) (by kernel_rfl) (by kernel_rfl) (by kernel_rfl) (by kernel_rfl) d167_run
theorem d169_run : (runC (EC [215] []) 20000 d169.n [callFr d169.g Tryz.f126.ntmps d169.l (bdy 126)] d169.ms).vc (retOk d169.n [(19196, 19196)] d169.s0 d169.ms') (fun _ _ => False) = allP (selfR d169.n [(19196, 19196)] d169.s0 d169.ms') := by kernel_rfl
theorem d169_ok : d169.Ok := CC.mk_ok (ro := [215]) (L := []) okN d169 (fn := Tryz.f126) (b := bdy 126) (by kernel_rfl) (by kernel_rfl) (by kernel_rfl) (by kernel_rfl) d169_run
theorem d170_run : (runC (EC [215] []) 20000 d170.n [callFr d170.g Tryz.f126.ntmps d170.l (bdy 126)] d170.ms).vc (retOk d170.n [] d170.s0 d170.ms') (fun _ _ => False) = allP (selfR d170.n [] d170.s0 d170.ms') := by kernel_rfl
theorem d170_ok : d170.Ok := CC.mk_ok (ro := [215]) (L := []) okN d170 (fn := Tryz.f126) (b := bdy 126) (by kernel_rfl) (by kernel_rfl) (by kernel_rfl) (by kernel_rfl) d170_run
theorem d171_run : (runC (EC [215] []) 20000 d171.n [callFr d171.g Tryz.f126.ntmps d171.l (bdy 126)] d171.ms).vc (retOk d171.n [] d171.s0 d171.ms') (fun _ _ => False) = allP (selfR d171.n [] d171.s0 d171.ms') := by kernel_rfl
theorem d171_ok : d171.Ok := CC.mk_ok (ro := [215]) (L := []) okN d171 (fn := Tryz.f126) (b := bdy 126) (by kernel_rfl) (by kernel_rfl) (by kernel_rfl) (by kernel_rfl) d171_run
theorem d173_run : (runC (EC [215] []) 20000 d173.n [callFr d173.g Tryz.f126.ntmps d173.l (bdy 126)] d173.ms).vc (retOk d173.n [(19678, 19678)] d173.s0 d173.ms') (fun _ _ => False) = allP (selfR d173.n [(19678, 19678)] d173.s0 d173.ms') := by kernel_rfl
theorem d173_ok : d173.Ok := CC.mk_ok (ro := [215]) (L := []) okN d173 (fn := Tryz.f126) (b := bdy 126) (by kernel_rfl) (by kernel_rfl) (by kernel_rfl) (by kernel_rfl) d173_run
theorem d174_run : (runC (EC [215] []) 20000 d174.n [callFr d174.g Tryz.f126.ntmps d174.l (bdy 126)] d174.ms).vc (retOk d174.n [] d174.s0 d174.ms') (fun _ _ => False) = allP (selfR d174.n [] d174.s0 d174.ms') := by kernel_rfl
theorem d174_ok : d174.Ok := CC.mk_ok (ro := [215]) (L := []) okN d174 (fn := Tryz.f126) (b := bdy 126) (by kernel_rfl) (by kernel_rfl) (by kernel_rfl) (by kernel_rfl) d174_run
theorem d175_run : (runC (EC [215] []) 20000 d175.n [callFr d175.g Tryz.f126.ntmps d175.l (bdy 126)] d175.ms).vc (retOk d175.n [] d175.s0 d175.ms') (fun _ _ => False) = allP (selfR d175.n [] d175.s0 d175.ms') := by kernel_rfl
theorem d175_ok : d175.Ok := CC.mk_ok (ro := [215]) (L := []) okN d175 (fn := Tryz.f126) (b := bdy 126) (by kernel_rfl) (by kernel_rfl) (by kernel_rfl) (by kernel_rfl) d175_run
theorem d177_run : (runC (EC [215] []) 20000 d177.n [callFr d177.g Tryz.f126.ntmps d177.l (bdy 126)] d177.ms).vc (retOk d177.n [(20177, 20177)] d177.s0 d177.ms') (fun _ _ => False) = allP (selfR d177.n [(20177, 20177)] d177.s0 d177.ms') := by kernel_rfl
theorem d177_ok : d177.Ok := CC.mk_ok (ro := [215]) (L := []) okN d177 (fn := Tryz.f126) (b := bdy 126) (by kernel_rfl) (by kernel_rfl) (by kernel_rfl) (by kernel_rfl) d177_run
theorem d178_run : (runC (EC [215] []) 20000 d178.n [callFr d178.g Tryz.f126.ntmps d178.l (bdy 126)] d178.ms).vc (retOk d178.n [] d178.s0 d178.ms') (fun _ _ => False) = allP (selfR d178.n [] d178.s0 d178.ms') := by kernel_rfl
theorem d178_ok : d178.Ok := CC.mk_ok (ro := [215]) (L := []) okN d178 (fn := Tryz.f126) (b := bdy 126) (by kernel_rfl) (by kernel_rfl) (by kernel_rfl) (by kernel_rfl) d178_run
theorem d179_run : (runC (EC [215] []) 20000 d179.n [callFr d179.g Tryz.f126.ntmps d179.l (bdy 126)] d179.ms).vc (retOk d179.n [] d179.s0 d179.ms') (fun _ _ => False) = allP (selfR d179.n [] d179.s0 d179.ms') := by kernel_rfl
theorem d179_ok : d179.Ok := CC.mk_ok (ro := [215]) (L := []) okN d179 (fn := Tryz.f126) (b := bdy 126) (by kernel_rfl) (by kernel_rfl) (by kernel_rfl) (by kernel_rfl) d179_run
theorem d182_run : (runC (EC [215] []) 20000 d182.n [callFr d182.g Tryz.f126.ntmps d182.l (bdy 126)] d182.ms).vc (retOk d182.n [(20669, 20669)] d182.s0 d182.ms') (fun _ _ => False) = allP (selfR d182.n [(20669, 20669)] d182.s0 d182.ms') := by kernel_rfl
theorem d182_ok : d182.Ok := CC.mk_ok (ro := [215]) (L := []) okN d182 (fn := Tryz.f126) (b := bdy 126) (by kernel_rfl) (by kernel_rfl) (by kernel_rfl) (by kernel_rfl) d182_run
theorem d183_run : (runC (EC [215] []) 20000 d183.n [callFr d183.g Tryz.f126.ntmps d183.l (bdy 126)] d183.ms).vc (retOk d183.n [] d183.s0 d183.ms') (fun _ _ => False) = allP (selfR d183.n [] d183.s0 d183.ms') := by kernel_rfl
theorem d183_ok : d183.Ok := CC.mk_ok (ro := [215]) (L := []) okN d183 (fn := Tryz.f126) (b := bdy 126) (by kernel_rfl) (by kernel_rfl) (by kernel_rfl) (by kernel_rfl) d183_run
theorem d184_run : (runC (EC [215] []) 20000 d184.n [callFr d184.g Tryz.f126.ntmps d184.l (bdy 126)] d184.ms).vc (retOk d184.n [] d184.s0 d184.ms') (fun _ _ => False) = allP (selfR d184.n [] d184.s0 d184.ms') := by kernel_rfl
theorem d184_ok : d184.Ok := CC.mk_ok (ro := [215]) (L := []) okN d184 (fn := Tryz.f126) (b := bdy 126) (by kernel_rfl) (by kernel_rfl) (by kernel_rfl) (by kernel_rfl) d184_run
theorem d186_run : (runC (EC [215] []) 20000 d186.n [callFr d186.g Tryz.f126.ntmps d186.l (bdy 126)] d186.ms).vc (retOk d186.n [(21135, 21135)] d186.s0 d186.ms') (fun _ _ => False) = allP (selfR d186.n [(21135, 21135)] d186.s0 d186.ms') := by kernel_rfl
theorem d186_ok : d186.Ok := CC.mk_ok (ro := [215]) (L := []) okN d186 (fn := Tryz.f126) (b := bdy 126) (by kernel_rfl) (by kernel_rfl) (by kernel_rfl) (by kernel_rfl) d186_run
theorem d187_run : (runC (EC [215] []) 20000 d187.n [callFr d187.g Tryz.f126.ntmps d187.l (bdy 126)] d187.ms).vc (retOk d187.n [] d187.s0 d187.ms') (fun _ _ => False) = allP (selfR d187.n [] d187.s0 d187.ms') := by kernel_rfl
theorem d187_ok : d187.Ok := CC.mk_ok (ro := [215]) (L := []) okN d187 (fn := Tryz.f126) (b := bdy 126) (by kernel_rfl) (by kernel_rfl) (by kernel_rfl) (by kernel_rfl) d187_run
theorem d188_run : (runC (EC [215] []) 20000 d188.n [callFr d188.g Tryz.f126.ntmps d188.l (bdy 126)] d188.ms).vc (retOk d188.n [] d188.s0 d188.ms') (fun _ _ => False) = allP (selfR d188.n [] d188.s0 d188.ms') := by kernel_rfl
theorem d188_ok : d188.Ok := CC.mk_ok (ro := [215]) (L := []) okN d188 (fn := Tryz.f126) (b := bdy 126) (by kernel_rfl) (by kernel_rfl) (by kernel_rfl) (by kernel_rfl) d188_run
theorem d190_run : (runC (EC [215] []) 20000 d190.n [callFr d190.g Tryz.f126.ntmps d190.l (bdy 126)] d190.ms).vc (retOk d190.n [(21634, 21634)] d190.s0 d190.ms') (fun _ _ => False) = allP (selfR d190.n [(21634, 21634)] d190.s0 d190.ms') := by kernel_rfl
theorem d190_ok : d190.Ok := CC.mk_ok (ro := [215]) (L := []) okN d190 (fn := Tryz.f126) (b := bdy 126) (by kernel_rfl) (by kernel_rfl) (by kernel_rfl) (by kernel_rfl) d190_run
theorem d191_run : (runC (EC [215] []) 20000 d191.n [callFr d191.g Tryz.f126.ntmps d191.l (bdy 126)] d191.ms).vc (retOk d191.n [] d191.s0 d191.ms') (fun _ _ => False) = allP (selfR d191.n [] d191.s0 d191.ms') := by kernel_rfl
theorem d191_ok : d191.Ok := CC.mk_ok (ro := [215]) (L := []) okN d191 (fn := Tryz.f126) (b := bdy 126) (by kernel_rfl) (by kernel_rfl) (by kernel_rfl) (by kernel_rfl) d191_run
theorem d192_run : (runC (EC [215] []) 20000 d192.n [callFr d192.g Tryz.f126.ntmps d192.l (bdy 126)] d192.ms).vc (retOk d192.n [] d192.s0 d192.ms') (fun _ _ => False) = allP (selfR d192.n [] d192.s0 d192.ms') := by kernel_rfl
theorem d192_ok : d192.Ok := CC.mk_ok (ro := [215]) (L := []) okN d192 (fn := Tryz.f126) (b := bdy 126) (by kernel_rfl) (by kernel_rfl) (by kernel_rfl) (by kernel_rfl) d192_run
theorem d194_run : (runC (EC [215] []) 20000 d194.n [callFr d194.g Tryz.f126.ntmps d194.l (bdy 126)] d194.ms).vc (retOk d194.n [(22132, 22132)] d194.s0 d194.ms') (fun _ _ => False) = allP (selfR d194.n [(22132, 22132)] d194.s0 d194.ms') := by kernel_rfl
theorem d194_ok : d194.Ok := CC.mk_ok (ro := [215]) (L := []) okN d194 (fn := Tryz.f126) (b := bdy 126) (by kernel_rfl) (by kernel_rfl) (by kernel_rfl) (by kernel_rfl) d194_run
theorem d195_run : (runC (EC [215] []) 20000 d195.n [callFr d195.g Tryz.f126.ntmps d195.l (bdy 126)] d195.ms).vc (retOk d195.n [] d195.s0 d195.ms') (fun _ _ => False) = allP (selfR d195.n [] d195.s0 d195.ms') := by kernel_rfl
theorem d195_ok : d195.Ok := CC.mk_ok (ro := [215]) (L := []) okN d195 (fn := Tryz.f126) (b := bdy 126) (by kernel_rfl) (by kernel_rfl) (by kernel_rfl) (by kernel_rfl) d195_run
theorem d196_run : (runC (EC [215] []) 20000 d196.n [callFr d196.g Tryz.f126.ntmps d196.l (bdy 126)] d196.ms).vc (retOk d196.n [] d196.s0 d196.ms') (fun _ _ => False) = allP (selfR d196.n [] d196.s0 d196.ms') := by kernel_rfl
theorem d196_ok : d196.Ok := CC.mk_ok (ro := [215]) (L := []) okN d196 (fn := Tryz.f126) (b := bdy 126) (by kernel_rfl) (by kernel_rfl) (by kernel_rfl) (by kernel_rfl) d196_run
theorem d198_run : (runC (EC [215] []) 20000 d198.n [callFr d198.g Tryz.f126.ntmps d198.l (bdy 126)] d198.ms).vc (retOk d198.n [(22632, 22632)] d198.s0 d198.ms') (fun _ _ => False) = allP (selfR d198.n [(22632, 22632)] d198.s0 d198.ms') := by kernel_rfl
theorem d198_ok : d198.Ok := CC.mk_ok (ro := [215]) (L := []) okN d198 (fn := Tryz.f126) (b := bdy 126) (by kernel_rfl) (by kernel_rfl) (by kernel_rfl) (by kernel_rfl) d198_run
theorem d199_run : (runC (EC [215] []) 20000 d199.n [callFr d199.g Tryz.f126.ntmps d199.l (bdy 126)] d199.ms).vc (retOk d199.n [] d199.s0 d199.ms') (fun _ _ => False) = allP (selfR d199.n [] d199.s0 d199.ms') := by kernel_rfl
theorem d199_ok : d199.Ok := CC.mk_ok (ro := [215]) (L := []) okN d199 (fn := Tryz.f126) (b := bdy 126) (by kernel_rfl) (by kernel_rfl) (by kernel_rfl) (by kernel_rfl) d199_run
theorem d200_run : (runC (EC [215] []) 20000 d200.n [callFr d200.g Tryz.f126.ntmps d200.l (bdy 126)] d200.ms).vc (retOk d200.n [] d200.s0 d200.ms') (fun _ _ => False) = allP (selfR d200.n [] d200.s0 d200.ms') := by kernel_rfl
theorem d200_ok : d200.Ok := CC.mk_ok (ro := [215]) (L := []) okN d200 (fn := Tryz.f126) (b := bdy 126) (by kernel_rfl) (by kernel_rfl) (by kernel_rfl) (by kernel_rfl) d200_run
theorem d202_run : (runC (EC [215] []) 20000 d202.n [callFr d202.g Tryz.f126.ntmps d202.l (bdy 126)] d202.ms).vc (retOk d202.n [(23130, 23130)] d202.s0 d202.ms') (fun _ _ => False) = allP (selfR d202.n [(23130, 23130)] d202.s0 d202.ms') := by kernel_rfl
theorem d202_ok : d202.Ok := CC.mk_ok (ro := [215]) (L := []) okN d202 (fn := Tryz.f126) (b := bdy 126) (by kernel_rfl) (by kernel_rfl) (by kernel_rfl) (by kernel_rfl) d202_run
theorem d203_run : (runC (EC [215] []) 20000 d203.n [callFr d203.g Tryz.f126.ntmps d203.l (bdy 126)] d203.ms).vc (retOk d203.n [] d203.s0 d203.ms') (fun _ _ => False) = allP (selfR d203.n [] d203.s0 d203.ms') := by kernel_rfl
theorem d203_ok : d203.Ok := CC.mk_ok (ro := [215]) (L := []) okN d203 (fn := Tryz.f126) (b := bdy 126) (by kernel_rfl) (by kernel_rfl) (by kernel_rfl) (by kernel_rfl) d203_run
theorem d204_run : (runC (EC [215] []) 20000 d204.n [callFr d204.g Tryz.f126.ntmps d204.l (bdy 126)] d204.ms).vc (retOk d204.n [] d204.s0 d204.ms') (fun _ _ => False) = allP (selfR d204.n [] d204.s0 d204.ms') := by kernel_rfl
theorem d204_ok : d204.Ok := CC.mk_ok (ro := [215]) (L := []) okN d204 (fn := Tryz.f126) (b := bdy 126) (by kernel_rfl) (by kernel_rfl) (by kernel_rfl) (by kernel_rfl) d204_run
theorem d206_run : (runC (EC [215] []) 20000 d206.n [callFr d206.g Tryz.f126.ntmps d206.l (bdy 126)] d206.ms).vc (retOk d206.n [(23613, 23613)] d206.s0 d206.ms') (fun _ _ => False) = allP (selfR d206.n [(23613, 23613)] d206.s0 d206.ms') := by kernel_rfl
theorem d206_ok : d206.Ok := CC.mk_ok (ro := [215]) (L := []) okN d206 (fn := Tryz.f126) (b := bdy 126) (by kernel_rfl) (by kernel_rfl) (by kernel_rfl) (by kernel_rfl) d206_run
theorem d207_run : (runC (EC [215] []) 20000 d207.n [callFr d207.g Tryz.f126.ntmps d207.l (bdy 126)] d207.ms).vc (retOk d207.n [] d207.s0 d207.ms') (fun _ _ => False) = allP (selfR d207.n [] d207.s0 d207.ms') := by kernel_rfl
theorem d207_ok : d207.Ok := CC.mk_ok (ro := [215]) (L := []) okN d207 (fn := Tryz.f126) (b := bdy 126) (by kernel_rfl) (by kernel_rfl) (by kernel_rfl) (by kernel_rfl) d207_run
theorem d208_run : (runC (EC [215] []) 20000 d208.n [callFr d208.g Tryz.f126.ntmps d208.l (bdy 126)] d208.ms).vc (retOk d208.n [] d208.s0 d208.ms') (fun _ _ => False) = allP (selfR d208.n [] d208.s0 d208.ms') := by kernel_rfl
theorem d208_ok : d208.Ok := CC.mk_ok (ro := [215]) (L := []) okN d208 (fn := Tryz.f126) (b := bdy 126) (by kernel_rfl) (by kernel_rfl) (by kernel_rfl) (by kernel_rfl) d208_run
theorem d210_run : (runC (EC [215] []) 20000 d210.n [callFr d210.g Tryz.f126.ntmps d210.l (bdy 126)] d210.ms).vc (retOk d210.n [(24095, 24095)] d210.s0 d210.ms') (fun _ _ => False) = allP (selfR d210.n [(24095, 24095)] d210.s0 d210.ms') := by kernel_rfl
theorem d210_ok : d210.Ok := CC.mk_ok (ro := [215]) (L := []) okN d210 (fn := Tryz.f126) (b := bdy 126) (by kernel_rfl) (by kernel_rfl) (by kernel_rfl) (by kernel_rfl) d210_run
theorem d211_run : (runC (EC [215] []) 20000 d211.n [callFr d211.g Tryz.f126.ntmps d211.l (bdy 126)] d211.ms).vc (retOk d211.n [] d211.s0 d211.ms') (fun _ _ => False) = allP (selfR d211.n [] d211.s0 d211.ms') := by kernel_rfl
theorem d211_ok : d211.Ok := CC.mk_ok (ro := [215]) (L := []) okN d211 (fn := Tryz.f126) (b := bdy 126) (by kernel_rfl) (by kernel_rfl) (by kernel_rfl) (by kernel_rfl) d211_run
end Go.Proofs.YtalaegjdldllfaaGreatDoor
