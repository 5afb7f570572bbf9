/- The document's table and forest: Drop, Raise, Cut, Graft, Fell: states. -/
import Derived.Test.YtdopckcockgefaaDoorMC
import Derived.Test.YtdopckcockgefaaDoorE1
import Derived.Test.YtdopckcockgefaaDoorK15
import Derived.Test.YtdopckcockgefaaDoorF1
set_option linter.unusedVariables false
set_option linter.unusedSimpArgs false
namespace Go.Proofs.YtdopckcockgefaaDoor
set_option maxRecDepth 100000
noncomputable def wd0_0:List Value:=[Value.int .i64 0,Value.int .i64 0,Value.slice none 0 0,Value.int .i64 0,Value.int .i64 0,Value.int .i64 0,Value.int .i64 0,Value.int .i64 0,Value.int .i64 0,Value.int .i64 0,Value.int .i64 0,Value.int .i64 0]
noncomputable def wd0_1 (ws:Array Value):Array Value:=Array.extract ws 0 64
theorem wd0 (ws:Array Value) (h:Int) (o:Array Value) (e:Int) (Q:Int→Array Value→Array Value→Prop):(run EJ4 1000 0 [callFr 60 Tryd.f60.ntmps [wtS ws,i64 (.o h)] (Tryd.f60.body.getD .skip)] e0M).vc (weA o e) (wdL_n h Q) =
  ((64≤Array.size ws∧True)∧(WB (wd0_1 ws)∧True)∧(decide (slW (wd0_1 ws) h<0)=true→(Array.size ws=448∧True)∧(Array.size ws=448∧Array.size ws=448∧True)∧(Array.size ws=448∧True)∧o=ws∧e=4∧True)∧(decide (slW (wd0_1 ws) h<0)=false→(64≤Array.size ws∧True)∧(WB (wd0_1 ws)∧True)∧(Array.size (voW (wd0_1 ws) h)=64∧0+Array.size (voW (wd0_1 ws) h)≤Array.size ws∧True)∧((0≤slW (wd0_1 ws) h∧slW (wd0_1 ws) h<32)∧True)∧(64+Int.toNat (slW (wd0_1 ws) h)*12+12≤Array.size (putAt ws 0 (Array.toList (voW (wd0_1 ws) h)))∧True)∧Q (0:Int) (putAt (putAt ws 0 (Array.toList (voW (wd0_1 ws) h))) (64+Int.toNat (slW (wd0_1 ws) h)*12) (wd0_0)) zW∧cN∧TodoOk (ren 0 [(0,0),(1,1)]) wdL_d0 wdL_d0∧h=h∧(0:Int)=(0:Int)∧51=51∧putAt (putAt ws 0 (Array.toList (voW (wd0_1 ws) h))) (64+Int.toNat (slW (wd0_1 ws) h)*12) (wd0_0)=putAt (putAt ws 0 (Array.toList (voW (wd0_1 ws) h))) (64+Int.toNat (slW (wd0_1 ws) h)*12) (wd0_0)∧51=51∧zW=zW∧True)):=by kernel_rfl
theorem wd1 (h i:Int) (us zz:Array Value) (o:Array Value) (e:Int) (Q:Int→Array Value→Array Value→Prop):(stepT EJ4.go (run EJ4 1000) 0 (wdL_F h i us zz) (wdL_M h i us zz)).vc (weA o e) (wdL_n h Q) =
  ((decide (i<32)=true→((0≤i∧i<32)∧True)∧(IsInt .i64 us (64+Int.toNat i*12)∧True)∧((intAt us (64+Int.toNat i*12)==h)=true→((0≤i∧i<32)∧True)∧(64+Int.toNat i*12<Array.size us∧True)∧Q (ari .add .i64 i 1) (Array.setIfInBounds us (64+Int.toNat i*12) (Value.int .i64 0)) zz∧cN∧TodoOk (ren 0 [(0,0),(1,1)]) wdL_d0 wdL_d0∧h=h∧ari .add .i64 i 1=ari .add .i64 i 1∧51=51∧Array.setIfInBounds us (64+Int.toNat i*12) (Value.int .i64 0)=Array.setIfInBounds us (64+Int.toNat i*12) (Value.int .i64 0)∧51=51∧zz=zz∧True)∧((intAt us (64+Int.toNat i*12)==h)=false→Q (ari .add .i64 i 1) us zz∧cN∧TodoOk (ren 0 [(0,0),(1,1)]) wdL_d0 wdL_d0∧h=h∧ari .add .i64 i 1=ari .add .i64 i 1∧51=51∧us=us∧51=51∧zz=zz∧True))∧(decide (i<32)=false→(Array.size us=448∧True)∧(Array.size us=448∧Array.size us=Array.size zz∧True)∧(Array.size us=448∧True)∧o=us∧e=0∧True)):=by kernel_rfl
noncomputable def wra_0 (ws:Array Value) (h:Int) (u:Int):Array Value:=Array.setIfInBounds ws (64+Int.toNat (slW (Array.extract ws 0 (0+64)) h)*12) (Value.int .i64 u)
noncomputable def wra_1 (ts:Array Value) (ws:Array Value) (h:Int) (u:Int) (o:Array Value) (e:Int):Prop:=((u != 0)==true)=true→(((u==h)==false)=true→(Array.size ws=448∧True)∧(SW ts ws∧FIn ts∧(u=(0:Int)∨gdF ts u=true)∧True)∧(abF ts h u=true→(Array.size ws=448∧True)∧(Array.size ws=448∧Array.size ws=448∧True)∧(Array.size ws=448∧True)∧o=ws∧e=12∧True)∧(abF ts h u=false→(0+64≤Array.size ws∧True)∧(WB (Array.extract ws 0 (0+64))∧True)∧((0≤slW (Array.extract ws 0 (0+64)) h∧slW (Array.extract ws 0 (0+64)) h<32)∧True)∧(64+Int.toNat (slW (Array.extract ws 0 (0+64)) h)*12<Array.size ws∧True)∧(Array.size (wra_0 ws h u)=448∧True)∧(Array.size (wra_0 ws h u)=448∧Array.size (wra_0 ws h u)=448∧True)∧(Array.size (wra_0 ws h u)=448∧True)∧o=Array.setIfInBounds ws (64+Int.toNat (slW (Array.extract ws 0 (0+64)) h)*12) (Value.int .i64 u)∧e=0∧True))∧(((u==h)==false)=false→(Array.size ws=448∧True)∧(Array.size ws=448∧Array.size ws=448∧True)∧(Array.size ws=448∧True)∧o=ws∧e=12∧True)
noncomputable def wra_2 (ws:Array Value) (h:Int) (u:Int) (o:Array Value) (e:Int):Prop:=((u != 0)==true)=false→(0+64≤Array.size ws∧True)∧(WB (Array.extract ws 0 (0+64))∧True)∧((0≤slW (Array.extract ws 0 (0+64)) h∧slW (Array.extract ws 0 (0+64)) h<32)∧True)∧(64+Int.toNat (slW (Array.extract ws 0 (0+64)) h)*12<Array.size ws∧True)∧(Array.size (wra_0 ws h u)=448∧True)∧(Array.size (wra_0 ws h u)=448∧Array.size (wra_0 ws h u)=448∧True)∧(Array.size (wra_0 ws h u)=448∧True)∧o=Array.setIfInBounds ws (64+Int.toNat (slW (Array.extract ws 0 (0+64)) h)*12) (Value.int .i64 u)∧e=0∧True
theorem wra (ts ws:Array Value) (h u:Int) (o:Array Value) (e:Int):(run (EI3 ts) 1000 0 [callFr 62 Tryd.f62.ntmps [wtS ws,i64 (.o h),i64 (.o u)] (Tryd.f62.body.getD .skip)] e0M).vc (weA o e) (fun _ _=>False) =
  ((Array.size ws=448∧True)∧(SW ts ws∧TbOk ts∧True)∧(((!gdF ts h)==false)=true→(((u != 0)==true)=true→(Array.size ws=448∧True)∧(SW ts ws∧TbOk ts∧True)∧((!gdF ts u)=true→(Array.size ws=448∧True)∧(Array.size ws=448∧Array.size ws=448∧True)∧(Array.size ws=448∧True)∧o=ws∧e=4∧True)∧((!gdF ts u)=false→(wra_1 ts ws h u o e)∧(wra_2 ws h u o e)))∧(((u != 0)==true)=false→(wra_1 ts ws h u o e)∧(wra_2 ws h u o e)))∧(((!gdF ts h)==false)=false→(Array.size ws=448∧True)∧(Array.size ws=448∧Array.size ws=448∧True)∧(Array.size ws=448∧True)∧o=ws∧e=4∧True)):=by kernel_rfl
theorem wc0 (ts ws:Array Value) (h:Int) (n:Nat) (ks:Array Value) (o:Array Value) (e:Int) (Q:Int→Array Value→Array Value→Prop):(run (EJ5 ts) 1000 0 [callFr 33 Tryd.f33.ntmps [wtS ws,i64 (.o h)] (Tryd.f33.body.getD .skip)] e0M).vc (weA o e) (wcO_n ws h n ks Q) =
  ((Array.size ws=448∧True)∧(SW ts ws∧TbOk ts∧True)∧((!gdF ts h)=true→(Array.size ws=448∧True)∧(Array.size ws=448∧Array.size ws=448∧True)∧(Array.size ws=448∧True)∧o=ws∧e=4∧True)∧((!gdF ts h)=false→(Array.size ws=448∧True)∧(Array.size ws=448∧Array.size ws=448∧True)∧(Array.size ws=448∧True)∧(SW ts ws∧FIn ts∧True)∧(decide (List.length (unT ts h)=0)=true→False)∧(decide (List.length (unT ts h)=0)=false→Q (0:Int) ws zW∧cN∧TodoOk (ren 0 [(0,0),(1,1),(2,2),(3,3)]) wcO_d0 wcO_d0∧h=h∧n=List.length (unT ts h)∧(0:Int)=(0:Int)∧51=51∧ws=ws∧51=51∧zW=zW∧3=3∧ks=i64s (unT ts h)∧51=51∧ws=ws∧True))):=by kernel_rfl
noncomputable def wcO_0 (ws:Array Value):Array Value:=Array.extract ws 0 (0+64)
noncomputable def wcO_1 (ws:Array Value) (h:Int) (us:Array Value):Array Value:=Array.setIfInBounds us (64+Int.toNat (slW (wcO_0 ws) h)*12) (Value.int .i64 0)
theorem wcO (ts ws:Array Value) (h:Int) (n:Nat) (ks:Array Value) (i:Int) (us zz:Array Value) (o:Array Value) (e:Int) (Q:Int→Int→Int→Array Value→Array Value→Prop):(stepT (EJ5 ts).go (run (EJ5 ts) 1000) 0 (wcO_F ws h n ks i us zz) (wcO_M ws h n ks i us zz)).vc (weA o e) (wcI_n ws h n ks Q) =
  ((decide (i<(↑n:Int))=true→(0+64≤Array.size ws∧True)∧((0≤i∧i<(↑n:Int))∧True)∧(IsInt .i64 ks (0+Int.toNat i*1)∧True)∧(WB (wcO_0 ws)∧True)∧Q i (slW (wcO_0 ws) (intAt ks (0+Int.toNat i*1))) (0:Int) us zz∧cN∧TodoOk (ren 0 [(0,0),(1,1),(2,2),(3,3)]) wcI_d0 wcI_d0∧h=h∧n=n∧slW (wcO_0 ws) (intAt ks (0+Int.toNat i*1))=slW (wcO_0 ws) (intAt ks (0+Int.toNat i*1))∧i=i∧(0:Int)=(0:Int)∧51=51∧ws=ws∧51=51∧zz=zz∧3=3∧ks=ks∧51=51∧us=us∧True)∧(decide (i<(↑n:Int))=false→(0+64≤Array.size ws∧True)∧(WB (wcO_0 ws)∧True)∧((0≤slW (wcO_0 ws) h∧slW (wcO_0 ws) h<32)∧True)∧(64+Int.toNat (slW (wcO_0 ws) h)*12<Array.size us∧True)∧(Array.size (wcO_1 ws h us)=448∧True)∧(Array.size (wcO_1 ws h us)=448∧Array.size (wcO_1 ws h us)=Array.size zz∧True)∧(Array.size (wcO_1 ws h us)=448∧True)∧o=Array.setIfInBounds us (64+Int.toNat (slW (wcO_0 ws) h)*12) (Value.int .i64 0)∧e=0∧True)):=by kernel_rfl
theorem wcI (ts ws:Array Value) (h:Int) (n:Nat) (ks:Array Value) (i k c:Int) (us zz:Array Value) (o:Array Value) (e:Int) (QO:Int→Array Value→Array Value→Prop) (QI:Int→Int→Int→Array Value→Array Value→Prop):(stepT (EJ5 ts).go (run (EJ5 ts) 1000) 0 (wcI_F ws h n ks i k c us zz) (wcI_M ws h n ks i k c us zz)).vc (weA o e) (wcOI ws h n ks QO QI) =
  ((decide (c<8)=true→((0≤k∧k<32)∧True)∧((0≤c∧c<8)∧True)∧(IsInt .i64 ws (64+Int.toNat k*12+4+Int.toNat c*1)∧True)∧(((intAt ws (64+Int.toNat k*12+4+Int.toNat c*1) != 0)==true)=true→(Array.size ws=448∧True)∧(SW ts ws∧FIn ts∧(h=(0:Int)∨gdF ts h=true)∧True)∧(abF ts (intAt ws (64+Int.toNat k*12+4+Int.toNat c*1)) h=true→((0≤k∧k<32)∧True)∧((0≤c∧c<8)∧True)∧(64+Int.toNat k*12+4+Int.toNat c*1<Array.size us∧True)∧QI i k (ari .add .i64 c 1) (Array.setIfInBounds us (64+Int.toNat k*12+4+Int.toNat c*1) (Value.int .i64 0)) zz∧cN∧TodoOk (ren 0 [(0,0),(1,1),(2,2),(3,3)]) wcI_d0 wcI_d0∧h=h∧n=n∧k=k∧i=i∧ari .add .i64 c 1=ari .add .i64 c 1∧51=51∧ws=ws∧51=51∧zz=zz∧3=3∧ks=ks∧51=51∧Array.setIfInBounds us (64+Int.toNat k*12+4+Int.toNat c*1) (Value.int .i64 0)=Array.setIfInBounds us (64+Int.toNat k*12+4+Int.toNat c*1) (Value.int .i64 0)∧True)∧(abF ts (intAt ws (64+Int.toNat k*12+4+Int.toNat c*1)) h=false→QI i k (ari .add .i64 c 1) us zz∧cN∧TodoOk (ren 0 [(0,0),(1,1),(2,2),(3,3)]) wcI_d0 wcI_d0∧h=h∧n=n∧k=k∧i=i∧ari .add .i64 c 1=ari .add .i64 c 1∧51=51∧ws=ws∧51=51∧zz=zz∧3=3∧ks=ks∧51=51∧us=us∧True))∧(((intAt ws (64+Int.toNat k*12+4+Int.toNat c*1) != 0)==true)=false→QI i k (ari .add .i64 c 1) us zz∧cN∧TodoOk (ren 0 [(0,0),(1,1),(2,2),(3,3)]) wcI_d0 wcI_d0∧h=h∧n=n∧k=k∧i=i∧ari .add .i64 c 1=ari .add .i64 c 1∧51=51∧ws=ws∧51=51∧zz=zz∧3=3∧ks=ks∧51=51∧us=us∧True))∧(decide (c<8)=false→QO (ari .add .i64 i 1) us zz∧cN∧TodoOk (ren 0 [(0,0),(1,1),(2,2),(3,3)]) wcO_d0 wcO_d0∧h=h∧n=n∧ari .add .i64 i 1=ari .add .i64 i 1∧51=51∧ws=ws∧51=51∧zz=zz∧3=3∧ks=ks∧51=51∧us=us∧True)):=by kernel_rfl
theorem wg0 (ts us ws:Array Value) (h u:Int) (vs:Array Value) (n:Nat) (ks:Array Value) (o:Array Value) (e e':Int) (Q:Int→Array Value→Prop):(run (EJg ts us) 1000 0 [callFr 34 Tryd.f34.ntmps [wtS ws,i64 (.o h),i64 (.o u)] (Tryd.f34.body.getD .skip)] e0M).vc (weA o e) (wgL_n ws h u vs e' n ks Q) =
  ((Array.size ws=448∧True)∧(SW ts ws∧TbOk ts∧True)∧(((!gdF ts h)==false)=true→(Array.size ws=448∧True)∧(SW ts ws∧TbOk ts∧True)∧((!gdF ts u)=true→(Array.size ws=448∧True)∧(Array.size ws=448∧Array.size ws=448∧True)∧(Array.size ws=448∧True)∧o=ws∧e=4∧True)∧((!gdF ts u)=false→(Array.size ws=448∧True)∧(SW ts ws∧TbOk ts∧True)∧(((upF ts h != 0)==false)=true→(Array.size ws=448∧True)∧(SW ts ws∧FIn ts∧True)∧(outF ts h u=true→(Array.size ws=448∧True)∧(Array.size ws=448∧Array.size ws=448∧True)∧(Array.size ws=448∧True)∧o=ws∧e=12∧True)∧(outF ts h u=false→(Array.size ws=448∧True)∧(SW ts ws∧FIn ts∧True)∧(Array.size (raW ts ws h u)=448∧Array.size (raW ts ws h u)=448∧True)∧(Array.size (raW ts ws h u)=448∧True)∧(SW us (raW ts ws h u)∧FIn us∧True)∧(decide (List.length (unT us h)=0)=true→False)∧(decide (List.length (unT us h)=0)=false→Q (0:Int) zW∧cN∧TodoOk (ren 0 [(0,0),(1,1),(2,2),(3,3)]) wgL_d0 wgL_d0∧h=h∧(0:Int)=(0:Int)∧e'=raE ts h u∧u=u∧n=List.length (unT us h)∧51=51∧ws=ws∧51=51∧zW=zW∧3=3∧ks=i64s (unT us h)∧51=51∧vs=raW ts ws h u∧True)))∧(((upF ts h != 0)==false)=false→(Array.size ws=448∧True)∧(Array.size ws=448∧Array.size ws=448∧True)∧(Array.size ws=448∧True)∧o=ws∧e=12∧True)))∧(((!gdF ts h)==false)=false→(Array.size ws=448∧True)∧(Array.size ws=448∧Array.size ws=448∧True)∧(Array.size ws=448∧True)∧o=ws∧e=4∧True)):=by kernel_rfl
theorem wg1 (ts us ws:Array Value) (h u:Int) (vs:Array Value) (e':Int) (n:Nat) (ks:Array Value) (i:Int) (zz:Array Value) (o:Array Value) (e:Int) (Q:Int→Array Value→Prop):(stepT (EJg ts us).go (run (EJg ts us) 1000) 0 (wgL_F ws h u vs e' n ks i zz) (wgL_M ws h u vs e' n ks i zz)).vc (weA o e) (wgL_n ws h u vs e' n ks Q) =
  ((decide (i<(↑n:Int))=true→(Array.size vs=448∧True)∧((0≤i∧i<(↑n:Int))∧True)∧(IsInt .i64 ks (0+Int.toNat i*1)∧True)∧(SW us vs∧FIn us∧True)∧(decide ((↑(depF us (intAt ks (0+Int.toNat i*1))):Int)>6)=true→(Array.size ws=448∧True)∧(Array.size ws=448∧Array.size ws=Array.size zz∧True)∧(Array.size ws=448∧True)∧o=ws∧e=8∧True)∧(decide ((↑(depF us (intAt ks (0+Int.toNat i*1))):Int)>6)=false→Q (ari .add .i64 i 1) zz∧cN∧TodoOk (ren 0 [(0,0),(1,1),(2,2),(3,3)]) wgL_d0 wgL_d0∧h=h∧ari .add .i64 i 1=ari .add .i64 i 1∧e'=e'∧u=u∧n=n∧51=51∧ws=ws∧51=51∧zz=zz∧3=3∧ks=ks∧51=51∧vs=vs∧True))∧(decide (i<(↑n:Int))=false→(Array.size vs=448∧True)∧(Array.size vs=448∧Array.size vs=Array.size zz∧True)∧(Array.size vs=448∧True)∧o=vs∧e=e'∧True)):=by kernel_rfl
theorem wf0 (ts ws:Array Value) (h:Int) (n:Nat) (ks:Array Value) (o:Array Value) (Q:Int→Array Value→Array Value→Prop):(run (EJ5 ts) 1000 0 [callFr 31 Tryd.f31.ntmps [wtS ws,i64 (.o h)] (Tryd.f31.body.getD .skip)] e0M).vc (wfA o n ks) (wfL_n h n ks Q) =
  ((Array.size ws=448∧True)∧(SW ts ws∧FIn ts∧True)∧(decide (List.length (unT ts h)=0)=true→False)∧(decide (List.length (unT ts h)=0)=false→Q (0:Int) ws zW∧cN∧TodoOk (ren 0 [(0,0),(1,1),(2,2)]) wfL_d0 wfL_d0∧h=h∧n=List.length (unT ts h)∧(0:Int)=(0:Int)∧51=51∧ws=ws∧51=51∧zW=zW∧3=3∧ks=i64s (unT ts h)∧True)):=by kernel_rfl
theorem wf0E (ts ws:Array Value) (h:Int):(run (EJ5z ts) 1000 0 [callFr 31 Tryd.f31.ntmps [wtS ws,i64 (.o h)] (Tryd.f31.body.getD .skip)] e0M).vc (retOk 0 [] (wfN ws) e0M) (fun _ _=>False) =
  ((Array.size ws=448∧True)∧(SW ts ws∧FIn ts∧True)∧(decide (List.length (unT ts h)=0)=true→(Array.size ws=448∧True)∧(Array.size ws=448∧Array.size ws=448∧True)∧(Array.size ws=448∧True)∧ws=ws∧Value.slice none 0 0=Value.slice none 0 0∧(4:Int)=(4:Int)∧True)∧(decide (List.length (unT ts h)=0)=false→(decide ((0:Int)<(↑(List.length (unT ts h)):Int))=true→False)∧(decide ((0:Int)<(↑(List.length (unT ts h)):Int))=false→(((↑(List.length (unT ts h)):Int)==0)=true→(Array.size ws=448∧True)∧(Array.size ws=448∧Array.size ws=448∧True)∧(Array.size ws=448∧True)∧ws=ws∧Value.slice none 0 0=Value.slice none 0 0∧(4:Int)=(4:Int)∧True)∧(((↑(List.length (unT ts h)):Int)==0)=false→(Array.size ws=448∧True)∧(Array.size ws=448∧Array.size ws=448∧True)∧(Array.size ws=448∧True)∧False)))):=by kernel_rfl
theorem wf1 (ts:Array Value) (h:Int) (n:Nat) (ks:Array Value) (i:Int) (us zz:Array Value) (o:Array Value) (Q:Int→Array Value→Array Value→Prop):(stepT (EJ5 ts).go (run (EJ5 ts) 1000) 0 (wfL_F h n ks i us zz) (wfL_M h n ks i us zz)).vc (wfA o n ks) (wfL_n h n ks Q) =
  ((decide (i<(↑n:Int))=true→(Array.size us=448∧True)∧((0≤i∧i<(↑n:Int))∧True)∧(IsInt .i64 ks (0+Int.toNat i*1)∧True)∧(WT us∧True)∧(Array.size (drW us (intAt ks (0+Int.toNat i*1)))=448∧Array.size (drW us (intAt ks (0+Int.toNat i*1)))=Array.size us∧True)∧Q (ari .add .i64 i 1) (drW us (intAt ks (0+Int.toNat i*1))) zz∧cN∧TodoOk (ren 0 [(0,0),(1,1),(2,2)]) wfL_d0 wfL_d0∧h=h∧n=n∧ari .add .i64 i 1=ari .add .i64 i 1∧51=51∧drW us (intAt ks (0+Int.toNat i*1))=drW us (intAt ks (0+Int.toNat i*1))∧51=51∧zz=zz∧3=3∧ks=ks∧True)∧(decide (i<(↑n:Int))=false→(((↑n:Int)==0)=true→(Array.size us=448∧True)∧(Array.size us=448∧Array.size us=Array.size zz∧True)∧(Array.size us=448∧True)∧False)∧(((↑n:Int)==0)=false→(Array.size us=448∧True)∧(Array.size us=448∧Array.size us=Array.size zz∧True)∧(Array.size us=448∧True)∧o=us∧n=n∧(0:Int)=(0:Int)∧3=3∧ks=ks∧True))):=by kernel_rfl
set_option linter.unusedSimpArgs false
set_option linter.unusedVariables false
section
variable {ts ws:Array Value} {h:Int}
theorem SW.wt (w:SW ts ws) (hb:TbOk ts):WT ws:=by
 refine ⟨w.sz,w.wb hb,fun i hi=>?_⟩
 by_cases k:kindAt (bkB ts) i=1
 ·exact isI_of (w.r i hi k 0 (by decide))
 ·exact isI_of (w.z i hi k 0 (by decide))
theorem drL_f (us:Array Value) (h:Int) (hz:us.size=448):∀ n,n≤32→(drL us h n).size=448∧(∀ i,i<n→intAt us (64+i*12)=h→(drL us h n)[64+i*12]?=some (.int .i64 0))∧∀ j,(∀ i,i<n→j=64+i*12→intAt us j≠h)→(drL us h n)[j]?=us[j]?
 | 0,_=>⟨hz,fun i hi=>absurd hi (Nat.not_lt_zero _),fun j _=>rfl⟩
 | n+1,hn=>by
  obtain ⟨z,a,b⟩:=drL_f us h hz n (by omega)
  have e:intAt (drL us h n) (64+n*12)=intAt us (64+n*12):=by
   unfold intAt
   rw [b _ (fun i hi e=>by omega)]
  show ((if intAt (drL us h n) (64+n*12)=h then (drL us h n).setIfInBounds (64+n*12) (.int .i64 0) else drL us h n).size=448)∧(∀ i,i<n+1→intAt us (64+i*12)=h→(if intAt (drL us h n) (64+n*12)=h then (drL us h n).setIfInBounds (64+n*12) (.int .i64 0) else drL us h n)[64+i*12]?=some (.int .i64 0))∧∀ j,(∀ i,i<n+1→j=64+i*12→intAt us j≠h)→(if intAt (drL us h n) (64+n*12)=h then (drL us h n).setIfInBounds (64+n*12) (.int .i64 0) else drL us h n)[j]?=us[j]?
  rw [e]
  by_cases c:intAt us (64+n*12)=h
  ·rw [if_pos c]
   refine ⟨by rw [Array.size_setIfInBounds];exact z,fun i hi hh=>?_,fun j hj=>?_⟩
   ·by_cases d:i=n
    ·rw [d,Array.getElem?_setIfInBounds,if_pos rfl,if_pos (by rw [z];omega)]
    ·rw [Array.getElem?_setIfInBounds,if_neg (by omega)]
     exact a i (by omega) hh
   ·have hne:64+n*12≠j:=fun k=>hj n (by omega) k.symm (by rw [← k];exact c)
    rw [Array.getElem?_setIfInBounds,if_neg hne]
    exact b j fun i hi=>hj i (by omega)
  ·rw [if_neg c]
   refine ⟨z,fun i hi hh=>?_,fun j hj=>b j fun i hi=>hj i (by omega)⟩
   by_cases d:i=n
   ·rw [d] at hh;exact absurd hh c
   ·exact a i (by omega) hh
theorem voW_size (hw:WB ws) (h:Int):(voW ws h).size=64:=by
 unfold voW
 split
 ·exact hw.sz
 ·split
  ·rw [Array.size_setIfInBounds,Array.size_setIfInBounds];exact hw.sz
  ·rw [Array.size_setIfInBounds,Array.size_setIfInBounds];exact hw.sz
theorem dr0_f (t:WT ws) {s:Nat} (hs:s<32) (es:slW (ws.extract 0 64) h=(s:Int)):(dr0 ws h).size=448∧(∀ j,j<64→(dr0 ws h)[j]?=(voW (ws.extract 0 64) h)[j]?)∧∀ j c,j<32→c<12→(dr0 ws h)[64+j*12+c]?=if j=s then zr12[c]? else ws[64+j*12+c]?:=by
 have hz:=t.sz
 have vz:=voW_size t.wb h
 have vl:(voW (ws.extract 0 64) h).toList.length=64:=by rw [Array.length_toList,vz]
 have z0:0+(voW (ws.extract 0 64) h).toList.length≤ws.size:=by omega
 have z1:(putAt ws 0 (voW (ws.extract 0 64) h).toList).size=448:=by rw [putAt_size z0];exact hz
 have zl:zr12.length=12:=rfl
 have e:dr0 ws h=putAt (putAt ws 0 (voW (ws.extract 0 64) h).toList) (64+s*12) zr12:=by unfold dr0;rw [es,Int.toNat_natCast]
 have z2:64+s*12+zr12.length≤(putAt ws 0 (voW (ws.extract 0 64) h).toList).size:=by rw [z1,zl];omega
 refine ⟨by rw [e,putAt_size z2];exact z1,fun j hj=>?_,fun j c hj hc=>?_⟩
 ·rw [e,putAt_out z2 (.inl (by omega)),putAt_in z0 (Nat.zero_le _) (by omega),Nat.sub_zero,Array.getElem?_toList]
 ·rw [e]
  by_cases d:j=s
  ·rw [if_pos d,putAt_in z2 (by omega) (by rw [zl];omega),d]
   congr 1
   omega
  ·rw [if_neg d,putAt_out z2 (by rw [zl];omega),putAt_out z0 (by rw [vl];omega)]
theorem dr0_up (t:WT ws) {s:Nat} (hs:s<32) (es:slW (ws.extract 0 64) h=(s:Int)) {i:Nat} (hi:i<32):IsInt .i64 (dr0 ws h) (64+i*12):=by
 have:=(dr0_f t hs es).2.2 i 0 hi (by decide)
 rw [Nat.add_zero] at this
 by_cases d:i=s
 ·rw [if_pos d] at this
  exact isI_of (n:=0) this
 ·rw [if_neg d] at this
  exact isI_of (this.trans (t.up i hi))
theorem conJ4_ok:∀ g l m t,conJ4 g l m=some t→Con E0 g l m t:=by
 intro g l m t h
 unfold conJ4 at h
 split at h
 ·rename_i ws x;cases h
  exact Con.n1 (rvoid_con x.den m)
 ·exact conI1_ok _ _ _ _ h
theorem EJ4_ok:EnvOk EJ4:=EnvOk.with E0_ok _ _ conJ4_ok
theorem wdL_ok {us zz:Array Value} (hz:us.size=448) (hu:∀ i,i<32→IsInt .i64 us (64+i*12)) (hzz:zz.size=448):∀ (n i:Nat),i+n=32→Good Tryd.prog (weA (drL us h 32) 0) 0 (wdL_F h (i:Int) (drL us h i) zz) (wdL_M h (i:Int) (drL us h i) zz):=by
 intro n
 induction n with
 | zero =>
  intro i hi
  obtain rfl:i=32:=by omega
  obtain ⟨z,_,_⟩:=drL_f us h hz 32 (Nat.le_refl _)
  refine past_vc EJ4_ok 1000 (wd1 h _ _ zz (drL us h 32) 0 (fun _ _ _=>False)) ?_ (fun _ _ h=>h) (fun fs m hb=>wdL_good (fun _ _ _ h=>h.elim) hb)
  have d:decide (((32:Nat):Int)<32)=false:=rfl
  simp only [d,z,hzz,q6]
 | succ n ih =>
  intro i hi
  have hi':i<32:=by omega
  obtain ⟨z,a,b⟩:=drL_f us h hz i (by omega)
  refine past_vc EJ4_ok 1000 (wd1 h (i:Int) _ zz (drL us h 32) 0 (fun i' u z=>i'=((i+1:Nat):Int)∧u=drL us h (i+1)∧z=zz)) ?_ (fun _ _ h=>h) (fun fs m hb=>wdL_good (fun i' u z ⟨e1,e2,e3⟩=>by rw [e1,e2,e3];exact ih (i+1) (by omega)) hb)
  have y0:0≤(i:Int):=by omega
  have y1:(i:Int)<32:=by omega
  have d:decide ((i:Int)<32)=true:=decide_eq_true y1
  have ei:ari .add .i64 (i:Int) 1=((i+1:Nat):Int):=by rw [ari_add,i64_in' (by omega) (by omega)];omega
  have g:IsInt .i64 (drL us h i) (64+i*12):=isI_of ((b _ (fun k hk e=>by omega)).trans (hu i hi'))
  have y:64+i*12<448:=by omega
  have eL:drL us h (i+1)=if intAt (drL us h i) (64+i*12)=h then (drL us h i).setIfInBounds (64+i*12) (.int .i64 0) else drL us h i:=rfl
  rw [eL]
  by_cases c:intAt (drL us h i) (64+i*12)=h
  ·have c1:(intAt (drL us h i) (64+i*12)==h)=true:=beq_iff_eq.2 c
   rw [if_pos c]
   simp only [Int.toNat_natCast,c1,y0,y1,d,ei,g,y,z,decide_true,wdL_d0_ok,q6]
  ·have c1:(intAt (drL us h i) (64+i*12)==h)=false:=beq_eq_false_iff_ne.2 c
   rw [if_neg c]
   simp only [Int.toNat_natCast,c1,y0,y1,d,ei,g,y,z,decide_true,wdL_d0_ok,q6]
theorem rdrop_con (h:Int) (m:SMem):Con E0 60 [wtS ws,i64 (.o h)] m (needs [WT ws] (.ret (weS (drW ws h) (drE ws h)) m)):=by
 refine Con.pure E0_ok (by kernel_rfl:E0.fn 60=some Tryd.f60) (by kernel_rfl:Tryd.f60.body=some (Tryd.f60.body.getD .skip)) (by kernel_rfl) (by kernel_rfl) fun hq=>?_
 have t:WT ws:=hq _ (by simp)
 have hz:=t.sz
 have h64:(64:Nat)≤448:=by decide
 have wb:=t.wb
 by_cases c:slW (ws.extract 0 64) h<0
 ·refine (Good.ret [] (run_vc EJ4_ok 1000 (wd0 ws h (drW ws h) (drE ws h) (fun _ _ _=>False)) ?_ (fun s m h=>h) fun fs m hb=>wdL_good (fun _ _ _ h=>h.elim) hb)).mono fun _ _ h=>h.1
  unfold wd0_1 wd0_0
  have d:decide (slW (ws.extract 0 64) h<0)=true:=decide_eq_true c
  have e1:drW ws h=ws:=if_pos c
  have e2:drE ws h=4:=if_pos c
  simp only [d,e1,e2,hz,h64,wb,q6]
 ·have hlt:slW (ws.extract 0 64) h<32:=slFrom_lt 32 0 rfl
  obtain ⟨s,es⟩:∃ j:Nat,slW (ws.extract 0 64) h=(j:Int):=⟨(slW (ws.extract 0 64) h).toNat,by omega⟩
  have hs:s<32:=by omega
  have e1:drW ws h=drL (dr0 ws h) h 32:=if_neg c
  have e2:drE ws h=0:=if_neg c
  rw [e1,e2]
  refine (Good.ret [] (run_vc EJ4_ok 1000 (wd0 ws h (drL (dr0 ws h) h 32) 0 (fun i u z=>i=((0:Nat):Int)∧u=drL (dr0 ws h) h 0∧z=zW)) ?_ (fun s m h=>h) fun fs m hb=>wdL_good (fun i u z ⟨a,b,d⟩=>by rw [a,b,d];exact wdL_ok (dr0_f t hs es).1 (fun i hi=>dr0_up t hs es hi) zW_sz 32 0 rfl) hb)).mono fun _ _ h=>h.1
  unfold wd0_1 wd0_0
  have d:decide (slW (ws.extract 0 64) h<0)=false:=decide_eq_false c
  have vz:=voW_size wb h
  have y0:0≤slW (ws.extract 0 64) h:=by omega
  have z0:0+(voW (ws.extract 0 64) h).toList.length≤ws.size:=by rw [Array.length_toList];omega
  have z1:(putAt ws 0 (voW (ws.extract 0 64) h).toList).size=448:=by rw [putAt_size z0];exact hz
  have y2:64+(slW (ws.extract 0 64) h).toNat*12+12≤448:=by omega
  simp only [d,vz,y0,hlt,z1,y2,hz,h64,wb,Nat.zero_add,wdL_d0_ok,q6]
  exact ⟨rfl,rfl⟩
theorem voW_f (hw:WB ws) {s:Nat} (hs:s<32) (es:slW ws h=(s:Int)):∀ j,j<32→(voW ws h)[j]?=(if j=s∧gnW ws s≠8388607 then some (.int .i64 (gnW ws s+1)) else ws[j]?)∧(voW ws h)[32+j]?=(if j=s then some (.int .i64 (if gnW ws s=8388607 then 2 else 0)) else ws[32+j]?):=by
 intro j hj
 have hz:=hw.sz
 unfold voW
 rw [if_neg (by omega),es,Int.toNat_natCast]
 by_cases c:gnW ws s=8388607
 ·rw [if_pos c,if_neg (fun k=>k.2 c),if_pos c]
  constructor
  ·rw [Array.getElem?_setIfInBounds,if_neg (by omega),Array.getElem?_setIfInBounds,if_neg (by omega)]
  ·rw [Array.getElem?_setIfInBounds]
   by_cases d:j=s
   ·rw [if_pos d,if_pos (by omega),if_pos (by rw [Array.size_setIfInBounds];omega)]
   ·rw [if_neg d,if_neg (by omega),Array.getElem?_setIfInBounds,if_neg (by omega)]
 ·rw [if_neg c,if_neg c]
  constructor
  ·rw [Array.getElem?_setIfInBounds]
   by_cases d:j=s
   ·rw [if_pos d.symm,if_pos (show j=s∧gnW ws s≠8388607 from ⟨d,c⟩),if_pos (by rw [Array.size_setIfInBounds];omega)]
   ·rw [if_neg (fun k=>d k.symm),if_neg (show ¬ (j=s∧gnW ws s≠8388607) from fun k=>d k.1),Array.getElem?_setIfInBounds,if_neg (by omega)]
  ·rw [Array.getElem?_setIfInBounds,if_neg (by omega),Array.getElem?_setIfInBounds]
   by_cases d:j=s
   ·rw [if_pos d,if_pos (by omega),if_pos (by omega)]
   ·rw [if_neg d,if_neg (by omega)]
theorem SW.drop (w:SW ts ws) (hb:TbOk ts) (h:Int):SW (dropT ts h) (drW ws h)∧drE ws h=getX5 ts h:=by
 have es:=w.slot hb h
 have t:=w.wt hb
 cases hg:gdF ts h with
 | false =>
  rw [if_neg (by rw [hg];decide)] at es
  have e1:drW ws h=ws:=if_pos (by omega)
  have e2:drE ws h=4:=if_pos (by omega)
  have e3:dropT ts h=ts:=by unfold dropT;rw [hg];rfl
  have e4:getX5 ts h=4:=by unfold getX5;rw [hg];rfl
  rw [e1,e2,e3,e4]
  exact ⟨w,rfl⟩
 | true =>
  rw [if_pos hg] at es
  obtain ⟨_,_,h32,hk,hn,_,h1⟩:=good_f hb hg
  have e1:drW ws h=drL (dr0 ws h) h 32:=if_neg (by omega)
  have e2:drE ws h=0:=if_neg (by omega)
  have e3:dropT ts h=drT ts h:=by unfold dropT;rw [hg];rfl
  have e4:getX5 ts h=0:=by unfold getX5;rw [hg];rfl
  rw [e1,e2,e3,e4]
  refine ⟨?_,rfl⟩
  obtain ⟨a1,a2,a3⟩:=dr0_f t h32 es
  obtain ⟨b1,b2,b3⟩:=drL_f (dr0 ws h) h a1 32 (Nat.le_refl _)
  have v:=voW_f t.wb h32 es
  obtain ⟨d1,d2,d3,d4⟩:=drop_f hb hg
  have egn:gnW (ws.extract 0 64) (sl h)=ageAt (bkB ts) (sl h):=w.gn h32
  have evS:bkB (drT ts h)=voidS (bkB ts) (sl h):=by
   rw [d2]
   rcases void_cases hb.bk h with ⟨k,_⟩ | ⟨i,hi,_,e,_,ev⟩
   ·rw [show goodB (bkB ts) h=true from hg] at k;cases k
   ·rw [ev]
    have:sl h=i:=by rw [e];exact slotI_name hi (hb.bk.ra i hi)
    rw [this]
  have hbs:=hb.bk.sz
  have ek:∀ j,kindAt (bkB (drT ts h)) j=if j=sl h then (if ageAt (bkB ts) (sl h)=8388607 then 2 else 0) else kindAt (bkB ts) j:=fun j=>by rw [evS];exact void_kind hbs h32
  have ea:∀ j,ageAt (bkB (drT ts h)) j=if j=sl h then (if ageAt (bkB ts) (sl h)=8388607 then ageAt (bkB ts) (sl h) else ageAt (bkB ts) (sl h)+1) else ageAt (bkB ts) j:=fun j=>by rw [evS];exact void_age hbs h32
  have low:∀ j,j<64→(drL (dr0 ws h) h 32)[j]?=(voW (ws.extract 0 64) h)[j]?:=fun j hj=>by
   rw [b3 j (fun i hi e=>by omega)]
   exact a2 j hj
  refine ⟨b1,fun j hj=>?_,fun j hj=>?_,fun j hj hkj c hc=>?_,fun j hj hkj c hc=>?_⟩
  ·rw [low j (by omega),(v j hj).1,ea,egn]
   by_cases d:j=sl h
   ·by_cases k:ageAt (bkB ts) (sl h)=8388607
    ·rw [if_neg (fun q=>q.2 k),if_pos d,if_pos k,w.bk (by omega),d]
     exact w.g _ h32
    ·rw [if_pos ⟨d,k⟩,if_pos d,if_neg k]
   ·rw [if_neg (fun q=>d q.1),if_neg d,w.bk (by omega)]
    exact w.g j hj
  ·rw [low (32+j) (by omega),(v j hj).2,ek,egn]
   by_cases d:j=sl h
   ·rw [if_pos d,if_pos d]
   ·rw [if_neg d,if_neg d,w.bk (by omega)]
    exact w.s j hj
  ·rw [ek] at hkj
   by_cases d:j=sl h
   ·rw [if_pos d] at hkj
    split at hkj <;> exact absurd hkj (by decide)
   rw [if_neg d] at hkj
   have en:nmF (drT ts h) j=nmF ts j:=by unfold nmF;rw [ea,if_neg d]
   rw [en]
   have gx:gdF ts (nmF ts j)=true:=(goodB_iff hb.bk).2 ⟨j,hj,hkj,rfl⟩
   have hne:nmF ts j≠h:=fun k=>d (by rw [hn] at k;exact (name_inj hj h32 k).1)
   obtain ⟨q1,q2,q3⟩:=d4 _ gx hne
   have qu:=drop_up hb hg gx hne
   have ar:∀ c,c<12→(dr0 ws h)[64+j*12+c]?=(rwF ts (nmF ts j))[c]?:=fun c hc=>by
    rw [a3 j c hj hc,if_neg d]
    exact w.r j hj hkj c hc
   have er:rwF (drT ts h) (nmF ts j)=rwA (if upF ts (nmF ts j)=h then 0 else upF ts (nmF ts j)) (quF ts (nmF ts j)) (ceF ts (nmF ts j)):=rwA_eq qu q2 q3
   rw [er]
   have i0:intAt (dr0 ws h) (64+j*12)=upF ts (nmF ts j):=intAt_of (ar 0 (by decide))
   by_cases hc0:c=0
   ·rw [hc0]
    by_cases k:upF ts (nmF ts j)=h
    ·rw [if_pos k]
     exact b2 j hj (i0.trans k)
    ·rw [if_neg k]
     rw [b3 _ (fun i hi e=>by
      have:i=j:=by omega
      rw [Nat.add_zero,i0];exact k)]
     exact ar 0 (by decide)
   ·rw [b3 _ (fun i hi e=>by omega),ar c hc]
    match c,hc,hc0 with
    | 1,_,_ | 2,_,_ | 3,_,_ | 4,_,_ | 5,_,_ | 6,_,_ | 7,_,_ | 8,_,_ | 9,_,_ | 10,_,_ | 11,_,_=>rfl
  ·have ar:∀ c,c<12→(dr0 ws h)[64+j*12+c]?=(rwA 0 0 fun _=>0)[c]?:=fun c hc=>by
    rw [a3 j c hj hc]
    by_cases d:j=sl h
    ·rw [if_pos d]
     match c,hc with
     | 0,_ | 1,_ | 2,_ | 3,_ | 4,_ | 5,_ | 6,_ | 7,_ | 8,_ | 9,_ | 10,_ | 11,_=>rfl
    ·rw [if_neg d]
     rw [ek,if_neg d] at hkj
     exact w.z j hj hkj c hc
   have i0:intAt (dr0 ws h) (64+j*12)=0:=intAt_of (ar 0 (by decide))
   rw [b3 _ (fun i hi e=>by
    by_cases hc0:c=0
    ·rw [hc0,Nat.add_zero,i0];omega
    ·omega)]
   exact ar c hc
end
section
variable {ts ws:Array Value} {h:Int}
theorem SW.rows (w:SW ts ws) (hb:TbOk ts) {ts' ws':Array Value} (e:bkB ts'=bkB ts) (sz:ws'.size=448) (lo:∀ j,j<64→ws'[j]?=ws[j]?) (r:∀ x,gdF ts x=true→∀ c,c<12→ws'[64+sl x*12+c]?=(rwF ts' x)[c]?) (z:∀ i,i<32→kindAt (bkB ts) i≠1→∀ c,c<12→ws'[64+i*12+c]?=ws[64+i*12+c]?):SW ts' ws':=by
 have en:∀ i,nmF ts' i=nmF ts i:=fun i=>by unfold nmF;rw [e]
 refine ⟨sz,fun i hi=>?_,fun i hi=>?_,fun i hi hk c hc=>?_,fun i hi hk c hc=>?_⟩
 ·rw [lo i (by omega),e];exact w.g i hi
 ·rw [lo (32+i) (by omega),e];exact w.s i hi
 ·rw [e] at hk
  have gx:gdF ts (nmF ts i)=true:=(goodB_iff hb.bk).2 ⟨i,hi,hk,rfl⟩
  have es:sl (nmF ts i)=i:=slotI_name hi (hb.bk.ra i hi)
  have:=r _ gx c hc
  rw [es] at this
  rw [en]
  exact this
 ·rw [e] at hk
  rw [z i hi hk c hc]
  exact w.z i hi hk c hc
theorem sl_inj (hb:TbOk ts) {x y:Int} (hx:gdF ts x=true) (hy:gdF ts y=true) (e:sl x=sl y):x=y:=by
 obtain ⟨_,_,_,_,nx,_⟩:=good_f hb hx
 obtain ⟨_,_,_,_,ny,_⟩:=good_f hb hy
 rw [nx,ny,e]
theorem sl_dead (hb:TbOk ts) {x:Int} (hx:gdF ts x=true) {i:Nat} (hk:kindAt (bkB ts) i≠1):sl x≠i:=fun e=>by
 obtain ⟨_,_,_,k,_⟩:=good_f hb hx
 rw [e] at k
 exact hk k
theorem raU (hb:TbOk ts) (hg:gdF ts h=true) {u:Int} (hu:u=0∨gdF ts u=true) (hi:inH u):∀ x,gdF ts x=true→upF (raS ts h u) x=if x=h then u else upF ts x:=by
 intro x hx
 obtain ⟨r1,r2,r3,r4,r5⟩:=raS_f hb hg hi
 split
 ·rename_i c
  unfold upF
  rw [c,gd_bk r2,gd_bk r2,r3,if_pos hg]
  rcases hu with k | k
  ·rw [k];split <;> rfl
  ·rw [if_pos k]
 ·rename_i c
  exact up_bk r2 (r4 x hx c)
theorem SW.raise (w:SW ts ws) (hb:TbOk ts) (hg:gdF ts h=true) {u:Int} (hu:u=0∨gdF ts u=true):SW (raS ts h u) (ws.setIfInBounds (64+sl h*12) (.int .i64 u)):=by
 have hi:inH u:=by
  rcases hu with k | k
  ·rw [k];exact ⟨by decide,by decide⟩
  ·exact (good_f hb k).2.2.2.2.2.1
 obtain ⟨r1,r2,r3,r4,r5⟩:=raS_f hb hg hi
 have hz:=w.sz
 have h32:=(good_f hb hg).2.2.1
 refine w.rows hb r2 (by rw [Array.size_setIfInBounds];exact hz) (fun j hj=>?_) (fun x hx c hc=>?_) (fun i hi' hk c hc=>?_)
 ·rw [Array.getElem?_setIfInBounds,if_neg (by omega)]
 ·have x32:=(good_f hb hx).2.2.1
  have er:rwF (raS ts h u) x=rwA (if x=h then u else upF ts x) (quF ts x) (ceF ts x):=rwA_eq (raU hb hg hu hi x hx) (r5 x).1 (fun k hk=>(r5 x).2 k hk)
  rw [er,Array.getElem?_setIfInBounds]
  by_cases e:x=h
  ·rw [if_pos e,e]
   by_cases c0:c=0
   ·rw [c0,if_pos (by omega),if_pos (by omega)]
    rfl
   ·rw [if_neg (by omega),w.cell hb hg hc]
    match c,hc,c0 with
    | 1,_,_ | 2,_,_ | 3,_,_ | 4,_,_ | 5,_,_ | 6,_,_ | 7,_,_ | 8,_,_ | 9,_,_ | 10,_,_ | 11,_,_=>rfl
  ·have:sl x≠sl h:=fun k=>e (sl_inj hb hx hg k)
   rw [if_neg e,if_neg (by omega),w.cell hb hx hc]
   rfl
 ·have:=sl_dead hb hg hk
  rw [Array.getElem?_setIfInBounds,if_neg (by omega)]
theorem ra_in (hf:FIn ts) {u:Int} (hu:u=0∨gdF ts u=true):decide (h∈chL (upF ts) u)=((u != 0)&&((u==h)||abF ts h u)):=by
 rcases hu with k | k
 ·rw [k,ch_zero];rfl
 ·have hu:=(lv_mem hf.ok).2 k
  have nz:=hf.fo.nz u hu
  rw [bne_iff_ne.2 nz,Bool.true_and,ch_cons hf.fo hu]
  unfold abF
  cases c:(u==h) with
  | true=>rw [Bool.true_or];exact decide_eq_true (by rw [beq_iff_eq.1 c];exact List.mem_cons_self ..)
  | false =>
   rw [Bool.false_or]
   refine decide_eq_decide.2 ⟨fun m=>(List.mem_cons.1 m).resolve_left fun e=>beq_eq_false_iff_ne.1 c e.symm,fun m=>List.mem_cons_of_mem _ m⟩
theorem rraise_con (h u:Int) (m:SMem):Con E0 62 [wtS ws,i64 (.o h),i64 (.o u)] m (needs [SW ts ws,FIn ts] (.ret (weS (raW ts ws h u) (raE ts h u)) m)):=by
 refine Con.pure E0_ok (by kernel_rfl:E0.fn 62=some Tryd.f62) (by kernel_rfl:Tryd.f62.body=some (Tryd.f62.body.getD .skip)) (by kernel_rfl) (by kernel_rfl) fun hq=>?_
 have w:SW ts ws:=hq _ (by simp)
 have hf:FIn ts:=hq _ (by simp)
 have hb:=hf.ok
 have hz:=w.sz
 have hle:64≤ws.size:=by omega
 have h64:(64:Nat)≤448:=by decide
 have wb:=w.wb hb
 have es:=w.slot hb h
 refine (Good.ret [] (run_vc (EI3_ok ts) 1000 (wra ts ws h u (raW ts ws h u) (raE ts h u)) ?_ (fun s m h=>h) fun _ _ h=>h.elim)).mono fun _ _ h=>h.1
 unfold wra_2 wra_1 wra_0
 have bad:(gdF ts h=false∨(u≠0∧gdF ts u=false))→raW ts ws h u=ws∧raE ts h u=4:=fun k=>by
  have e1:raE ts h u=4:=by unfold raE;rw [if_pos k]
  exact ⟨by unfold raW;rw [if_neg (by rw [e1];decide)],e1⟩
 cases hg:gdF ts h with
 | false =>
  obtain ⟨e1,e2⟩:=bad (.inl hg)
  simp only [hz,w,hb,hf,hg,e1,e2,q8,q6]
 | true =>
  rw [if_pos hg] at es
  have h32:=(good_f hb hg).2.2.1
  have y0:(0:Int)≤(sl h:Int):=by omega
  have y1:(sl h:Int)<32:=by omega
  have y2:64+sl h*12<448:=by omega
  by_cases hz0:u=0
  ·have c0:(u != 0)=false:=by rw [hz0];rfl
   have n1:¬ (gdF ts h=false∨(u≠0∧gdF ts u=false)):=by rintro (k | ⟨k,_⟩);(rw [hg] at k;cases k);exact k hz0
   have n2:h∉chL (upF ts) u:=by rw [hz0,ch_zero];exact List.not_mem_nil
   have e1:raE ts h u=0:=by unfold raE;rw [if_neg n1,if_neg n2]
   have e2:raW ts ws h u=ws.setIfInBounds (64+sl h*12) (.int .i64 u):=by unfold raW;rw [if_pos e1]
   simp only [hz,h64,hle,wb,w,hb,hf,hg,es,e1,e2,c0,y0,y1,y2,Int.toNat_natCast,Nat.zero_add,Array.size_setIfInBounds,q8,q6]
  ·have c0:(u != 0)=true:=bne_iff_ne.2 hz0
   cases hgu:gdF ts u with
   | false =>
    obtain ⟨e1,e2⟩:=bad (.inr ⟨hz0,hgu⟩)
    simp only [hz,w,hb,hf,hg,hgu,e1,e2,c0,q8,q6]
   | true =>
    have n1:¬ (gdF ts h=false∨(u≠0∧gdF ts u=false)):=by
     rintro (k | ⟨_,k⟩)
     ·rw [hg] at k;cases k
     ·rw [hgu] at k;cases k
    have hin:=ra_in (h:=h) hf (.inr hgu)
    rw [c0,Bool.true_and] at hin
    cases c1:(u==h) with
    | true =>
     rw [c1,Bool.true_or] at hin
     have e1:raE ts h u=12:=by unfold raE;rw [if_neg n1,if_pos (of_decide_eq_true hin)]
     have e2:raW ts ws h u=ws:=by unfold raW;rw [if_neg (by rw [e1];decide)]
     simp only [hz,w,hb,hf,hg,hgu,e1,e2,c0,c1,q8,q6]
    | false =>
     rw [c1,Bool.false_or] at hin
     cases c2:abF ts h u with
     | true =>
      rw [c2] at hin
      have e1:raE ts h u=12:=by unfold raE;rw [if_neg n1,if_pos (of_decide_eq_true hin)]
      have e2:raW ts ws h u=ws:=by unfold raW;rw [if_neg (by rw [e1];decide)]
      simp only [hz,w,hb,hf,hg,hgu,e1,e2,c0,c1,c2,or_true,q8,q6]
     | false =>
      rw [c2] at hin
      have e1:raE ts h u=0:=by unfold raE;rw [if_neg n1,if_neg (of_decide_eq_false hin)]
      have e2:raW ts ws h u=ws.setIfInBounds (64+sl h*12) (.int .i64 u):=by unfold raW;rw [if_pos e1]
      simp only [hz,h64,hle,wb,w,hb,hf,hg,hgu,es,e1,e2,c0,c1,c2,y0,y1,y2,Int.toNat_natCast,Nat.zero_add,Array.size_setIfInBounds,or_true,q8,q6]
structure RwOk (rr:Array Value):Prop where
 sz:rr.size=12
 q:IsInt .i64 rr 1
 hq:0≤intAt rr 1∧intAt rr 1≤64
 r:rr[2]?=some (.slice none 0 0)
 l:IsInt .i64 rr 3
 hl:intAt rr 3=0
 c:∀ k,k<8→IsInt .i64 rr (4+k)
def seW (ts ws:Array Value) (h:Int) (rr:Array Value):Array Value:=if gdF ts h=true then putAt ws (64+sl h*12) (rwA (upF ts h) (intAt rr 1) fun k=>intAt rr (4+k)).toList else ws
theorem rset_con {rr:Array Value} (h:Int) (m:SMem):Con E0 36 [wtS ws,i64 (.o h),wtS rr] m (needs [SW ts ws,TbOk ts,RwOk rr] (.ret (weS (seW ts ws h rr) (getX5 ts h)) m)):=by
 refine Con.pure E0_ok (by kernel_rfl:E0.fn 36=some Tryd.f36) (by kernel_rfl:Tryd.f36.body=some (Tryd.f36.body.getD .skip)) (by kernel_rfl) (by kernel_rfl) fun hq=>?_
 have w:SW ts ws:=hq _ (by simp)
 have hb:TbOk ts:=hq _ (by simp)
 have rk:RwOk rr:=hq _ (by simp)
 have hz:=w.sz
 have h64:(64:Nat)≤448:=by decide
 have wb:=w.wb hb
 have es:=w.slot hb h
 refine (Good.ret [] (run_vc EI1_ok 1000 (se0 ws h rr (seW ts ws h rr) (getX5 ts h)) ?_ (fun s m h=>h) fun _ _ h=>h.elim)).mono fun _ _ h=>h.1
 unfold se0_3 se0_2 se0_1 se0_0
 cases hg:gdF ts h with
 | false =>
  rw [if_neg (by rw [hg];decide)] at es
  have d:decide (slW (ws.extract 0 64) h<0)=true:=decide_eq_true (by omega)
  have e1:seW ts ws h rr=ws:=by unfold seW;rw [hg];rfl
  have e2:getX5 ts h=4:=by unfold getX5;rw [hg];rfl
  simp only [hz,h64,wb,d,e1,e2,q6]
 | true =>
  rw [if_pos hg] at es
  have h32:=(good_f hb hg).2.2.1
  have y0:(0:Int)≤(sl h:Int):=by omega
  have y1:(sl h:Int)<32:=by omega
  have d:decide ((sl h:Int)<0)=false:=decide_eq_false (by omega)
  have c0:ws[64+sl h*12]?=some (.int .i64 (upF ts h)):=w.cell hb hg (j:=0) (by decide)
  have e1:seW ts ws h rr=putAt ws (64+sl h*12) (rwA (upF ts h) (intAt rr 1) fun k=>intAt rr (4+k)).toList:=by unfold seW;rw [hg];rfl
  have e2:getX5 ts h=0:=by unfold getX5;rw [hg];rfl
  have rz:=rk.sz
  have n0:(rr.setIfInBounds 0 (.int .i64 (upF ts h)))[0]?=some (.int .i64 (upF ts h)):=by rw [Array.getElem?_setIfInBounds,if_pos rfl,if_pos (by omega)]
  have z:∀ j,j≠0→(rr.setIfInBounds 0 (.int .i64 (upF ts h)))[j]?=rr[j]?:=fun j hj=>by rw [Array.getElem?_setIfInBounds,if_neg (fun k=>hj k.symm)]
  have zi:∀ j,j≠0→IsInt .i64 rr j→(IsInt .i64 (rr.setIfInBounds 0 (.int .i64 (upF ts h))) j∧intAt (rr.setIfInBounds 0 (.int .i64 (upF ts h))) j=intAt rr j):=fun j hj k=>by
   have:=(z j hj).trans k
   exact ⟨isI_of this,intAt_of this⟩
  have q1:=rk.q
  have q3:=rk.l
  have n2:=rk.r
  have n2':(rr.setIfInBounds 0 (.int .i64 (upF ts h)))[2]?=some (.slice none 0 0):=by rw [z 2 (by decide)];exact n2
  have l3:=rk.hl
  have d1:decide (intAt rr 1<0)=false:=decide_eq_false (by have:=rk.hq.1;omega)
  have d2:decide (intAt rr 1>64)=false:=decide_eq_false (by have:=rk.hq.2;omega)
  have d3:decide ((0:Int)≥0)=true:=rfl
  have d4:decide ((0:Int)≤0)=true:=rfl
  have y3:0<12:=by decide
  have zl:(rwA (upF ts h) (intAt rr 1) fun k=>intAt rr (4+k)).toList.length=12:=rfl
  have z2:64+sl h*12+(rwA (upF ts h) (intAt rr 1) fun k=>intAt rr (4+k)).toList.length≤ws.size:=by rw [zl];omega
  have z3:(putAt ws (64+sl h*12) (rwA (upF ts h) (intAt rr 1) fun k=>intAt rr (4+k)).toList).size=448:=by rw [putAt_size z2];exact hz
  have ef:putAt ws (64+sl h*12) [Value.int .i64 (upF ts h),Value.int .i64 (intAt rr 1),Value.slice none 0 0,Value.int .i64 0,Value.int .i64 (intAt rr 4),Value.int .i64 (intAt rr 5),Value.int .i64 (intAt rr 6),Value.int .i64 (intAt rr 7),Value.int .i64 (intAt rr 8),Value.int .i64 (intAt rr 9),Value.int .i64 (intAt rr 10),Value.int .i64 (intAt rr 11)]=putAt ws (64+sl h*12) (rwA (upF ts h) (intAt rr 1) fun k=>intAt rr (4+k)).toList:=rfl
  obtain ⟨p1,p1'⟩:=zi 1 (by decide) q1
  obtain ⟨p3,p3'⟩:=zi 3 (by decide) q3
  obtain ⟨p4,p4'⟩:=zi 4 (by decide) (rk.c 0 (by decide))
  obtain ⟨p5,p5'⟩:=zi 5 (by decide) (rk.c 1 (by decide))
  obtain ⟨p6,p6'⟩:=zi 6 (by decide) (rk.c 2 (by decide))
  obtain ⟨p7,p7'⟩:=zi 7 (by decide) (rk.c 3 (by decide))
  obtain ⟨p8,p8'⟩:=zi 8 (by decide) (rk.c 4 (by decide))
  obtain ⟨p9,p9'⟩:=zi 9 (by decide) (rk.c 5 (by decide))
  obtain ⟨p10,p10'⟩:=zi 10 (by decide) (rk.c 6 (by decide))
  obtain ⟨p11,p11'⟩:=zi 11 (by decide) (rk.c 7 (by decide))
  have y4:64+sl h*12+12≤448:=by omega
  simp only [hz,h64,wb,d,es,y0,y1,y3,y4,rz,q1,q3,n2,n2',l3,d1,d2,d3,d4,Int.toNat_natCast,isI_of c0,intAt_of c0,isI_of n0,intAt_of n0,p1,p1',p3,p3',p4,p4',p5,p5',p6,p6',p7,p7',p8,p8',p9,p9',p10,p10',p11,p11',e1,e2,ef,z3,List.length_cons,List.length_nil,q8,q6]
theorem SW.set (w:SW ts ws) (hb:TbOk ts) (hg:gdF ts h=true) {rp rr:Array Value} (hr:RgOk rp 0) (e1:intAt rr 1=intAt rp 1) (e2:∀ k,k<8→intAt rr (4+k)=intAt rp (4+k)):SW (setT ts h rp) (seW ts ws h rr):=by
 obtain ⟨r1,r2,r3,r4,r5⟩:=set_f hb hg hr
 have hz:=w.sz
 have h32:=(good_f hb hg).2.2.1
 have eW:seW ts ws h rr=putAt ws (64+sl h*12) (rwA (upF ts h) (intAt rr 1) fun k=>intAt rr (4+k)).toList:=by unfold seW;rw [hg];rfl
 have zl:(rwA (upF ts h) (intAt rr 1) fun k=>intAt rr (4+k)).toList.length=12:=rfl
 have z2:64+sl h*12+(rwA (upF ts h) (intAt rr 1) fun k=>intAt rr (4+k)).toList.length≤ws.size:=by rw [zl];omega
 rw [eW]
 refine w.rows hb r2 (by rw [putAt_size z2];exact hz) (fun j hj=>?_) (fun x hx c hc=>?_) (fun i hi' hk c hc=>?_)
 ·rw [putAt_out z2 (.inl (by omega))]
 ·have x32:=(good_f hb hx).2.2.1
  have eu:upF (setT ts h rp) x=upF ts x:=up_bk r2 (r3 x hx)
  by_cases e:x=h
  ·rw [e] at eu ⊢
   have er:rwF (setT ts h rp) h=rwA (upF ts h) (intAt rr 1) (fun k=>intAt rr (4+k)):=rwA_eq eu (r4.1.trans e1.symm) (fun k hk=>(r4.2 k hk).trans (e2 k hk).symm)
   rw [er,putAt_in z2 (by omega) (by rw [zl];omega),Array.getElem?_toList]
   congr 1
   omega
  ·have:sl x≠sl h:=fun k=>e (sl_inj hb hx hg k)
   have er:rwF (setT ts h rp) x=rwF ts x:=rwA_eq eu (r5 x hx e).1 (r5 x hx e).2
   rw [er,putAt_out z2 (by rw [zl];omega)]
   exact w.cell hb hx hc
 ·have:=sl_dead hb hg hk
  rw [putAt_out z2 (by rw [zl];omega)]
end
section
variable {ts ws:Array Value} {h:Int}
theorem conJ5_ok (ts:Array Value):∀ g l m t,conJ5 ts g l m=some t→Con E0 g l m t:=by
 intro g l m t h
 unfold conJ5 at h
 split at h
 ·rename_i ws x;cases h
  exact Con.n1 (rdrop_con x.den m)
 ·rename_i ws a x;cases h
  exact Con.n2 (rraise_con a.den x.den m)
 ·rename_i ws x;cases h
  exact Con.n1 (runder_con x.den m)
 ·rename_i ws x;cases h
  exact Con.n1 (rkids_con x.den m)
 ·rename_i ws a x;cases h
  exact Con.n2 (rout_con a.den x.den m)
 ·exact conI3_ok ts _ _ _ _ h
theorem EJ5_ok (ts:Array Value):EnvOk (EJ5 ts):=EnvOk.with E0_ok _ _ (conJ5_ok ts)
theorem EJ5z_ok (ts:Array Value):EnvOk (EJ5z ts):=EnvOk.with E0_ok _ _ (conJ5_ok ts)
def cuB (ts:Array Value) (h x:Int) (k:Nat):Bool:=(ceF ts x k != 0)&&abF ts (ceF ts x k) h
def cuC (ts:Array Value) (h x:Int) (us:Array Value):Nat→Array Value
 | 0=>us
 | c+1=>if cuB ts h x c=true then (cuC ts h x us c).setIfInBounds (64+sl x*12+4+c) (.int .i64 0) else cuC ts h x us c
def cuL (ts:Array Value) (h:Int) (us:Array Value) (l:List Int):Array Value:=l.foldl (fun u x=>cuC ts h x u 8) us
theorem cuL_one (us:Array Value) (l:List Int) (x:Int):cuL ts h us (l++[x])=cuC ts h x (cuL ts h us l) 8:=by unfold cuL;rw [List.foldl_append];rfl
noncomputable def cuW (ts ws:Array Value) (h:Int):Array Value:=if gdF ts h=true then (cuL ts h ws (unT ts h)).setIfInBounds (64+sl h*12) (.int .i64 0) else ws
theorem cuC_f {x:Int} (hx:sl x<32) {us:Array Value} (hz:us.size=448):∀ c,c≤8→(cuC ts h x us c).size=448∧(∀ k,k<c→(cuC ts h x us c)[64+sl x*12+4+k]?=if cuB ts h x k=true then some (.int .i64 0) else us[64+sl x*12+4+k]?)∧∀ j,(∀ k,k<c→j≠64+sl x*12+4+k)→(cuC ts h x us c)[j]?=us[j]?
 | 0,_=>⟨hz,fun k hk=>absurd hk (Nat.not_lt_zero _),fun j _=>rfl⟩
 | c+1,hc=>by
  obtain ⟨z,a,b⟩:=cuC_f hx hz c (by omega)
  have e:cuC ts h x us (c+1)=if cuB ts h x c=true then (cuC ts h x us c).setIfInBounds (64+sl x*12+4+c) (.int .i64 0) else cuC ts h x us c:=rfl
  rw [e]
  by_cases k:cuB ts h x c=true
  ·rw [if_pos k]
   refine ⟨by rw [Array.size_setIfInBounds];exact z,fun j hj=>?_,fun j hj=>?_⟩
   ·by_cases d:j=c
    ·rw [d,if_pos k,Array.getElem?_setIfInBounds,if_pos rfl,if_pos (by omega)]
    ·rw [Array.getElem?_setIfInBounds,if_neg (by omega)]
     exact a j (by omega)
   ·rw [Array.getElem?_setIfInBounds,if_neg (fun q=>hj c (by omega) q.symm)]
    exact b j fun i hi=>hj i (by omega)
  ·rw [if_neg k]
   refine ⟨z,fun j hj=>?_,fun j hj=>b j fun i hi=>hj i (by omega)⟩
   by_cases d:j=c
   ·rw [d,if_neg k]
    exact b _ fun i hi=>by omega
   ·exact a j (by omega)
theorem cuL_f (hb:TbOk ts):∀ (l:List Int) {us:Array Value},us.size=448→(∀ x∈l,gdF ts x=true)→(cuL ts h us l).size=448∧(∀ y,gdF ts y=true→∀ k,k<8→(cuL ts h us l)[64+sl y*12+4+k]?=if y∈l∧cuB ts h y k=true then some (.int .i64 0) else us[64+sl y*12+4+k]?)∧∀ j,(∀ y,gdF ts y=true→∀ k,k<8→j≠64+sl y*12+4+k)→(cuL ts h us l)[j]?=us[j]?
 | [],us,hz,_=>⟨hz,fun y _ k _=>by rw [if_neg (fun q=>by cases q.1)];rfl,fun j _=>rfl⟩
 | x :: l,us,hz,hl=>by
  have gx:=hl x (List.mem_cons_self ..)
  have x32:=(good_f hb gx).2.2.1
  obtain ⟨z,a,b⟩:=cuC_f (ts:=ts) (h:=h) x32 hz 8 (Nat.le_refl _)
  obtain ⟨z2,a2,b2⟩:=cuL_f hb l z fun y hy=>hl y (List.mem_cons_of_mem _ hy)
  have e:cuL ts h us (x :: l)=cuL ts h (cuC ts h x us 8) l:=rfl
  rw [e]
  refine ⟨z2,fun y hy k hk=>?_,fun j hj=>?_⟩
  ·rw [a2 y hy k hk]
   by_cases c:y=x
   ·rw [c,a k hk]
    by_cases d:cuB ts h x k=true
    ·rw [if_pos d,if_pos (show x∈x :: l∧cuB ts h x k=true from ⟨List.mem_cons_self ..,d⟩)]
     split <;> rfl
    ·rw [if_neg d,if_neg (fun q=>d q.2),if_neg (fun q=>d q.2)]
   ·have hne:sl y≠sl x:=fun q=>c (sl_inj hb hy gx q)
    rw [b _ (fun i hi=>by omega)]
    by_cases d:y∈l∧cuB ts h y k=true
    ·rw [if_pos d,if_pos (show y∈x :: l∧cuB ts h y k=true from ⟨List.mem_cons_of_mem _ d.1,d.2⟩)]
    ·rw [if_neg d,if_neg (fun q=>d ⟨(List.mem_cons.1 q.1).resolve_left c,q.2⟩)]
  ·rw [b2 j hj]
   exact b j (hj x gx)
theorem wcOI_good {n:Nat} {ks:Array Value} {A:SV→SMem→Prop} {QO:Int→Array Value→Array Value→Prop} {QI:Int→Int→Int→Array Value→Array Value→Prop} {fs:List SFr} {m:SMem} (hO:∀ i us zz,QO i us zz→Good Tryd.prog A 0 (wcO_F ws h n ks i us zz) (wcO_M ws h n ks i us zz)) (hI:∀ i k c us zz,QI i k c us zz→Good Tryd.prog A 0 (wcI_F ws h n ks i k c us zz) (wcI_M ws h n ks i k c us zz)) (hb:wcOI ws h n ks QO QI fs m):Good Tryd.prog A 0 fs m:=by
 unfold wcOI at hb
 split at hb
 ·exact wcO_good hO hb
 ·exact wcI_good hI hb
theorem wcI_ok (w:SW ts ws) (hf:FIn ts) (hg:gdF ts h=true) {x:Int} (gx:gdF ts x=true) {n:Nat} {ks zz us O:Array Value} (hz:us.size=448) {i:Nat} (hi:i<1000) (hO:Good Tryd.prog (weA O 0) 0 (wcO_F ws h n ks ((i+1:Nat):Int) (cuC ts h x us 8) zz) (wcO_M ws h n ks ((i+1:Nat):Int) (cuC ts h x us 8) zz)):∀ (r c:Nat),c+r=8→Good Tryd.prog (weA O 0) 0 (wcI_F ws h n ks (i:Int) (sl x:Int) (c:Int) (cuC ts h x us c) zz) (wcI_M ws h n ks (i:Int) (sl x:Int) (c:Int) (cuC ts h x us c) zz):=by
 have hb:=hf.ok
 have hs:=w.sz
 have x32:=(good_f hb gx).2.2.1
 intro r
 induction r with
 | zero =>
  intro c hc
  obtain rfl:c=8:=by omega
  refine past_vc (EJ5_ok ts) 1000 (wcI ts ws h n ks (i:Int) (sl x:Int) _ _ zz O 0 (fun i' u z=>i'=((i+1:Nat):Int)∧u=cuC ts h x us 8∧z=zz) (fun _ _ _ _ _=>False)) ?_ (fun _ _ h=>h) (fun fs m hb=>wcOI_good (fun i' u z ⟨a,b,c⟩=>by rw [a,b,c];exact hO) (fun _ _ _ _ _ h=>h.elim) hb)
  have d:decide (((8:Nat):Int)<8)=false:=rfl
  have ei:ari .add .i64 (i:Int) 1=((i+1:Nat):Int):=by rw [ari_add,i64_in' (by omega) (by omega)];omega
  simp only [d,ei,wcO_d0_ok,q6]
 | succ r ih =>
  intro c hc
  have hc':c<8:=by omega
  obtain ⟨z,a,b⟩:=cuC_f (ts:=ts) (h:=h) x32 hz c (by omega)
  refine past_vc (EJ5_ok ts) 1000 (wcI ts ws h n ks (i:Int) (sl x:Int) (c:Int) _ zz O 0 (fun _ _ _=>False) (fun i' k' c' u z=>i'=(i:Int)∧k'=(sl x:Int)∧c'=((c+1:Nat):Int)∧u=cuC ts h x us (c+1)∧z=zz)) ?_ (fun _ _ h=>h) (fun fs m hb=>wcOI_good (fun _ _ _ h=>h.elim) (fun i' k' c' u z ⟨e1,e2,e3,e4,e5⟩=>by rw [e1,e2,e3,e4,e5];exact ih (c+1) (by omega)) hb)
  have d:decide ((c:Int)<8)=true:=decide_eq_true (by omega)
  have ei:ari .add .i64 (c:Int) 1=((c+1:Nat):Int):=by rw [ari_add,i64_in' (by omega) (by omega)];omega
  have y0:0≤(sl x:Int):=by omega
  have y1:(sl x:Int)<32:=by omega
  have y2:0≤(c:Int):=by omega
  have y3:(c:Int)<8:=by omega
  have y4:64+sl x*12+4+c<448:=by omega
  have cc:ws[64+sl x*12+4+c]?=some (.int .i64 (ceF ts x c)):=by
   rw [Nat.add_assoc,w.cell hb gx (by omega)]
   match c,hc' with
   | 0,_ | 1,_ | 2,_ | 3,_ | 4,_ | 5,_ | 6,_ | 7,_=>rfl
  have e:cuC ts h x us (c+1)=if cuB ts h x c=true then (cuC ts h x us c).setIfInBounds (64+sl x*12+4+c) (.int .i64 0) else cuC ts h x us c:=rfl
  rw [e]
  unfold cuB
  cases c1:(ceF ts x c != 0) with
  | false =>
   rw [Bool.false_and,if_neg Bool.false_ne_true]
   simp only [Int.toNat_natCast,Nat.mul_one,isI_of cc,intAt_of cc,c1,d,ei,y0,y1,y2,y3,beqT,beqF,decide_true,wcI_d0_ok,q6]
  | true =>
   rw [Bool.true_and]
   cases c2:abF ts (ceF ts x c) h with
   | false =>
    rw [if_neg Bool.false_ne_true]
    simp only [Int.toNat_natCast,Nat.mul_one,isI_of cc,intAt_of cc,c1,c2,d,ei,y0,y1,y2,y3,hs,w,hf,hg,or_true,beqT,beqF,decide_true,wcI_d0_ok,q6]
   | true =>
    rw [if_pos rfl]
    simp only [Int.toNat_natCast,Nat.mul_one,isI_of cc,intAt_of cc,c1,c2,d,ei,y0,y1,y2,y3,y4,z,hs,w,hf,hg,or_true,beqT,beqF,decide_true,wcI_d0_ok,q6]
theorem wcO_ok (w:SW ts ws) (hf:FIn ts) (hg:gdF ts h=true) {zz:Array Value} (hzz:zz.size=448):∀ (r i:Nat),i+r=(unT ts h).length→Good Tryd.prog (weA (cuW ts ws h) 0) 0 (wcO_F ws h (unT ts h).length (i64s (unT ts h)) (i:Int) (cuL ts h ws ((unT ts h).take i)) zz) (wcO_M ws h (unT ts h).length (i64s (unT ts h)) (i:Int) (cuL ts h ws ((unT ts h).take i)) zz):=by
 have hb:=hf.ok
 have hs:=w.sz
 have hx:=(lv_mem hb).2 hg
 have hle:64≤ws.size:=by omega
 have wb:=w.wb hb
 have hun:unT ts h=UNL ts h:=if_pos hg
 have hu32:(unT ts h).length≤32:=by rw [hun];exact un_32 hf hx
 have hall:∀ x∈unT ts h,gdF ts x=true:=fun x hm=>(lv_mem hb).1 (un_sub hf.fo h hx x (by rw [hun] at hm;exact hm)).1
 intro r
 induction r with
 | zero =>
  intro i hi
  obtain rfl:i=(unT ts h).length:=by omega
  obtain ⟨z,_,_⟩:=cuL_f (h:=h) hb (unT ts h) hs hall
  have es:=w.slot hb h
  rw [if_pos hg] at es
  have h32:=(good_f hb hg).2.2.1
  refine past_vc (EJ5_ok ts) 1000 (wcO ts ws h _ _ _ _ zz (cuW ts ws h) 0 (fun _ _ _ _ _=>False)) ?_ (fun _ _ h=>h) (fun fs m hb=>wcI_good (fun _ _ _ _ _ h=>h.elim) hb)
  unfold wcO_1 wcO_0
  have d:decide (((unT ts h).length:Int)<((unT ts h).length:Int))=false:=decide_eq_false (by omega)
  have y0:(0:Int)≤(sl h:Int):=by omega
  have y1:(sl h:Int)<32:=by omega
  have y2:64+sl h*12<448:=by omega
  have h64:(64:Nat)≤448:=by decide
  have e:cuW ts ws h=(cuL ts h ws (unT ts h)).setIfInBounds (64+sl h*12) (.int .i64 0):=if_pos hg
  simp only [d,es,y0,y1,y2,e,z,hs,hzz,h64,wb,List.take_length,Int.toNat_natCast,Nat.zero_add,Array.size_setIfInBounds,q6]
 | succ r ih =>
  intro i hi
  have hi':i<(unT ts h).length:=by omega
  have gx:=hall ((unT ts h).getD i 0) (by rw [List.getD_eq_getElem?_getD,List.getElem?_eq_getElem hi'];exact List.getElem_mem hi')
  obtain ⟨z,_,_⟩:=cuL_f (h:=h) hb ((unT ts h).take i) hs fun x hm=>hall x (List.mem_of_mem_take hm)
  refine past_vc (EJ5_ok ts) 1000 (wcO ts ws h _ _ (i:Int) _ zz (cuW ts ws h) 0 (fun i' k' c' u z=>i'=(i:Int)∧k'=(sl ((unT ts h).getD i 0):Int)∧c'=((0:Nat):Int)∧u=cuL ts h ws ((unT ts h).take i)∧z=zz)) ?_ (fun _ _ h=>h) (fun fs m hb=>wcI_good (fun i' k' c' u zz' ⟨a,b,c,d,e⟩=>by
   rw [a,b,c,d,e]
   have:=ih (i+1) (by omega)
   rw [take_one hi',cuL_one] at this
   exact wcI_ok w hf hg gx z (by omega) this 8 0 rfl) hb)
  unfold wcO_1 wcO_0
  have es:=w.slot hb ((unT ts h).getD i 0)
  rw [if_pos gx] at es
  have d:decide ((i:Int)<((unT ts h).length:Int))=true:=decide_eq_true (by omega)
  have g1:IsInt .i64 (i64s (unT ts h)) i:=isI_of (i64s_at hi')
  have g2:intAt (i64s (unT ts h)) i=(unT ts h).getD i 0:=intAt_of (i64s_at hi')
  have y0:0≤(i:Int):=by omega
  have y1:(i:Int)<((unT ts h).length:Int):=by omega
  have h64:(64:Nat)≤448:=by decide
  simp only [d,es,g1,g2,y0,y1,hs,h64,wb,decide_true,wcI_d0_ok,q7,q6]
  rfl
theorem rcut_con (h:Int) (m:SMem):Con E0 33 [wtS ws,i64 (.o h)] m (needs [SW ts ws,FIn ts] (.ret (weS (cuW ts ws h) (cutE ts h)) m)):=by
 refine Con.pure E0_ok (by kernel_rfl:E0.fn 33=some Tryd.f33) (by kernel_rfl:Tryd.f33.body=some (Tryd.f33.body.getD .skip)) (by kernel_rfl) (by kernel_rfl) fun hq=>?_
 have w:SW ts ws:=hq _ (by simp)
 have hf:FIn ts:=hq _ (by simp)
 have hb:=hf.ok
 have hz:=w.sz
 cases hg:gdF ts h with
 | false =>
  refine (Good.ret [] (run_vc (EJ5_ok ts) 1000 (wc0 ts ws h 0 #[] (cuW ts ws h) (cutE ts h) (fun _ _ _=>False)) ?_ (fun s m h=>h) fun fs m hb=>wcO_good (fun _ _ _ h=>h.elim) hb)).mono fun _ _ h=>h.1
  have e1:cuW ts ws h=ws:=by unfold cuW;rw [hg];rfl
  have e2:cutE ts h=4:=by unfold cutE;rw [hg];rfl
  simp only [hz,w,hb,hg,e1,e2,Bool.not_false,q6]
 | true =>
  have hx:=(lv_mem hb).2 hg
  have hun:unT ts h=UNL ts h:=if_pos hg
  have d:decide ((unT ts h).length=0)=false:=decide_eq_false (by rw [hun,unl_cons hf hx,List.length_cons];omega)
  have e2:cutE ts h=0:=by unfold cutE;rw [hg];rfl
  rw [e2]
  refine (Good.ret [] (run_vc (EJ5_ok ts) 1000 (wc0 ts ws h (unT ts h).length (i64s (unT ts h)) (cuW ts ws h) 0 (fun i u z=>i=((0:Nat):Int)∧u=cuL ts h ws ((unT ts h).take 0)∧z=zW)) ?_ (fun s m h=>h) fun fs m hb=>wcO_good (fun i u z ⟨a,b,c⟩=>by rw [a,b,c];exact wcO_ok w hf hg zW_sz (unT ts h).length 0 (by omega)) hb)).mono fun _ _ h=>h.1
  simp only [hz,w,hb,hf,hg,d,Bool.not_true,wcO_d0_ok,q6]
  exact ⟨rfl,rfl⟩
theorem cuB_cl (hf:FIn ts) (hg:gdF ts h=true) {x:Int} {k:Nat}:(if cuB ts h x k=true then 0 else ceF ts x k)=clC ts h (ceF ts x k):=by
 have hb:=hf.ok
 have hx:=(lv_mem hb).2 hg
 unfold clC cuB
 rw [out_ab hf,hg,Bool.true_and]
 generalize ceF ts x k=c
 cases ha:abF ts c h with
 | false =>
  rw [Bool.and_false,if_neg Bool.false_ne_true,Bool.or_false]
  split
  ·rename_i q
   have:=q.2
   simp only [Bool.and_eq_true,beq_iff_eq] at this
   exact absurd this.2 q.1
  ·rfl
 | true =>
  have hm:c∈chL (upF ts) (upF ts h):=of_decide_eq_true ha
  have hl:=ch_sub hf.fo (upF ts h) (up_cl hf hx) c hm
  have gc:=(lv_mem hb).1 hl
  have hne:c≠h:=fun e=>by
   have nd:=ch_nodup hf.fo h (.inr hx)
   rw [ch_cons hf.fo hx] at nd
   exact (List.nodup_cons.1 nd).1 (by rw [e] at hm;exact hm)
  rw [bne_iff_ne.2 (hf.fo.nz c hl),gc,Bool.or_true]
  simp [hne]
theorem SW.cut (w:SW ts ws) (hf:FIn ts):SW (cutT ts h) (cuW ts ws h):=by
 cases hg:gdF ts h with
 | false =>
  have e1:cuW ts ws h=ws:=by unfold cuW;rw [hg];rfl
  have e2:cutT ts h=ts:=by unfold cutT;rw [hg];rfl
  rw [e1,e2];exact w
 | true =>
  have hb:=hf.ok
  have hs:=w.sz
  obtain ⟨k1,k2,k3,k4,k5⟩:=cut_in hf hg
  have hl:h∈lvT ts:=(lv_mem hb).2 hg
  have h32:=(good_f hb hg).2.2.1
  have elv:=lv_bk k2
  have hl':h∈lvT (raS ts h 0):=by rw [elv];exact hl
  have eT:cutT ts h=cuN ts h (raS ts h 0) (UNL (raS ts h 0) h):=if_pos hg
  obtain ⟨c1,c2,c3⟩:=cu_f (ts:=ts) (h:=h) (UNL (raS ts h 0) h) k1.ok (fun x hx=>(lv_mem k1.ok).1 (un_sub k1.fo h hl' x hx).1)
  obtain ⟨r1,r2,r3,r4,r5⟩:=raS_f (u:=0) hb hg ⟨by decide,by decide⟩
  have ebk:=c2.trans k2
  have hun:unT ts h=UNL ts h:=if_pos hg
  have hall:∀ x∈unT ts h,gdF ts x=true:=fun x hm=>(lv_mem hb).1 (un_sub hf.fo h hl x (by rw [hun] at hm;exact hm)).1
  obtain ⟨z,a,b⟩:=cuL_f (h:=h) hb (unT ts h) hs hall
  have e1:cuW ts ws h=(cuL ts h ws (unT ts h)).setIfInBounds (64+sl h*12) (.int .i64 0):=if_pos hg
  rw [e1,eT]
  refine w.rows hb ebk (by rw [Array.size_setIfInBounds];exact z) (fun j hj=>?_) (fun x hx c hc=>?_) (fun i hi' hk c hc=>?_)
  ·rw [Array.getElem?_setIfInBounds,if_neg (by omega),b j (fun y hy k hk=>by omega)]
  ·have x32:=(good_f hb hx).2.2.1
   have gx':gdF (raS ts h 0) x=true:=by rw [gd_bk k2];exact hx
   obtain ⟨d1,d2,d3⟩:=c3 x gx'
   have eu:upF (cuN ts h (raS ts h 0) (UNL (raS ts h 0) h)) x=if x=h then 0 else upF ts x:=(up_bk c2 d1).trans (raU hb hg (.inl rfl) ⟨by decide,by decide⟩ x hx)
   have hm:x∈UNL (raS ts h 0) h↔x∈unT ts h:=by
    rw [hun,un_mem k1.fo hl',un_mem hf.fo hl,elv]
    exact ⟨fun q=>⟨q.1,(k4 x (.inr q.1)).1 q.2⟩,fun q=>⟨q.1,(k4 x (.inr q.1)).2 q.2⟩⟩
   have ec:∀ k,k<8→ceF (cuN ts h (raS ts h 0) (UNL (raS ts h 0) h)) x k=if x∈unT ts h∧cuB ts h x k=true then 0 else ceF ts x k:=fun k hk=>by
    rw [d3 k hk,(r5 x).2 k hk,← cuB_cl hf hg]
    by_cases q:x∈unT ts h
    ·rw [if_pos (hm.2 q)]
     by_cases p:cuB ts h x k=true
     ·rw [if_pos p,if_pos ⟨q,p⟩]
     ·rw [if_neg p,if_neg (fun s=>p s.2)]
    ·rw [if_neg (fun s=>q (hm.1 s)),if_neg (fun s=>q s.1)]
   have er:rwF (cuN ts h (raS ts h 0) (UNL (raS ts h 0) h)) x=rwA (if x=h then 0 else upF ts x) (quF ts x) (fun k=>if x∈unT ts h∧cuB ts h x k=true then 0 else ceF ts x k):=rwA_eq eu (d2.trans (r5 x).1) ec
   rw [er]
   by_cases hc4:c<4
   ·by_cases e:x=h
    ·rw [Array.getElem?_setIfInBounds,e]
     by_cases c0:c=0
     ·rw [c0,if_pos (by omega),if_pos (by omega)]
      rw [if_pos rfl]
      rfl
     ·rw [if_neg (by omega),b _ (fun y hy k hk=>by omega),w.cell hb hg hc]
      match c,hc4,c0 with
      | 1,_,_ | 2,_,_ | 3,_,_=>rfl
    ·have:sl x≠sl h:=fun k=>e (sl_inj hb hx hg k)
     rw [Array.getElem?_setIfInBounds,if_neg (by omega),b _ (fun y hy k hk=>by omega),w.cell hb hx hc,if_neg e]
     match c,hc4 with
     | 0,_ | 1,_ | 2,_ | 3,_=>rfl
   ·obtain ⟨k,rfl⟩:∃ k,c=4+k:=⟨c - 4,by omega⟩
    have hk:k<8:=by omega
    rw [Array.getElem?_setIfInBounds,if_neg (by omega),← Nat.add_assoc,a x hx k hk,Nat.add_assoc,w.cell hb hx hc]
    have e3:(rwF ts x)[4+k]?=some (.int .i64 (ceF ts x k)):=by
     match k,hk with
     | 0,_ | 1,_ | 2,_ | 3,_ | 4,_ | 5,_ | 6,_ | 7,_=>rfl
    have e4:(rwA (if x=h then 0 else upF ts x) (quF ts x) (fun k=>if x∈unT ts h∧cuB ts h x k=true then 0 else ceF ts x k))[4+k]?=some (.int .i64 (if x∈unT ts h∧cuB ts h x k=true then 0 else ceF ts x k)):=by
     match k,hk with
     | 0,_ | 1,_ | 2,_ | 3,_ | 4,_ | 5,_ | 6,_ | 7,_=>rfl
    rw [e3,e4]
    split <;> rfl
  ·have hd:=sl_dead hb hg hk
   rw [Array.getElem?_setIfInBounds,if_neg (by omega)]
   refine b _ (fun y hy k hk'=>?_)
   have:=sl_dead hb hy hk
   omega
end
section
variable {ts ws:Array Value} {h u:Int}
theorem conJg_ok (ts us:Array Value):∀ g l m t,conJg ts us g l m=some t→Con E0 g l m t:=by
 intro g l m t h
 unfold conJg at h
 split at h
 ·rename_i ws x;cases h
  exact Con.n1 (runder_con x.den m)
 ·rename_i ws x;cases h
  exact Con.n1 (rdepth_con x.den m)
 ·exact conJ5_ok ts _ _ _ _ h
theorem EJg_ok (ts us:Array Value):EnvOk (EJg ts us):=EnvOk.with E0_ok _ _ (conJg_ok ts us)
theorem gr_us (hv:FV ts) (hg:gdF ts h=true) (hgu:gdF ts u=true) (h0r:upF ts h=0) (hnot:h∉chL (upF ts) u):FIn (raS ts h u)∧bkB (raS ts h u)=bkB ts∧(∀ y,y∈unT (raS ts h u) h↔y∈UNL ts h)∧∀ y∈unT (raS ts h u) h,depF (raS ts h u) y=depF ts y+depF ts u:=by
 have hf:=hv.f
 have hb:=hf.ok
 have hl:=(lv_mem hb).2 hg
 have hlu:=(lv_mem hb).2 hgu
 have hi:inH u:=(good_f hb hgu).2.2.2.2.2.1
 obtain ⟨r1,r2,r3,r4,r5⟩:=raS_f (u:=u) hb hg hi
 have h0:upF (raS ts h u) h=u:=by unfold upF;rw [gd_bk r2,gd_bk r2,r3,if_pos hg,if_pos hgu]
 have hsm:∀ x∈lvT ts,x≠h→upF (raS ts h u) x=upF ts x:=fun x hx hne=>up_bk r2 (r4 x ((lv_mem hb).1 hx) hne)
 obtain ⟨f1,f2,f3⟩:=graft_ch hf.fo hl h0r hlu hnot h0 hsm (fun x hx hc=>by have:=hv.d x hx;have:=hv.d u hlu;omega)
 have elv:=lv_bk r2
 have hF:FIn (raS ts h u):=⟨r1,by rw [elv];exact f1⟩
 have eU:unT (raS ts h u) h=UNL (raS ts h u) h:=if_pos (by rw [gd_bk r2];exact hg)
 have hl':h∈lvT (raS ts h u):=by rw [elv];exact hl
 have hm:∀ y,y∈unT (raS ts h u) h↔y∈UNL ts h:=fun y=>by
  rw [eU,un_mem hF.fo hl',un_mem hf.fo hl,elv]
  constructor
  ·rintro ⟨a,b⟩
   refine ⟨a,?_⟩
   by_cases c:h∈chL (upF ts) y
   ·exact c
   ·rw [f2 y (.inr a) c] at b;exact b
  ·rintro ⟨a,b⟩
   exact ⟨a,by rw [f3 y (.inr a) b];exact List.mem_append_left _ b⟩
 refine ⟨hF,r2,hm,fun y hy=>?_⟩
 obtain ⟨a,b⟩:=(un_mem hf.fo hl).1 ((hm y).1 hy)
 have ga:=(lv_mem hb).1 a
 unfold depF
 rw [if_pos (by rw [gd_bk r2];exact ga),if_pos ga,if_pos hgu]
 unfold depL
 rw [f3 y (.inr a) b,List.length_append]
noncomputable def grW (ts ws:Array Value) (h u:Int):Array Value:=if grE ts h u=0 then ws.setIfInBounds (64+sl h*12) (.int .i64 u) else ws
theorem wgL_ok (ts:Array Value) (hw:ws.size=448) {vs us:Array Value} (hu:SW us vs) (hF:FIn us) {U:List Int} (hU:U=unT us h) (hl:U.length≤32) {zz:Array Value} (hzz:zz.size=448) {o:Array Value} {e:Int} (ho:(∀ x∈U,depF us x≤6)→o=vs∧e=0) (hn:(¬ ∀ x∈U,depF us x≤6)→o=ws∧e=8):∀ (r i:Nat),i+r=U.length→(∀ j,j<i→depF us (U.getD j 0)≤6)→Good Tryd.prog (weA o e) 0 (wgL_F ws h u vs 0 U.length (i64s U) (i:Int) zz) (wgL_M ws h u vs 0 U.length (i64s U) (i:Int) zz):=by
 have hvs:=hu.sz
 intro r
 induction r with
 | zero =>
  intro i hi hj
  obtain rfl:i=U.length:=by omega
  obtain ⟨e1,e2⟩:=ho fun x hx=>by
   obtain ⟨j,hj',rfl⟩:=List.getElem_of_mem hx
   have:=hj j hj'
   rw [List.getD_eq_getElem?_getD,List.getElem?_eq_getElem hj'] at this
   exact this
  refine past_vc (EJg_ok ts us) 1000 (wg1 ts us ws h u vs 0 _ _ _ zz o e (fun _ _=>False)) ?_ (fun _ _ h=>h) (fun fs m hb=>wgL_good (fun _ _ h=>h.elim) hb)
  have d:decide ((U.length:Int)<(U.length:Int))=false:=decide_eq_false (by omega)
  simp only [d,e1,e2,hvs,hzz,q6]
 | succ r ih =>
  intro i hi hj
  have hi':i<U.length:=by omega
  refine past_vc (EJg_ok ts us) 1000 (wg1 ts us ws h u vs 0 _ _ (i:Int) zz o e (fun i' z=>i'=((i+1:Nat):Int)∧z=zz∧depF us (U.getD i 0)≤6)) ?_ (fun _ _ h=>h) (fun fs m hb=>wgL_good (fun i' z ⟨e1,e2,e3⟩=>by
   rw [e1,e2]
   refine ih (i+1) (by omega) fun j hj'=>?_
   by_cases c:j=i
   ·rw [c];exact e3
   ·exact hj j (by omega)) hb)
  have d:decide ((i:Int)<(U.length:Int))=true:=decide_eq_true (by omega)
  have ei:ari .add .i64 (i:Int) 1=((i+1:Nat):Int):=by rw [ari_add,i64_in' (by omega) (by omega)];omega
  have g1:IsInt .i64 (i64s U) i:=isI_of (i64s_at hi')
  have g2:intAt (i64s U) i=U.getD i 0:=intAt_of (i64s_at hi')
  have y0:0≤(i:Int):=by omega
  have y1:(i:Int)<(U.length:Int):=by omega
  by_cases c:depF us (U.getD i 0)≤6
  ·have d2:decide ((depF us (U.getD i 0):Int)>6)=false:=decide_eq_false (by omega)
   simp only [d,ei,g1,g2,y0,y1,c,d2,hvs,hu,hF,decide_true,wgL_d0_ok,q7,q6]
  ·have d2:decide ((depF us (U.getD i 0):Int)>6)=true:=decide_eq_true (by omega)
   obtain ⟨e1,e2⟩:=hn fun k=>c (k _ (by rw [List.getD_eq_getElem?_getD,List.getElem?_eq_getElem hi'];exact List.getElem_mem hi'))
   simp only [d,ei,g1,g2,y0,y1,d2,e1,e2,hvs,hw,hzz,hu,hF,decide_true,q7,q6]
theorem rgraft_con (h u:Int) (m:SMem):Con E0 34 [wtS ws,i64 (.o h),i64 (.o u)] m (needs [SW ts ws,FV ts] (.ret (weS (grW ts ws h u) (grE ts h u)) m)):=by
 refine Con.pure E0_ok (by kernel_rfl:E0.fn 34=some Tryd.f34) (by kernel_rfl:Tryd.f34.body=some (Tryd.f34.body.getD .skip)) (by kernel_rfl) (by kernel_rfl) fun hq=>?_
 have w:SW ts ws:=hq _ (by simp)
 have hv:FV ts:=hq _ (by simp)
 have hf:=hv.f
 have hb:=hf.ok
 have hz:=w.sz
 have no:∀ e,grE ts h u=e→e≠0→grW ts ws h u=ws:=fun e k1 k2=>if_neg (by rw [k1];exact k2)
 by_cases n1:gdF ts h=false∨gdF ts u=false
 ·have e2:grE ts h u=4:=if_pos n1
  have e1:=no 4 e2 (by decide)
  refine (Good.ret [] (run_vc (EJg_ok ts ts) 1000 (wg0 ts ts ws h u #[] 0 #[] (grW ts ws h u) (grE ts h u) 0 (fun _ _=>False)) ?_ (fun s m h=>h) fun fs m hb=>wgL_good (fun _ _ h=>h.elim) hb)).mono fun _ _ h=>h.1
  cases hg:gdF ts h with
  | false=>simp only [hz,w,hb,hg,e1,e2,q8,q6]
  | true =>
   have hgu:gdF ts u=false:=n1.resolve_left (by rw [hg];decide)
   simp only [hz,w,hb,hg,hgu,e1,e2,q8,q6]
 ·have hg:gdF ts h=true:=by cases c:gdF ts h with | true=>rfl | false=>exact absurd (.inl c) n1
  have hgu:gdF ts u=true:=by cases c:gdF ts u with | true=>rfl | false=>exact absurd (.inr c) n1
  have hl:=(lv_mem hb).2 hg
  have er:rtF ts h=rtL (upF ts) h:=if_pos hg
  by_cases n2:rtF ts h≠h∨outF ts h u=true
  ·have e2:grE ts h u=12:=by unfold grE;rw [if_neg n1,if_pos n2]
   have e1:=no 12 e2 (by decide)
   refine (Good.ret [] (run_vc (EJg_ok ts ts) 1000 (wg0 ts ts ws h u #[] 0 #[] (grW ts ws h u) (grE ts h u) 0 (fun _ _=>False)) ?_ (fun s m h=>h) fun fs m hb=>wgL_good (fun _ _ h=>h.elim) hb)).mono fun _ _ h=>h.1
   by_cases c:upF ts h=0
   ·have c1:(upF ts h != 0)=false:=by rw [c];rfl
    have ho:outF ts h u=true:=n2.resolve_left (fun k=>k (by rw [er];exact (rt_root hf.fo hl).2 c))
    simp only [hz,w,hb,hf,hg,hgu,c1,ho,e1,e2,q8,q6]
   ·have c1:(upF ts h != 0)=true:=bne_iff_ne.2 c
    simp only [hz,w,hb,hf,hg,hgu,c1,e1,e2,q8,q6]
  ·rw [not_or] at n2
   have hr:rtF ts h=h:=Decidable.not_not.1 n2.1
   have ho:outF ts h u=false:=by cases c:outF ts h u with | true=>exact absurd c n2.2 | false=>rfl
   have h0r:upF ts h=0:=(rt_root hf.fo hl).1 (by rw [← er];exact hr)
   have hnot:h∉chL (upF ts) u:=fun k=>by
    have:outF ts h u=true:=by unfold outF;rw [hgu,decide_eq_true k];rfl
    rw [ho] at this;cases this
   have n3:¬ (rtF ts h≠h∨outF ts h u=true):=fun k=>k.elim n2.1 n2.2
   have eG:grE ts h u=(open Classical in if gr6 ts h u then 0 else 8):=by unfold grE;rw [if_neg n1,if_neg n3]
   obtain ⟨g1,g2,g3,g4⟩:=gr_us hv hg hgu h0r hnot
   have hra:raE ts h u=0:=by
    unfold raE
    rw [if_neg (by
     rintro (k | ⟨_,k⟩)
     ·rw [hg] at k;cases k
     ·rw [hgu] at k;cases k),if_neg hnot]
   have eV:raW ts ws h u=ws.setIfInBounds (64+sl h*12) (.int .i64 u):=if_pos hra
   have sv:SW (raS ts h u) (raW ts ws h u):=by rw [eV];exact w.raise hb hg (.inr hgu)
   have szv:=sv.sz
   have hun:unT (raS ts h u) h=UNL (raS ts h u) h:=if_pos (by rw [gd_bk g2];exact hg)
   have hl':h∈lvT (raS ts h u):=by rw [lv_bk g2];exact hl
   have hu32:(unT (raS ts h u) h).length≤32:=by rw [hun];exact un_32 g1 hl'
   have d:decide ((unT (raS ts h u) h).length=0)=false:=decide_eq_false (by rw [hun,unl_cons g1 hl',List.length_cons];omega)
   have h6:gr6 ts h u↔∀ x∈unT (raS ts h u) h,depF (raS ts h u) x≤6:=by
    constructor
    ·intro k x hx
     rw [g4 x hx]
     exact k x ((g3 x).1 hx)
    ·intro k y hy
     have hy':=(g3 y).2 hy
     rw [← g4 y hy']
     exact k y hy'
   refine (Good.ret [] (run_vc (EJg_ok ts (raS ts h u)) 1000 (wg0 ts (raS ts h u) ws h u (raW ts ws h u) (unT (raS ts h u) h).length (i64s (unT (raS ts h u) h)) (grW ts ws h u) (grE ts h u) 0 (fun i z=>i=((0:Nat):Int)∧z=zW)) ?_ (fun s m h=>h) fun fs m hb=>wgL_good (fun i z ⟨a,b⟩=>by
    rw [a,b]
    exact wgL_ok ts (o:=grW ts ws h u) (e:=grE ts h u) hz sv g1 rfl hu32 zW_sz (fun k=>by
     have e0:grE ts h u=0:=by rw [eG,if_pos (h6.2 k)]
     exact ⟨by rw [eV];exact if_pos e0,e0⟩) (fun k=>by
     have e0:grE ts h u=8:=by rw [eG,if_neg (fun q=>k (h6.1 q))]
     exact ⟨no 8 e0 (by decide),e0⟩) _ 0 (Nat.zero_add _) (fun j hj=>absurd hj (Nat.not_lt_zero _))) hb)).mono fun _ _ h=>h.1
   have c1:(upF ts h != 0)=false:=by rw [h0r];rfl
   simp only [hz,w,hb,hf,hg,hgu,c1,ho,hra,sv,szv,g1,d,wgL_d0_ok,q8,q6]
   rfl
theorem SW.graft (w:SW ts ws) (hv:FV ts):SW (grT ts h u) (grW ts ws h u):=by
 by_cases hE:grE ts h u=0
 rotate_left
 ·have e1:grT ts h u=ts:=if_neg hE
  have e2:grW ts ws h u=ws:=if_neg hE
  rw [e1,e2];exact w
 ·have e1:grT ts h u=raS ts h u:=if_pos hE
  have e2:grW ts ws h u=ws.setIfInBounds (64+sl h*12) (.int .i64 u):=if_pos hE
  rw [e1,e2]
  unfold grE at hE
  split at hE
  ·exact absurd hE (by decide)
  rename_i n1
  rw [not_or] at n1
  exact w.raise hv.f.ok (by cases c:gdF ts h with | true=>rfl | false=>exact absurd c n1.1) (.inr (by cases c:gdF ts u with | true=>rfl | false=>exact absurd c n1.2))
def fwN (ws:Array Value) (l:List Int):Array Value:=l.foldl drW ws
theorem fwN_one (ws:Array Value) (l:List Int) (x:Int):fwN ws (l++[x])=drW (fwN ws l) x:=by unfold fwN;rw [List.foldl_append];rfl
theorem SW.dropN:∀ (l:List Int) {ts ws:Array Value},SW ts ws→TbOk ts→SW (drN ts l) (fwN ws l)
 | [],_,_,w,_=>w
 | x :: l,_,_,w,hb=>SW.dropN l (w.drop hb x).1 (dropT_b hb x)
noncomputable def fwC (ts ws:Array Value) (h:Int) (m:SMem):Tree:=.br (decide ((unT ts h).length=0)) (.ret (wfN ws) m) (.ret (wfS (fwN ws (unT ts h)) m.next (unT ts h).length) (m.new (.pop (i64s (unT ts h))) 3))
theorem wfL_ok (w:SW ts ws) (hb:TbOk ts) {U:List Int} (hl:U.length≤32) (hne:U.length≠0) {zz:Array Value} (hzz:zz.size=448):∀ (r i:Nat),i+r=U.length→Good Tryd.prog (wfA (fwN ws U) U.length (i64s U)) 0 (wfL_F h U.length (i64s U) (i:Int) (fwN ws (U.take i)) zz) (wfL_M h U.length (i64s U) (i:Int) (fwN ws (U.take i)) zz):=by
 intro r
 induction r with
 | zero =>
  intro i hi
  obtain rfl:i=U.length:=by omega
  refine past_vc (EJ5_ok ts) 1000 (wf1 ts h _ _ _ _ zz (fwN ws U) (fun _ _ _=>False)) ?_ (fun _ _ h=>h) (fun fs m hb=>wfL_good (fun _ _ _ h=>h.elim) hb)
  have d:decide ((U.length:Int)<(U.length:Int))=false:=decide_eq_false (by omega)
  have d2:((U.length:Int)==0)=false:=beq_eq_false_iff_ne.2 (by omega)
  have hs:=(SW.dropN U w hb).sz
  simp only [d,d2,hs,hzz,List.take_length,q6]
 | succ r ih =>
  intro i hi
  have hi':i<U.length:=by omega
  refine past_vc (EJ5_ok ts) 1000 (wf1 ts h _ _ (i:Int) _ zz (fwN ws U) (fun i' u z=>i'=((i+1:Nat):Int)∧u=fwN ws (U.take (i+1))∧z=zz)) ?_ (fun _ _ h=>h) (fun fs m hb=>wfL_good (fun i' u z ⟨e1,e2,e3⟩=>by rw [e1,e2,e3];exact ih (i+1) (by omega)) hb)
  have d:decide ((i:Int)<(U.length:Int))=true:=decide_eq_true (by omega)
  have ei:ari .add .i64 (i:Int) 1=((i+1:Nat):Int):=by rw [ari_add,i64_in' (by omega) (by omega)];omega
  have g1:IsInt .i64 (i64s U) i:=isI_of (i64s_at hi')
  have g2:intAt (i64s U) i=U.getD i 0:=intAt_of (i64s_at hi')
  have y0:0≤(i:Int):=by omega
  have y1:(i:Int)<(U.length:Int):=by omega
  have sw:=SW.dropN (U.take i) w hb
  have hb1:=drN_b (U.take i) hb
  have hs:=sw.sz
  have wt:=sw.wt hb1
  have hs2:=(sw.drop hb1 (U.getD i 0)).1.sz
  rw [take_one hi',fwN_one]
  simp only [d,ei,g1,g2,y0,y1,hs,hs2,wt,decide_true,wfL_d0_ok,q7,q6]
theorem rfell_con (h:Int) (m:SMem):Con E0 31 [wtS ws,i64 (.o h)] m (.need [SW ts ws,FIn ts] (fwC ts ws h m)):=by
 refine Con.asked fun hq=>?_
 have w:SW ts ws:=hq _ (by simp)
 have hf:FIn ts:=hq _ (by simp)
 have hb:=hf.ok
 have hz0:=w.sz
 refine Con.two (fun hz=>?_) (fun hz=>?_)
 ·refine (show Con E0 31 [wtS ws,i64 (.o h)] m (needs [] _) from Con.pure E0_ok (by kernel_rfl:E0.fn 31=some Tryd.f31) (by kernel_rfl:Tryd.f31.body=some (Tryd.f31.body.getD .skip)) (by kernel_rfl) (by kernel_rfl) fun hq=>?_)
  refine (Good.ret [] (run_vc (EJ5z_ok ts) 1000 (wf0E ts ws h) ?_ (fun s m h=>h) fun fs m hm=>hm.elim)).mono fun _ _ h=>h.1
  simp only [hz,hz0,w,hf,q6]
 ·have hne:(unT ts h).length≠0:=of_decide_eq_false hz
  have hg:gdF ts h=true:=by
   cases c:gdF ts h with
   | true=>rfl
   | false=>exact absurd (by unfold unT;rw [c];rfl) hne
  have h32:(unT ts h).length≤32:=by
   have:unT ts h=UNL ts h:=if_pos hg
   rw [this];exact un_32 hf ((lv_mem hb).2 hg)
  refine Con.freshU E0_ok (by kernel_rfl:E0.fn 31=some Tryd.f31) (by kernel_rfl:Tryd.f31.body=some (Tryd.f31.body.getD .skip)) (by kernel_rfl) (Good.retX ((run_vc (EJ5_ok ts) 1000 (wf0 ts ws h (unT ts h).length (i64s (unT ts h)) (fwN ws (unT ts h)) (fun i u z=>i=((0:Nat):Int)∧u=fwN ws ((unT ts h).take 0)∧z=zW)) ?_ (fun s m h=>h) fun fs m hm=>wfL_good (A:=wfA (fwN ws (unT ts h)) (unT ts h).length (i64s (unT ts h))) (fun i u z ⟨e1,e2,e3⟩=>by rw [e1,e2,e3];exact wfL_ok w hb h32 hne zW_sz _ 0 (Nat.zero_add _)) hm).mono fun s m h=>?_))
  ·simp only [hz,hz0,w,hf,wfL_d0_ok,q6]
   exact ⟨rfl,rfl⟩
  ·unfold wfA at h
   split at h
   ·exact ⟨_,h⟩
   ·exact h.elim
end
set_option linter.unusedVariables false
noncomputable def anS (i n:Nat):SV:=.s (.c (.f (.slice i (.l 0) (.o n) .any)))
noncomputable def rwM (a b:Array Value):SMem:=mkM 2 [(0,⟨.pop a,30,false⟩),(1,⟨.pop b,3,false⟩)]
noncomputable def ERw:Env:=⟨Tryd.prog,fnOf,conI0,haltAt [32*1000+4]⟩
noncomputable def ERz:Env:=⟨Tryd.prog,fnOf,conI0,haltAt []⟩
noncomputable def wrL_d0:List SIt:=sekF Tryd.f32 4
noncomputable def wrL_F (n:Nat) (a:Array Value) (b:Array Value) (i:Int):List SFr:=[frOf 32 Tryd.f32 [(0,anS 0 n),(1,anS 1 n),(5,i64 (.o i))] wrL_d0]
noncomputable def wrL_M (n:Nat) (a:Array Value) (b:Array Value) (i:Int):SMem:=mkM 2 [(0,⟨.pop a,30,false⟩),(1,⟨.pop b,3,false⟩)]
noncomputable def wrL_n (n:Nat) (a:Array Value) (b:Array Value) (Q:Int→Prop) (fs:List SFr) (m:SMem):Prop:=(match frNth fs 0 with | some f0=>(match rdI f0 5 with | some i=>Q i∧subOk 2 [] (wrL_F n a b i) (wrL_M n a b i) fs m | none=>False) | none=>False)
theorem wrL_d0_ok (r:Nat→Option Nat):TodoOk r wrL_d0 wrL_d0:=TodoOk.it (by kernel_rfl)
theorem wrL_good {A:SV→SMem→Prop} {n:Nat} {a:Array Value} {b:Array Value} {Q:Int→Prop} {fs:List SFr} {m:SMem} (H:∀ i,Q i→Good Tryd.prog A 2 (wrL_F n a b i) (wrL_M n a b i)) (hb:wrL_n n a b Q fs m):Good Tryd.prog A 2 fs m:=by
 unfold wrL_n at hb
 iterate 2 (split at hb;rotate_left;exact hb.elim)
 exact Good.of_sub hb.2 (H _ hb.1)
set_option maxRecDepth 100000
theorem wr0 (n:Nat) (a b:Array Value) (Q:Int→Prop):(run ERw 1000 2 [callFr 32 Tryd.f32.ntmps [anS 0 n,anS 1 n] (Tryd.f32.body.getD .skip)] (rwM a b)).vc (isB true) (wrL_n n a b Q) =
  ((((↑n:Int) != (↑n:Int))=true→false=true)∧(((↑n:Int) != (↑n:Int))=false→Q (0:Int)∧cN∧TodoOk (ren 2 []) wrL_d0 wrL_d0∧n=n∧n=n∧(0:Int)=(0:Int)∧30=30∧a=a∧3=3∧b=b∧True)):=by kernel_rfl
theorem wr1 (n:Nat) (a b:Array Value) (i:Int) (Q:Int→Prop):(stepT ERw.go (run ERw 1000) 2 (wrL_F n a b i) (wrL_M n a b i)).vc (isB true) (wrL_n n a b Q) =
  ((decide (i<(↑n:Int))=true→((0≤i∧i<(↑n:Int))∧True)∧(IsInt .u32 a (0+Int.toNat i*1)∧True)∧((0≤i∧i<(↑n:Int))∧True)∧(IsInt .i64 b (0+Int.toNat i*1)∧True)∧((IntKind.wrap .i64 (intAt a (0+Int.toNat i*1)) != intAt b (0+Int.toNat i*1))=true→false=true)∧((IntKind.wrap .i64 (intAt a (0+Int.toNat i*1)) != intAt b (0+Int.toNat i*1))=false→Q (ari .add .i64 i 1)∧cN∧TodoOk (ren 2 []) wrL_d0 wrL_d0∧n=n∧n=n∧ari .add .i64 i 1=ari .add .i64 i 1∧30=30∧a=a∧3=3∧b=b∧True))∧(decide (i<(↑n:Int))=false→true=true)):=by kernel_rfl
theorem wrZ (z:Nat):(run ERz 1000 0 [callFr 32 Tryd.f32.ntmps [nlS,nlS] (Tryd.f32.body.getD .skip)] e0M).vc (isB true) (fun _ _=>False) =
  (true=true):=by kernel_rfl
set_option linter.unusedVariables false
def nmA (ts:Array Value) (n:Int):Int:=if 1≤n∧n≤32∧kindAt (bkB ts) (n - 1).toNat=1 then nmF ts (n - 1).toNat else n
noncomputable def ENm:Env:=⟨Tryd.prog,fnOf,conI0,haltAt []⟩
noncomputable def conS1 (ts:Array Value) (g:FuncId) (l:List SV) (m:SMem):Option Tree:=match g,l with
 | 17,[.s (.agg (.op ts))]=>some (.need [TbOk ts] (rowT (lvT ts) 30 m))
 | g,l=>conJ5 ts g l m
noncomputable def ESm (ts:Array Value):Env:=⟨Tryd.prog,fnOf,conS1 ts,haltAt [10*1000+5,10*1000+14]⟩
noncomputable def ESz (ts:Array Value):Env:=⟨Tryd.prog,fnOf,conS1 ts,haltAt [10*1000+7]⟩
noncomputable def smO_d0:List SIt:=sekF Tryd.f10 5
noncomputable def smO_F (ts:Array Value) (ws:Array Value) (n:Nat) (a:Array Value) (b:Array Value) (i:Int):List SFr:=[frOf 10 Tryd.f10 [(2,ptr 0 (.l 0)),(3,ptr 1 (.l 0)),(5,slS 2 n),(6,slS 3 n),(7,i64 (.o i))] smO_d0]
noncomputable def smO_M (ts:Array Value) (ws:Array Value) (n:Nat) (a:Array Value) (b:Array Value) (i:Int):SMem:=mkM 4 [(0,⟨.op ts,39,true⟩),(1,⟨.op ws,51,true⟩),(2,⟨.pop a,30,true⟩),(3,⟨.pop b,3,true⟩)]
noncomputable def smO_n (ts:Array Value) (ws:Array Value) (n:Nat) (a:Array Value) (b:Array Value) (Q:Int→Prop) (fs:List SFr) (m:SMem):Prop:=(match frNth fs 0 with | some f0=>(match rdI f0 7 with | some i=>(match rdP f0 2 with | some p0=>(match rdP f0 3 with | some p1=>(match rdSI f0 5 with | some p2=>(match rdSI f0 6 with | some p3=>Q i∧subOk 0 [(0,p0),(1,p1),(2,p2),(3,p3)] (smO_F ts ws n a b i) (smO_M ts ws n a b i) fs m | none=>False) | none=>False) | none=>False) | none=>False) | none=>False) | none=>False)
noncomputable def smI_d0:List SIt:=sekF Tryd.f10 14
noncomputable def smI_F (ts:Array Value) (ws:Array Value) (n:Nat) (a:Array Value) (b:Array Value) (i:Int) (k:Int) (rr:Array Value) (vv:Array Value):List SFr:=[frOf 10 Tryd.f10 [(2,ptr 0 (.l 0)),(3,ptr 1 (.l 0)),(5,slS 2 n),(6,slS 3 n),(7,i64 (.o i)),(8,ptr 4 (.l 0)),(10,ptr 5 (.l 0)),(12,i64 (.o k))] smI_d0]
noncomputable def smI_M (ts:Array Value) (ws:Array Value) (n:Nat) (a:Array Value) (b:Array Value) (i:Int) (k:Int) (rr:Array Value) (vv:Array Value):SMem:=mkM 6 [(0,⟨.op ts,39,true⟩),(1,⟨.op ws,51,true⟩),(2,⟨.pop a,30,true⟩),(3,⟨.pop b,3,true⟩),(4,⟨.op rr,36,true⟩),(5,⟨.op vv,48,true⟩)]
noncomputable def smI_n (ts:Array Value) (ws:Array Value) (n:Nat) (a:Array Value) (b:Array Value) (Q:Int→Int→Array Value→Array Value→Prop) (fs:List SFr) (m:SMem):Prop:=(match frNth fs 0 with | some f0=>(match rdI f0 7 with | some i=>(match rdI f0 12 with | some k=>(match rdP f0 2 with | some p0=>(match rdP f0 3 with | some p1=>(match rdSI f0 5 with | some p2=>(match rdSI f0 6 with | some p3=>(match rdP f0 8 with | some p4=>(match rdP f0 10 with | some p5=>(match rdA m p4 with | some rr=>(match rdA m p5 with | some vv=>Q i k rr vv∧subOk 0 [(0,p0),(1,p1),(2,p2),(3,p3),(4,p4),(5,p5)] (smI_F ts ws n a b i k rr vv) (smI_M ts ws n a b i k rr vv) fs m | none=>False) | none=>False) | none=>False) | none=>False) | none=>False) | none=>False) | none=>False) | none=>False) | none=>False) | none=>False) | none=>False)
noncomputable def smX (ts ws:Array Value) (n:Nat) (a b:Array Value) (QO:Int→Prop) (QI:Int→Int→Array Value→Array Value→Prop) (fs:List SFr) (m:SMem):Prop:=match Nat.beq (atR fs) (10*1000+5) with | true=>smO_n ts ws n a b QO fs m | false=>smI_n ts ws n a b QI fs m
theorem smO_d0_ok (r:Nat→Option Nat):TodoOk r smO_d0 smO_d0:=TodoOk.it (by kernel_rfl)
theorem smI_d0_ok (r:Nat→Option Nat):TodoOk r smI_d0 smI_d0:=TodoOk.it (by kernel_rfl)
theorem smO_good {A:SV→SMem→Prop} {ts:Array Value} {ws:Array Value} {n:Nat} {a:Array Value} {b:Array Value} {Q:Int→Prop} {fs:List SFr} {m:SMem} (H:∀ i,Q i→Good Tryd.prog A 0 (smO_F ts ws n a b i) (smO_M ts ws n a b i)) (hb:smO_n ts ws n a b Q fs m):Good Tryd.prog A 0 fs m:=by
 unfold smO_n at hb
 iterate 6 (split at hb;rotate_left;exact hb.elim)
 exact Good.of_sub hb.2 (H _ hb.1)
theorem smI_good {A:SV→SMem→Prop} {ts:Array Value} {ws:Array Value} {n:Nat} {a:Array Value} {b:Array Value} {Q:Int→Int→Array Value→Array Value→Prop} {fs:List SFr} {m:SMem} (H:∀ i k rr vv,Q i k rr vv→Good Tryd.prog A 0 (smI_F ts ws n a b i k rr vv) (smI_M ts ws n a b i k rr vv)) (hb:smI_n ts ws n a b Q fs m):Good Tryd.prog A 0 fs m:=by
 unfold smI_n at hb
 iterate 11 (split at hb;rotate_left;exact hb.elim)
 exact Good.of_sub hb.2 (H _ _ _ _ hb.1)
set_option maxRecDepth 100000
theorem nm0 (ws:Array Value) (n:Int) (o:Int):(run ENm 1000 0 [callFr 30 Tryd.f30.ntmps [wtS ws,.s (.c (.f (.int .u32 (.o n))))] (Tryd.f30.body.getD .skip)] e0M).vc (retOk 0 [] (i64 (.o o)) e0M) (fun _ _=>False) =
  (((decide (n≥1)==true)=true→((decide (n≤32)==true)=true→((0≤ari .sub .u32 n 1∧ari .sub .u32 n 1<32)∧True)∧(IsInt .i64 ws (32+Int.toNat (ari .sub .u32 n 1)*1)∧True)∧((intAt ws (32+Int.toNat (ari .sub .u32 n 1)*1)==1)=true→(64≤Array.size ws∧True)∧(WB (Array.extract ws 0 64)∧(0≤IntKind.wrap .i64 (ari .sub .u32 n 1)∧IntKind.wrap .i64 (ari .sub .u32 n 1)<32)∧True)∧o=nameI (Int.toNat (IntKind.wrap .i64 (ari .sub .u32 n 1))) (gnW (Array.extract ws 0 64) (Int.toNat (IntKind.wrap .i64 (ari .sub .u32 n 1))))∧True)∧((intAt ws (32+Int.toNat (ari .sub .u32 n 1)*1)==1)=false→o=IntKind.wrap .i64 n∧True))∧((decide (n≤32)==true)=false→o=IntKind.wrap .i64 n∧True))∧((decide (n≥1)==true)=false→o=IntKind.wrap .i64 n∧True)):=by kernel_rfl
theorem sm0 (ts ws:Array Value) (n:Nat) (a b:Array Value) (Q:Int→Prop):(run (ESm ts) 1000 0 [callFr 10 Tryd.f10.ntmps [tbS ts,wtS ws] (Tryd.f10.body.getD .skip)] e0M).vc (isB true) (smO_n ts ws n a b Q) =
  ((Array.size ts=448∧True)∧(TbOk ts∧True)∧(decide (List.length (lvT ts)=0)=true→(Array.size ws=448∧True)∧(SW ts ws∧TbOk ts∧True)∧(decide (List.length (lvT ts)=0)=true→False)∧(decide (List.length (lvT ts)=0)=false→(((0:Int) != (↑(List.length (lvT ts)):Int))=true→false=true)∧(((0:Int) != (↑(List.length (lvT ts)):Int))=false→False)))∧(decide (List.length (lvT ts)=0)=false→(Array.size ws=448∧True)∧(SW ts ws∧TbOk ts∧True)∧(decide (List.length (lvT ts)=0)=true→(((↑(List.length (lvT ts)):Int) != 0)=true→false=true)∧(((↑(List.length (lvT ts)):Int) != 0)=false→False))∧(decide (List.length (lvT ts)=0)=false→(((↑(List.length (lvT ts)):Int) != (↑(List.length (lvT ts)):Int))=true→false=true)∧(((↑(List.length (lvT ts)):Int) != (↑(List.length (lvT ts)):Int))=false→Q (0:Int)∧cN∧TodoOk (ren 0 [(0,0),(1,1),(2,2),(3,3)]) smO_d0 smO_d0∧(0:Int)=(0:Int)∧n=List.length (lvT ts)∧n=List.length (lvT ts)∧39=39∧ts=ts∧51=51∧ws=ws∧3=3∧b=i64s (lvT ts)∧30=30∧a=u32s (lvT ts)∧True)))):=by kernel_rfl
theorem smZ (ts ws:Array Value):(run (ESz ts) 1000 0 [callFr 10 Tryd.f10.ntmps [tbS ts,wtS ws] (Tryd.f10.body.getD .skip)] e0M).vc (isB true) (fun _ _=>False) =
  ((Array.size ts=448∧True)∧(TbOk ts∧True)∧(decide (List.length (lvT ts)=0)=true→(Array.size ws=448∧True)∧(SW ts ws∧TbOk ts∧True)∧(decide (List.length (lvT ts)=0)=true→true=true)∧(decide (List.length (lvT ts)=0)=false→(((0:Int) != (↑(List.length (lvT ts)):Int))=true→false=true)∧(((0:Int) != (↑(List.length (lvT ts)):Int))=false→true=true)))∧(decide (List.length (lvT ts)=0)=false→(Array.size ws=448∧True)∧(SW ts ws∧TbOk ts∧True)∧(decide (List.length (lvT ts)=0)=true→(((↑(List.length (lvT ts)):Int) != 0)=true→false=true)∧(((↑(List.length (lvT ts)):Int) != 0)=false→(decide ((0:Int)<(↑(List.length (lvT ts)):Int))=true→False)∧(decide ((0:Int)<(↑(List.length (lvT ts)):Int))=false→true=true)))∧(decide (List.length (lvT ts)=0)=false→(((↑(List.length (lvT ts)):Int) != (↑(List.length (lvT ts)):Int))=true→false=true)∧(((↑(List.length (lvT ts)):Int) != (↑(List.length (lvT ts)):Int))=false→(decide ((0:Int)<(↑(List.length (lvT ts)):Int))=true→False)∧(decide ((0:Int)<(↑(List.length (lvT ts)):Int))=false→true=true))))):=by kernel_rfl
noncomputable def sm1_0 (a:Array Value) (i:Int):Int:=intAt a (0+Int.toNat i*1)
noncomputable def sm1_1 (b:Array Value) (i:Int):Int:=intAt b (0+Int.toNat i*1)
theorem sm1 (ts ws:Array Value) (n:Nat) (a b:Array Value) (i:Int) (Q:Int→Int→Array Value→Array Value→Prop):(stepT (ESm ts).go (run (ESm ts) 1000) 0 (smO_F ts ws n a b i) (smO_M ts ws n a b i)).vc (isB true) (smI_n ts ws n a b Q) =
  ((decide (i<(↑n:Int))=true→((0≤i∧i<(↑n:Int))∧True)∧(IsInt .u32 a (0+Int.toNat i*1)∧True)∧((0≤i∧i<(↑n:Int))∧True)∧(IsInt .i64 b (0+Int.toNat i*1)∧True)∧(((IntKind.wrap .i64 (sm1_0 a i) != intAt b (0+Int.toNat i*1))==false)=true→(0+64≤Array.size ts∧True)∧((0≤i∧i<(↑n:Int))∧True)∧(IsInt .u32 a (0+Int.toNat i*1)∧True)∧(BkOk (Array.extract ts 0 (0+64))∧(0≤intAt a (0+Int.toNat i*1)∧intAt a (0+Int.toNat i*1)<4294967296)∧True)∧((!goodB (Array.extract ts 0 (0+64)) (sm1_0 a i))=true→false=true)∧((!goodB (Array.extract ts 0 (0+64)) (sm1_0 a i))=false→(Array.size ts=448∧True)∧((0≤i∧i<(↑n:Int))∧True)∧(IsInt .u32 a (0+Int.toNat i*1)∧True)∧(TbOk ts∧(0≤intAt a (0+Int.toNat i*1)∧intAt a (0+Int.toNat i*1)<4294967296)∧True)∧(Array.size (getA ts (sm1_0 a i))=12∧Array.size (getA ts (sm1_0 a i))=12∧True)∧(Array.size ws=448∧True)∧((0≤i∧i<(↑n:Int))∧True)∧(IsInt .i64 b (0+Int.toNat i*1)∧True)∧(SW ts ws∧TbOk ts∧True)∧(Array.size (gwT ts (sm1_1 b i))=12∧Array.size (gwT ts (sm1_1 b i))=12∧True)∧(((getX5 ts (sm1_0 a i) != 0)==false)=true→(IsInt .u32 (getA ts (sm1_0 a i)) (0:Nat)∧True)∧(IsInt .i64 (gwT ts (sm1_1 b i)) (0:Nat)∧True)∧(((IntKind.wrap .i64 (intAt (getA ts (sm1_0 a i)) (0:Nat)) != intAt (gwT ts (sm1_1 b i)) (0:Nat))==false)=true→(IsInt .i64 (getA ts (sm1_0 a i)) (1:Nat)∧True)∧(IsInt .i64 (gwT ts (sm1_1 b i)) (1:Nat)∧True)∧(((intAt (getA ts (sm1_0 a i)) (1:Nat) != intAt (gwT ts (sm1_1 b i)) (1:Nat))==false)=true→((getA ts (sm1_0 a i))[(2:Nat)]?=some (Value.slice none 0 0)∧IsInt .i64 (getA ts (sm1_0 a i)) (3:Nat)∧True)∧((gwT ts (sm1_1 b i))[(2:Nat)]?=some (Value.slice none 0 0)∧IsInt .i64 (gwT ts (sm1_1 b i)) (3:Nat)∧True)∧((intAt (getA ts (sm1_0 a i)) (3:Nat) != intAt (gwT ts (sm1_1 b i)) (3:Nat))=true→false=true)∧((intAt (getA ts (sm1_0 a i)) (3:Nat) != intAt (gwT ts (sm1_1 b i)) (3:Nat))=false→Q i (0:Int) (getA ts (sm1_0 a i)) (gwT ts (sm1_1 b i))∧cN∧TodoOk (ren 0 [(0,0),(1,1),(2,2),(3,3),(4,4),(5,5)]) smI_d0 smI_d0∧i=i∧n=n∧(0:Int)=(0:Int)∧n=n∧39=39∧ts=ts∧51=51∧ws=ws∧3=3∧b=b∧48=48∧gwT ts (sm1_1 b i)=gwT ts (sm1_1 b i)∧30=30∧a=a∧36=36∧getA ts (sm1_0 a i)=getA ts (sm1_0 a i)∧True))∧(((intAt (getA ts (sm1_0 a i)) (1:Nat) != intAt (gwT ts (sm1_1 b i)) (1:Nat))==false)=false→false=true))∧(((IntKind.wrap .i64 (intAt (getA ts (sm1_0 a i)) (0:Nat)) != intAt (gwT ts (sm1_1 b i)) (0:Nat))==false)=false→false=true))∧(((getX5 ts (sm1_0 a i) != 0)==false)=false→false=true)))∧(((IntKind.wrap .i64 (sm1_0 a i) != intAt b (0+Int.toNat i*1))==false)=false→false=true))∧(decide (i<(↑n:Int))=false→true=true)):=by kernel_rfl
theorem sm2 (ts ws:Array Value) (n:Nat) (a b:Array Value) (i k:Int) (rr vv:Array Value) (QO:Int→Prop) (QI:Int→Int→Array Value→Array Value→Prop):(stepT (ESm ts).go (run (ESm ts) 1000) 0 (smI_F ts ws n a b i k rr vv) (smI_M ts ws n a b i k rr vv)).vc (isB true) (smX ts ws n a b QO QI) =
  ((decide (k<8)=true→((0≤k∧k<8)∧True)∧(IsInt .u32 rr (4+Int.toNat k*1)∧True)∧((0≤k∧k<8)∧True)∧(IsInt .i64 vv (4+Int.toNat k*1)∧True)∧((IntKind.wrap .i64 (intAt rr (4+Int.toNat k*1)) != intAt vv (4+Int.toNat k*1))=true→false=true)∧((IntKind.wrap .i64 (intAt rr (4+Int.toNat k*1)) != intAt vv (4+Int.toNat k*1))=false→QI i (ari .add .i64 k 1) rr vv∧cN∧TodoOk (ren 0 [(0,0),(1,1),(2,2),(3,3),(4,4),(5,5)]) smI_d0 smI_d0∧i=i∧n=n∧ari .add .i64 k 1=ari .add .i64 k 1∧n=n∧39=39∧ts=ts∧51=51∧ws=ws∧3=3∧b=b∧48=48∧vv=vv∧30=30∧a=a∧36=36∧rr=rr∧True))∧(decide (k<8)=false→QO (ari .add .i64 i 1)∧cN∧TodoOk (ren 0 [(0,0),(1,1),(2,2),(3,3)]) smO_d0 smO_d0∧ari .add .i64 i 1=ari .add .i64 i 1∧n=n∧n=n∧39=39∧ts=ts∧51=51∧ws=ws∧3=3∧b=b∧30=30∧a=a∧True)):=by kernel_rfl
set_option linter.unusedVariables false
theorem ERw_ok:EnvOk ERw:=EnvOk.with E0_ok _ _ conI0_ok
theorem ERz_ok:EnvOk ERz:=EnvOk.with E0_ok _ _ conI0_ok
theorem ENm_ok:EnvOk ENm:=EnvOk.with E0_ok _ _ conI0_ok
theorem conS1_ok (ts:Array Value):∀ g l m t,conS1 ts g l m=some t→Con E0 g l m t:=by
 intro g l m t h
 unfold conS1 at h
 split at h
 ·rename_i us;cases h
  exact all_con m
 ·exact conJ5_ok ts _ _ _ _ h
theorem ESm_ok (ts:Array Value):EnvOk (ESm ts):=EnvOk.with E0_ok _ _ (conS1_ok ts)
theorem ESz_ok (ts:Array Value):EnvOk (ESz ts):=EnvOk.with E0_ok _ _ (conS1_ok ts)
def rEq (a b:Array Value) (n k:Nat):Prop:=∃ l:List Int,a=u32s l∧b=i64s l∧n=l.length∧k=l.length∧l.length≤32∧∀ x∈l,inH x
theorem wr64 {x:Int} (h:inH x):IntKind.i64.wrap x=x:=by
 have h0:0≤x:=h.1
 have h1:x<4294967296:=h.2
 exact i64_in' (by omega) (by omega)
theorem wrL_ok {l:List Int} (hl:l.length≤32) (hi:∀ x∈l,inH x):∀ (r i:Nat),i+r=l.length→Good Tryd.prog (isB true) 2 (wrL_F l.length (u32s l) (i64s l) (i:Int)) (wrL_M l.length (u32s l) (i64s l) (i:Int)):=by
 intro r
 induction r with
 | zero =>
  intro i hi
  obtain rfl:i=l.length:=by omega
  refine past_vc ERw_ok 1000 (wr1 _ _ _ _ (fun _=>False)) ?_ (fun _ _ h=>h) (fun fs m hb=>wrL_good (fun _ h=>h.elim) hb)
  have d:decide ((l.length:Int)<(l.length:Int))=false:=decide_eq_false (by omega)
  simp only [d,q6]
 | succ r ih =>
  intro i hi2
  have hi':i<l.length:=by omega
  refine past_vc ERw_ok 1000 (wr1 _ _ _ (i:Int) (fun i'=>i'=((i+1:Nat):Int))) ?_ (fun _ _ h=>h) (fun fs m hb=>wrL_good (fun i' e1=>by rw [e1];exact ih (i+1) (by omega)) hb)
  have d:decide ((i:Int)<(l.length:Int))=true:=decide_eq_true (by omega)
  have ei:ari .add .i64 (i:Int) 1=((i+1:Nat):Int):=by rw [ari_add,i64_in' (by omega) (by omega)];omega
  have g1:IsInt .u32 (u32s l) i:=isI_of (u32s_at hi')
  have g2:intAt (u32s l) i=l.getD i 0:=intAt_of (u32s_at hi')
  have g3:IsInt .i64 (i64s l) i:=isI_of (i64s_at hi')
  have g4:intAt (i64s l) i=l.getD i 0:=intAt_of (i64s_at hi')
  have y0:0≤(i:Int):=by omega
  have y1:(i:Int)<(l.length:Int):=by omega
  have ew:IntKind.i64.wrap (l.getD i 0)=l.getD i 0:=wr64 (hi _ (by rw [List.getD_eq_getElem?_getD,List.getElem?_eq_getElem hi'];exact List.getElem_mem _))
  simp only [d,ei,g1,g2,g3,g4,y0,y1,ew,bne_self_eq_false,decide_true,wrL_d0_ok,q7,q6]
theorem fnRo:E0.fn 32=some Tryd.f32:=by kernel_rfl
theorem bodyRo:Tryd.f32.body=some (Tryd.f32.body.getD .skip):=by kernel_rfl
theorem rowZ_con (m:SMem):Con E0 32 [nlS,nlS] m (needs [] (.ret (sB (.l true)) m)):=by
 refine Con.readV (ms:=e0M) (l':=[nlS,nlS]) E0_ok fnRo bodyRo rfl (fun _=>0) (fun q b hb=>by cases hb) (fun R vs hv=>ok_anys (by kernel_rfl) hv) (A:=isB true) (fun hq=>?_) (fun s m' R R' v hs hv=>isB_ok hs hv)
 exact run_vc ERz_ok 1000 (wrZ 0) (by simp) (fun s m h=>h) fun fs m h=>h.elim
theorem row_con {m:SMem} {i j:Nat} {n k:SN} {c1 c2:SK} {a b:Array Value} {w1 w2:Bool} (hb1:getB m.bl i=some ⟨.pop a,30,w1⟩) (hb2:getB m.bl j=some ⟨.pop b,3,w2⟩):Con E0 32 [.s (.c (.f (.slice i (.l 0) n c1))),.s (.c (.f (.slice j (.l 0) k c2)))] m (.need [rEq a b n.den k.den] (.ret (sB (.l true)) m)):=by
 refine Con.asked fun hq=>?_
 obtain ⟨l,rfl,rfl,e1,e2,e3,e4⟩:rEq a b n.den k.den:=hq _ (by simp)
 have hm:∀ q b,getB (rwM (u32s l) (i64s l)).bl q=some b→q<(rwM (u32s l) (i64s l)).next∧b.wr=false∧∃ d,getB m.bl ((fun q=>if q=0 then i else j) q)=some d∧b.ty=d.ty∧∀ R cs,d.arr.okM R cs→b.arr.okM (pull (fun q=>if q=0 then i else j) (rwM (u32s l) (i64s l)).next R) cs:=by
  intro q b hb
  have hb:getB (((Tr.nil:Tr SBlk).set 0 (some ⟨.pop (u32s l),30,false⟩)).set 1 (some ⟨.pop (i64s l),3,false⟩)) q=some b:=hb
  rw [getB_set] at hb
  split at hb
  ·rename_i e;cases hb;subst e;exact ⟨(show 1<2 by decide),rfl,_,hb2,rfl,fun R cs h=>h⟩
  ·rw [getB_set] at hb
   split at hb
   ·rename_i e;cases hb;subst e;exact ⟨(show 0<2 by decide),rfl,_,hb1,rfl,fun R cs h=>h⟩
   ·have hb:(Tr.nil:Tr SBlk).get q=some b:=hb
    rw [Tr.get_nil] at hb
    cases hb
 have hl:∀ R vs,All2 (SV.ok R) [.s (.c (.f (.slice i (.l 0) n c1))),.s (.c (.f (.slice j (.l 0) k c2)))] vs→All2 (SV.ok (pull (fun q=>if q=0 then i else j) (rwM (u32s l) (i64s l)).next R)) [anS 0 l.length,anS 1 l.length] vs:=by
  intro R vs ha
  match vs,ha with
  | [u,v],ha =>
   obtain ⟨⟨g,cp,k1,k2,k3,k4⟩,⟨g',cp',k1',k2',k3',k4'⟩,_⟩:=ha
   exact ⟨⟨g,cp,by unfold pull;exact k1,by rw [k2,e1],trivial,by rw [e1] at k4;exact k4⟩,⟨g',cp',by unfold pull;exact k1',by rw [k2',e2],trivial,by rw [e2] at k4';exact k4'⟩,trivial⟩
 refine (show Con E0 32 _ m (needs [] _) from Con.readV E0_ok fnRo bodyRo rfl (fun q=>if q=0 then i else j) hm hl (A:=isB true) (fun _=>?_) (fun s m' R R' v hs hv=>isB_ok hs hv))
 refine run_vc ERw_ok 1000 (wr0 l.length (u32s l) (i64s l) (fun i=>i=((0:Nat):Int))) ?_ (fun s m h=>h) fun fs m hb=>wrL_good (fun i e=>by rw [e];exact wrL_ok e3 e4 _ 0 (Nat.zero_add _)) hb
 simp only [bne_self_eq_false,wrL_d0_ok,q6]
 rfl
section
variable {ts ws:Array Value}
theorem nm_con (n:Int) (m:SMem):Con E0 30 [wtS ws,.s (.c (.f (.int .u32 (.o n))))] m (needs [SW ts ws,TbOk ts,inH n] (.ret (i64 (.o (nmA ts n))) m)):=by
 refine Con.pure E0_ok (by kernel_rfl:E0.fn 30=some Tryd.f30) (by kernel_rfl:Tryd.f30.body=some (Tryd.f30.body.getD .skip)) (by kernel_rfl) (by kernel_rfl) fun hq=>?_
 have w:SW ts ws:=hq _ (by simp)
 have hb:TbOk ts:=hq _ (by simp)
 have hn:inH n:=hq _ (by simp)
 have hz:=w.sz
 have h64:(64:Nat)≤448:=by decide
 have wb:=w.wb hb
 have ew:=wr64 hn
 refine (Good.ret [] (run_vc ENm_ok 1000 (nm0 ws n (nmA ts n)) ?_ (fun s m h=>h) fun _ _ h=>h.elim)).mono fun _ _ h=>h.1
 by_cases c1:1≤n
 ·have d1:decide (n≥1)=true:=decide_eq_true c1
  by_cases c2:n≤32
  ·have d2:decide (n≤32)=true:=decide_eq_true c2
   obtain ⟨i,rfl⟩:∃ i:Nat,n=(i:Int)+1:=⟨(n - 1).toNat,by omega⟩
   have hi:i<32:=by omega
   have es:ari .sub .u32 ((i:Int)+1) 1=(i:Int):=by rw [ari_sub,show (i:Int)+1 - 1=(i:Int) by omega];exact u32_in (by omega) (by omega)
   have e64:IntKind.i64.wrap (i:Int)=(i:Int):=i64_in' (by omega) (by omega)
   have y0:0≤(i:Int):=by omega
   have y1:(i:Int)<32:=by omega
   have k1:ws[32+i]?=some (.int .i64 (kindAt (bkB ts) i)):=w.s i hi
   have g:=w.gn hi
   have en:nmA ts ((i:Int)+1)=if kindAt (bkB ts) i=1 then nmF ts i else (i:Int)+1:=by
    unfold nmA
    rw [show (i:Int)+1 - 1=(i:Int) by omega,Int.toNat_natCast]
    by_cases k:kindAt (bkB ts) i=1
    ·rw [if_pos k,if_pos ⟨c1,c2,k⟩]
    ·rw [if_neg k,if_neg (fun q=>k q.2.2)]
   rw [en]
   cases k:(kindAt (bkB ts) i==1) with
   | true =>
    rw [if_pos (beq_iff_eq.1 k)]
    simp only [d1,d2,es,e64,y0,y1,isI_of k1,intAt_of k1,k,g,hz,h64,wb,beqT,beqF,Nat.mul_one,Int.toNat_natCast,q6]
    rfl
   | false =>
    rw [if_neg (beq_eq_false_iff_ne.1 k)]
    simp only [d1,d2,es,ew,y0,y1,isI_of k1,intAt_of k1,k,beqT,beqF,Nat.mul_one,Int.toNat_natCast,q6]
  ·have d2:decide (n≤32)=false:=decide_eq_false c2
   have en:nmA ts n=n:=if_neg (fun q=>c2 q.2.1)
   simp only [d1,d2,en,ew,beqT,beqF,q6]
 ·have d1:decide (n≥1)=false:=decide_eq_false c1
  have en:nmA ts n=n:=if_neg (fun q=>c1 q.1)
  simp only [d1,en,ew,beqT,beqF,q6]
theorem nm_in (hb:TbOk ts) {n:Int} (hn:inH n):inH (nmA ts n):=by
 unfold nmA
 split
 ·rename_i c
  have g:gdF ts (nmF ts (n - 1).toNat)=true:=(goodB_iff hb.bk).2 ⟨(n - 1).toNat,by omega,c.2.2,rfl⟩
  exact (good_f hb g).2.2.2.2.2.1
 ·exact hn
theorem smX_good {n:Nat} {a b:Array Value} {A:SV→SMem→Prop} {QO:Int→Prop} {QI:Int→Int→Array Value→Array Value→Prop} {fs:List SFr} {m:SMem} (hO:∀ i,QO i→Good Tryd.prog A 0 (smO_F ts ws n a b i) (smO_M ts ws n a b i)) (hI:∀ i k rr vv,QI i k rr vv→Good Tryd.prog A 0 (smI_F ts ws n a b i k rr vv) (smI_M ts ws n a b i k rr vv)) (hb:smX ts ws n a b QO QI fs m):Good Tryd.prog A 0 fs m:=by
 unfold smX at hb
 split at hb
 ·exact smO_good hO hb
 ·exact smI_good hI hb
theorem rw_ce (hb:TbOk ts) {x:Int} (hg:gdF ts x=true):(∀ k,k<8→(getA ts x)[4+k]?=some (.int .u32 (ceF ts x k))∧(gwT ts x)[4+k]?=some (.int .i64 (ceF ts x k))∧inH (ceF ts x k))∧getA ts x=rgA (upF ts x) (quF ts x) 0 (ceF ts x)∧gwT ts x=rwA (upF ts x) (quF ts x) (ceF ts x):=by
 have e1:getA ts x=rgA (upF ts x) (quF ts x) 0 (ceF ts x):=if_pos hg
 have e2:gwT ts x=rwA (upF ts x) (quF ts x) (ceF ts x):=if_pos hg
 refine ⟨fun k hk=>?_,e1,e2⟩
 rw [e1,e2]
 refine ⟨?_,?_,(rg_in hb hg).2.2 k hk⟩
 ·match k,hk with
  | 0,_ | 1,_ | 2,_ | 3,_ | 4,_ | 5,_ | 6,_ | 7,_=>rfl
 ·match k,hk with
  | 0,_ | 1,_ | 2,_ | 3,_ | 4,_ | 5,_ | 6,_ | 7,_=>rfl
theorem smI_ok (hb:TbOk ts) {i:Nat} (hi:i<1000) {n:Nat} {a b:Array Value} {x:Int} (hg:gdF ts x=true) (hO:Good Tryd.prog (isB true) 0 (smO_F ts ws n a b ((i+1:Nat):Int)) (smO_M ts ws n a b ((i+1:Nat):Int))):∀ (r k:Nat),k+r=8→Good Tryd.prog (isB true) 0 (smI_F ts ws n a b (i:Int) (k:Int) (getA ts x) (gwT ts x)) (smI_M ts ws n a b (i:Int) (k:Int) (getA ts x) (gwT ts x)):=by
 intro r
 induction r with
 | zero =>
  intro k hk
  obtain rfl:k=8:=by omega
  refine past_vc (ESm_ok ts) 1000 (sm2 ts ws n a b (i:Int) _ _ _ (fun i'=>i'=((i+1:Nat):Int)) (fun _ _ _ _=>False)) ?_ (fun _ _ h=>h) (fun fs m hb=>smX_good (fun i' e=>by rw [e];exact hO) (fun _ _ _ _ h=>h.elim) hb)
  have d:decide (((8:Nat):Int)<8)=false:=rfl
  have ei:ari .add .i64 (i:Int) 1=((i+1:Nat):Int):=by rw [ari_add,i64_in' (by omega) (by omega)];omega
  simp only [d,ei,smO_d0_ok,q6]
 | succ r ih =>
  intro k hk
  have hk':k<8:=by omega
  obtain ⟨c1,c2,c3⟩:=(rw_ce hb hg).1 k hk'
  refine past_vc (ESm_ok ts) 1000 (sm2 ts ws n a b (i:Int) (k:Int) _ _ (fun _=>False) (fun i' k' rr vv=>i'=(i:Int)∧k'=((k+1:Nat):Int)∧rr=getA ts x∧vv=gwT ts x)) ?_ (fun _ _ h=>h) (fun fs m hb=>smX_good (fun _ h=>h.elim) (fun i' k' rr vv ⟨e1,e2,e3,e4⟩=>by rw [e1,e2,e3,e4];exact ih (k+1) (by omega)) hb)
  have d:decide ((k:Int)<8)=true:=decide_eq_true (by omega)
  have ei:ari .add .i64 (k:Int) 1=((k+1:Nat):Int):=by rw [ari_add,i64_in' (by omega) (by omega)];omega
  have y0:0≤(k:Int):=by omega
  have y1:(k:Int)<8:=by omega
  simp only [Int.toNat_natCast,Nat.mul_one,d,ei,y0,y1,isI_of c1,intAt_of c1,isI_of c2,intAt_of c2,wr64 c3,bne_self_eq_false,decide_true,smI_d0_ok,q6]
theorem smO_ok (w:SW ts ws) (hb:TbOk ts):∀ (r i:Nat),i+r=(lvT ts).length→Good Tryd.prog (isB true) 0 (smO_F ts ws (lvT ts).length (u32s (lvT ts)) (i64s (lvT ts)) (i:Int)) (smO_M ts ws (lvT ts).length (u32s (lvT ts)) (i64s (lvT ts)) (i:Int)):=by
 have hs:=hb.sz
 have hz:=w.sz
 have h64:(64:Nat)≤448:=by decide
 have hbk:BkOk (bkB ts):=hb.bk
 have hlen:=lv_len ts
 intro r
 induction r with
 | zero =>
  intro i hi
  obtain rfl:i=(lvT ts).length:=by omega
  refine past_vc (ESm_ok ts) 1000 (sm1 ts ws _ _ _ _ (fun _ _ _ _=>False)) ?_ (fun _ _ h=>h) (fun fs m hb=>smI_good (fun _ _ _ _ h=>h.elim) hb)
  unfold sm1_1 sm1_0
  have d:decide (((lvT ts).length:Int)<((lvT ts).length:Int))=false:=decide_eq_false (by omega)
  simp only [d,q6]
 | succ r ih =>
  intro i hi
  have hi':i<(lvT ts).length:=by omega
  have hx:=lv_at hb hi'
  have hg:=(lv_mem hb).1 hx
  have hg':goodB (bkB ts) ((lvT ts).getD i 0)=true:=hg
  have hxi:=lv_in hb (.inr hx)
  have hxi':0≤(lvT ts).getD i 0∧(lvT ts).getD i 0<4294967296:=hxi
  obtain ⟨_,e1,e2⟩:=rw_ce hb hg
  refine past_vc (ESm_ok ts) 1000 (sm1 ts ws _ _ _ (i:Int) (fun i' k' rr vv=>i'=(i:Int)∧k'=((0:Nat):Int)∧rr=getA ts ((lvT ts).getD i 0)∧vv=gwT ts ((lvT ts).getD i 0))) ?_ (fun _ _ h=>h) (fun fs m hb'=>smI_good (fun i' k' rr vv ⟨a1,a2,a3,a4⟩=>by rw [a1,a2,a3,a4];exact smI_ok hb (by omega) hg (ih (i+1) (by omega)) 8 0 rfl) hb')
  unfold sm1_1 sm1_0
  have d:decide ((i:Int)<((lvT ts).length:Int))=true:=decide_eq_true (by omega)
  have g1:IsInt .u32 (u32s (lvT ts)) i:=isI_of (u32s_at hi')
  have g2:intAt (u32s (lvT ts)) i=(lvT ts).getD i 0:=intAt_of (u32s_at hi')
  have g3:IsInt .i64 (i64s (lvT ts)) i:=isI_of (i64s_at hi')
  have g4:intAt (i64s (lvT ts)) i=(lvT ts).getD i 0:=intAt_of (i64s_at hi')
  have y0:0≤(i:Int):=by omega
  have y1:(i:Int)<((lvT ts).length:Int):=by omega
  have x5:getX5 ts ((lvT ts).getD i 0)=0:=if_pos hg
  have z1:(getA ts ((lvT ts).getD i 0)).size=12:=by rw [e1];rfl
  have z2:(gwT ts ((lvT ts).getD i 0)).size=12:=by rw [e2];rfl
  have a0:(getA ts ((lvT ts).getD i 0))[0]?=some (.int .u32 (upF ts ((lvT ts).getD i 0))):=by rw [e1];rfl
  have a1:(getA ts ((lvT ts).getD i 0))[1]?=some (.int .i64 (quF ts ((lvT ts).getD i 0))):=by rw [e1];rfl
  have a2:(getA ts ((lvT ts).getD i 0))[2]?=some (.slice none 0 0):=by rw [e1];rfl
  have a3:(getA ts ((lvT ts).getD i 0))[3]?=some (.int .i64 0):=by rw [e1];rfl
  have b0:(gwT ts ((lvT ts).getD i 0))[0]?=some (.int .i64 (upF ts ((lvT ts).getD i 0))):=by rw [e2];rfl
  have b1:(gwT ts ((lvT ts).getD i 0))[1]?=some (.int .i64 (quF ts ((lvT ts).getD i 0))):=by rw [e2];rfl
  have b2:(gwT ts ((lvT ts).getD i 0))[2]?=some (.slice none 0 0):=by rw [e2];rfl
  have b3:(gwT ts ((lvT ts).getD i 0))[3]?=some (.int .i64 0):=by rw [e2];rfl
  have hup:inH (upF ts ((lvT ts).getD i 0)):=by
   unfold upF
   rw [if_pos hg]
   split
   ·exact (rg_in hb hg).1
   ·exact ⟨by decide,by decide⟩
  simp only [bk_f,hg',d,g1,g2,g3,g4,y0,y1,x5,z1,z2,isI_of a0,isI_of a1,a2,isI_of a3,intAt_of a0,intAt_of a1,intAt_of a3,isI_of b0,isI_of b1,b2,isI_of b3,intAt_of b0,intAt_of b1,intAt_of b3,wr64 hup,wr64 hxi,hxi',hs,hz,h64,hbk,hb,w,bne_self_eq_false,decide_true,smI_d0_ok,q7,q8,q6]
  rfl
theorem same_con (m:SMem):Con E0 10 [tbS ts,wtS ws] m (needs [SW ts ws,TbOk ts] (.ret (sB (.l true)) m)):=by
 refine Con.readV (ms:=e0M) (l':=[tbS ts,wtS ws]) E0_ok (by kernel_rfl:E0.fn 10=some Tryd.f10) (by kernel_rfl:Tryd.f10.body=some (Tryd.f10.body.getD .skip)) rfl (fun _=>0) (fun q b hb=>by cases hb) (fun R vs hv=>ok_anys (by kernel_rfl) hv) (A:=isB true) (fun hq=>?_) (fun s m' R R' v hs hv=>isB_ok hs hv)
 have w:SW ts ws:=hq _ (by simp)
 have hb:TbOk ts:=hq _ (by simp)
 have hs:=hb.sz
 have hz:=w.sz
 cases d:decide ((lvT ts).length=0) with
 | true =>
  refine run_vc (ESz_ok ts) 1000 (smZ ts ws) ?_ (fun s m h=>h) fun fs m h=>h.elim
  simp only [d,hs,hz,w,hb,q6]
 | false =>
  refine run_vc (ESm_ok ts) 1000 (sm0 ts ws (lvT ts).length (u32s (lvT ts)) (i64s (lvT ts)) (fun i=>i=((0:Nat):Int))) ?_ (fun s m h=>h) fun fs m hm=>smO_good (fun i e=>by rw [e];exact smO_ok w hb _ 0 (Nat.zero_add _)) hm
  simp only [d,hs,hz,w,hb,bne_self_eq_false,smO_d0_ok,q6]
  rfl
end
noncomputable def lsW (a0 a1 a3 c0 c1 c2 c3 c4 c5 c6 c7:Int):Array Value:=#[.int .i64 a0,.int .i64 a1,.slice none 0 0,.int .i64 a3,.int .i64 c0,.int .i64 c1,.int .i64 c2,.int .i64 c3,.int .i64 c4,.int .i64 c5,.int .i64 c6,.int .i64 c7]
set_option linter.unusedVariables false
noncomputable def cP (ts:Array Value) (x b z:Int):Array Value:=Array.setIfInBounds (getA ts (IntKind.wrap IntKind.u32 x)) ((4:Nat)+Int.toNat (ari BinOp.rem IntKind.u32 b (8:Int))*(1:Nat)) (Value.int IntKind.u32 (IntKind.wrap IntKind.u32 z))
noncomputable def cR (ts:Array Value) (x b z:Int):Array Value:=Array.setIfInBounds (gwT ts x) ((4:Nat)+Int.toNat (ari BinOp.rem IntKind.u32 b (8:Int))*(1:Nat)) (Value.int IntKind.i64 z)
noncomputable def lP (rr:Array Value):Array Value:=lsA (intAt rr 0) (intAt rr 1) (intAt rr 3) (intAt rr 4) (intAt rr 5) (intAt rr 6) (intAt rr 7) (intAt rr 8) (intAt rr 9) (intAt rr 10) (intAt rr 11)
noncomputable def lR (rr:Array Value):Array Value:=lsW (intAt rr 0) (intAt rr 1) (intAt rr 3) (intAt rr 4) (intAt rr 5) (intAt rr 6) (intAt rr 7) (intAt rr 8) (intAt rr 9) (intAt rr 10) (intAt rr 11)
def okP (rr:Array Value):Prop:=IsInt IntKind.u32 rr 0∧IsInt IntKind.i64 rr 1∧rr[(2:Nat)]?=some (Value.slice none (0:Nat) (0:Nat))∧IsInt IntKind.i64 rr 3∧IsInt IntKind.u32 rr 4∧IsInt IntKind.u32 rr 5∧IsInt IntKind.u32 rr 6∧IsInt IntKind.u32 rr 7∧IsInt IntKind.u32 rr 8∧IsInt IntKind.u32 rr 9∧IsInt IntKind.u32 rr 10∧IsInt IntKind.u32 rr 11∧True
def okR (rr:Array Value):Prop:=IsInt IntKind.i64 rr 0∧IsInt IntKind.i64 rr 1∧rr[(2:Nat)]?=some (Value.slice none (0:Nat) (0:Nat))∧IsInt IntKind.i64 rr 3∧IsInt IntKind.i64 rr 4∧IsInt IntKind.i64 rr 5∧IsInt IntKind.i64 rr 6∧IsInt IntKind.i64 rr 7∧IsInt IntKind.i64 rr 8∧IsInt IntKind.i64 rr 9∧IsInt IntKind.i64 rr 10∧IsInt IntKind.i64 rr 11∧True
noncomputable def u32v (n:Int):SV:=.s (.c (.f (.int .u32 (.o n))))
noncomputable def acV (d a b c q:Int):SV:=.s (.agg (.ls [.f (.int .u8 (.o d)),.f (.int .u32 (.o a)),.f (.int .u32 (.o b)),.f (.int .u32 (.o c)),.f (.int .i64 (.o q))]))
noncomputable def doS (oP oW:Array Value):SV:=.tup [.agg (.op oP),.agg (.op oW),.c (.f (.bool (.l true)))]
noncomputable def conDo (ts:Array Value) (g:FuncId) (l:List SV) (m:SMem):Option Tree:=match g,l with
 | 30,[.s (.agg (.op ws)),.s (.c (.f (.int .u32 n)))]=>some (.need [SW ts ws,TbOk ts,inH n.den] (.ret (i64 (.o (nmA ts n.den))) m))
 | 32,[.s (.c (.f (.slice i (.l 0) n c1))),.s (.c (.f (.slice j (.l 0) k c2)))]=>(match getB m.bl i,getB m.bl j with | some ⟨.pop a,30,_⟩,some ⟨.pop b,3,_⟩=>some (.need [rEq a b n.den k.den] (.ret (sB (.l true)) m)) | _,_=>none)
 | 32,[.s (.c (.f (.lit (.slice none 0 0)))),.s (.c (.f (.lit (.slice none 0 0))))]=>some (.ret (sB (.l true)) m)
 | 31,[.s (.agg (.op ws)),.s (.c (.f (.int .i64 h)))]=>some (.need [SW ts ws,FIn ts] (fwC ts ws h.den m))
 | 33,[.s (.agg (.op ws)),.s (.c (.f (.int .i64 h)))]=>some (.need [SW ts ws,FIn ts] (.ret (weS (cuW ts ws h.den) (cutE ts h.den)) m))
 | 34,[.s (.agg (.op ws)),.s (.c (.f (.int .i64 h))),.s (.c (.f (.int .i64 u)))]=>some (.need [SW ts ws,FV ts] (.ret (weS (grW ts ws h.den u.den) (grE ts h.den u.den)) m))
 | 37,[.s (.agg (.op ws)),.s (.c (.f (.int .i64 u))),.s (.c (.f (.int .i64 q)))]=>some (.need [SW ts ws,FV ts,inH u.den] (.ret (.tup [.agg (.op (fnW ts ws u.den q.den)),.c (.f (.int .i64 (.o (fnI ts u.den q.den)))),.c (.f (.int .i64 (.o (fnE ts u.den q.den))))]) m))
 | 36,[.s (.agg (.op ws)),.s (.c (.f (.int .i64 h))),.s (.agg (.ls [.f (.int .i64 a0),.f (.int .i64 a1),.f (.lit (.slice none 0 0)),.f (.int .i64 a3),.f (.int .i64 c0),.f (.int .i64 c1),.f (.int .i64 c2),.f (.int .i64 c3),.f (.int .i64 c4),.f (.int .i64 c5),.f (.int .i64 c6),.f (.int .i64 c7)]))]=>some (.need [SW ts ws,TbOk ts,RwOk (lsW a0.den a1.den a3.den c0.den c1.den c2.den c3.den c4.den c5.den c6.den c7.den)] (.ret (weS (seW ts ws h.den (lsW a0.den a1.den a3.den c0.den c1.den c2.den c3.den c4.den c5.den c6.den c7.den)) (getX5 ts h.den)) m))
 | 13,[.s (.agg (.op ts)),.s (.c (.f (.int .u32 h)))]=>some (.need [FIn ts,inH h.den] (fellC ts h.den m))
 | 16,[.s (.agg (.op ts)),.s (.c (.f (.int .u32 u))),.s (.c (.f (.int .i64 q)))]=>some (.need [FIn ts,inH u.den] (.ret (fnS (fnT ts u.den q.den) (fnI ts u.den q.den) (fnE ts u.den q.den)) m))
 | g,l=>conJ5 ts g l m
noncomputable def EDo (ts:Array Value):Env:=⟨Tryd.prog,fnOf,conDo ts,haltAt []⟩
set_option maxRecDepth 100000
noncomputable def do0_0 (ts:Array Value) (a:Int):Int:=IntKind.wrap .u32 (nmA ts a)
noncomputable def do0_1 (ts:Array Value) (a:Int):Prop:=0≤IntKind.wrap .u32 (nmA ts a)∧IntKind.wrap .u32 (nmA ts a)<4294967296
noncomputable def do0_2 (ws:Array Value):Prop:=Array.size ws=448∧Array.size ws=448∧True
noncomputable def do0_3 (ts:Array Value) (ws:Array Value) (a:Int):Prop:=Array.size (fwN ws (unT ts (nmA ts a)))=448∧Array.size (fwN ws (unT ts (nmA ts a)))=448∧True
noncomputable def do0_4 (ts:Array Value):Prop:=Array.size ts=448∧Array.size ts=448∧True
noncomputable def do0_5 (ts:Array Value) (a:Int) (b:Int) (c:Int):Array Value:=setT ts (do0_0 ts a) (lP (cP ts (nmA ts a) b (nmA ts c)))
noncomputable def do0_6 (ts:Array Value) (ws:Array Value) (a:Int) (b:Int) (c:Int):Array Value:=seW ts ws (nmA ts a) (lR (cR ts (nmA ts a) b (nmA ts c)))
noncomputable def do0_7 (ts:Array Value) (a:Int):Prop:=Array.size (fellT ts (do0_0 ts a))=448∧Array.size (fellT ts (do0_0 ts a))=448∧True
noncomputable def do0_8 (ts:Array Value) (a:Int) (b:Int):Array Value:=grT ts (do0_0 ts a) (IntKind.wrap .u32 (nmA ts b))
theorem do0 (ts ws:Array Value) (d a b c q:Int) (oP oW:Array Value):(run (EDo ts) 1000 0 [callFr 9 Tryd.f9.ntmps [tbS ts,wtS ws,acV d a b c q] (Tryd.f9.body.getD .skip)] e0M).vc (retOk 0 [] (doS oP oW) e0M) (fun _ _=>False) =
  ((Array.size ws=448∧True)∧(SW ts ws∧TbOk ts∧(0≤a∧a<4294967296)∧True)∧(Array.size ws=448∧True)∧(SW ts ws∧TbOk ts∧(0≤b∧b<4294967296)∧True)∧(Array.size ws=448∧True)∧(SW ts ws∧TbOk ts∧(0≤c∧c<4294967296)∧True)∧((d==0)=true→(Array.size ts=448∧True)∧(FIn ts∧(do0_1 ts a)∧True)∧(decide (List.length (unT ts (do0_0 ts a))=0)=true→(do0_4 ts)∧(Array.size ws=448∧True)∧(SW ts ws∧FIn ts∧True)∧(decide (List.length (unT ts (nmA ts a))=0)=true→(do0_2 ws)∧(Array.size ts=448∧True)∧(Array.size ws=448∧True)∧(Array.size ts=448∧Array.size ts=Array.size ts∧True)∧(Array.size ws=448∧Array.size ws=Array.size ws∧True)∧(Array.size ts=448∧True)∧(Array.size ws=448∧True)∧(do0_4 ts)∧(do0_2 ws)∧(Array.size ts=448∧Array.size ws=448∧True)∧oP=ts∧oW=ws∧true=true∧True)∧(decide (List.length (unT ts (nmA ts a))=0)=false→(do0_3 ts ws a)∧(Array.size ts=448∧True)∧(Array.size (fwN ws (unT ts (nmA ts a)))=448∧True)∧(Array.size ts=448∧Array.size ts=Array.size ts∧True)∧(Array.size (fwN ws (unT ts (nmA ts a)))=448∧Array.size (fwN ws (unT ts (nmA ts a)))=Array.size ws∧True)∧(((0:Int) != (↑(List.length (unT ts (nmA ts a))):Int))=true→(Array.size ts=448∧True)∧(Array.size (fwN ws (unT ts (nmA ts a)))=448∧True)∧(do0_4 ts)∧(do0_3 ts ws a)∧(Array.size ts=448∧Array.size (fwN ws (unT ts (nmA ts a)))=448∧True)∧False)∧(((0:Int) != (↑(List.length (unT ts (nmA ts a))):Int))=false→(Array.size ts=448∧True)∧(Array.size (fwN ws (unT ts (nmA ts a)))=448∧True)∧(do0_4 ts)∧(do0_3 ts ws a)∧(Array.size ts=448∧Array.size (fwN ws (unT ts (nmA ts a)))=448∧True)∧oP=ts∧oW=fwN ws (unT ts (nmA ts a))∧true=false∧True)))∧(decide (List.length (unT ts (do0_0 ts a))=0)=false→(do0_7 ts a)∧(Array.size ws=448∧True)∧(SW ts ws∧FIn ts∧True)∧(decide (List.length (unT ts (nmA ts a))=0)=true→(do0_2 ws)∧(Array.size (fellT ts (do0_0 ts a))=448∧True)∧(Array.size ws=448∧True)∧(Array.size (fellT ts (do0_0 ts a))=448∧Array.size (fellT ts (do0_0 ts a))=Array.size ts∧True)∧(Array.size ws=448∧Array.size ws=Array.size ws∧True)∧(((↑(List.length (unT ts (do0_0 ts a))):Int) != 0)=true→(Array.size (fellT ts (do0_0 ts a))=448∧True)∧(Array.size ws=448∧True)∧(do0_7 ts a)∧(do0_2 ws)∧(Array.size (fellT ts (do0_0 ts a))=448∧Array.size ws=448∧True)∧False)∧(((↑(List.length (unT ts (do0_0 ts a))):Int) != 0)=false→(decide ((0:Int)<(↑(List.length (unT ts (do0_0 ts a))):Int))=true→(((0:Int)≤0∧(0:Int)<(↑(List.length (unT ts (do0_0 ts a))):Int))∧True)∧(IsInt .u32 (u32s (unT ts (do0_0 ts a))) (0+0*1)∧True)∧False)∧(decide ((0:Int)<(↑(List.length (unT ts (do0_0 ts a))):Int))=false→(Array.size (fellT ts (do0_0 ts a))=448∧True)∧(Array.size ws=448∧True)∧(do0_7 ts a)∧(do0_2 ws)∧(Array.size (fellT ts (do0_0 ts a))=448∧Array.size ws=448∧True)∧oP=fellT ts (do0_0 ts a)∧oW=ws∧true=false∧True)))∧(decide (List.length (unT ts (nmA ts a))=0)=false→(do0_3 ts ws a)∧(Array.size (fellT ts (do0_0 ts a))=448∧True)∧(Array.size (fwN ws (unT ts (nmA ts a)))=448∧True)∧(Array.size (fellT ts (do0_0 ts a))=448∧Array.size (fellT ts (do0_0 ts a))=Array.size ts∧True)∧(Array.size (fwN ws (unT ts (nmA ts a)))=448∧Array.size (fwN ws (unT ts (nmA ts a)))=Array.size ws∧True)∧(rEq (u32s (unT ts (do0_0 ts a))) (i64s (unT ts (nmA ts a))) (List.length (unT ts (do0_0 ts a))) (List.length (unT ts (nmA ts a)))∧True)∧(Array.size (fellT ts (do0_0 ts a))=448∧True)∧(Array.size (fwN ws (unT ts (nmA ts a)))=448∧True)∧(do0_7 ts a)∧(do0_3 ts ws a)∧(Array.size (fellT ts (do0_0 ts a))=448∧Array.size (fwN ws (unT ts (nmA ts a)))=448∧True)∧oP=fellT ts (do0_0 ts a)∧oW=fwN ws (unT ts (nmA ts a))∧true=true∧True)))∧((d==0)=false→((d==1)=true→(Array.size ts=448∧True)∧(FIn ts∧(do0_1 ts a)∧True)∧(Array.size (cutT ts (do0_0 ts a))=448∧Array.size (cutT ts (do0_0 ts a))=Array.size ts∧True)∧(Array.size ws=448∧True)∧(SW ts ws∧FIn ts∧True)∧(Array.size (cuW ts ws (nmA ts a))=448∧Array.size (cuW ts ws (nmA ts a))=Array.size ws∧True)∧(Array.size (cutT ts (do0_0 ts a))=448∧True)∧(Array.size (cuW ts ws (nmA ts a))=448∧True)∧(Array.size (cutT ts (do0_0 ts a))=448∧Array.size (cutT ts (do0_0 ts a))=448∧True)∧(Array.size (cuW ts ws (nmA ts a))=448∧Array.size (cuW ts ws (nmA ts a))=448∧True)∧(Array.size (cutT ts (do0_0 ts a))=448∧Array.size (cuW ts ws (nmA ts a))=448∧True)∧oP=cutT ts (do0_0 ts a)∧oW=cuW ts ws (nmA ts a)∧true=(cutE ts (do0_0 ts a)==cutE ts (nmA ts a))∧True)∧((d==1)=false→((d==2)=true→(Array.size ts=448∧True)∧(FIn ts∧(do0_1 ts a)∧(0≤IntKind.wrap .u32 (nmA ts b)∧IntKind.wrap .u32 (nmA ts b)<4294967296)∧True)∧(Array.size (do0_8 ts a b)=448∧Array.size (do0_8 ts a b)=Array.size ts∧True)∧(Array.size ws=448∧True)∧(SW ts ws∧FV ts∧True)∧(Array.size (grW ts ws (nmA ts a) (nmA ts b))=448∧Array.size (grW ts ws (nmA ts a) (nmA ts b))=Array.size ws∧True)∧(Array.size (do0_8 ts a b)=448∧True)∧(Array.size (grW ts ws (nmA ts a) (nmA ts b))=448∧True)∧(Array.size (do0_8 ts a b)=448∧Array.size (do0_8 ts a b)=448∧True)∧(Array.size (grW ts ws (nmA ts a) (nmA ts b))=448∧Array.size (grW ts ws (nmA ts a) (nmA ts b))=448∧True)∧(Array.size (do0_8 ts a b)=448∧Array.size (grW ts ws (nmA ts a) (nmA ts b))=448∧True)∧oP=grT ts (do0_0 ts a) (IntKind.wrap .u32 (nmA ts b))∧oW=grW ts ws (nmA ts a) (nmA ts b)∧true=(grE ts (do0_0 ts a) (IntKind.wrap .u32 (nmA ts b))==grE ts (nmA ts a) (nmA ts b))∧True)∧((d==2)=false→((d==3)=true→(Array.size ts=448∧True)∧(TbOk ts∧(do0_1 ts a)∧True)∧(Array.size (getA ts (do0_0 ts a))=12∧Array.size (getA ts (do0_0 ts a))=12∧True)∧((0≤ari .rem .u32 b 8∧ari .rem .u32 b 8<8)∧True)∧(4+Int.toNat (ari .rem .u32 b 8)*1<Array.size (getA ts (do0_0 ts a))∧True)∧(Array.size ws=448∧True)∧(SW ts ws∧TbOk ts∧True)∧(Array.size (gwT ts (nmA ts a))=12∧Array.size (gwT ts (nmA ts a))=12∧True)∧((0≤ari .rem .u32 b 8∧ari .rem .u32 b 8<8)∧True)∧(4+Int.toNat (ari .rem .u32 b 8)*1<Array.size (gwT ts (nmA ts a))∧True)∧(((getX5 ts (do0_0 ts a)==0)==true)=true→((gwE ts (nmA ts a)==0)=true→(Array.size ts=448∧True)∧(okP (cP ts (nmA ts a) b (nmA ts c)))∧(TbOk ts∧(do0_1 ts a)∧RgOk (lP (cP ts (nmA ts a) b (nmA ts c))) (0:Nat)∧True)∧(Array.size (do0_5 ts a b c)=448∧Array.size (do0_5 ts a b c)=Array.size ts∧True)∧(Array.size ws=448∧True)∧(okR (cR ts (nmA ts a) b (nmA ts c)))∧(SW ts ws∧TbOk ts∧RwOk (lR (cR ts (nmA ts a) b (nmA ts c)))∧True)∧(Array.size (do0_6 ts ws a b c)=448∧Array.size (do0_6 ts ws a b c)=Array.size ws∧True)∧(Array.size (do0_5 ts a b c)=448∧True)∧(Array.size (do0_6 ts ws a b c)=448∧True)∧(((getX5 ts (do0_0 ts a)==gwE ts (nmA ts a))==true)=true→(Array.size (do0_5 ts a b c)=448∧Array.size (do0_5 ts a b c)=448∧True)∧(Array.size (do0_6 ts ws a b c)=448∧Array.size (do0_6 ts ws a b c)=448∧True)∧(Array.size (do0_5 ts a b c)=448∧Array.size (do0_6 ts ws a b c)=448∧True)∧oP=setT ts (do0_0 ts a) (lP (cP ts (nmA ts a) b (nmA ts c)))∧oW=seW ts ws (nmA ts a) (lR (cR ts (nmA ts a) b (nmA ts c)))∧true=(getX5 ts (do0_0 ts a)==getX5 ts (nmA ts a))∧True)∧(((getX5 ts (do0_0 ts a)==gwE ts (nmA ts a))==true)=false→(Array.size (do0_5 ts a b c)=448∧Array.size (do0_5 ts a b c)=448∧True)∧(Array.size (do0_6 ts ws a b c)=448∧Array.size (do0_6 ts ws a b c)=448∧True)∧(Array.size (do0_5 ts a b c)=448∧Array.size (do0_6 ts ws a b c)=448∧True)∧False))∧((gwE ts (nmA ts a)==0)=false→(Array.size ts=448∧True)∧(Array.size ws=448∧True)∧(((getX5 ts (do0_0 ts a)==gwE ts (nmA ts a))==true)=true→(do0_4 ts)∧(do0_2 ws)∧(Array.size ts=448∧Array.size ws=448∧True)∧oP=ts∧oW=ws∧True)∧(((getX5 ts (do0_0 ts a)==gwE ts (nmA ts a))==true)=false→(do0_4 ts)∧(do0_2 ws)∧(Array.size ts=448∧Array.size ws=448∧True)∧False)))∧(((getX5 ts (do0_0 ts a)==0)==true)=false→(Array.size ts=448∧True)∧(Array.size ws=448∧True)∧(((getX5 ts (do0_0 ts a)==gwE ts (nmA ts a))==true)=true→(do0_4 ts)∧(do0_2 ws)∧(Array.size ts=448∧Array.size ws=448∧True)∧oP=ts∧oW=ws∧True)∧(((getX5 ts (do0_0 ts a)==gwE ts (nmA ts a))==true)=false→(do0_4 ts)∧(do0_2 ws)∧(Array.size ts=448∧Array.size ws=448∧True)∧False)))∧((d==3)=false→(Array.size ts=448∧True)∧(FIn ts∧(do0_1 ts a)∧True)∧(Array.size (fnT ts (do0_0 ts a) q)=448∧Array.size (fnT ts (do0_0 ts a) q)=448∧True)∧(Array.size ws=448∧True)∧(SW ts ws∧FV ts∧(0≤nmA ts a∧nmA ts a<4294967296)∧True)∧(Array.size (fnW ts ws (nmA ts a) q)=448∧Array.size (fnW ts ws (nmA ts a) q)=448∧True)∧(Array.size (fnT ts (do0_0 ts a) q)=448∧True)∧(Array.size (fnW ts ws (nmA ts a) q)=448∧True)∧(Array.size (fnT ts (do0_0 ts a) q)=448∧Array.size (fnT ts (do0_0 ts a) q)=Array.size ts∧True)∧(Array.size (fnW ts ws (nmA ts a) q)=448∧Array.size (fnW ts ws (nmA ts a) q)=Array.size ws∧True)∧(Array.size (fnT ts (do0_0 ts a) q)=448∧True)∧(Array.size (fnW ts ws (nmA ts a) q)=448∧True)∧(((IntKind.wrap .i64 (fnI ts (do0_0 ts a) q)==fnI ts (nmA ts a) q)==true)=true→(Array.size (fnT ts (do0_0 ts a) q)=448∧Array.size (fnT ts (do0_0 ts a) q)=448∧True)∧(Array.size (fnW ts ws (nmA ts a) q)=448∧Array.size (fnW ts ws (nmA ts a) q)=448∧True)∧(Array.size (fnT ts (do0_0 ts a) q)=448∧Array.size (fnW ts ws (nmA ts a) q)=448∧True)∧oP=fnT ts (do0_0 ts a) q∧oW=fnW ts ws (nmA ts a) q∧true=(fnE ts (do0_0 ts a) q==fnE ts (nmA ts a) q)∧True)∧(((IntKind.wrap .i64 (fnI ts (do0_0 ts a) q)==fnI ts (nmA ts a) q)==true)=false→(Array.size (fnT ts (do0_0 ts a) q)=448∧Array.size (fnT ts (do0_0 ts a) q)=448∧True)∧(Array.size (fnW ts ws (nmA ts a) q)=448∧Array.size (fnW ts ws (nmA ts a) q)=448∧True)∧(Array.size (fnT ts (do0_0 ts a) q)=448∧Array.size (fnW ts ws (nmA ts a) q)=448∧True)∧False)))))):=by kernel_rfl
set_option linter.unusedVariables false
theorem ls_opW {R:Ren} {v:Value} {a0 a1 a3 c0 c1 c2 c3 c4 c5 c6 c7:SI} (h:(SV.s (.agg (.ls [.f (.int .i64 a0),.f (.int .i64 a1),.f (.lit (.slice none 0 0)),.f (.int .i64 a3),.f (.int .i64 c0),.f (.int .i64 c1),.f (.int .i64 c2),.f (.int .i64 c3),.f (.int .i64 c4),.f (.int .i64 c5),.f (.int .i64 c6),.f (.int .i64 c7)]))).ok R v):(wtS (lsW a0.den a1.den a3.den c0.den c1.den c2.den c3.den c4.den c5.den c6.den c7.den)).ok R v:=by
 obtain ⟨cs,rfl,hl⟩:=h
 have hl:All2 (SC.ok R) _ cs.toList:=hl
 have key:cs=lsW a0.den a1.den a3.den c0.den c1.den c2.den c3.den c4.den c5.den c6.den c7.den:=by
  apply Array.ext'
  match hc:cs.toList,hl with
 | [v0,v1,v2,v3,v4,v5,v6,v7,v8,v9,v10,v11],⟨h0,h1,h2,h3,h4,h5,h6,h7,h8,h9,h10,h11,_⟩ =>
  have e0:v0=.int .i64 a0.den:=h0
  have e1:v1=.int .i64 a1.den:=h1
  have e2:v2=.slice none 0 0:=h2.1
  have e3:v3=.int .i64 a3.den:=h3
  have e4:v4=.int .i64 c0.den:=h4
  have e5:v5=.int .i64 c1.den:=h5
  have e6:v6=.int .i64 c2.den:=h6
  have e7:v7=.int .i64 c3.den:=h7
  have e8:v8=.int .i64 c4.den:=h8
  have e9:v9=.int .i64 c5.den:=h9
  have e10:v10=.int .i64 c6.den:=h10
  have e11:v11=.int .i64 c7.den:=h11
  rw [e0,e1,e2,e3,e4,e5,e6,e7,e8,e9,e10,e11]
  rfl
 refine ⟨cs,rfl,key,fun v hv=>?_⟩
 rw [key] at hv
 simp only [lsW,List.mem_cons,List.not_mem_nil,or_false] at hv
 rcases hv with rfl | rfl | rfl | rfl | rfl | rfl | rfl | rfl | rfl | rfl | rfl | rfl <;> rfl
theorem conDo_ok (ts:Array Value):∀ g l m t,conDo ts g l m=some t→Con E0 g l m t:=by
 intro g l m t h
 unfold conDo at h
 split at h
 ·rename_i ws n;cases h
  exact Con.n1 (nm_con n.den m)
 ·split at h
  ·rename_i a w1 b w2 h1 h2;cases h
   exact row_con h1 h2
  ·cases h
 ·cases h;exact rowZ_con m
 ·rename_i ws x;cases h
  exact Con.n1 (rfell_con x.den m)
 ·rename_i ws x;cases h
  exact Con.n1 (rcut_con x.den m)
 ·rename_i ws a x;cases h
  exact Con.n2 (rgraft_con a.den x.den m)
 ·rename_i ws a x;cases h
  exact Con.n2 (rfnew_con a.den x.den m)
 ·rename_i ws x a0 a1 a3 c0 c1 c2 c3 c4 c5 c6 c7;cases h
  refine Con.asked fun hq=>Con.args (l':=[wtS ws,i64 (.o x.den),wtS (lsW a0.den a1.den a3.den c0.den c1.den c2.den c3.den c4.den c5.den c6.den c7.den)]) (fun R vs ha=>by
   match vs,ha with
   | [v,w,z],ha=>exact ⟨ha.1,ha.2.1,ls_opW ha.2.2.1,trivial⟩) ?_
  intro A hs
  exact rset_con x.den m A ⟨fun p hp=>hq p hp,hs⟩
 ·rename_i ts x;cases h
  exact Con.n1 (fell_con x.den m)
 ·rename_i ts u q;cases h
  exact Con.n2 (fnew_con u.den q.den m)
 ·exact conJ5_ok ts _ _ _ _ h
theorem EDo_ok (ts:Array Value):EnvOk (EDo ts):=EnvOk.with E0_ok _ _ (conDo_ok ts)
section
variable {ts ws:Array Value}
theorem wr32 {x:Int} (h:inH x):IntKind.u32.wrap x=x:=by
 have h0:0≤x:=h.1
 have h1:x<4294967296:=h.2
 exact u32_in (by omega) (by omega)
theorem rm8 {b:Int} (hb:inH b):ari .rem .u32 b 8=b % 8:=by
 have h0:0≤b:=hb.1
 rw [ari_rem,Int.tmod_eq_emod_of_nonneg h0]
def ceS (ts:Array Value) (x b z:Int) (j:Nat):Int:=if j=(b % 8).toNat then z else ceF ts x j
theorem cP_eq {x b z:Int} (hg:gdF ts x=true) (hx:inH x) (hb:inH b) (hz:inH z):cP ts x b z=rgA (upF ts x) (quF ts x) 0 (ceS ts x b z)∧cR ts x b z=rwA (upF ts x) (quF ts x) (ceS ts x b z):=by
 have h1:getA ts x=rgA (upF ts x) (quF ts x) 0 (ceF ts x):=if_pos hg
 have h2:gwT ts x=rwA (upF ts x) (quF ts x) (ceF ts x):=if_pos hg
 unfold cP cR ceS
 rw [wr32 hx,wr32 hz,rm8 hb,h1,h2,Nat.mul_one]
 have hk:(b % 8).toNat<8:=by omega
 generalize (b % 8).toNat=k at *
 match k,hk with
 | 0,_ | 1,_ | 2,_ | 3,_ | 4,_ | 5,_ | 6,_ | 7,_=>exact ⟨rfl,rfl⟩
theorem uF_in (hb:TbOk ts) {x:Int} (hg:gdF ts x=true):inH (upF ts x):=by
 unfold upF
 rw [if_pos hg]
 split
 ·exact (rg_in hb hg).1
 ·exact ⟨by decide,by decide⟩
theorem ce_f (ht:TbOk ts) {x b z:Int} (hg:gdF ts x=true) (hx:inH x) (hb:inH b) (hz:inH z):okP (cP ts x b z)∧okR (cR ts x b z)∧RgOk (lP (cP ts x b z)) 0∧RwOk (lR (cR ts x b z))∧intAt (lR (cR ts x b z)) 1=intAt (lP (cP ts x b z)) 1∧∀ k,k<8→intAt (lR (cR ts x b z)) (4+k)=intAt (lP (cP ts x b z)) (4+k):=by
 obtain ⟨e1,e2⟩:=cP_eq hg hx hb hz
 obtain ⟨i1,i2,i3⟩:=rg_in ht hg
 rw [e1,e2]
 have e3:lP (rgA (upF ts x) (quF ts x) 0 (ceS ts x b z))=rgA (upF ts x) (quF ts x) 0 (ceS ts x b z):=rfl
 have e4:lR (rwA (upF ts x) (quF ts x) (ceS ts x b z))=rwA (upF ts x) (quF ts x) (ceS ts x b z):=rfl
 rw [e3,e4]
 have hin:∀ j,j<8→inH (ceS ts x b z j):=fun j hj=>by
  unfold ceS
  split
  ·exact hz
  ·exact i3 j hj
 refine ⟨⟨rfl,rfl,rfl,rfl,rfl,rfl,rfl,rfl,rfl,rfl,rfl,rfl,trivial⟩,⟨rfl,rfl,rfl,rfl,rfl,rfl,rfl,rfl,rfl,rfl,rfl,rfl,trivial⟩,(rg_new (us:=rgA (upF ts x) (quF ts x) 0 (ceS ts x b z)) (p:=0) (fun j _=>by rw [Nat.zero_add]) (uF_in ht hg) i2 hin).1,⟨rfl,rfl,i2,rfl,rfl,rfl,fun k hk=>?_⟩,rfl,fun k hk=>?_⟩
 ·match k,hk with
  | 0,_ | 1,_ | 2,_ | 3,_ | 4,_ | 5,_ | 6,_ | 7,_=>rfl
 ·match k,hk with
  | 0,_ | 1,_ | 2,_ | 3,_ | 4,_ | 5,_ | 6,_ | 7,_=>rfl
noncomputable def acP (ts:Array Value) (d a b c q:Int):Array Value:=if d=0 then fellT ts (nmA ts a) else if d=1 then cutT ts (nmA ts a) else if d=2 then grT ts (nmA ts a) (nmA ts b) else if d=3 then (if gdF ts (nmA ts a)=true then setT ts (nmA ts a) (lP (cP ts (nmA ts a) b (nmA ts c))) else ts) else fnT ts (nmA ts a) q
noncomputable def acW (ts ws:Array Value) (d a b c q:Int):Array Value:=if d=0 then fwN ws (unT ts (nmA ts a)) else if d=1 then cuW ts ws (nmA ts a) else if d=2 then grW ts ws (nmA ts a) (nmA ts b) else if d=3 then (if gdF ts (nmA ts a)=true then seW ts ws (nmA ts a) (lR (cR ts (nmA ts a) b (nmA ts c))) else ws) else fnW ts ws (nmA ts a) q
theorem ac_f (w:SW ts ws) (hv:FV ts) {d a b c q:Int} (ha:inH a) (hb:inH b) (hc:inH c):FV (acP ts d a b c q)∧SW (acP ts d a b c q) (acW ts ws d a b c q):=by
 have ht:=hv.f.ok
 have hx:=nm_in ht ha
 have hy:=nm_in ht hb
 have hz:=nm_in ht hc
 unfold acP acW
 by_cases d0:d=0
 ·rw [if_pos d0,if_pos d0]
  refine ⟨?_,SW.dropN _ w ht⟩
  cases g:gdF ts (nmA ts a) with
  | true=>exact (fell_f hv g).1
  | false =>
   have e:fellT ts (nmA ts a)=ts:=by unfold fellT unT;rw [g];rfl
   rw [e];exact hv
 ·rw [if_neg d0,if_neg d0]
  by_cases d1:d=1
  ·rw [if_pos d1,if_pos d1]
   exact ⟨FV_cut hv _,w.cut hv.f⟩
  ·rw [if_neg d1,if_neg d1]
   by_cases d2:d=2
   ·rw [if_pos d2,if_pos d2]
    exact ⟨(graft_f hv hy).1,w.graft hv⟩
   ·rw [if_neg d2,if_neg d2]
    by_cases d3:d=3
    ·rw [if_pos d3,if_pos d3]
     by_cases hg:gdF ts (nmA ts a)=true
     ·rw [if_pos hg,if_pos hg]
      obtain ⟨_,_,p3,_,p5,p6⟩:=ce_f ht hg hx hb hz
      exact ⟨FV_set hv hg p3,w.set ht hg p3 p5 p6⟩
     ·rw [if_neg hg,if_neg hg]
      exact ⟨hv,w⟩
    ·rw [if_neg d3,if_neg d3]
     exact ⟨FV_new hv hx,w.fnew hv hx⟩
theorem fnI_in (hb:TbOk ts) (u q:Int):inH (fnI ts u q):=by
 unfold fnI
 split
 ·exact (iss_f hb).1
 ·exact ⟨by decide,by decide⟩
theorem do_con (d a b c q:Int) (m:SMem):Con E0 9 [tbS ts,wtS ws,acV d a b c q] m (needs [SW ts ws,FV ts,inH a,inH b,inH c] (.ret (doS (acP ts d a b c q) (acW ts ws d a b c q)) m)):=by
 refine Con.pure E0_ok (by kernel_rfl:E0.fn 9=some Tryd.f9) (by kernel_rfl:Tryd.f9.body=some (Tryd.f9.body.getD .skip)) (by kernel_rfl) (by kernel_rfl) fun hq=>?_
 have w:SW ts ws:=hq _ (by simp)
 have hv:FV ts:=hq _ (by simp)
 have ha:inH a:=hq _ (by simp)
 have hb:inH b:=hq _ (by simp)
 have hc:inH c:=hq _ (by simp)
 obtain ⟨v1,w1⟩:=ac_f w hv ha hb hc (d:=d) (q:=q)
 have s1:=v1.f.ok.sz
 have s2:=w1.sz
 have hf:=hv.f
 have ht:=hf.ok
 have hs:=ht.sz
 have hw:=w.sz
 have hx:=nm_in ht ha
 have hy:=nm_in ht hb
 have hz:=nm_in ht hc
 have ha':0≤a∧a<4294967296:=ha
 have hb':0≤b∧b<4294967296:=hb
 have hc':0≤c∧c<4294967296:=hc
 have hx':0≤nmA ts a∧nmA ts a<4294967296:=hx
 have hy':0≤nmA ts b∧nmA ts b<4294967296:=hy
 have ex:=wr32 hx
 have ey:=wr32 hy
 refine (Good.ret [] (run_vc (EDo_ok ts) 1000 (do0 ts ws d a b c q (acP ts d a b c q) (acW ts ws d a b c q)) ?_ (fun s m h=>h) fun _ _ h=>h.elim)).mono fun _ _ h=>h.1
 unfold do0_8 do0_7 do0_6 do0_5 do0_4 do0_3 do0_2 do0_1 do0_0
 by_cases d0:d=0
 ·have c0:(d==0)=true:=beq_iff_eq.2 d0
  have e1:acP ts d a b c q=fellT ts (nmA ts a):=if_pos d0
  have e2:acW ts ws d a b c q=fwN ws (unT ts (nmA ts a)):=if_pos d0
  rw [e1] at s1 ⊢
  rw [e2] at s2 ⊢
  cases k:decide ((unT ts (nmA ts a)).length=0) with
  | true =>
   have e0:unT ts (nmA ts a)=[]:=List.eq_nil_of_length_eq_zero (of_decide_eq_true k)
   have e3:fellT ts (nmA ts a)=ts:=by unfold fellT;rw [e0];rfl
   have e4:fwN ws (unT ts (nmA ts a))=ws:=by rw [e0];rfl
   simp only [c0,k,e3,e4,ex,hs,hw,w,hf,ht,ha',hb',hc',hx',q6]
  | false =>
   have hg:gdF ts (nmA ts a)=true:=by
    cases g:gdF ts (nmA ts a) with
    | true=>rfl
    | false=>exact absurd (by unfold unT;rw [g];rfl) (of_decide_eq_false k)
   have hl:=(lv_mem ht).2 hg
   have hun:unT ts (nmA ts a)=UNL ts (nmA ts a):=if_pos hg
   have hr:rEq (u32s (unT ts (nmA ts a))) (i64s (unT ts (nmA ts a))) (unT ts (nmA ts a)).length (unT ts (nmA ts a)).length:=⟨_,rfl,rfl,rfl,rfl,by rw [hun];exact un_32 hf hl,fun y hy=>by rw [hun] at hy;exact lv_in ht (.inr (un_sub hf.fo _ hl y hy).1)⟩
   simp only [c0,k,hr,s1,s2,ex,hs,hw,w,hf,ht,ha',hb',hc',hx',q6]
 ·have c0:(d==0)=false:=beq_eq_false_iff_ne.2 d0
  by_cases d1:d=1
  ·have c1:(d==1)=true:=beq_iff_eq.2 d1
   have e1:acP ts d a b c q=cutT ts (nmA ts a):=by unfold acP;rw [if_neg d0,if_pos d1]
   have e2:acW ts ws d a b c q=cuW ts ws (nmA ts a):=by unfold acW;rw [if_neg d0,if_pos d1]
   rw [e1] at s1 ⊢
   rw [e2] at s2 ⊢
   simp only [c0,c1,s1,s2,ex,hs,hw,w,hf,ht,ha',hb',hc',hx',beq_self_eq_true,q6]
  ·have c1:(d==1)=false:=beq_eq_false_iff_ne.2 d1
   by_cases d2:d=2
   ·have c2:(d==2)=true:=beq_iff_eq.2 d2
    have e1:acP ts d a b c q=grT ts (nmA ts a) (nmA ts b):=by unfold acP;rw [if_neg d0,if_neg d1,if_pos d2]
    have e2:acW ts ws d a b c q=grW ts ws (nmA ts a) (nmA ts b):=by unfold acW;rw [if_neg d0,if_neg d1,if_pos d2]
    rw [e1] at s1 ⊢
    rw [e2] at s2 ⊢
    simp only [c0,c1,c2,s1,s2,ex,ey,hs,hw,w,hv,hf,ht,ha',hb',hc',hx',hy',beq_self_eq_true,q6]
   ·have c2:(d==2)=false:=beq_eq_false_iff_ne.2 d2
    by_cases d3:d=3
    ·have c3:(d==3)=true:=beq_iff_eq.2 d3
     have e1:acP ts d a b c q=if gdF ts (nmA ts a)=true then setT ts (nmA ts a) (lP (cP ts (nmA ts a) b (nmA ts c))) else ts:=by unfold acP;rw [if_neg d0,if_neg d1,if_neg d2,if_pos d3]
     have e2:acW ts ws d a b c q=if gdF ts (nmA ts a)=true then seW ts ws (nmA ts a) (lR (cR ts (nmA ts a) b (nmA ts c))) else ws:=by unfold acW;rw [if_neg d0,if_neg d1,if_neg d2,if_pos d3]
     have er:=rm8 hb
     have r0:0≤b % 8:=by omega
     have r1:b % 8<8:=by omega
     have r2:4+(b % 8).toNat<12:=by omega
     have z1:=(getA_facts ts (nmA ts a)).1
     have z2:(gwT ts (nmA ts a)).size=12:=by unfold gwT;split <;> rfl
     cases hg:gdF ts (nmA ts a) with
     | true =>
      rw [if_pos hg] at e1 e2
      rw [e1] at s1 ⊢
      rw [e2] at s2 ⊢
      obtain ⟨p1,p2,p3,p4,_,_⟩:=ce_f ht hg hx hb hz
      have x5:getX5 ts (nmA ts a)=0:=if_pos hg
      have x6:gwE ts (nmA ts a)=0:=if_pos hg
      simp only [c0,c1,c2,c3,s1,s2,ex,er,r0,r1,r2,z1,z2,x5,x6,p1,p2,p3,p4,hs,hw,w,hf,ht,ha',hb',hc',hx',Nat.mul_one,beq_self_eq_true,beqT,beqF,q6]
     | false =>
      rw [if_neg (by rw [hg];decide)] at e1 e2
      rw [e1,e2]
      have x5:getX5 ts (nmA ts a)=4:=if_neg (by rw [hg];decide)
      have x6:gwE ts (nmA ts a)=4:=if_neg (by rw [hg];decide)
      have x7:((4:Int)==0)=false:=rfl
      simp only [c0,c1,c2,c3,ex,er,r0,r1,r2,z1,z2,x5,x6,x7,hs,hw,w,hf,ht,ha',hb',hc',hx',Nat.mul_one,beq_self_eq_true,beqT,beqF,q6]
    ·have c3:(d==3)=false:=beq_eq_false_iff_ne.2 d3
     have e1:acP ts d a b c q=fnT ts (nmA ts a) q:=by unfold acP;rw [if_neg d0,if_neg d1,if_neg d2,if_neg d3]
     have e2:acW ts ws d a b c q=fnW ts ws (nmA ts a) q:=by unfold acW;rw [if_neg d0,if_neg d1,if_neg d2,if_neg d3]
     rw [e1] at s1 ⊢
     rw [e2] at s2 ⊢
     have e64:=wr64 (fnI_in ht (nmA ts a) q)
     simp only [c0,c1,c2,c3,s1,s2,ex,e64,hs,hw,w,hv,hf,ht,ha',hb',hc',hx',beq_self_eq_true,beqT,beqF,q6]
theorem ac_ok {R:Ren} {v:Value} {d a b c q:SI} (h:(SV.s (.agg (.ls [.f (.int .u8 d),.f (.int .u32 a),.f (.int .u32 b),.f (.int .u32 c),.f (.int .i64 q)]))).ok R v):(acV d.den a.den b.den c.den q.den).ok R v:=by
 obtain ⟨cs,rfl,hl⟩:=h
 refine ⟨cs,rfl,?_⟩
 have hl:All2 (SC.ok R) _ cs.toList:=hl
 show All2 (SC.ok R) _ cs.toList
 match hc:cs.toList,hl with
 | [v0,v1,v2,v3,v4],⟨h0,h1,h2,h3,h4,_⟩=>exact ⟨h0,h1,h2,h3,h4,trivial⟩
end
set_option linter.unusedVariables false
noncomputable def lsR (rr : Array Value) : Array Value := lsA (intAt rr 0) (intAt rr 1) (intAt rr 3) (intAt rr 4) (intAt rr 5) (intAt rr 6) (intAt rr 7) (intAt rr 8) (intAt rr 9) (intAt rr 10) (intAt rr 11)
theorem lsR_f (rr : Array Value) : lsA (intAt rr 0) (intAt rr 1) (intAt rr 3) (intAt rr 4) (intAt rr 5) (intAt rr 6) (intAt rr 7) (intAt rr 8) (intAt rr 9) (intAt rr 10) (intAt rr 11) = lsR rr := rfl
section
variable {ts : Array Value} {h : Int}
theorem up_in (hb : TbOk ts) (hg : gdF ts h = true) : inH (upF ts h) := by
 unfold upF
 rw [if_pos hg]
 split
 ·exact (rg_in hb hg).1
 ·exact ⟨by decide, by decide⟩
theorem ls_ok (hb : TbOk ts) (hg : gdF ts h = true) {c : Int} (hc : inH c) {k : Nat} (hk : k < 8) : RgOk (lsR ((getA ts h).setIfInBounds (4 + k) (.int .u32 c))) 0 ∧ (IsInt .u32 ((getA ts h).setIfInBounds (4 + k) (.int .u32 c)) 0 ∧ IsInt .i64 ((getA ts h).setIfInBounds (4 + k) (.int .u32 c)) 1 ∧ ((getA ts h).setIfInBounds (4 + k) (.int .u32 c))[2]? = some (.slice none 0 0) ∧ IsInt .i64 ((getA ts h).setIfInBounds (4 + k) (.int .u32 c)) 3 ∧ ∀ j, j < 8 → IsInt .u32 ((getA ts h).setIfInBounds (4 + k) (.int .u32 c)) (4 + j)) ∧ intAt ((getA ts h).setIfInBounds (4 + k) (.int .u32 c)) 1 = quF ts h ∧ ∀ j, j < 8 → intAt ((getA ts h).setIfInBounds (4 + k) (.int .u32 c)) (4 + j) = if j = k then c else ceF ts h j := by
 obtain ⟨i1, i2, i3⟩ := rg_in hb hg
 have ga : getA ts h = rgA (upF ts h) (quF ts h) 0 (ceF ts h) := by unfold getA; rw [if_pos hg]
 rw [ga]
 generalize hrr : (rgA (upF ts h) (quF ts h) 0 (ceF ts h)).setIfInBounds (4 + k) (.int .u32 c) = rr
 have q : ∀ j, j < 4 → rr[j]? = (rgA (upF ts h) (quF ts h) 0 (ceF ts h))[j]? := fun j hj => by rw [← hrr, set_out (by omega)]
 have r0 : rr[0]? = some (.int .u32 (upF ts h)) := q 0 (by decide)
 have r1 : rr[1]? = some (.int .i64 (quF ts h)) := q 1 (by decide)
 have r2 : rr[2]? = some (.slice none 0 0) := q 2 (by decide)
 have r3 : rr[3]? = some (.int .i64 0) := q 3 (by decide)
 have rc : ∀ j, j < 8 → rr[4 + j]? = some (.int .u32 (if j = k then c else ceF ts h j)) := fun j hj => by
  rw [← hrr]
  by_cases e : j = k
  ·rw [if_pos e, e, set_in (show 4 + k < 12 by omega)]
  ·rw [if_neg e, set_out (by omega)]
   match j, hj with
   | 0, _ | 1, _ | 2, _ | 3, _ | 4, _ | 5, _ | 6, _ | 7, _ => rfl
 have hin : ∀ j, j < 8 → inH (if j = k then c else ceF ts h j) := fun j hj => by
  split
  ·exact hc
  ·exact i3 j hj
 refine ⟨?_, ⟨isI_of r0, isI_of r1, r2, isI_of r3, fun j hj => isI_of (rc j hj)⟩, intAt_of r1, fun j hj => intAt_of (rc j hj)⟩
 have e : lsR rr = rgA (upF ts h) (quF ts h) 0 (fun j => if j = k then c else ceF ts h j) := by
  unfold lsR
  rw [intAt_of r0, intAt_of r1, intAt_of r3, intAt_of (rc 0 (by decide)), intAt_of (rc 1 (by decide)), intAt_of (rc 2 (by decide)), intAt_of (rc 3 (by decide)), intAt_of (rc 4 (by decide)), intAt_of (rc 5 (by decide)), intAt_of (rc 6 (by decide)), intAt_of (rc 7 (by decide))]
  rfl
 rw [e]
 exact (rg_new (us := rgA (upF ts h) (quF ts h) 0 (fun j => if j = k then c else ceF ts h j)) (p := 0) (fun j _ => by rw [Nat.zero_add]) (up_in hb hg) i2 hin).1
end
section
variable {L L' : List Int} {up up' : Int → Int}
end
section
variable {ts : Array Value} {h : Int}
def CN (ts : Array Value) : Prop := ∀ x, gdF ts x = true → ∀ k, k < 8 → ceF ts x k = 0 ∨ outF ts (ceF ts x k) x = true
structure FC (ts : Array Value) : Prop where
 v : FV ts
 c : CN ts
def refE (ts : Array Value) (r c to : Int) (firm : Bool) : Int := if gdF ts r = false ∨ (to ≠ 0 ∧ gdF ts to = false) then 4 else if 0 ≤ c ∧ c < 8 then (if to = 0 ∨ firm = true ∨ outF ts to r = true then 0 else 5) else 2
noncomputable def refR (ts : Array Value) (r c to : Int) : Array Value := lsR ((getA ts r).setIfInBounds (4 + c.toNat) (.int .u32 to))
noncomputable def refT (ts : Array Value) (r c to : Int) (firm : Bool) : Array Value := if refE ts r c to firm = 0 then setT ts r (refR ts r c to) else ts
def derE (ts : Array Value) (r c : Int) : Int := if gdF ts r = false then 4 else if 0 ≤ c ∧ c < 8 then (if ceF ts r c.toNat = 0 then 10 else if gdF ts (ceF ts r c.toNat) = true then 0 else 4) else 2
def derT (ts : Array Value) (r c : Int) : Int := if derE ts r c = 0 then ceF ts r c.toNat else 0
end
set_option linter.unusedVariables false
noncomputable def conT6 (g:FuncId) (l:List SV) (m:SMem):Option Tree:=match g,l with
 | 13,[.s (.agg (.op ts)),.s (.c (.f (.int .u32 h)))]=>some (.need [FIn ts,inH h.den] (fellC ts h.den m))
 | 16,[.s (.agg (.op ts)),.s (.c (.f (.int .u32 u))),.s (.c (.f (.int .i64 q)))]=>some (.need [FIn ts,inH u.den] (.ret (fnS (fnT ts u.den q.den) (fnI ts u.den q.den) (fnE ts u.den q.den)) m))
 | g,l=>conT5 g l m
noncomputable def ECe:Env:=⟨Tryd.prog,fnOf,conT6,haltAt []⟩
noncomputable def deS (o e:Int):SV:=.tup [.c (.f (.int .u32 (.o o))),.c (.f (.int .i64 (.o e)))]
set_option maxRecDepth 100000
noncomputable def rf0_0 (ts:Array Value) (r:Int) (c:Int) (to:Int):Array Value:=Array.setIfInBounds (getA ts r) (4+Int.toNat c*1) (Value.int .u32 to)
noncomputable def rf0_1 (ts:Array Value) (r:Int) (c:Int) (to:Int):Array Value:=setT ts r (lsA (intAt (rf0_0 ts r c to) 0) (intAt (rf0_0 ts r c to) 1) (intAt (rf0_0 ts r c to) 3) (intAt (rf0_0 ts r c to) 4) (intAt (rf0_0 ts r c to) 5) (intAt (rf0_0 ts r c to) 6) (intAt (rf0_0 ts r c to) 7) (intAt (rf0_0 ts r c to) 8) (intAt (rf0_0 ts r c to) 9) (intAt (rf0_0 ts r c to) 10) (intAt (rf0_0 ts r c to) 11))
noncomputable def rf0_2 (ts:Array Value) (r:Int) (c:Int) (to:Int) (firm:Bool) (o:Array Value) (e:Int):Prop:=((to==0)==false)=true→((firm==false)=true→(Array.size ts=448∧True)∧(FIn ts∧(0≤r∧r<4294967296)∧True)∧((!outF ts to r)=true→(Array.size ts=448∧True)∧(Array.size ts=448∧Array.size ts=448∧True)∧(Array.size ts=448∧True)∧o=ts∧e=5∧True)∧((!outF ts to r)=false→(Array.size ts=448∧True)∧(TbOk ts∧(0≤r∧r<4294967296)∧True)∧(Array.size (getA ts r)=12∧Array.size (getA ts r)=12∧True)∧((0≤c∧c<8)∧True)∧(4+Int.toNat c*1<Array.size (getA ts r)∧True)∧(Array.size ts=448∧True)∧(IsInt .u32 (rf0_0 ts r c to) 0∧IsInt .i64 (rf0_0 ts r c to) 1∧(rf0_0 ts r c to)[(2:Nat)]?=some (Value.slice none 0 0)∧IsInt .i64 (rf0_0 ts r c to) 3∧IsInt .u32 (rf0_0 ts r c to) 4∧IsInt .u32 (rf0_0 ts r c to) 5∧IsInt .u32 (rf0_0 ts r c to) 6∧IsInt .u32 (rf0_0 ts r c to) 7∧IsInt .u32 (rf0_0 ts r c to) 8∧IsInt .u32 (rf0_0 ts r c to) 9∧IsInt .u32 (rf0_0 ts r c to) 10∧IsInt .u32 (rf0_0 ts r c to) 11∧True)∧(TbOk ts∧(0≤r∧r<4294967296)∧RgOk (lsA (intAt (rf0_0 ts r c to) 0) (intAt (rf0_0 ts r c to) 1) (intAt (rf0_0 ts r c to) 3) (intAt (rf0_0 ts r c to) 4) (intAt (rf0_0 ts r c to) 5) (intAt (rf0_0 ts r c to) 6) (intAt (rf0_0 ts r c to) 7) (intAt (rf0_0 ts r c to) 8) (intAt (rf0_0 ts r c to) 9) (intAt (rf0_0 ts r c to) 10) (intAt (rf0_0 ts r c to) 11)) (0:Nat)∧True)∧(Array.size (rf0_1 ts r c to)=448∧Array.size (rf0_1 ts r c to)=448∧True)∧(Array.size (rf0_1 ts r c to)=448∧True)∧o=setT ts r (lsA (intAt (rf0_0 ts r c to) 0) (intAt (rf0_0 ts r c to) 1) (intAt (rf0_0 ts r c to) 3) (intAt (rf0_0 ts r c to) 4) (intAt (rf0_0 ts r c to) 5) (intAt (rf0_0 ts r c to) 6) (intAt (rf0_0 ts r c to) 7) (intAt (rf0_0 ts r c to) 8) (intAt (rf0_0 ts r c to) 9) (intAt (rf0_0 ts r c to) 10) (intAt (rf0_0 ts r c to) 11))∧e=getX5 ts r∧True))∧((firm==false)=false→(Array.size ts=448∧True)∧(TbOk ts∧(0≤r∧r<4294967296)∧True)∧(Array.size (getA ts r)=12∧Array.size (getA ts r)=12∧True)∧((0≤c∧c<8)∧True)∧(4+Int.toNat c*1<Array.size (getA ts r)∧True)∧(Array.size ts=448∧True)∧(IsInt .u32 (rf0_0 ts r c to) 0∧IsInt .i64 (rf0_0 ts r c to) 1∧(rf0_0 ts r c to)[(2:Nat)]?=some (Value.slice none 0 0)∧IsInt .i64 (rf0_0 ts r c to) 3∧IsInt .u32 (rf0_0 ts r c to) 4∧IsInt .u32 (rf0_0 ts r c to) 5∧IsInt .u32 (rf0_0 ts r c to) 6∧IsInt .u32 (rf0_0 ts r c to) 7∧IsInt .u32 (rf0_0 ts r c to) 8∧IsInt .u32 (rf0_0 ts r c to) 9∧IsInt .u32 (rf0_0 ts r c to) 10∧IsInt .u32 (rf0_0 ts r c to) 11∧True)∧(TbOk ts∧(0≤r∧r<4294967296)∧RgOk (lsA (intAt (rf0_0 ts r c to) 0) (intAt (rf0_0 ts r c to) 1) (intAt (rf0_0 ts r c to) 3) (intAt (rf0_0 ts r c to) 4) (intAt (rf0_0 ts r c to) 5) (intAt (rf0_0 ts r c to) 6) (intAt (rf0_0 ts r c to) 7) (intAt (rf0_0 ts r c to) 8) (intAt (rf0_0 ts r c to) 9) (intAt (rf0_0 ts r c to) 10) (intAt (rf0_0 ts r c to) 11)) (0:Nat)∧True)∧(Array.size (rf0_1 ts r c to)=448∧Array.size (rf0_1 ts r c to)=448∧True)∧(Array.size (rf0_1 ts r c to)=448∧True)∧o=setT ts r (lsA (intAt (rf0_0 ts r c to) 0) (intAt (rf0_0 ts r c to) 1) (intAt (rf0_0 ts r c to) 3) (intAt (rf0_0 ts r c to) 4) (intAt (rf0_0 ts r c to) 5) (intAt (rf0_0 ts r c to) 6) (intAt (rf0_0 ts r c to) 7) (intAt (rf0_0 ts r c to) 8) (intAt (rf0_0 ts r c to) 9) (intAt (rf0_0 ts r c to) 10) (intAt (rf0_0 ts r c to) 11))∧e=getX5 ts r∧True)
noncomputable def rf0_3 (ts:Array Value) (r:Int) (c:Int) (to:Int) (firm:Bool) (o:Array Value) (e:Int):Prop:=(decide (c≥0)==true)=true→((!decide (c<8))=true→(Array.size ts=448∧True)∧(Array.size ts=448∧Array.size ts=448∧True)∧(Array.size ts=448∧True)∧o=ts∧e=2∧True)∧((!decide (c<8))=false→(rf0_2 ts r c to firm o e)∧(((to==0)==false)=false→(Array.size ts=448∧True)∧(TbOk ts∧(0≤r∧r<4294967296)∧True)∧(Array.size (getA ts r)=12∧Array.size (getA ts r)=12∧True)∧((0≤c∧c<8)∧True)∧(4+Int.toNat c*1<Array.size (getA ts r)∧True)∧(Array.size ts=448∧True)∧(IsInt .u32 (rf0_0 ts r c to) 0∧IsInt .i64 (rf0_0 ts r c to) 1∧(rf0_0 ts r c to)[(2:Nat)]?=some (Value.slice none 0 0)∧IsInt .i64 (rf0_0 ts r c to) 3∧IsInt .u32 (rf0_0 ts r c to) 4∧IsInt .u32 (rf0_0 ts r c to) 5∧IsInt .u32 (rf0_0 ts r c to) 6∧IsInt .u32 (rf0_0 ts r c to) 7∧IsInt .u32 (rf0_0 ts r c to) 8∧IsInt .u32 (rf0_0 ts r c to) 9∧IsInt .u32 (rf0_0 ts r c to) 10∧IsInt .u32 (rf0_0 ts r c to) 11∧True)∧(TbOk ts∧(0≤r∧r<4294967296)∧RgOk (lsA (intAt (rf0_0 ts r c to) 0) (intAt (rf0_0 ts r c to) 1) (intAt (rf0_0 ts r c to) 3) (intAt (rf0_0 ts r c to) 4) (intAt (rf0_0 ts r c to) 5) (intAt (rf0_0 ts r c to) 6) (intAt (rf0_0 ts r c to) 7) (intAt (rf0_0 ts r c to) 8) (intAt (rf0_0 ts r c to) 9) (intAt (rf0_0 ts r c to) 10) (intAt (rf0_0 ts r c to) 11)) (0:Nat)∧True)∧(Array.size (rf0_1 ts r c to)=448∧Array.size (rf0_1 ts r c to)=448∧True)∧(Array.size (rf0_1 ts r c to)=448∧True)∧o=setT ts r (lsA (intAt (rf0_0 ts r c to) 0) (intAt (rf0_0 ts r c to) 1) (intAt (rf0_0 ts r c to) 3) (intAt (rf0_0 ts r c to) 4) (intAt (rf0_0 ts r c to) 5) (intAt (rf0_0 ts r c to) 6) (intAt (rf0_0 ts r c to) 7) (intAt (rf0_0 ts r c to) 8) (intAt (rf0_0 ts r c to) 9) (intAt (rf0_0 ts r c to) 10) (intAt (rf0_0 ts r c to) 11))∧e=getX5 ts r∧True))
theorem rf0 (ts:Array Value) (r c to:Int) (firm:Bool) (o:Array Value) (e:Int):(run ECe 1000 0 [callFr 7 Tryd.f7.ntmps [tbS ts,u32 r,i64 (.o c),u32 to,sB (.o firm)] (Tryd.f7.body.getD .skip)] e0M).vc (retOk 0 [] (rgS o e) e0M) (fun _ _=>False) =
  ((64≤Array.size ts∧True)∧(BkOk (Array.extract ts 0 64)∧(0≤r∧r<4294967296)∧True)∧((goodB (Array.extract ts 0 64) r==true)=true→(((to==0)==false)=true→(64≤Array.size ts∧True)∧(BkOk (Array.extract ts 0 64)∧(0≤to∧to<4294967296)∧True)∧((!goodB (Array.extract ts 0 64) to)=true→(Array.size ts=448∧True)∧(Array.size ts=448∧Array.size ts=448∧True)∧(Array.size ts=448∧True)∧o=ts∧e=4∧True)∧((!goodB (Array.extract ts 0 64) to)=false→(rf0_3 ts r c to firm o e)∧((decide (c≥0)==true)=false→(Array.size ts=448∧True)∧(Array.size ts=448∧Array.size ts=448∧True)∧(Array.size ts=448∧True)∧o=ts∧e=2∧True)))∧(((to==0)==false)=false→(rf0_3 ts r c to firm o e)∧((decide (c≥0)==true)=false→(Array.size ts=448∧True)∧(Array.size ts=448∧Array.size ts=448∧True)∧(Array.size ts=448∧True)∧o=ts∧e=2∧True)))∧((goodB (Array.extract ts 0 64) r==true)=false→(Array.size ts=448∧True)∧(Array.size ts=448∧Array.size ts=448∧True)∧(Array.size ts=448∧True)∧o=ts∧e=4∧True)):=by kernel_rfl
theorem de0 (ts:Array Value) (r c:Int) (o e:Int):(run ECe 1000 0 [callFr 11 Tryd.f11.ntmps [tbS ts,u32 r,i64 (.o c)] (Tryd.f11.body.getD .skip)] e0M).vc (retOk 0 [] (deS o e) e0M) (fun _ _=>False) =
  ((Array.size ts=448∧True)∧(TbOk ts∧(0≤r∧r<4294967296)∧True)∧(Array.size (getA ts r)=12∧Array.size (getA ts r)=12∧True)∧((!getX5 ts r==0)=true→o=0∧e=getX5 ts r∧True)∧((!getX5 ts r==0)=false→((decide (c≥0)==true)=true→((!decide (c<8))=true→o=0∧e=2∧True)∧((!decide (c<8))=false→((0≤c∧c<8)∧True)∧(IsInt .u32 (getA ts r) (4+Int.toNat c*1)∧True)∧((!intAt (getA ts r) (4+Int.toNat c*1) != 0)=true→o=0∧e=10∧True)∧((!intAt (getA ts r) (4+Int.toNat c*1) != 0)=false→(64≤Array.size ts∧True)∧(BkOk (Array.extract ts 0 64)∧(0≤intAt (getA ts r) (4+Int.toNat c*1)∧intAt (getA ts r) (4+Int.toNat c*1)<4294967296)∧True)∧((!goodB (Array.extract ts 0 64) (intAt (getA ts r) (4+Int.toNat c*1)))=true→o=0∧e=4∧True)∧((!goodB (Array.extract ts 0 64) (intAt (getA ts r) (4+Int.toNat c*1)))=false→o=intAt (getA ts r) (4+Int.toNat c*1)∧e=0∧True))))∧((decide (c≥0)==true)=false→o=0∧e=2∧True))):=by kernel_rfl
set_option linter.unusedVariables false
theorem conT6_ok:∀ g l m t,conT6 g l m=some t→Con E0 g l m t:=by
 intro g l m t h
 unfold conT6 at h
 split at h
 ·rename_i ts x;cases h
  exact Con.n1 (fell_con x.den m)
 ·rename_i ts u q;cases h
  exact Con.n2 (fnew_con u.den q.den m)
 ·exact conT5_ok _ _ _ _ h
theorem ECe_ok:EnvOk ECe:=EnvOk.with E0_ok _ _ conT6_ok
section
variable {ts:Array Value}
theorem ref_con (r c to:Int) (firm:Bool) (m:SMem):Con E0 7 [tbS ts,u32 r,i64 (.o c),u32 to,sB (.o firm)] m (needs [FIn ts,inH r,inH to] (.ret (rgS (refT ts r c to firm) (refE ts r c to firm)) m)):=by
 refine Con.pure E0_ok (by kernel_rfl:E0.fn 7=some Tryd.f7) (by kernel_rfl:Tryd.f7.body=some (Tryd.f7.body.getD .skip)) (by kernel_rfl) (by kernel_rfl) fun hq=>?_
 have hf:FIn ts:=hq _ (by simp)
 have hr:inH r:=hq _ (by simp)
 have hto:inH to:=hq _ (by simp)
 have hb:=hf.ok
 have hs:=hb.sz
 have hr':0≤r∧r<4294967296:=hr
 have ht':0≤to∧to<4294967296:=hto
 have h64:(64:Nat)≤448:=by decide
 have hbk:BkOk (bkB ts):=hb.bk
 refine (Good.ret [] (run_vc ECe_ok 1000 (rf0 ts r c to firm (refT ts r c to firm) (refE ts r c to firm)) ?_ (fun s m h=>h) fun _ _ h=>h.elim)).mono fun _ _ h=>h.1
 unfold rf0_3 rf0_2 rf0_1 rf0_0
 cases hg:gdF ts r with
 | false =>
  have hg':goodB (bkB ts) r=false:=hg
  have ee:refE ts r c to firm=4:=by unfold refE;rw [if_pos (.inl hg)]
  have eo:refT ts r c to firm=ts:=by unfold refT;rw [if_neg (by rw [ee];decide)]
  simp only [hg',ee,eo,bk_f,hs,hb,hf,hr',ht',hbk,h64,q8,q6]
 | true =>
  have hg':goodB (bkB ts) r=true:=hg
  by_cases hz:to=0
  ·have tz:(to==0)=true:=beq_iff_eq.2 hz
   have n1:¬ (gdF ts r=false∨(to≠0∧gdF ts to=false)):=by
    rintro (k | k)
    ·rw [hg] at k;cases k
    ·exact k.1 hz
   by_cases c1:0≤c
   rotate_left
   ·have d1:decide (c≥0)=false:=decide_eq_false (by omega)
    have ee:refE ts r c to firm=2:=by unfold refE;rw [if_neg n1,if_neg (by omega)]
    have eo:refT ts r c to firm=ts:=by unfold refT;rw [if_neg (by rw [ee];decide)]
    simp only [hg',tz,d1,ee,eo,bk_f,hs,hb,hf,hr',ht',hbk,h64,q8,q6]
   have d1:decide (c≥0)=true:=decide_eq_true (by omega)
   by_cases c2:c<8
   rotate_left
   ·have d2:decide (c<8)=false:=decide_eq_false (by omega)
    have ee:refE ts r c to firm=2:=by unfold refE;rw [if_neg n1,if_neg (by omega)]
    have eo:refT ts r c to firm=ts:=by unfold refT;rw [if_neg (by rw [ee];decide)]
    simp only [hg',tz,d1,d2,ee,eo,bk_f,hs,hb,hf,hr',ht',hbk,h64,q8,q6]
   have d2:decide (c<8)=true:=decide_eq_true (by omega)
   have ee:refE ts r c to firm=0:=by unfold refE;rw [if_neg n1,if_pos ⟨c1,c2⟩,if_pos (.inl hz)]
   have eo:refT ts r c to firm=setT ts r (refR ts r c to):=by unfold refT;rw [if_pos ee]
   have hk:c.toNat<8:=by omega
   have y0:0≤c:=by omega
   have y1:c<8:=by omega
   have y2:4+c.toNat<12:=by omega
   have g12:=(getA_facts ts r).1
   obtain ⟨l1,⟨l2,l3,l4,l5,l6⟩,_⟩:=ls_ok hb hg hto hk
   have hs2:=(set_f hb hg l1).1.sz
   have m0:=l6 0 (by decide)
   have m1:=l6 1 (by decide)
   have m2:=l6 2 (by decide)
   have m3:=l6 3 (by decide)
   have m4:=l6 4 (by decide)
   have m5:=l6 5 (by decide)
   have m6:=l6 6 (by decide)
   have m7:=l6 7 (by decide)
   have e5:getX5 ts r=0:=by unfold getX5;rw [if_pos hg]
   have eR:refR ts r c to=lsR ((getA ts r).setIfInBounds (4+c.toNat) (.int .u32 to)):=rfl
   rw [eR] at eo
   simp only [Nat.mul_one,hg',tz,d1,d2,e5,y0,y1,y2,g12,eo,ee]
   generalize (getA ts r).setIfInBounds (4+c.toNat) (.int .u32 to)=rr at *
   simp only [lsR_f,l1,l2,l3,l4,l5,m0,m1,m2,m3,m4,m5,m6,m7,hs2,hg',tz,d1,d2,decide_true,bk_f,hs,hb,hf,hr',ht',hbk,h64,q8,q6]
  ·have tz:(to==0)=false:=beq_eq_false_iff_ne.2 hz
   cases hgt:gdF ts to with
   | false =>
    have hgt':goodB (bkB ts) to=false:=hgt
    have ee:refE ts r c to firm=4:=by unfold refE;rw [if_pos (.inr ⟨hz,hgt⟩)]
    have eo:refT ts r c to firm=ts:=by unfold refT;rw [if_neg (by rw [ee];decide)]
    simp only [hg',tz,hgt',ee,eo,bk_f,hs,hb,hf,hr',ht',hbk,h64,q8,q6]
   | true =>
    have hgt':goodB (bkB ts) to=true:=hgt
    have n1:¬ (gdF ts r=false∨(to≠0∧gdF ts to=false)):=by
     rintro (k | k)
     ·rw [hg] at k;cases k
     ·rw [hgt] at k;cases k.2
    by_cases c1:0≤c
    rotate_left
    ·have d1:decide (c≥0)=false:=decide_eq_false (by omega)
     have ee:refE ts r c to firm=2:=by unfold refE;rw [if_neg n1,if_neg (by omega)]
     have eo:refT ts r c to firm=ts:=by unfold refT;rw [if_neg (by rw [ee];decide)]
     simp only [hg',tz,hgt',d1,ee,eo,bk_f,hs,hb,hf,hr',ht',hbk,h64,q8,q6]
    have d1:decide (c≥0)=true:=decide_eq_true (by omega)
    by_cases c2:c<8
    rotate_left
    ·have d2:decide (c<8)=false:=decide_eq_false (by omega)
     have ee:refE ts r c to firm=2:=by unfold refE;rw [if_neg n1,if_neg (by omega)]
     have eo:refT ts r c to firm=ts:=by unfold refT;rw [if_neg (by rw [ee];decide)]
     simp only [hg',tz,hgt',d1,d2,ee,eo,bk_f,hs,hb,hf,hr',ht',hbk,h64,q8,q6]
    have d2:decide (c<8)=true:=decide_eq_true (by omega)
    cases firm with
    | true =>
     have ee:refE ts r c to true=0:=by unfold refE;rw [if_neg n1,if_pos ⟨c1,c2⟩,if_pos (.inr (.inl rfl))]
     have eo:refT ts r c to true=setT ts r (refR ts r c to):=by unfold refT;rw [if_pos ee]
     have hk:c.toNat<8:=by omega
     have y0:0≤c:=by omega
     have y1:c<8:=by omega
     have y2:4+c.toNat<12:=by omega
     have g12:=(getA_facts ts r).1
     obtain ⟨l1,⟨l2,l3,l4,l5,l6⟩,_⟩:=ls_ok hb hg hto hk
     have hs2:=(set_f hb hg l1).1.sz
     have m0:=l6 0 (by decide)
     have m1:=l6 1 (by decide)
     have m2:=l6 2 (by decide)
     have m3:=l6 3 (by decide)
     have m4:=l6 4 (by decide)
     have m5:=l6 5 (by decide)
     have m6:=l6 6 (by decide)
     have m7:=l6 7 (by decide)
     have e5:getX5 ts r=0:=by unfold getX5;rw [if_pos hg]
     have eR:refR ts r c to=lsR ((getA ts r).setIfInBounds (4+c.toNat) (.int .u32 to)):=rfl
     rw [eR] at eo
     simp only [Nat.mul_one,hg',tz,hgt',d1,d2,e5,y0,y1,y2,g12,eo,ee]
     generalize (getA ts r).setIfInBounds (4+c.toNat) (.int .u32 to)=rr at *
     simp only [lsR_f,l1,l2,l3,l4,l5,m0,m1,m2,m3,m4,m5,m6,m7,hs2,hg',tz,hgt',d1,d2,decide_true,bk_f,hs,hb,hf,hr',ht',hbk,h64,q8,q6]
    | false =>
     cases ho:outF ts to r with
     | false =>
      have n2:¬ (to=0∨false=true∨outF ts to r=true):=by
       rintro (k | k | k)
       ·exact hz k
       ·cases k
       ·rw [ho] at k;cases k
      have ee:refE ts r c to false=5:=by unfold refE;rw [if_neg n1,if_pos ⟨c1,c2⟩,if_neg n2]
      have eo:refT ts r c to false=ts:=by unfold refT;rw [if_neg (by rw [ee];decide)]
      simp only [hg',tz,hgt',d1,d2,ho,ee,eo,bk_f,hs,hb,hf,hr',ht',hbk,h64,q8,q6]
     | true =>
      have ee:refE ts r c to false=0:=by unfold refE;rw [if_neg n1,if_pos ⟨c1,c2⟩,if_pos (.inr (.inr ho))]
      have eo:refT ts r c to false=setT ts r (refR ts r c to):=by unfold refT;rw [if_pos ee]
      have hk:c.toNat<8:=by omega
      have y0:0≤c:=by omega
      have y1:c<8:=by omega
      have y2:4+c.toNat<12:=by omega
      have g12:=(getA_facts ts r).1
      obtain ⟨l1,⟨l2,l3,l4,l5,l6⟩,_⟩:=ls_ok hb hg hto hk
      have hs2:=(set_f hb hg l1).1.sz
      have m0:=l6 0 (by decide)
      have m1:=l6 1 (by decide)
      have m2:=l6 2 (by decide)
      have m3:=l6 3 (by decide)
      have m4:=l6 4 (by decide)
      have m5:=l6 5 (by decide)
      have m6:=l6 6 (by decide)
      have m7:=l6 7 (by decide)
      have e5:getX5 ts r=0:=by unfold getX5;rw [if_pos hg]
      have eR:refR ts r c to=lsR ((getA ts r).setIfInBounds (4+c.toNat) (.int .u32 to)):=rfl
      rw [eR] at eo
      simp only [Nat.mul_one,hg',tz,hgt',d1,d2,ho,e5,y0,y1,y2,g12,eo,ee]
      generalize (getA ts r).setIfInBounds (4+c.toNat) (.int .u32 to)=rr at *
      simp only [lsR_f,l1,l2,l3,l4,l5,m0,m1,m2,m3,m4,m5,m6,m7,hs2,hg',tz,hgt',d1,d2,ho,decide_true,bk_f,hs,hb,hf,hr',ht',hbk,h64,q8,q6]
theorem der_con (r c:Int) (m:SMem):Con E0 11 [tbS ts,u32 r,i64 (.o c)] m (needs [TbOk ts,inH r] (.ret (deS (derT ts r c) (derE ts r c)) m)):=by
 refine Con.pure E0_ok (by kernel_rfl:E0.fn 11=some Tryd.f11) (by kernel_rfl:Tryd.f11.body=some (Tryd.f11.body.getD .skip)) (by kernel_rfl) (by kernel_rfl) fun hq=>?_
 have hb:TbOk ts:=hq _ (by simp)
 have hr:inH r:=hq _ (by simp)
 have hs:=hb.sz
 have hr':0≤r∧r<4294967296:=hr
 have h64:(64:Nat)≤448:=by decide
 have hbk:BkOk (bkB ts):=hb.bk
 have g12:=(getA_facts ts r).1
 refine (Good.ret [] (run_vc ECe_ok 1000 (de0 ts r c (derT ts r c) (derE ts r c)) ?_ (fun s m h=>h) fun _ _ h=>h.elim)).mono fun _ _ h=>h.1
 have ne:∀ E:Int,derE ts r c=E→E≠0→derT ts r c=0:=fun E e hE=>by unfold derT;rw [if_neg (by rw [e];exact hE)]
 cases hg:gdF ts r with
 | false =>
  have e5:getX5 ts r=4:=by unfold getX5;rw [hg];rfl
  have ee:derE ts r c=4:=by unfold derE;rw [if_pos hg]
  have eo:=ne 4 ee (by decide)
  have d:((4:Int)==0)=false:=rfl
  simp only [e5,ee,eo,d,g12,hs,hb,hr',Bool.not_true,Bool.not_false,q6]
 | true =>
  have e5:getX5 ts r=0:=by unfold getX5;rw [if_pos hg]
  have d:((0:Int)==0)=true:=rfl
  have hn:¬ gdF ts r=false:=by rw [hg];simp
  by_cases c1:0≤c
  rotate_left
  ·have d1:decide (c≥0)=false:=decide_eq_false (by omega)
   have ee:derE ts r c=2:=by unfold derE;rw [if_neg hn,if_neg (by omega)]
   have eo:=ne 2 ee (by decide)
   simp only [e5,ee,eo,d,d1,g12,hs,hb,hr',q8,q6]
  have d1:decide (c≥0)=true:=decide_eq_true (by omega)
  by_cases c2:c<8
  rotate_left
  ·have d2:decide (c<8)=false:=decide_eq_false (by omega)
   have ee:derE ts r c=2:=by unfold derE;rw [if_neg hn,if_neg (by omega)]
   have eo:=ne 2 ee (by decide)
   simp only [e5,ee,eo,d,d1,d2,g12,hs,hb,hr',q8,q6]
  have d2:decide (c<8)=true:=decide_eq_true (by omega)
  have hk:c.toNat<8:=by omega
  have ga:getA ts r=rgA (upF ts r) (quF ts r) 0 (ceF ts r):=by unfold getA;rw [if_pos hg]
  have cc:(getA ts r)[4+c.toNat]?=some (.int .u32 (ceF ts r c.toNat)):=by
   rw [ga]
   generalize c.toNat=j at hk
   match j,hk with
   | 0,_ | 1,_ | 2,_ | 3,_ | 4,_ | 5,_ | 6,_ | 7,_=>rfl
  have g1:IsInt .u32 (getA ts r) (4+c.toNat):=isI_of cc
  have g2:intAt (getA ts r) (4+c.toNat)=ceF ts r c.toNat:=intAt_of cc
  have hin:0≤ceF ts r c.toNat∧ceF ts r c.toNat<4294967296:=(rg_in hb hg).2.2 _ hk
  have eE:derE ts r c=if ceF ts r c.toNat=0 then 10 else if gdF ts (ceF ts r c.toNat)=true then 0 else 4:=by unfold derE;rw [if_neg hn,if_pos ⟨c1,c2⟩]
  by_cases hz:ceF ts r c.toNat=0
  ·have dz:(ceF ts r c.toNat != 0)=false:=by rw [hz];rfl
   have ee:derE ts r c=10:=by rw [eE,if_pos hz]
   have eo:=ne 10 ee (by decide)
   simp only [Nat.mul_one,e5,ee,eo,d,d1,d2,g1,g2,dz,c1,c2,g12,decide_true,hs,hb,hr',q8,q6]
  ·have dz:(ceF ts r c.toNat != 0)=true:=bne_iff_ne.2 hz
   cases hgt:gdF ts (ceF ts r c.toNat) with
   | false =>
    have hgt':goodB (bkB ts) (ceF ts r c.toNat)=false:=hgt
    have ee:derE ts r c=4:=by rw [eE,if_neg hz,if_neg (by rw [hgt];simp)]
    have eo:=ne 4 ee (by decide)
    simp only [bk_f,Nat.mul_one,e5,ee,eo,d,d1,d2,g1,g2,dz,hgt',hin,c1,c2,g12,decide_true,hs,hb,hbk,h64,hr',q8,q6]
   | true =>
    have hgt':goodB (bkB ts) (ceF ts r c.toNat)=true:=hgt
    have ee:derE ts r c=0:=by rw [eE,if_neg hz,if_pos hgt]
    have eo:derT ts r c=ceF ts r c.toNat:=by unfold derT;rw [if_pos ee]
    simp only [bk_f,Nat.mul_one,e5,ee,eo,d,d1,d2,g1,g2,dz,hgt',hin,c1,c2,g12,decide_true,hs,hb,hbk,h64,hr',q8,q6]
end
set_option linter.unusedVariables false
noncomputable def EJr (ts:Array Value):Env:=⟨Tryd.prog,fnOf,conJ5 ts,haltAt []⟩
noncomputable def rdQ (o e:Int):SV:=.tup [.c (.f (.int .i64 (.o o))),.c (.f (.int .i64 (.o e)))]
noncomputable def rfW (ts ws:Array Value) (r c to:Int) (firm:Bool):Array Value:=if refE ts r c to firm=0 then ws.setIfInBounds (64+sl r*12+4+c.toNat) (.int .i64 to) else ws
set_option maxRecDepth 100000
noncomputable def rrf0_0 (ts:Array Value) (ws:Array Value) (r:Int) (c:Int) (to:Int) (firm:Bool) (o:Array Value) (e:Int):Prop:=(decide (c<0)==false)=true→(decide (c>7)=true→(Array.size ws=448∧True)∧(Array.size ws=448∧Array.size ws=448∧True)∧(Array.size ws=448∧True)∧o=ws∧e=2∧True)∧(decide (c>7)=false→(((to != 0)==true)=true→(((!firm)==true)=true→(Array.size ws=448∧True)∧(SW ts ws∧FIn ts∧True)∧((!outF ts to r)=true→(Array.size ws=448∧True)∧(Array.size ws=448∧Array.size ws=448∧True)∧(Array.size ws=448∧True)∧o=ws∧e=5∧True)∧((!outF ts to r)=false→(0+64≤Array.size ws∧True)∧(WB (Array.extract ws 0 (0+64))∧True)∧((0≤slW (Array.extract ws 0 (0+64)) r∧slW (Array.extract ws 0 (0+64)) r<32)∧True)∧((0≤c∧c<8)∧True)∧(64+Int.toNat (slW (Array.extract ws 0 (0+64)) r)*12+4+Int.toNat c*1<Array.size ws∧True)∧(Array.size (Array.setIfInBounds ws (64+Int.toNat (slW (Array.extract ws 0 (0+64)) r)*12+4+Int.toNat c*1) (Value.int .i64 to))=448∧True)∧(Array.size (Array.setIfInBounds ws (64+Int.toNat (slW (Array.extract ws 0 (0+64)) r)*12+4+Int.toNat c*1) (Value.int .i64 to))=448∧Array.size (Array.setIfInBounds ws (64+Int.toNat (slW (Array.extract ws 0 (0+64)) r)*12+4+Int.toNat c*1) (Value.int .i64 to))=448∧True)∧(Array.size (Array.setIfInBounds ws (64+Int.toNat (slW (Array.extract ws 0 (0+64)) r)*12+4+Int.toNat c*1) (Value.int .i64 to))=448∧True)∧o=Array.setIfInBounds ws (64+Int.toNat (slW (Array.extract ws 0 (0+64)) r)*12+4+Int.toNat c*1) (Value.int .i64 to)∧e=0∧True))∧(((!firm)==true)=false→(0+64≤Array.size ws∧True)∧(WB (Array.extract ws 0 (0+64))∧True)∧((0≤slW (Array.extract ws 0 (0+64)) r∧slW (Array.extract ws 0 (0+64)) r<32)∧True)∧((0≤c∧c<8)∧True)∧(64+Int.toNat (slW (Array.extract ws 0 (0+64)) r)*12+4+Int.toNat c*1<Array.size ws∧True)∧(Array.size (Array.setIfInBounds ws (64+Int.toNat (slW (Array.extract ws 0 (0+64)) r)*12+4+Int.toNat c*1) (Value.int .i64 to))=448∧True)∧(Array.size (Array.setIfInBounds ws (64+Int.toNat (slW (Array.extract ws 0 (0+64)) r)*12+4+Int.toNat c*1) (Value.int .i64 to))=448∧Array.size (Array.setIfInBounds ws (64+Int.toNat (slW (Array.extract ws 0 (0+64)) r)*12+4+Int.toNat c*1) (Value.int .i64 to))=448∧True)∧(Array.size (Array.setIfInBounds ws (64+Int.toNat (slW (Array.extract ws 0 (0+64)) r)*12+4+Int.toNat c*1) (Value.int .i64 to))=448∧True)∧o=Array.setIfInBounds ws (64+Int.toNat (slW (Array.extract ws 0 (0+64)) r)*12+4+Int.toNat c*1) (Value.int .i64 to)∧e=0∧True))∧(((to != 0)==true)=false→(0+64≤Array.size ws∧True)∧(WB (Array.extract ws 0 (0+64))∧True)∧((0≤slW (Array.extract ws 0 (0+64)) r∧slW (Array.extract ws 0 (0+64)) r<32)∧True)∧((0≤c∧c<8)∧True)∧(64+Int.toNat (slW (Array.extract ws 0 (0+64)) r)*12+4+Int.toNat c*1<Array.size ws∧True)∧(Array.size (Array.setIfInBounds ws (64+Int.toNat (slW (Array.extract ws 0 (0+64)) r)*12+4+Int.toNat c*1) (Value.int .i64 to))=448∧True)∧(Array.size (Array.setIfInBounds ws (64+Int.toNat (slW (Array.extract ws 0 (0+64)) r)*12+4+Int.toNat c*1) (Value.int .i64 to))=448∧Array.size (Array.setIfInBounds ws (64+Int.toNat (slW (Array.extract ws 0 (0+64)) r)*12+4+Int.toNat c*1) (Value.int .i64 to))=448∧True)∧(Array.size (Array.setIfInBounds ws (64+Int.toNat (slW (Array.extract ws 0 (0+64)) r)*12+4+Int.toNat c*1) (Value.int .i64 to))=448∧True)∧o=Array.setIfInBounds ws (64+Int.toNat (slW (Array.extract ws 0 (0+64)) r)*12+4+Int.toNat c*1) (Value.int .i64 to)∧e=0∧True))
theorem rrf0 (ts ws:Array Value) (r c to:Int) (firm:Bool) (o:Array Value) (e:Int):(run (EJr ts) 1000 0 [callFr 8 Tryd.f8.ntmps [wtS ws,i64 (.o r),i64 (.o c),i64 (.o to),sB (.o firm)] (Tryd.f8.body.getD .skip)] e0M).vc (weA o e) (fun _ _=>False) =
  ((Array.size ws=448∧True)∧(SW ts ws∧TbOk ts∧True)∧(((!gdF ts r)==false)=true→(((to != 0)==true)=true→(Array.size ws=448∧True)∧(SW ts ws∧TbOk ts∧True)∧((!gdF ts to)=true→(Array.size ws=448∧True)∧(Array.size ws=448∧Array.size ws=448∧True)∧(Array.size ws=448∧True)∧o=ws∧e=4∧True)∧((!gdF ts to)=false→(rrf0_0 ts ws r c to firm o e)∧((decide (c<0)==false)=false→(Array.size ws=448∧True)∧(Array.size ws=448∧Array.size ws=448∧True)∧(Array.size ws=448∧True)∧o=ws∧e=2∧True)))∧(((to != 0)==true)=false→(rrf0_0 ts ws r c to firm o e)∧((decide (c<0)==false)=false→(Array.size ws=448∧True)∧(Array.size ws=448∧Array.size ws=448∧True)∧(Array.size ws=448∧True)∧o=ws∧e=2∧True)))∧(((!gdF ts r)==false)=false→(Array.size ws=448∧True)∧(Array.size ws=448∧Array.size ws=448∧True)∧(Array.size ws=448∧True)∧o=ws∧e=4∧True)):=by kernel_rfl
theorem rde0 (ts ws:Array Value) (r c:Int) (o e:Int):(run (EJr ts) 1000 0 [callFr 12 Tryd.f12.ntmps [wtS ws,i64 (.o r),i64 (.o c)] (Tryd.f12.body.getD .skip)] e0M).vc (retOk 0 [] (rdQ o e) e0M) (fun _ _=>False) =
  ((Array.size ws=448∧True)∧(SW ts ws∧TbOk ts∧True)∧((!gdF ts r)=true→o=0∧e=4∧True)∧((!gdF ts r)=false→((decide (c<0)==false)=true→(decide (c>7)=true→o=0∧e=2∧True)∧(decide (c>7)=false→(0+64≤Array.size ws∧True)∧(WB (Array.extract ws 0 (0+64))∧True)∧((0≤slW (Array.extract ws 0 (0+64)) r∧slW (Array.extract ws 0 (0+64)) r<32)∧True)∧((0≤c∧c<8)∧True)∧(IsInt .i64 ws (64+Int.toNat (slW (Array.extract ws 0 (0+64)) r)*12+4+Int.toNat c*1)∧True)∧((intAt ws (64+Int.toNat (slW (Array.extract ws 0 (0+64)) r)*12+4+Int.toNat c*1)==0)=true→o=0∧e=10∧True)∧((intAt ws (64+Int.toNat (slW (Array.extract ws 0 (0+64)) r)*12+4+Int.toNat c*1)==0)=false→(Array.size ws=448∧True)∧(SW ts ws∧TbOk ts∧True)∧((!gdF ts (intAt ws (64+Int.toNat (slW (Array.extract ws 0 (0+64)) r)*12+4+Int.toNat c*1)))=true→o=0∧e=4∧True)∧((!gdF ts (intAt ws (64+Int.toNat (slW (Array.extract ws 0 (0+64)) r)*12+4+Int.toNat c*1)))=false→o=intAt ws (64+Int.toNat (slW (Array.extract ws 0 (0+64)) r)*12+4+Int.toNat c*1)∧e=0∧True))))∧((decide (c<0)==false)=false→o=0∧e=2∧True))):=by kernel_rfl
theorem nm7 (ws:Array Value) (n:Int) (o:Int):(run ENm 1000 0 [callFr 6 Tryd.f6.ntmps [wtS ws,.s (.c (.f (.int .u32 (.o n))))] (Tryd.f6.body.getD .skip)] e0M).vc (retOk 0 [] (i64 (.o o)) e0M) (fun _ _=>False) =
  (((decide (n≥1)==true)=true→((decide (n≤32)==true)=true→((0≤ari .sub .u32 n 1∧ari .sub .u32 n 1<32)∧True)∧(IsInt .i64 ws (32+Int.toNat (ari .sub .u32 n 1)*1)∧True)∧((intAt ws (32+Int.toNat (ari .sub .u32 n 1)*1)==1)=true→(64≤Array.size ws∧True)∧(WB (Array.extract ws 0 64)∧(0≤IntKind.wrap .i64 (ari .sub .u32 n 1)∧IntKind.wrap .i64 (ari .sub .u32 n 1)<32)∧True)∧o=nameI (Int.toNat (IntKind.wrap .i64 (ari .sub .u32 n 1))) (gnW (Array.extract ws 0 64) (Int.toNat (IntKind.wrap .i64 (ari .sub .u32 n 1))))∧True)∧((intAt ws (32+Int.toNat (ari .sub .u32 n 1)*1)==1)=false→o=IntKind.wrap .i64 n∧True))∧((decide (n≤32)==true)=false→o=IntKind.wrap .i64 n∧True))∧((decide (n≥1)==true)=false→o=IntKind.wrap .i64 n∧True)):=by kernel_rfl
set_option linter.unusedVariables false
theorem EJr_ok (ts:Array Value):EnvOk (EJr ts):=EnvOk.with E0_ok _ _ (conJ5_ok ts)
section
variable {ts ws:Array Value}
theorem ref_0 {r c to:Int} {firm:Bool} (hE:refE ts r c to firm=0):gdF ts r=true∧(to=0∨gdF ts to=true)∧0≤c∧c<8:=by
 unfold refE at hE
 split at hE
 ·exact absurd hE (by decide)
 rename_i n1
 split at hE
 rotate_left
 ·exact absurd hE (by decide)
 rename_i hc
 rw [not_or] at n1
 refine ⟨by cases k:gdF ts r with | true=>rfl | false=>exact absurd k n1.1,?_,hc⟩
 by_cases z:to=0
 ·exact .inl z
 ·right
  cases k:gdF ts to with
  | true=>rfl
  | false=>exact absurd ⟨z,k⟩ n1.2
theorem SW.ref (w:SW ts ws) (hv:FV ts) {r c to:Int} (hto:inH to) (firm:Bool):FV (refT ts r c to firm)∧SW (refT ts r c to firm) (rfW ts ws r c to firm):=by
 by_cases hE:refE ts r c to firm=0
 rotate_left
 ·have e1:refT ts r c to firm=ts:=by unfold refT;rw [if_neg hE]
  have e2:rfW ts ws r c to firm=ws:=by unfold rfW;rw [if_neg hE]
  rw [e1,e2]
  exact ⟨hv,w⟩
 obtain ⟨hg,_,c0,c8⟩:=ref_0 hE
 have hb:=hv.f.ok
 have hz:=w.sz
 have r32:=(good_f hb hg).2.2.1
 obtain ⟨k,rfl⟩:∃ k:Nat,c=(k:Int):=⟨c.toNat,by omega⟩
 have hk:k<8:=by omega
 obtain ⟨l1,l2,l3,l4⟩:=ls_ok hb hg hto hk
 have eT:refT ts r (k:Int) to firm=setT ts r (lsR ((getA ts r).setIfInBounds (4+k) (.int .u32 to))):=by unfold refT;rw [if_pos hE];unfold refR;rw [Int.toNat_natCast]
 have eW:rfW ts ws r (k:Int) to firm=ws.setIfInBounds (64+sl r*12+4+k) (.int .i64 to):=by unfold rfW;rw [if_pos hE,Int.toNat_natCast]
 rw [eT,eW]
 generalize (getA ts r).setIfInBounds (4+k) (.int .u32 to)=rr at *
 refine ⟨FV_set hv hg l1,?_⟩
 obtain ⟨r1,r2,r3,r4,r5⟩:=set_f hb hg l1
 refine w.rows hb r2 (by rw [Array.size_setIfInBounds];exact hz) (fun j hj=>?_) (fun x hx j hj=>?_) (fun i hi hki j hj=>?_)
 ·rw [Array.getElem?_setIfInBounds,if_neg (by omega)]
 ·have x32:=(good_f hb hx).2.2.1
  have eu:upF (setT ts r (lsR rr)) x=upF ts x:=up_bk r2 (r3 x hx)
  by_cases e:x=r
  ·rw [e] at eu ⊢
   have ec:∀ j,j<8→ceF (setT ts r (lsR rr)) r j=if j=k then to else ceF ts r j:=fun j hj=>by
    rw [r4.2 j hj,← l4 j hj]
    match j,hj with
    | 0,_ | 1,_ | 2,_ | 3,_ | 4,_ | 5,_ | 6,_ | 7,_=>rfl
   have er:rwF (setT ts r (lsR rr)) r=rwA (upF ts r) (quF ts r) (fun j=>if j=k then to else ceF ts r j):=rwA_eq eu (r4.1.trans l3) ec
   rw [er,Array.getElem?_setIfInBounds]
   by_cases d:j=4+k
   ·rw [if_pos (by omega),if_pos (by omega),d]
    match k,hk with
    | 0,_ | 1,_ | 2,_ | 3,_ | 4,_ | 5,_ | 6,_ | 7,_=>rfl
   ·rw [if_neg (by omega),w.cell hb hg hj]
    by_cases j4:j<4
    ·match j,j4 with
     | 0,_ | 1,_ | 2,_ | 3,_=>rfl
    ·obtain ⟨q,rfl⟩:∃ q,j=4+q:=⟨j - 4,by omega⟩
     have hq:q<8:=by omega
     have hne:q≠k:=by omega
     have e1:(rwF ts r)[4+q]?=some (.int .i64 (ceF ts r q)):=by
      match q,hq with
      | 0,_ | 1,_ | 2,_ | 3,_ | 4,_ | 5,_ | 6,_ | 7,_=>rfl
     have e2:(rwA (upF ts r) (quF ts r) (fun j=>if j=k then to else ceF ts r j))[4+q]?=some (.int .i64 (if q=k then to else ceF ts r q)):=by
      match q,hq with
      | 0,_ | 1,_ | 2,_ | 3,_ | 4,_ | 5,_ | 6,_ | 7,_=>rfl
     rw [e1,e2,if_neg hne]
  ·have:sl x≠sl r:=fun q=>e (sl_inj hb hx hg q)
   have er:rwF (setT ts r (lsR rr)) x=rwF ts x:=rwA_eq eu (r5 x hx e).1 (r5 x hx e).2
   rw [er,Array.getElem?_setIfInBounds,if_neg (by omega)]
   exact w.cell hb hx hj
 ·have:=sl_dead hb hg hki
  rw [Array.getElem?_setIfInBounds,if_neg (by omega)]
theorem nm7_con (n:Int) (m:SMem):Con E0 6 [wtS ws,.s (.c (.f (.int .u32 (.o n))))] m (needs [SW ts ws,TbOk ts,inH n] (.ret (i64 (.o (nmA ts n))) m)):=by
 refine Con.pure E0_ok (by kernel_rfl:E0.fn 6=some Tryd.f6) (by kernel_rfl:Tryd.f6.body=some (Tryd.f6.body.getD .skip)) (by kernel_rfl) (by kernel_rfl) fun hq=>?_
 have w:SW ts ws:=hq _ (by simp)
 have hb:TbOk ts:=hq _ (by simp)
 have hn:inH n:=hq _ (by simp)
 have hz:=w.sz
 have h64:(64:Nat)≤448:=by decide
 have wb:=w.wb hb
 have ew:=wr64 hn
 refine (Good.ret [] (run_vc ENm_ok 1000 (nm7 ws n (nmA ts n)) ?_ (fun s m h=>h) fun _ _ h=>h.elim)).mono fun _ _ h=>h.1
 by_cases c1:1≤n
 ·have d1:decide (n≥1)=true:=decide_eq_true c1
  by_cases c2:n≤32
  ·have d2:decide (n≤32)=true:=decide_eq_true c2
   obtain ⟨i,rfl⟩:∃ i:Nat,n=(i:Int)+1:=⟨(n - 1).toNat,by omega⟩
   have hi:i<32:=by omega
   have es:ari .sub .u32 ((i:Int)+1) 1=(i:Int):=by rw [ari_sub,show (i:Int)+1 - 1=(i:Int) by omega];exact u32_in (by omega) (by omega)
   have e64:IntKind.i64.wrap (i:Int)=(i:Int):=i64_in' (by omega) (by omega)
   have y0:0≤(i:Int):=by omega
   have y1:(i:Int)<32:=by omega
   have k1:ws[32+i]?=some (.int .i64 (kindAt (bkB ts) i)):=w.s i hi
   have g:=w.gn hi
   have en:nmA ts ((i:Int)+1)=if kindAt (bkB ts) i=1 then nmF ts i else (i:Int)+1:=by
    unfold nmA
    rw [show (i:Int)+1 - 1=(i:Int) by omega,Int.toNat_natCast]
    by_cases k:kindAt (bkB ts) i=1
    ·rw [if_pos k,if_pos ⟨c1,c2,k⟩]
    ·rw [if_neg k,if_neg (fun q=>k q.2.2)]
   rw [en]
   cases k:(kindAt (bkB ts) i==1) with
   | true =>
    rw [if_pos (beq_iff_eq.1 k)]
    simp only [d1,d2,es,e64,y0,y1,isI_of k1,intAt_of k1,k,g,hz,h64,wb,beqT,beqF,Nat.mul_one,Int.toNat_natCast,q6]
    rfl
   | false =>
    rw [if_neg (beq_eq_false_iff_ne.1 k)]
    simp only [d1,d2,es,ew,y0,y1,isI_of k1,intAt_of k1,k,beqT,beqF,Nat.mul_one,Int.toNat_natCast,q6]
  ·have d2:decide (n≤32)=false:=decide_eq_false c2
   have en:nmA ts n=n:=if_neg (fun q=>c2 q.2.1)
   simp only [d1,d2,en,ew,beqT,beqF,q6]
 ·have d1:decide (n≥1)=false:=decide_eq_false c1
  have en:nmA ts n=n:=if_neg (fun q=>c1 q.1)
  simp only [d1,en,ew,beqT,beqF,q6]
theorem rref_con (r c to:Int) (firm:Bool) (m:SMem):Con E0 8 [wtS ws,i64 (.o r),i64 (.o c),i64 (.o to),sB (.o firm)] m (needs [SW ts ws,FIn ts] (.ret (weS (rfW ts ws r c to firm) (refE ts r c to firm)) m)):=by
 refine Con.pure E0_ok (by kernel_rfl:E0.fn 8=some Tryd.f8) (by kernel_rfl:Tryd.f8.body=some (Tryd.f8.body.getD .skip)) (by kernel_rfl) (by kernel_rfl) fun hq=>?_
 have w:SW ts ws:=hq _ (by simp)
 have hf:FIn ts:=hq _ (by simp)
 have hb:=hf.ok
 have hz:=w.sz
 have h64:(64:Nat)≤448:=by decide
 have wb:=w.wb hb
 have es:=w.slot hb r
 refine (Good.ret [] (run_vc (EJr_ok ts) 1000 (rrf0 ts ws r c to firm (rfW ts ws r c to firm) (refE ts r c to firm)) ?_ (fun s m h=>h) fun _ _ h=>h.elim)).mono fun _ _ h=>h.1
 unfold rrf0_0
 have no:∀ e,refE ts r c to firm=e→e≠0→rfW ts ws r c to firm=ws:=fun e k1 k2=>if_neg (by rw [k1];exact k2)
 cases hg:gdF ts r with
 | false =>
  have e2:refE ts r c to firm=4:=if_pos (.inl hg)
  have e1:=no 4 e2 (by decide)
  simp only [hz,w,hb,hg,e1,e2,q8,q6]
 | true =>
  rw [if_pos hg] at es
  have r32:=(good_f hb hg).2.2.1
  have y0:(0:Int)≤(sl r:Int):=by omega
  have y1:(sl r:Int)<32:=by omega
  have fin:∀ t0:(to != 0)=false∨((to != 0)=true∧gdF ts to=true),¬ (gdF ts r=false∨(to≠0∧gdF ts to=false)):=fun t0=>by
   rintro (k | ⟨k1,k2⟩)
   ·rw [hg] at k;cases k
   ·rcases t0 with k | ⟨_,k⟩
    ·exact k1 (by simpa using k)
    ·rw [k] at k2;cases k2
  by_cases hc:0≤c∧c<8
  ·have d1:decide (c<0)=false:=decide_eq_false (by omega)
   have d2:decide (c>7)=false:=decide_eq_false (by omega)
   have y2:64+sl r*12+4+c.toNat<448:=by omega
   have c0:=hc.1
   have c1:=hc.2
   cases t0:(to != 0) with
   | false =>
    have n1:=fin (.inl t0)
    have z:to=0:=by simpa using t0
    have e2:refE ts r c to firm=0:=by unfold refE;rw [if_neg n1,if_pos hc,if_pos (.inl z)]
    have e1:rfW ts ws r c to firm=ws.setIfInBounds (64+sl r*12+4+c.toNat) (.int .i64 to):=if_pos e2
    simp only [hz,h64,wb,w,hb,hf,hg,es,t0,d1,d2,c0,c1,y0,y1,y2,e1,e2,Array.size_setIfInBounds,q7,q8,q6]
   | true =>
    cases hgt:gdF ts to with
    | false =>
     have e2:refE ts r c to firm=4:=if_pos (.inr ⟨by simpa using t0,hgt⟩)
     have e1:=no 4 e2 (by decide)
     simp only [hz,w,hb,hg,hgt,t0,e1,e2,q8,q6]
    | true =>
     have n1:=fin (.inr ⟨t0,hgt⟩)
     cases hfm:firm with
     | true =>
      have e2:refE ts r c to true=0:=by unfold refE;rw [if_neg n1,if_pos hc,if_pos (.inr (.inl rfl))]
      have e1:rfW ts ws r c to true=ws.setIfInBounds (64+sl r*12+4+c.toNat) (.int .i64 to):=if_pos e2
      simp only [hz,h64,wb,w,hb,hf,hg,hgt,es,t0,d1,d2,c0,c1,y0,y1,y2,e1,e2,Array.size_setIfInBounds,q7,q8,q6]
     | false =>
      have tn:to≠0:=by simpa using t0
      cases ho:outF ts to r with
      | true =>
       have e2:refE ts r c to false=0:=by unfold refE;rw [if_neg n1,if_pos hc,if_pos (.inr (.inr ho))]
       have e1:rfW ts ws r c to false=ws.setIfInBounds (64+sl r*12+4+c.toNat) (.int .i64 to):=if_pos e2
       simp only [hz,h64,wb,w,hb,hf,hg,hgt,es,t0,ho,d1,d2,c0,c1,y0,y1,y2,e1,e2,Array.size_setIfInBounds,q7,q8,q6]
      | false =>
       have e2:refE ts r c to false=5:=by
        unfold refE
        rw [if_neg n1,if_pos hc,if_neg]
        rintro (k | k | k)
        ·exact tn k
        ·cases k
        ·rw [ho] at k;cases k
       have e1:rfW ts ws r c to false=ws:=by unfold rfW;rw [if_neg (by rw [e2];decide)]
       simp only [hz,h64,wb,w,hb,hf,hg,hgt,es,t0,ho,d1,d2,c0,c1,y0,y1,y2,e1,e2,Array.size_setIfInBounds,q7,q8,q6]
  ·have dd:(decide (c<0)=true)∨(decide (c<0)=false∧decide (c>7)=true):=by
    by_cases k:c<0
    ·exact .inl (decide_eq_true k)
    ·exact .inr ⟨decide_eq_false k,decide_eq_true (by omega)⟩
   cases t0:(to != 0) with
   | false =>
    have e2:refE ts r c to firm=2:=by unfold refE;rw [if_neg (fin (.inl t0)),if_neg hc]
    have e1:=no 2 e2 (by decide)
    rcases dd with d1 | ⟨d1,d2⟩
    ·simp only [hz,w,hb,hf,hg,t0,d1,e1,e2,q8,q6]
    ·simp only [hz,w,hb,hf,hg,t0,d1,d2,e1,e2,q8,q6]
   | true =>
    cases hgt:gdF ts to with
    | false =>
     have e2:refE ts r c to firm=4:=if_pos (.inr ⟨by simpa using t0,hgt⟩)
     have e1:=no 4 e2 (by decide)
     simp only [hz,w,hb,hg,hgt,t0,e1,e2,q8,q6]
    | true =>
     have e2:refE ts r c to firm=2:=by unfold refE;rw [if_neg (fin (.inr ⟨t0,hgt⟩)),if_neg hc]
     have e1:=no 2 e2 (by decide)
     rcases dd with d1 | ⟨d1,d2⟩
     ·simp only [hz,w,hb,hf,hg,hgt,t0,d1,e1,e2,q8,q6]
     ·simp only [hz,w,hb,hf,hg,hgt,t0,d1,d2,e1,e2,q8,q6]
theorem rder_con (r c:Int) (m:SMem):Con E0 12 [wtS ws,i64 (.o r),i64 (.o c)] m (needs [SW ts ws,TbOk ts] (.ret (rdQ (derT ts r c) (derE ts r c)) m)):=by
 refine Con.pure E0_ok (by kernel_rfl:E0.fn 12=some Tryd.f12) (by kernel_rfl:Tryd.f12.body=some (Tryd.f12.body.getD .skip)) (by kernel_rfl) (by kernel_rfl) fun hq=>?_
 have w:SW ts ws:=hq _ (by simp)
 have hb:TbOk ts:=hq _ (by simp)
 have hz:=w.sz
 have h64:(64:Nat)≤448:=by decide
 have wb:=w.wb hb
 have es:=w.slot hb r
 refine (Good.ret [] (run_vc (EJr_ok ts) 1000 (rde0 ts ws r c (derT ts r c) (derE ts r c)) ?_ (fun s m h=>h) fun _ _ h=>h.elim)).mono fun _ _ h=>h.1
 have no:∀ e,derE ts r c=e→e≠0→derT ts r c=0:=fun e k1 k2=>if_neg (by rw [k1];exact k2)
 cases hg:gdF ts r with
 | false =>
  have e2:derE ts r c=4:=if_pos hg
  have e1:=no 4 e2 (by decide)
  simp only [hz,w,hb,hg,e1,e2,q8,q6]
 | true =>
  have n1:¬ gdF ts r=false:=by rw [hg];decide
  rw [if_pos hg] at es
  have r32:=(good_f hb hg).2.2.1
  have y0:(0:Int)≤(sl r:Int):=by omega
  have y1:(sl r:Int)<32:=by omega
  by_cases hc:0≤c∧c<8
  ·have d1:decide (c<0)=false:=decide_eq_false (by omega)
   have d2:decide (c>7)=false:=decide_eq_false (by omega)
   have c0:=hc.1
   have c1:=hc.2
   have cc:ws[64+sl r*12+4+c.toNat]?=some (.int .i64 (ceF ts r c.toNat)):=by
    have hk:c.toNat<8:=by omega
    rw [Nat.add_assoc,w.cell hb hg (by omega)]
    generalize c.toNat=k at *
    match k,hk with
    | 0,_ | 1,_ | 2,_ | 3,_ | 4,_ | 5,_ | 6,_ | 7,_=>rfl
   have ed:derE ts r c=if ceF ts r c.toNat=0 then 10 else if gdF ts (ceF ts r c.toNat)=true then 0 else 4:=by unfold derE;rw [if_neg n1,if_pos hc]
   cases k1:(ceF ts r c.toNat==0) with
   | true =>
    have e2:derE ts r c=10:=by rw [ed,if_pos (beq_iff_eq.1 k1)]
    have e1:=no 10 e2 (by decide)
    simp only [hz,h64,wb,w,hb,hg,es,d1,d2,c0,c1,y0,y1,isI_of cc,intAt_of cc,k1,e1,e2,q7,q8,q6]
   | false =>
    have nz:=beq_eq_false_iff_ne.1 k1
    cases k2:gdF ts (ceF ts r c.toNat) with
    | true =>
     have e2:derE ts r c=0:=by rw [ed,if_neg nz,if_pos k2]
     have e1:derT ts r c=ceF ts r c.toNat:=if_pos e2
     simp only [hz,h64,wb,w,hb,hg,es,d1,d2,c0,c1,y0,y1,isI_of cc,intAt_of cc,k1,k2,e1,e2,q7,q8,q6]
    | false =>
     have e2:derE ts r c=4:=by rw [ed,if_neg nz,if_neg (by rw [k2];decide)]
     have e1:=no 4 e2 (by decide)
     simp only [hz,h64,wb,w,hb,hg,es,d1,d2,c0,c1,y0,y1,isI_of cc,intAt_of cc,k1,k2,e1,e2,q7,q8,q6]
  ·have e2:derE ts r c=2:=by unfold derE;rw [if_neg n1,if_neg hc]
   have e1:=no 2 e2 (by decide)
   by_cases k:c<0
   ·have d1:decide (c<0)=true:=decide_eq_true k
    simp only [hz,w,hb,hg,d1,e1,e2,q8,q6]
   ·have d1:decide (c<0)=false:=decide_eq_false k
    have d2:decide (c>7)=true:=decide_eq_true (by omega)
    simp only [hz,w,hb,hg,d1,d2,e1,e2,q8,q6]
end
set_option linter.unusedVariables false
noncomputable def acS (off n:Nat):SV:=.s (.c (.f (.slice 0 (.o off) (.o n) .any)))
noncomputable def eS:SV:=.s (.c (.f .e0))
noncomputable def conCl (ts:Array Value) (g:FuncId) (l:List SV) (m:SMem):Option Tree:=match g,l with
 | 5,[]=>some (.ret (sB (.l true)) m)
 | 7,[.s (.agg (.op us)),.s (.c (.f (.int .u32 r))),.s (.c (.f (.int .i64 c))),.s (.c (.f (.int .u32 to))),.s (.c (.f (.bool fi)))]=>some (.need [FIn us,inH r.den,inH to.den] (.ret (rgS (refT us r.den c.den to.den fi.den) (refE us r.den c.den to.den fi.den)) m))
 | 11,[.s (.agg (.op us)),.s (.c (.f (.int .u32 r))),.s (.c (.f (.int .i64 c)))]=>some (.need [TbOk us,inH r.den] (.ret (deS (derT us r.den c.den) (derE us r.den c.den)) m))
 | 8,[.s (.agg (.op ws)),.s (.c (.f (.int .i64 r))),.s (.c (.f (.int .i64 c))),.s (.c (.f (.int .i64 to))),.s (.c (.f (.bool fi)))]=>some (.need [SW ts ws,FIn ts] (.ret (weS (rfW ts ws r.den c.den to.den fi.den) (refE ts r.den c.den to.den fi.den)) m))
 | 12,[.s (.agg (.op ws)),.s (.c (.f (.int .i64 r))),.s (.c (.f (.int .i64 c)))]=>some (.need [SW ts ws,TbOk ts] (.ret (rdQ (derT ts r.den c.den) (derE ts r.den c.den)) m))
 | 6,[.s (.agg (.op ws)),.s (.c (.f (.int .u32 n)))]=>some (.need [SW ts ws,TbOk ts,inH n.den] (.ret (i64 (.o (nmA ts n.den))) m))
 | 10,[.s (.agg (.op us)),.s (.agg (.op ws))]=>some (.need [SW us ws,TbOk us] (.ret (sB (.l true)) m))
 | 9,[.s (.agg (.op us)),.s (.agg (.op ws)),.s (.agg (.ls [.f (.int .u8 d),.f (.int .u32 a),.f (.int .u32 b),.f (.int .u32 c),.f (.int .i64 q)]))]=>some (.need [SW us ws,FV us,inH a.den,inH b.den,inH c.den] (.ret (doS (acP us d.den a.den b.den c.den q.den) (acW us ws d.den a.den b.den c.den q.den)) m))
 | g,l=>conDo ts g l m
noncomputable def EPl (ts:Array Value):Env:=⟨Tryd.prog,fnOf,conCl ts,haltAt [3*1000+6,3*1000+19]⟩
noncomputable def EPn (ts:Array Value):Env:=⟨Tryd.prog,fnOf,conCl ts,haltAt []⟩
noncomputable def EPz (ts:Array Value):Env:=⟨Tryd.prog,fnOf,conCl ts,haltAt [3*1000+19]⟩
noncomputable def plL_d0:List SIt:=sekF Tryd.f3 6
noncomputable def plL_F (off:Nat) (n:Nat) (cs:Array Value) (ty:TypeId) (a:Int) (b:Int) (i:Int) (ts:Array Value) (ws:Array Value):List SFr:=[frOf 3 Tryd.f3 [(0,acS off n),(1,.s (.c (.f (.int .u32 (.o a))))),(2,i64 (.o b)),(7,ptr 1 (.l 0)),(8,ptr 2 (.l 0)),(9,i64 (.o i))] plL_d0]
noncomputable def plL_M (off:Nat) (n:Nat) (cs:Array Value) (ty:TypeId) (a:Int) (b:Int) (i:Int) (ts:Array Value) (ws:Array Value):SMem:=mkM 3 [(0,⟨.raw cs,ty,false⟩),(1,⟨.op ts,39,true⟩),(2,⟨.op ws,51,true⟩)]
noncomputable def plL_n (off:Nat) (n:Nat) (cs:Array Value) (ty:TypeId) (a:Int) (b:Int) (Q:Int→Array Value→Array Value→Prop) (fs:List SFr) (m:SMem):Prop:=(match frNth fs 0 with | some f0=>(match rdI f0 9 with | some i=>(match rdP f0 7 with | some p1=>(match rdP f0 8 with | some p2=>(match rdA m p1 with | some ts=>(match rdA m p2 with | some ws=>Q i ts ws∧subOk 1 [(1,p1),(2,p2)] (plL_F off n cs ty a b i ts ws) (plL_M off n cs ty a b i ts ws) fs m | none=>False) | none=>False) | none=>False) | none=>False) | none=>False) | none=>False)
noncomputable def plE_d0:List SIt:=sekF Tryd.f3 19
noncomputable def plE_F (a:Int) (b:Int) (ts:Array Value) (ws:Array Value):List SFr:=[frOf 3 Tryd.f3 [(1,.s (.c (.f (.int .u32 (.o a))))),(2,i64 (.o b)),(7,ptr 1 (.l 0)),(8,ptr 2 (.l 0))] plE_d0]
noncomputable def plE_M (a:Int) (b:Int) (ts:Array Value) (ws:Array Value):SMem:=mkM 3 [(1,⟨.op ts,39,true⟩),(2,⟨.op ws,51,true⟩)]
noncomputable def plE_n (a:Int) (b:Int) (Q:Array Value→Array Value→Prop) (fs:List SFr) (m:SMem):Prop:=(match frNth fs 0 with | some f0=>(match rdP f0 7 with | some p1=>(match rdP f0 8 with | some p2=>(match rdA m p1 with | some ts=>(match rdA m p2 with | some ws=>Q ts ws∧subOk 1 [(1,p1),(2,p2)] (plE_F a b ts ws) (plE_M a b ts ws) fs m | none=>False) | none=>False) | none=>False) | none=>False) | none=>False)
noncomputable def plX (off n:Nat) (cs:Array Value) (ty:TypeId) (a b:Int) (QL:Int→Array Value→Array Value→Prop) (QE:Array Value→Array Value→Prop) (fs:List SFr) (m:SMem):Prop:=match Nat.beq (atR fs) (3*1000+6) with | true=>plL_n off n cs ty a b QL fs m | false=>plE_n a b QE fs m
theorem plL_d0_ok (r:Nat→Option Nat):TodoOk r plL_d0 plL_d0:=TodoOk.it (by kernel_rfl)
theorem plE_d0_ok (r:Nat→Option Nat):TodoOk r plE_d0 plE_d0:=TodoOk.it (by kernel_rfl)
theorem plL_good {A:SV→SMem→Prop} {off:Nat} {n:Nat} {cs:Array Value} {ty:TypeId} {a:Int} {b:Int} {Q:Int→Array Value→Array Value→Prop} {fs:List SFr} {m:SMem} (H:∀ i ts ws,Q i ts ws→Good Tryd.prog A 1 (plL_F off n cs ty a b i ts ws) (plL_M off n cs ty a b i ts ws)) (hb:plL_n off n cs ty a b Q fs m):Good Tryd.prog A 1 fs m:=by
 unfold plL_n at hb
 iterate 6 (split at hb;rotate_left;exact hb.elim)
 exact Good.of_sub hb.2 (H _ _ _ hb.1)
theorem plE_good {A:SV→SMem→Prop} {a:Int} {b:Int} {Q:Array Value→Array Value→Prop} {fs:List SFr} {m:SMem} (H:∀ ts ws,Q ts ws→Good Tryd.prog A 1 (plE_F a b ts ws) (plE_M a b ts ws)) (hb:plE_n a b Q fs m):Good Tryd.prog A 1 fs m:=by
 unfold plE_n at hb
 iterate 5 (split at hb;rotate_left;exact hb.elim)
 exact Good.of_sub hb.2 (H _ _ hb.1)
set_option maxRecDepth 100000
theorem pl0 (tg:Array Value) (off:Nat) (n:Nat) (cs:Array Value) (ty:TypeId) (a b:Int) (Q:Int→Array Value→Array Value→Prop):(run (EPl tg) 1000 1 [callFr 3 Tryd.f3.ntmps [acS off n,u32v a,i64 (.o b)] (Tryd.f3.body.getD .skip)] (mkM 1 [(0,⟨.raw cs,ty,false⟩)])).vc (isB true) (plL_n off n cs ty a b Q) =
  ((decide ((↑n:Int)>100)=true→true=true)∧(decide ((↑n:Int)>100)=false→Q (0:Int) zT zW∧cN∧TodoOk (ren 1 [(1,1),(2,2)]) plL_d0 plL_d0∧off=off∧n=n∧a=a∧(0:Int)=(0:Int)∧b=b∧ty=ty∧cs=cs∧39=39∧zT=zT∧51=51∧zW=zW∧True)):=by kernel_rfl
theorem plZ (tg:Array Value) (a b:Int) (Q:Array Value→Array Value→Prop):(run (EPz tg) 1000 1 [callFr 3 Tryd.f3.ntmps [eS,u32v a,i64 (.o b)] (Tryd.f3.body.getD .skip)] (mkM 1 [])).vc (isB true) (plE_n a b Q) =
  (Q zT zW∧cN∧TodoOk (ren 1 [(1,1),(2,2)]) plE_d0 plE_d0∧a=a∧b=b∧39=39∧zT=zT∧51=51∧zW=zW∧True):=by kernel_rfl
noncomputable def pl1_0 (ts:Array Value) (off:Nat) (cs:Array Value) (i:Int):Array Value:=refT ts (IntKind.wrap .u32 (nmA ts (intAt cs (off+Int.toNat i*5+1)))) (intAt cs (off+Int.toNat i*5+4)) (IntKind.wrap .u32 (nmA ts (intAt cs (off+Int.toNat i*5+3)))) (intAt cs (off+Int.toNat i*5+2)==1)
noncomputable def pl1_1 (ts:Array Value) (off:Nat) (cs:Array Value) (i:Int) (ws:Array Value):Array Value:=rfW ts ws (nmA ts (intAt cs (off+Int.toNat i*5+1))) (intAt cs (off+Int.toNat i*5+4)) (nmA ts (intAt cs (off+Int.toNat i*5+3))) (intAt cs (off+Int.toNat i*5+2)==1)
noncomputable def pl1_2 (ts:Array Value) (off:Nat) (cs:Array Value) (i:Int):Array Value:=acP ts (intAt cs (off+Int.toNat i*5)) (intAt cs (off+Int.toNat i*5+1)) (intAt cs (off+Int.toNat i*5+2)) (intAt cs (off+Int.toNat i*5+3)) (intAt cs (off+Int.toNat i*5+4))
noncomputable def pl1_3 (ts:Array Value) (off:Nat) (cs:Array Value) (i:Int) (ws:Array Value):Array Value:=acW ts ws (intAt cs (off+Int.toNat i*5)) (intAt cs (off+Int.toNat i*5+1)) (intAt cs (off+Int.toNat i*5+2)) (intAt cs (off+Int.toNat i*5+3)) (intAt cs (off+Int.toNat i*5+4))
noncomputable def pl1_4 (off:Nat) (cs:Array Value) (i:Int):Int:=intAt cs (off+Int.toNat i*5+1)
noncomputable def pl1_5 (off:Nat) (cs:Array Value) (i:Int):Int:=intAt cs (off+Int.toNat i*5+3)
noncomputable def pl1_6 (off:Nat) (cs:Array Value) (i:Int):Int:=intAt cs (off+Int.toNat i*5+4)
theorem pl1 (ts:Array Value) (off:Nat) (n:Nat) (cs:Array Value) (ty:TypeId) (a b:Int) (i:Int) (ws:Array Value) (QL:Int→Array Value→Array Value→Prop) (QE:Array Value→Array Value→Prop):(stepT (EPl ts).go (run (EPl ts) 1000) 1 (plL_F off n cs ty a b i ts ws) (plL_M off n cs ty a b i ts ws)).vc (isB true) (plX off n cs ty a b QL QE) =
  ((decide (i<(↑n:Int))=true→((0≤i∧i<(↑n:Int))∧True)∧(IsInt .u8 cs (off+Int.toNat i*5)∧IsInt .u32 cs (off+Int.toNat i*5+1)∧IsInt .u32 cs (off+Int.toNat i*5+2)∧IsInt .u32 cs (off+Int.toNat i*5+3)∧IsInt .i64 cs (off+Int.toNat i*5+4)∧True)∧((intAt cs (off+Int.toNat i*5)==3)=true→(Array.size ws=448∧True)∧(SW ts ws∧TbOk ts∧(0≤intAt cs (off+Int.toNat i*5+1)∧intAt cs (off+Int.toNat i*5+1)<4294967296)∧True)∧(Array.size ws=448∧True)∧(SW ts ws∧TbOk ts∧(0≤intAt cs (off+Int.toNat i*5+3)∧intAt cs (off+Int.toNat i*5+3)<4294967296)∧True)∧(Array.size ts=448∧True)∧(FIn ts∧(0≤IntKind.wrap .u32 (nmA ts (pl1_4 off cs i))∧IntKind.wrap .u32 (nmA ts (pl1_4 off cs i))<4294967296)∧(0≤IntKind.wrap .u32 (nmA ts (pl1_5 off cs i))∧IntKind.wrap .u32 (nmA ts (pl1_5 off cs i))<4294967296)∧True)∧(Array.size (pl1_0 ts off cs i)=448∧Array.size (pl1_0 ts off cs i)=448∧True)∧(Array.size ws=448∧True)∧(SW ts ws∧FIn ts∧True)∧(Array.size (pl1_1 ts off cs i ws)=448∧Array.size (pl1_1 ts off cs i ws)=448∧True)∧(Array.size (pl1_0 ts off cs i)=448∧True)∧(Array.size (pl1_1 ts off cs i ws)=448∧True)∧(Array.size (pl1_0 ts off cs i)=448∧Array.size (pl1_0 ts off cs i)=Array.size ts∧True)∧(Array.size (pl1_1 ts off cs i ws)=448∧Array.size (pl1_1 ts off cs i ws)=Array.size ws∧True)∧(((!refE ts (IntKind.wrap .u32 (nmA ts (pl1_4 off cs i))) (pl1_6 off cs i) (IntKind.wrap .u32 (nmA ts (pl1_5 off cs i))) (intAt cs (off+Int.toNat i*5+2)==1)==refE ts (nmA ts (pl1_4 off cs i)) (pl1_6 off cs i) (nmA ts (pl1_5 off cs i)) (intAt cs (off+Int.toNat i*5+2)==1))==false)=true→(Array.size (pl1_0 ts off cs i)=448∧True)∧(Array.size (pl1_1 ts off cs i ws)=448∧True)∧(SW (pl1_0 ts off cs i) (pl1_1 ts off cs i ws)∧TbOk (pl1_0 ts off cs i)∧True)∧QL (ari .add .i64 i 1) (pl1_0 ts off cs i) (pl1_1 ts off cs i ws)∧cN∧TodoOk (ren 1 [(1,1),(2,2)]) plL_d0 plL_d0∧off=off∧n=n∧a=a∧ari .add .i64 i 1=ari .add .i64 i 1∧b=b∧ty=ty∧cs=cs∧39=39∧refT ts (IntKind.wrap .u32 (nmA ts (pl1_4 off cs i))) (pl1_6 off cs i) (IntKind.wrap .u32 (nmA ts (pl1_5 off cs i))) (intAt cs (off+Int.toNat i*5+2)==1)=refT ts (IntKind.wrap .u32 (nmA ts (pl1_4 off cs i))) (pl1_6 off cs i) (IntKind.wrap .u32 (nmA ts (pl1_5 off cs i))) (intAt cs (off+Int.toNat i*5+2)==1)∧51=51∧rfW ts ws (nmA ts (pl1_4 off cs i)) (pl1_6 off cs i) (nmA ts (pl1_5 off cs i)) (intAt cs (off+Int.toNat i*5+2)==1)=rfW ts ws (nmA ts (pl1_4 off cs i)) (pl1_6 off cs i) (nmA ts (pl1_5 off cs i)) (intAt cs (off+Int.toNat i*5+2)==1)∧True)∧(((!refE ts (IntKind.wrap .u32 (nmA ts (pl1_4 off cs i))) (pl1_6 off cs i) (IntKind.wrap .u32 (nmA ts (pl1_5 off cs i))) (intAt cs (off+Int.toNat i*5+2)==1)==refE ts (nmA ts (pl1_4 off cs i)) (pl1_6 off cs i) (nmA ts (pl1_5 off cs i)) (intAt cs (off+Int.toNat i*5+2)==1))==false)=false→false=true))∧((intAt cs (off+Int.toNat i*5)==3)=false→(Array.size ts=448∧True)∧(Array.size ws=448∧True)∧(SW ts ws∧FV ts∧(0≤intAt cs (off+Int.toNat i*5+1)∧intAt cs (off+Int.toNat i*5+1)<4294967296)∧(0≤intAt cs (off+Int.toNat i*5+2)∧intAt cs (off+Int.toNat i*5+2)<4294967296)∧(0≤intAt cs (off+Int.toNat i*5+3)∧intAt cs (off+Int.toNat i*5+3)<4294967296)∧True)∧(Array.size (pl1_2 ts off cs i)=448∧Array.size (pl1_2 ts off cs i)=Array.size ts∧True)∧(Array.size (pl1_3 ts off cs i ws)=448∧Array.size (pl1_3 ts off cs i ws)=Array.size ws∧True)∧(Array.size (pl1_2 ts off cs i)=448∧True)∧(Array.size (pl1_3 ts off cs i ws)=448∧True)∧(SW (pl1_2 ts off cs i) (pl1_3 ts off cs i ws)∧TbOk (pl1_2 ts off cs i)∧True)∧QL (ari .add .i64 i 1) (pl1_2 ts off cs i) (pl1_3 ts off cs i ws)∧cN∧TodoOk (ren 1 [(1,1),(2,2)]) plL_d0 plL_d0∧off=off∧n=n∧a=a∧ari .add .i64 i 1=ari .add .i64 i 1∧b=b∧ty=ty∧cs=cs∧39=39∧acP ts (intAt cs (off+Int.toNat i*5)) (pl1_4 off cs i) (intAt cs (off+Int.toNat i*5+2)) (pl1_5 off cs i) (pl1_6 off cs i)=acP ts (intAt cs (off+Int.toNat i*5)) (pl1_4 off cs i) (intAt cs (off+Int.toNat i*5+2)) (pl1_5 off cs i) (pl1_6 off cs i)∧51=51∧acW ts ws (intAt cs (off+Int.toNat i*5)) (pl1_4 off cs i) (intAt cs (off+Int.toNat i*5+2)) (pl1_5 off cs i) (pl1_6 off cs i)=acW ts ws (intAt cs (off+Int.toNat i*5)) (pl1_4 off cs i) (intAt cs (off+Int.toNat i*5+2)) (pl1_5 off cs i) (pl1_6 off cs i)∧True))∧(decide (i<(↑n:Int))=false→QE ts ws∧cN∧TodoOk (ren 1 [(1,1),(2,2)]) plE_d0 plE_d0∧a=a∧b=b∧39=39∧ts=ts∧51=51∧ws=ws∧True)):=by kernel_rfl
theorem plE (ts ws:Array Value) (a b:Int):(stepT (EPn ts).go (run (EPn ts) 1000) 1 (plE_F a b ts ws) (plE_M a b ts ws)).vc (isB true) (fun _ _=>False) =
  ((Array.size ws=448∧True)∧(SW ts ws∧TbOk ts∧(0≤a∧a<4294967296)∧True)∧(Array.size ts=448∧True)∧(TbOk ts∧(0≤IntKind.wrap .u32 (nmA ts a)∧IntKind.wrap .u32 (nmA ts a)<4294967296)∧True)∧(Array.size ws=448∧True)∧(SW ts ws∧TbOk ts∧True)∧(((IntKind.wrap .i64 (derT ts (IntKind.wrap .u32 (nmA ts a)) b)==derT ts (nmA ts a) b)==true)=true→(((derE ts (IntKind.wrap .u32 (nmA ts a)) b==derE ts (nmA ts a) b)==true)=true→true=true)∧(((derE ts (IntKind.wrap .u32 (nmA ts a)) b==derE ts (nmA ts a) b)==true)=false→false=true))∧(((IntKind.wrap .i64 (derT ts (IntKind.wrap .u32 (nmA ts a)) b)==derT ts (nmA ts a) b)==true)=false→false=true)):=by kernel_rfl
set_option maxRecDepth 1000000 in
theorem wakes_fast : (runC E0 200000 0 [callFr 5 Tryd.f5.ntmps [] (Tryd.f5.body.getD .skip)] ⟨0, .nil, []⟩).allTrue = true := by kernel_rfl
theorem wakes_true : (run E0 200000 0 [callFr 5 Tryd.f5.ntmps [] (Tryd.f5.body.getD .skip)] ⟨0, .nil, []⟩).allTrue = true := by
 rw [← runC_eq]
 exact wakes_fast
theorem wakes_fn : E0.fn 5 = some Tryd.f5 := by kernel_rfl
theorem wakes_body : Tryd.f5.body = some (Tryd.f5.body.getD .skip) := by kernel_rfl
theorem wakes_con (m : SMem) : Con E0 5 [] m (needs [] (.ret (sB (.l true)) m)) :=
 Con.pure E0_ok wakes_fn wakes_body (by kernel_rfl) (by kernel_rfl) fun _ => good_true E0_ok wakes_true
end Go.Proofs.YtdopckcockgefaaDoor
