/- The document's table behind the program's: what it is to be the same; Good, Get, up: contracts. No condition. -/
import Derived.Test.YtldoopjnjlpbpaaGreatDoorMB
set_option linter.unusedVariables false
set_option linter.unusedSimpArgs false
namespace Go.Proofs.YtldoopjnjlpbpaaGreatDoor
set_option maxRecDepth 100000
set_option linter.unusedSimpArgs false
set_option linter.unusedVariables false
def fX (u q:Int) (c:Nat→Int):Array Value:=#[.int .i64 u,.int .i64 q,.slice none 0 0,.int .i64 0,.int .i64 (c 0),.int .i64 (c 1),.int .i64 (c 2),.int .i64 (c 3),.int .i64 (c 4),.int .i64 (c 5),.int .i64 (c 6),.int .i64 (c 7)]
def gw (ts:Array Value) (i:Nat):Int:=cW i (cw (aF ts) i)
def jU (ts:Array Value) (h:Int):Array Value:=fX (aG ts h) (dc ts h) (bL ts h)
structure SW (ts ws:Array Value):Prop where
 sz:ws.size=448
 g:∀ i,i<32→ws[i]?=some (.int .i64 (cw (aF ts) i))
 s:∀ i,i<32→ws[32+i]?=some (.int .i64 (cB (aF ts) i))
 r:∀ i,i<32→cB (aF ts) i=1→∀ j,j<12→ws[64+i*12+j]?=(jU ts (gw ts i))[j]?
 z:∀ i,i<32→cB (aF ts) i≠1→∀ j,j<12→ws[64+i*12+j]?=(fX 0 0 fun _=>0)[j]?
section
variable {ts ws:Array Value}
theorem SW.bk (w:SW ts ws) {i:Nat} (hi:i<64):(ws.extract 0 64)[i]?=ws[i]?:=by
 have hz:=w.sz
 rw [ext_get (by omega) (by omega),Nat.zero_add]
theorem SW.gn (w:SW ts ws) {i:Nat} (hi:i<32):cZ (ws.extract 0 64) i=cw (aF ts) i:=bI (by rw [w.bk (by omega)];exact w.g i hi)
theorem SW.kn (w:SW ts ws) {i:Nat} (hi:i<32):gv (ws.extract 0 64) i=cB (aF ts) i:=bI (by rw [w.bk (by omega)];exact w.s i hi)
theorem SW.wb (w:SW ts ws) (hb:aM ts):WB (ws.extract 0 64):=by
 have hz:=w.sz
 refine ⟨by rw [rN (by omega)],fun i hi=>bw (by rw [w.bk (by omega)];exact w.g i hi),fun i hi=>bw (by rw [w.bk (by omega)];exact w.s i hi),fun i hi=>?_,fun i hi=>?_⟩
 ·rw [w.gn hi];exact hb.bk.ra i hi
 ·rw [w.kn hi];exact hb.bk.rk i hi
theorem HL {vs:Array Value} {h:Int} {k:Nat} (h0:∀ j,j<32→gv vs j=1∧cW j (cZ vs j)=h→j=k) (hk:gv vs k=1∧cW k (cZ vs k)=h):∀ (n i:Nat),i+n=32→i≤k→k<32→m6 vs h n i=(k:Int)
 | 0,i,e,h1,h2=>by omega
 | n+1,i,e,h1,h2=>by
  show (if gv vs i=1∧cW i (cZ vs i)=h then (i:Int) else m6 vs h n (i+1))=_
  split
  ·rename_i c;rw [h0 i (by omega) c]
  ·rename_i c
   by_cases e2:i=k
   ·rw [e2] at c;exact absurd hk c
   ·exact HL h0 hk n (i+1) (by omega) (by omega) h2
theorem OB {vs:Array Value} {h:Int} (h0:∀ j,j<32→¬ (gv vs j=1∧cW j (cZ vs j)=h)):∀ (n i:Nat),i+n=32→m6 vs h n i=-1
 | 0,i,e=>rfl
 | n+1,i,e=>by
  show (if gv vs i=1∧cW i (cZ vs i)=h then (i:Int) else m6 vs h n (i+1))=_
  rw [if_neg (h0 i (by omega))]
  exact OB h0 n (i+1) (by omega)
theorem SW.slot (w:SW ts ws) (hb:aM ts) (h:Int):aQ (ws.extract 0 64) h=if aB ts h=true then (sl h:Int) else -1:=by
 unfold aQ
 split
 ·rename_i hg
  obtain ⟨_,_,gS,hk,hn,_⟩:=dX hb hg
  refine HL (k:=sl h) (fun j hj c=>?_) ?_ 32 0 rfl (Nat.zero_le _) gS
  ·rw [w.kn hj,w.gn hj] at c
   exact (wF hj gS (c.2.trans hn)).1
  ·rw [w.kn gS,w.gn gS]
   exact ⟨hk,hn.symm⟩
 ·rename_i hg
  refine OB (fun j hj c=>?_) 32 0 rfl
  rw [w.kn hj,w.gn hj] at c
  exact hg ((lN hb.bk).2 ⟨j,hj,c.1,c.2.symm⟩)
theorem SW.cell (w:SW ts ws) (hb:aM ts) {h:Int} (hg:aB ts h=true) {j:Nat} (hj:j<12):ws[64+sl h*12+j]?=(jU ts h)[j]?:=by
 obtain ⟨_,_,gS,hk,hn,_⟩:=dX hb hg
 have:=w.r (sl h) gS hk j hj
 unfold gw at this
 rw [← hn] at this
 exact this
theorem wU:bf vQ:=bf.with aU _ _ fun g l m t h=>by
 unfold uu at h
 split at h
 ·rename_i ws x;cases h
  exact aq.n1 (Oz x.den m)
 ·rename_i ws;cases h
  exact Oc m
 ·exact oC _ _ _ _ h
theorem OC (h:Int) (m:aj):aq E0 8 [bg ws,i64 (.o h)] m (bu [SW ts ws,aM ts] (.ret (sB (.o (aB ts h))) m)):=by
 refine aq.pure aU (by kernel_rfl:E0.fn 8=some Tryz.f8) (by kernel_rfl:Tryz.f8.body=some (Tryz.f8.body.getD .skip)) (by kernel_rfl) (by kernel_rfl) fun hq=>?_
 have w:SW ts ws:=hq _ (by simp)
 have hb:aM ts:=hq _ (by simp)
 refine (Good.ret [] (bA wU 1000 (rg0 ws h (aB ts h)) ?_ (fun s m h=>h) fun _ _ h=>h.elim)).mono fun _ _ h=>h.1
 have hz:=w.sz
 have hle:64≤ws.size:=by omega
 have bK:(64:Nat)≤448:=by decide
 have wb:=w.wb hb
 have es:=w.slot hb h
 cases hg:aB ts h with
 | true =>
  have d:decide (aQ (ws.extract 0 64) h≥0)=true:=decide_eq_true (by rw [es,if_pos hg];omega)
  simp only [hz,bK,hle,wb,d,and_true,true_and]
 | false =>
  have d:decide (aQ (ws.extract 0 64) h≥0)=false:=decide_eq_false (by rw [es,if_neg (by rw [hg];decide)];omega)
  simp only [hz,bK,hle,wb,d,and_true,true_and]
def nC (ts:Array Value) (h:Int):Array Value:=if aB ts h=true then jU ts h else fX 0 0 fun _=>0
def lE (ts:Array Value) (h:Int):Int:=if aB ts h=true then 0 else 4
theorem X5 (h:Int) (m:aj):aq E0 32 [bg ws,i64 (.o h)] m (bu [SW ts ws,aM ts] (.ret (.bW [.agg (.op (nC ts h)),.c (.f (.int .i64 (.o (lE ts h))))]) m)):=by
 refine aq.pure aU (by kernel_rfl:E0.fn 32=some Tryz.f32) (by kernel_rfl:Tryz.f32.body=some (Tryz.f32.body.getD .skip)) (by kernel_rfl) (by kernel_rfl) fun hq=>?_
 have w:SW ts ws:=hq _ (by simp)
 have hb:aM ts:=hq _ (by simp)
 refine (Good.ret [] (bA wU 1000 (rt0 ws h (nC ts h) (lE ts h)) ?_ (fun s m h=>h) fun _ _ h=>h.elim)).mono fun _ _ h=>h.1
 unfold gI
 have hz:=w.sz
 have hle:64≤ws.size:=by omega
 have bK:(64:Nat)≤448:=by decide
 have wb:=w.wb hb
 have es:=w.slot hb h
 cases hg:aB ts h with
 | true =>
  rw [if_pos hg] at es
  have gS:=(dX hb hg).2.2.1
  have d:decide ((sl h:Int)<0)=false:=decide_eq_false (by omega)
  have y0:(0:Int)≤(sl h:Int):=by omega
  have y1:(sl h:Int)<32:=by omega
  have c:∀ j,j<12→ws[64+sl h*12+j]?=(jU ts h)[j]?:=fun j hj=>w.cell hb hg hj
  have c0:ws[64+sl h*12]?=some (.int .i64 (aG ts h)):=c 0 (by decide)
  have c1:ws[64+sl h*12+1]?=some (.int .i64 (dc ts h)):=c 1 (by decide)
  have c2:ws[64+sl h*12+2]?=some (.slice none 0 0):=c 2 (by decide)
  have c3:ws[64+sl h*12+3]?=some (.int .i64 0):=c 3 (by decide)
  have c4:ws[64+sl h*12+4]?=some (.int .i64 (bL ts h 0)):=c 4 (by decide)
  have c5:ws[64+sl h*12+5]?=some (.int .i64 (bL ts h 1)):=c 5 (by decide)
  have c6:ws[64+sl h*12+6]?=some (.int .i64 (bL ts h 2)):=c 6 (by decide)
  have c7:ws[64+sl h*12+7]?=some (.int .i64 (bL ts h 3)):=c 7 (by decide)
  have c8:ws[64+sl h*12+8]?=some (.int .i64 (bL ts h 4)):=c 8 (by decide)
  have c9:ws[64+sl h*12+9]?=some (.int .i64 (bL ts h 5)):=c 9 (by decide)
  have GN:ws[64+sl h*12+10]?=some (.int .i64 (bL ts h 6)):=c 10 (by decide)
  have GO:ws[64+sl h*12+11]?=some (.int .i64 (bL ts h 7)):=c 11 (by decide)
  have eT:nC ts h=jU ts h:=if_pos hg
  have eE:lE ts h=0:=if_pos hg
  simp only [hz,bK,hle,wb,d,es,y0,y1,Int.toNat_natCast,c2,bw c0,bw c1,bw c3,bw c4,bw c5,bw c6,bw c7,bw c8,bw c9,bw GN,bw GO,bI c0,bI c1,bI c3,bI c4,bI c5,bI c6,bI c7,bI c8,bI c9,bI GN,bI GO,eT,eE,q6]
  rfl
 | false =>
  rw [if_neg (by rw [hg];decide)] at es
  have d:decide (aQ (ws.extract 0 64) h<0)=true:=decide_eq_true (by rw [es];omega)
  have eT:nC ts h=fX 0 0 fun _=>0:=if_neg (by rw [hg];decide)
  have eE:lE ts h=4:=if_neg (by rw [hg];decide)
  simp only [hz,bK,hle,wb,d,eT,eE,q6]
  rfl
theorem Zi (h:Int) (m:aj):aq E0 68 [bg ws,i64 (.o h)] m (bu [SW ts ws,aM ts] (.ret (i64 (.o (aG ts h))) m)):=by
 refine aq.pure aU (by kernel_rfl:E0.fn 68=some Tryz.f68) (by kernel_rfl:Tryz.f68.body=some (Tryz.f68.body.getD .skip)) (by kernel_rfl) (by kernel_rfl) fun hq=>?_
 have w:SW ts ws:=hq _ (by simp)
 have hb:aM ts:=hq _ (by simp)
 refine (Good.ret [] (bA wU 1000 (up0 ws h (aG ts h)) ?_ (fun s m h=>h) fun _ _ h=>h.elim)).mono fun _ _ h=>h.1
 unfold jx
 have hz:=w.sz
 have hle:64≤ws.size:=by omega
 have bK:(64:Nat)≤448:=by decide
 have wb:=w.wb hb
 have es:=w.slot hb h
 cases hg:aB ts h with
 | true =>
  rw [if_pos hg] at es
  have gS:=(dX hb hg).2.2.1
  have d:decide ((sl h:Int)<0)=false:=decide_eq_false (by omega)
  have y0:(0:Int)≤(sl h:Int):=by omega
  have y1:(sl h:Int)<32:=by omega
  have c:∀ j,j<12→ws[64+sl h*12+j]?=(jU ts h)[j]?:=fun j hj=>w.cell hb hg hj
  have c0:ws[64+sl h*12]?=some (.int .i64 (aG ts h)):=c 0 (by decide)
  have c1:ws[64+sl h*12+1]?=some (.int .i64 (dc ts h)):=c 1 (by decide)
  have c2:ws[64+sl h*12+2]?=some (.slice none 0 0):=c 2 (by decide)
  have c3:ws[64+sl h*12+3]?=some (.int .i64 0):=c 3 (by decide)
  have c4:ws[64+sl h*12+4]?=some (.int .i64 (bL ts h 0)):=c 4 (by decide)
  have c5:ws[64+sl h*12+5]?=some (.int .i64 (bL ts h 1)):=c 5 (by decide)
  have c6:ws[64+sl h*12+6]?=some (.int .i64 (bL ts h 2)):=c 6 (by decide)
  have c7:ws[64+sl h*12+7]?=some (.int .i64 (bL ts h 3)):=c 7 (by decide)
  have c8:ws[64+sl h*12+8]?=some (.int .i64 (bL ts h 4)):=c 8 (by decide)
  have c9:ws[64+sl h*12+9]?=some (.int .i64 (bL ts h 5)):=c 9 (by decide)
  have GN:ws[64+sl h*12+10]?=some (.int .i64 (bL ts h 6)):=c 10 (by decide)
  have GO:ws[64+sl h*12+11]?=some (.int .i64 (bL ts h 7)):=c 11 (by decide)
  simp only [hz,bK,hle,wb,d,es,y0,y1,Int.toNat_natCast,c2,bw c0,bw c1,bw c3,bw c4,bw c5,bw c6,bw c7,bw c8,bw c9,bw GN,bw GO,bI c0,q6]
 | false =>
  rw [if_neg (by rw [hg];decide)] at es
  have d:decide (aQ (ws.extract 0 64) h<0)=true:=decide_eq_true (by rw [es];omega)
  have eu:aG ts h=0:=if_neg (by rw [hg];decide)
  simp only [hz,bK,hle,wb,d,eu,q6]
end
set_option linter.unusedVariables false
def aE (l:List Int):Array Value:=(l.map (Value.int .i64)).toArray
noncomputable def mP (l:List Int) (m:aj):Tree:=.br (decide (l.length=0)) (.ret (.s (.c (.f (.lit (.slice none 0 0))))) m) (.ret (.s (.c (.f (.slice m.next (.l 0) (.o l.length) (.full 1))))) (m.new (.pop (aE l)) 3))
noncomputable def Ec (ts:Array Value) (g:FuncId) (l:List SV) (m:aj):Option Tree:=match g,l with
 | 8,[.s (.agg (.op ws)),.s (.c (.f (.int .i64 h)))]=>some (.need [SW ts ws,aM ts] (.ret (sB (.o (aB ts h.den))) m))
 | 32,[.s (.agg (.op ws)),.s (.c (.f (.int .i64 h)))]=>some (.need [SW ts ws,aM ts] (.ret (.bW [.agg (.op (nC ts h.den)),.c (.f (.int .i64 (.o (lE ts h.den))))]) m))
 | 68,[.s (.agg (.op ws)),.s (.c (.f (.int .i64 h)))]=>some (.need [SW ts ws,aM ts] (.ret (i64 (.o (aG ts h.den))) m))
 | g,l=>uu g l m
noncomputable def rj:Env:=⟨Tryz.prog,dg,uu,dy [36*1000+3,67*1000+1]⟩
noncomputable def S6 (ts:Array Value) (n:Nat) (g:FuncId) (l:List SV) (m:aj):Option Tree:=match g,l with
 | 71,[.s (.agg (.op ws)),.s (.c (.f (.int .i64 h)))]=>some (.need [SW ts ws,ay ts,aY ts h.den<n] (.ret (i64 (.o (aY ts h.den:Int))) m))
 | 43,[.s (.agg (.op ws)),.s (.c (.f (.int .i64 h)))]=>some (.need [SW ts ws,ay ts,aY ts h.den<n] (.ret (i64 (.o (aO ts h.den))) m))
 | g,l=>Ec ts g l m
noncomputable def Nb (ts:Array Value) (n:Nat):Env:=⟨Tryz.prog,dg,S6 ts n,dy []⟩
noncomputable def j5:List bh:=cY Tryz.f36 3
noncomputable def yg (ws:Array Value) (i:Int):List av:=[dw 36 Tryz.f36 [(1,ptr 0 (.l 0)),(3,jd),(4,i64 (.o i))] j5]
noncomputable def yh (ws:Array Value) (i:Int):aj:=cD 1 [(0,⟨.op ws,51,true⟩)]
def FM (ws:Array Value) (Q:Int→Prop) (fs:List av) (m:aj):Prop:=(match b9 fs 0 with | some f0=>(match dh f0 4 with | some i=>(match aV f0 1 with | some p0=>Q i∧cV 0 [(0,p0)] (yg ws i) (yh ws i) fs m | none=>False) | none=>False) | none=>False)
noncomputable def KM:List bh:=cY Tryz.f36 3
noncomputable def BH (ws:Array Value) (i:Int) (k:Nat) (cs:Array Value):List av:=[dw 36 Tryz.f36 [(1,ptr 0 (.l 0)),(3,fK 1 k),(4,i64 (.o i))] KM]
noncomputable def BI (ws:Array Value) (i:Int) (k:Nat) (cs:Array Value):aj:=cD 2 [(0,⟨.op ws,51,true⟩),(1,⟨.pop cs,3,true⟩)]
def FN (ws:Array Value) (Q:Int→Nat→Array Value→Prop) (fs:List av) (m:aj):Prop:=(match b9 fs 0 with | some f0=>(match dh f0 4 with | some i=>(match aV f0 1 with | some p0=>(match fG f0 3 with | some p1=>(match qR f0 3 with | some k=>(match cO m p1 with | some cs=>Q i k cs∧cV 0 [(0,p0),(1,p1)] (BH ws i k cs) (BI ws i k cs) fs m | none=>False) | none=>False) | none=>False) | none=>False) | none=>False) | none=>False)
noncomputable def ux:List bh:=cY Tryz.f67 1
noncomputable def FO (ws:Array Value) (a:Int) (h:Int):List av:=[dw 67 Tryz.f67 [(1,i64 (.o a)),(2,i64 (.o h)),(3,ptr 0 (.l 0))] ux]
noncomputable def FP (ws:Array Value) (a:Int) (h:Int):aj:=cD 1 [(0,⟨.op ws,51,true⟩)]
def FQ (ws:Array Value) (a:Int) (Q:Int→Prop) (fs:List av) (m:aj):Prop:=(match b9 fs 0 with | some f0=>(match dh f0 2 with | some h=>(match aV f0 3 with | some p0=>Q h∧cV 0 [(0,p0)] (FO ws a h) (FP ws a h) fs m | none=>False) | none=>False) | none=>False)
def GP (ws:Array Value) (QZ:Int→Prop) (QS:Int→Nat→Array Value→Prop) (fs:List av) (m:aj):Prop:=match fs with | f :: _=>(match f.tm.get 3 with | some (.s (.c (.f (.slice _ _ _ _))))=>FN ws QS fs m | _=>FM ws QZ fs m) | []=>False
noncomputable def S7 (ws:Array Value) (i:Int):Tree:=stepT rj.go (run rj 1000) 0 (yg ws i) (yh ws i)
noncomputable def acE (ws:Array Value) (i:Int) (k:Nat) (cs:Array Value):Tree:=stepT rj.go (run rj 1000) 0 (BH ws i k cs) (BI ws i k cs)
noncomputable def acF (ws:Array Value) (a h:Int):Tree:=stepT rj.go (run rj 1000) 0 (FO ws a h) (FP ws a h)
theorem tK (r:Nat→Option Nat):ak r j5 j5:=ak.it (by kernel_rfl)
theorem zC (r:Nat→Option Nat):ak r KM KM:=ak.it (by kernel_rfl)
theorem Pu (r:Nat→Option Nat):ak r ux ux:=ak.it (by kernel_rfl)
theorem Jb {A:SV→aj→Prop} {ws:Array Value} {Q:Int→Prop} {fs:List av} {m:aj} (H:∀ i,Q i→Good Tryz.prog A 0 (yg ws i) (yh ws i)) (hb:FM ws Q fs m):Good Tryz.prog A 0 fs m:=by
 unfold FM at hb
 iterate 3 (split at hb;rotate_left;exact hb.elim)
 exact Good.c_ hb.2 (H _ hb.1)
theorem Jc {A:SV→aj→Prop} {ws:Array Value} {Q:Int→Nat→Array Value→Prop} {fs:List av} {m:aj} (H:∀ i k cs,Q i k cs→Good Tryz.prog A 0 (BH ws i k cs) (BI ws i k cs)) (hb:FN ws Q fs m):Good Tryz.prog A 0 fs m:=by
 unfold FN at hb
 iterate 6 (split at hb;rotate_left;exact hb.elim)
 exact Good.c_ hb.2 (H _ _ _ hb.1)
theorem Dn {A:SV→aj→Prop} {ws:Array Value} {a:Int} {Q:Int→Prop} {fs:List av} {m:aj} (H:∀ h,Q h→Good Tryz.prog A 0 (FO ws a h) (FP ws a h)) (hb:FQ ws a Q fs m):Good Tryz.prog A 0 fs m:=by
 unfold FQ at hb
 iterate 3 (split at hb;rotate_left;exact hb.elim)
 exact Good.c_ hb.2 (H _ hb.1)
set_option maxRecDepth 100000
theorem US (ws:Array Value) (Q:Int→Prop):(run rj 1000 0 [a_ 36 Tryz.f36.ntmps [bg ws] (Tryz.f36.body.getD .skip)] aT).vc (fun _ _=>False) (FM ws Q) =
  (Q (0:Int)∧cN∧ak (aD 0 [(0,0)]) j5 j5∧Value.slice none 0 0=Value.slice none 0 0∧(0:Int)=(0:Int)∧51=51∧ws=ws∧True):=by kernel_rfl
theorem UT (ws:Array Value) (i:Int) (QZ:Int→Prop) (QS:Int→Nat→Array Value→Prop):(S7 ws i).vc FH (GP ws QZ QS) =
  ((decide (i<32)=true→((0≤i∧i<32)∧True)∧(aA .i64 ws (32+i.toNat*1)∧True)∧((aa ws (32+i.toNat*1)==1)=true→(64≤ws.size∧True)∧(WB (Array.extract ws 0 64)∧(0≤i∧i<32)∧True)∧QS (ah .add .i64 i 1) (1:Nat) #[Value.int .i64 (cW (i.toNat) (cZ (Array.extract ws 0 64) (i.toNat)))]∧cN∧ak (aD 0 [(0,0),(1,2)]) j5 j5∧(1:Nat)=1∧ah .add .i64 i 1=ah .add .i64 i 1∧51=51∧ws=ws∧3=3∧#[Value.int .i64 (cW (i.toNat) (cZ (Array.extract ws 0 64) (i.toNat)))]=#[Value.int .i64 (cW (i.toNat) (cZ (Array.extract ws 0 64) (i.toNat)))]∧True)∧((aa ws (32+i.toNat*1)==1)=false→QZ (ah .add .i64 i 1)∧cN∧ak (aD 0 [(0,0)]) j5 j5∧Value.slice none 0 0=Value.slice none 0 0∧ah .add .i64 i 1=ah .add .i64 i 1∧51=51∧ws=ws∧True))∧(decide (i<32)=false→Value.slice none 0 0=Value.slice none 0 0∧True)):=by kernel_rfl
theorem qzF (ws:Array Value) (i:Int) (kF:Nat) (cj:Array Value) (QZ:Int→Prop) (QS:Int→Nat→Array Value→Prop):(S7 ws i).vc (dL kF cj 3) (GP ws QZ QS) =
  ((decide (i<32)=true→((0≤i∧i<32)∧True)∧(aA .i64 ws (32+i.toNat*1)∧True)∧((aa ws (32+i.toNat*1)==1)=true→(64≤ws.size∧True)∧(WB (Array.extract ws 0 64)∧(0≤i∧i<32)∧True)∧QS (ah .add .i64 i 1) (1:Nat) #[Value.int .i64 (cW (i.toNat) (cZ (Array.extract ws 0 64) (i.toNat)))]∧cN∧ak (aD 0 [(0,0),(1,2)]) j5 j5∧(1:Nat)=1∧ah .add .i64 i 1=ah .add .i64 i 1∧51=51∧ws=ws∧3=3∧#[Value.int .i64 (cW (i.toNat) (cZ (Array.extract ws 0 64) (i.toNat)))]=#[Value.int .i64 (cW (i.toNat) (cZ (Array.extract ws 0 64) (i.toNat)))]∧True)∧((aa ws (32+i.toNat*1)==1)=false→QZ (ah .add .i64 i 1)∧cN∧ak (aD 0 [(0,0)]) j5 j5∧Value.slice none 0 0=Value.slice none 0 0∧ah .add .i64 i 1=ah .add .i64 i 1∧51=51∧ws=ws∧True))∧(decide (i<32)=false→False)):=by kernel_rfl
theorem UU (ws:Array Value) (i:Int) (k:Nat) (cs:Array Value) (kF:Nat) (cj:Array Value) (QS:Int→Nat→Array Value→Prop):(acE ws i k cs).vc (dL kF cj 3) (FN ws QS) =
  ((decide (i<32)=true→((0≤i∧i<32)∧True)∧(aA .i64 ws (32+i.toNat*1)∧True)∧((aa ws (32+i.toNat*1)==1)=true→(64≤ws.size∧True)∧(WB (Array.extract ws 0 64)∧(0≤i∧i<32)∧True)∧(((k+1)*8≤140737488355328∧k+1≤140737488355328)∧k*1=cs.size∧True)∧QS (ah .add .i64 i 1) (k+1) (cs++#[Value.int .i64 (cW (i.toNat) (cZ (Array.extract ws 0 64) (i.toNat)))])∧cN∧ak (aD 0 [(0,0),(1,3)]) j5 j5∧k+1=k+1∧ah .add .i64 i 1=ah .add .i64 i 1∧51=51∧ws=ws∧3=3∧cs++#[Value.int .i64 (cW (i.toNat) (cZ (Array.extract ws 0 64) (i.toNat)))]=cs++#[Value.int .i64 (cW (i.toNat) (cZ (Array.extract ws 0 64) (i.toNat)))]∧True)∧((aa ws (32+i.toNat*1)==1)=false→QS (ah .add .i64 i 1) k cs∧cN∧ak (aD 0 [(0,0),(1,1)]) j5 j5∧k=k∧ah .add .i64 i 1=ah .add .i64 i 1∧51=51∧ws=ws∧3=3∧cs=cs∧True))∧(decide (i<32)=false→kF=k∧3=3∧cj=cs∧True)):=by kernel_rfl
theorem ad7 (ws:Array Value) (a h:Int) (Q:Int→Prop):(run rj 1000 0 [a_ 67 Tryz.f67.ntmps [bg ws,i64 (.o a),i64 (.o h)] (Tryz.f67.body.getD .skip)] aT).vc (fun _ _=>False) (FQ ws a Q) =
  (Q h∧cN∧ak (aD 0 [(0,0)]) ux ux∧a=a∧h=h∧51=51∧ws=ws∧True):=by kernel_rfl
theorem L6 (ws:Array Value) (a h:Int) (o:Bool) (Q:Int→Prop):(acF ws a h).vc (bM 0 [] (sB (.o o)) aT) (FQ ws a Q) =
  (((h != 0)=true→(64≤ws.size∧True)∧(WB (Array.extract ws 0 64)∧True)∧((0≤aQ (Array.extract ws 0 64) h∧aQ (Array.extract ws 0 64) h<32)∧True)∧(aA .i64 ws (64+(aQ (Array.extract ws 0 64) h).toNat*12)∧True)∧((aa ws (64+(aQ (Array.extract ws 0 64) h).toNat*12)==a)=true→o=(a != 0)∧True)∧((aa ws (64+(aQ (Array.extract ws 0 64) h).toNat*12)==a)=false→Q (aa ws (64+(aQ (Array.extract ws 0 64) h).toNat*12))∧cN∧ak (aD 0 [(0,0)]) ux ux∧a=a∧aa ws (64+(aQ (Array.extract ws 0 64) h).toNat*12)=aa ws (64+(aQ (Array.extract ws 0 64) h).toNat*12)∧51=51∧ws=ws∧True))∧((h != 0)=false→o=false∧True)):=by kernel_rfl
theorem dp0 (ts:Array Value) (n:Nat) (ws:Array Value) (h o:Int):(run (Nb ts n) 1000 0 [a_ 71 Tryz.f71.ntmps [bg ws,i64 (.o h)] (Tryz.f71.body.getD .skip)] aT).vc (bM 0 [] (i64 (.o o)) aT) (fun _ _=>False) =
  ((ws.size=448∧True)∧(SW ts ws∧aM ts∧True)∧((!aB ts h)=true→o=0∧True)∧((!aB ts h)=false→(ws.size=448∧True)∧(ws.size=448∧True)∧(SW ts ws∧aM ts∧True)∧(SW ts ws∧ay ts∧aY ts (aG ts h)<n∧True)∧o=ah .add .i64 (1:Int) (↑(aY ts (aG ts h)):Int)∧True)):=by kernel_rfl
theorem ro0 (ts:Array Value) (n:Nat) (ws:Array Value) (h o:Int):(run (Nb ts n) 1000 0 [a_ 43 Tryz.f43.ntmps [bg ws,i64 (.o h)] (Tryz.f43.body.getD .skip)] aT).vc (bM 0 [] (i64 (.o o)) aT) (fun _ _=>False) =
  ((ws.size=448∧True)∧(SW ts ws∧aM ts∧True)∧((aB ts h==true)=true→(ws.size=448∧True)∧(SW ts ws∧aM ts∧True)∧((aG ts h != 0)=true→(ws.size=448∧True)∧(ws.size=448∧True)∧(SW ts ws∧aM ts∧True)∧(SW ts ws∧ay ts∧aY ts (aG ts h)<n∧True)∧o=aO ts (aG ts h)∧True)∧((aG ts h != 0)=false→(ws.size=448∧True)∧(SW ts ws∧aM ts∧True)∧(aB ts h=true→o=h∧True)∧(aB ts h=false→o=0∧True)))∧((aB ts h==true)=false→(ws.size=448∧True)∧(SW ts ws∧aM ts∧True)∧(aB ts h=true→o=h∧True)∧(aB ts h=false→o=0∧True))):=by kernel_rfl
set_option linter.unusedVariables false
theorem Il:∀ g l m t,uu g l m=some t→aq E0 g l m t:=fun g l m t h=>by
 unfold uu at h
 split at h
 ·rename_i ws x;cases h
  exact aq.n1 (Oz x.den m)
 ·rename_i ws;cases h
  exact Oc m
 ·exact oC _ _ _ _ h
theorem nM:bf rj:=bf.with aU _ _ Il
theorem Po (ts:Array Value):∀ g l m t,Ec ts g l m=some t→aq E0 g l m t:=by
 intro g l m t h
 unfold Ec at h
 split at h
 ·rename_i ws x;cases h
  exact aq.n1 (OC x.den m)
 ·rename_i ws x;cases h
  exact aq.n1 (X5 x.den m)
 ·rename_i ws x;cases h
  exact aq.n1 (Zi x.den m)
 ·exact Il _ _ _ _ h
theorem tF (l:List Int):(aE l).size=l.length:=by unfold aE;rw [List.size_toArray,List.length_map]
theorem Ie (l:List Int) (x:Int):aE (l++[x])=aE l++#[.int .i64 x]:=by unfold aE;simp
theorem Ig (x:Int):aE [x]=#[.int .i64 x]:=rfl
theorem fj {l:List Int} {i:Nat} (hi:i<l.length):(aE l)[i]?=some (.int .i64 (l.getD i 0)):=by
 unfold aE
 rw [List.getElem?_toArray,List.getElem?_map,List.getD_eq_getElem?_getD,List.getElem?_eq_getElem hi]
 rfl
section
variable {ts ws:Array Value}
theorem Io {A:SV→aj→Prop} {QZ:Int→Prop} {QS:Int→Nat→Array Value→Prop} {fs:List av} {m:aj} (hz:∀ i,QZ i→Good Tryz.prog A 0 (yg ws i) (yh ws i)) (hs:∀ i k cs,QS i k cs→Good Tryz.prog A 0 (BH ws i k cs) (BI ws i k cs)) (hb:GP ws QZ QS fs m):Good Tryz.prog A 0 fs m:=by
 unfold GP at hb
 split at hb
 ·split at hb
  ·exact Jc hs hb
  ·exact Jb hz hb
 ·exact hb.elim
theorem acG (w:SW ts ws) (hb:aM ts):∀ (n i:Nat),i+n=32→Good Tryz.prog (dL (af ts).length (aE (af ts)) 3) 0 (BH ws (i:Int) (fJ (aF ts) i).length (aE (fJ (aF ts) i))) (BI ws (i:Int) (fJ (aF ts) i).length (aE (fJ (aF ts) i))):=by
 have hz:=w.sz
 have bK:(64:Nat)≤448:=by decide
 have wb:=w.wb hb
 intro n
 induction n with
 | zero =>
  intro i hi
  obtain rfl:i=32:=by omega
  refine bD nM 1000 (UU ws ((32:Nat):Int) _ _ (af ts).length (aE (af ts)) (fun _ _ _=>False)) ?_ (fun _ _ h=>h) (fun fs m hb=>Jc (fun _ _ _ h=>h.elim) hb)
  have d:decide (((32:Nat):Int)<32)=false:=rfl
  simp only [d,af,d_,q6]
 | succ n ih =>
  intro i hi
  have hi':i<32:=by omega
  refine bD nM 1000 (UU ws (i:Int) _ _ (af ts).length (aE (af ts)) (fun i' k' c'=>i'=((i+1:Nat):Int)∧k'=(fJ (aF ts) (i+1)).length∧c'=aE (fJ (aF ts) (i+1)))) ?_ (fun _ _ h=>h) (fun fs m hb=>Jc (fun i' k' c' ⟨e1,e2,e3⟩=>by rw [e1,e2,e3];exact ih (i+1) (by omega)) hb)
  have y0:0≤(i:Int):=by omega
  have y1:(i:Int)<32:=by omega
  have d:decide ((i:Int)<32)=true:=decide_eq_true y1
  have ei:ah .add .i64 (i:Int) 1=((i+1:Nat):Int):=by rw [dn,cC (by omega) (by omega)];omega
  have s1:=bw (w.s i hi')
  have s2:=bI (w.s i hi')
  have s3:=w.gn hi'
  have hle:=Dj (bs:=aF ts) i
  have z1:((fJ (aF ts) i).length+1)*8≤140737488355328∧(fJ (aF ts) i).length+1≤140737488355328:=⟨by omega,by omega⟩
  by_cases c:cB (aF ts) i=1
  ·have c1:(cB (aF ts) i==1)=true:=beq_iff_eq.2 c
   simp only [d,ei,y0,y1,s1,s2,s3,z1,hz,bK,wb,c,c1,tF,Ie,mu,if_true,List.length_append,List.length_cons,List.length_nil,beq_self_eq_true,decide_true,tK,zC,q7,q6]
  ·have c1:(cB (aF ts) i==1)=false:=beq_eq_false_iff_ne.2 c
   simp only [Int.toNat_natCast,Nat.mul_one,d,ei,y0,y1,s1,s2,hz,bK,wb,c1,mu,if_neg c,decide_true,tK,zC,q6]
theorem ad8 (w:SW ts ws) (hb:aM ts) (hne:af ts≠[]):∀ (n i:Nat),i+n=32→fJ (aF ts) i=[]→Good Tryz.prog (dL (af ts).length (aE (af ts)) 3) 0 (yg ws (i:Int)) (yh ws (i:Int)):=by
 have hz:=w.sz
 have bK:(64:Nat)≤448:=by decide
 have wb:=w.wb hb
 intro n
 induction n with
 | zero =>
  intro i hi he
  obtain rfl:i=32:=by omega
  exact absurd he hne
 | succ n ih =>
  intro i hi he
  have hi':i<32:=by omega
  refine bD nM 1000 (qzF ws (i:Int) (af ts).length (aE (af ts)) (fun i'=>i'=((i+1:Nat):Int)∧fJ (aF ts) (i+1)=[]) (fun i' k' c'=>i'=((i+1:Nat):Int)∧k'=(fJ (aF ts) (i+1)).length∧c'=aE (fJ (aF ts) (i+1)))) ?_ (fun _ _ h=>h) (fun fs m hb'=>Io (fun i' ⟨e1,e2⟩=>by rw [e1];exact ih (i+1) (by omega) e2) (fun i' k' c' ⟨e1,e2,e3⟩=>by rw [e1,e2,e3];exact acG w hb n (i+1) (by omega)) hb')
  have y0:0≤(i:Int):=by omega
  have y1:(i:Int)<32:=by omega
  have d:decide ((i:Int)<32)=true:=decide_eq_true y1
  have ei:ah .add .i64 (i:Int) 1=((i+1:Nat):Int):=by rw [dn,cC (by omega) (by omega)];omega
  have s1:=bw (w.s i hi')
  have s2:=bI (w.s i hi')
  have s3:=w.gn hi'
  by_cases c:cB (aF ts) i=1
  ·have c1:(cB (aF ts) i==1)=true:=beq_iff_eq.2 c
   simp only [d,ei,y0,y1,s1,s2,s3,hz,bK,wb,c,c1,he,mu,if_true,List.nil_append,List.length_cons,List.length_nil,beq_self_eq_true,decide_true,tK,zC,q7,q6]
   rfl
  ·have c1:(cB (aF ts) i==1)=false:=beq_eq_false_iff_ne.2 c
   simp only [Int.toNat_natCast,Nat.mul_one,d,ei,y0,y1,s1,s2,hz,bK,wb,c1,he,mu,if_neg c,decide_true,tK,zC,q6]
theorem acH (w:SW ts ws) (hb:aM ts) (hne:af ts=[]):∀ (n i:Nat),i+n=32→Good Tryz.prog FH 0 (yg ws (i:Int)) (yh ws (i:Int)):=by
 have hz:=w.sz
 have bK:(64:Nat)≤448:=by decide
 have wb:=w.wb hb
 intro n
 induction n with
 | zero =>
  intro i hi
  obtain rfl:i=32:=by omega
  refine bD nM 1000 (UT ws ((32:Nat):Int) (fun _=>False) (fun _ _ _=>False)) ?_ (fun _ _ h=>h) (fun fs m hb=>Io (fun _ h=>h.elim) (fun _ _ _ h=>h.elim) hb)
  have d:decide (((32:Nat):Int)<32)=false:=rfl
  simp only [d,q6]
 | succ n ih =>
  intro i hi
  have hi':i<32:=by omega
  refine bD nM 1000 (UT ws (i:Int) (fun i'=>i'=((i+1:Nat):Int)) (fun _ _ _=>False)) ?_ (fun _ _ h=>h) (fun fs m hb'=>Io (fun i' e1=>by rw [e1];exact ih (i+1) (by omega)) (fun _ _ _ h=>h.elim) hb')
  have y0:0≤(i:Int):=by omega
  have y1:(i:Int)<32:=by omega
  have d:decide ((i:Int)<32)=true:=decide_eq_true y1
  have ei:ah .add .i64 (i:Int) 1=((i+1:Nat):Int):=by rw [dn,cC (by omega) (by omega)];omega
  have s1:=bw (w.s i hi')
  have s2:=bI (w.s i hi')
  have he:=Pk (aF ts) (i:=i+1) (by omega) hne
  have c:¬ cB (aF ts) i=1:=by
   intro c
   rw [mu,if_pos c] at he
   simp at he
  have c1:(cB (aF ts) i==1)=false:=beq_eq_false_iff_ne.2 c
  simp only [Int.toNat_natCast,Nat.mul_one,d,ei,y0,y1,s1,s2,hz,bK,wb,c1,decide_true,tK,zC,q6]
theorem XS (m:aj):aq E0 36 [bg ws] m (.need [SW ts ws,aM ts] (mP (af ts) m)):=by
 refine aq.asked fun hq=>?_
 have w:SW ts ws:=hq _ (by simp)
 have hb:aM ts:=hq _ (by simp)
 refine aq.two (fun h=>?_) (fun h=>?_)
 ·have he:af ts=[]:=List.eq_nil_of_length_eq_zero (of_decide_eq_true h)
  refine (show aq E0 36 [bg ws] m (bu [] _) from aq.pure aU (by kernel_rfl:E0.fn 36=some Tryz.f36) (by kernel_rfl:Tryz.f36.body=some (Tryz.f36.body.getD .skip)) (by kernel_rfl) (by kernel_rfl) fun hq=>?_)
  refine (Good.ret (pL:=aT) [] (bA nM 1000 (US ws (fun i=>i=((0:Nat):Int))) ?_ (fun s m h=>h.elim) fun fs m h=>Jb (fun i e=>by rw [e];exact acH w hb he 32 0 (by omega)) h)).mono fun _ _ h=>h.1
  simp only [and_true,true_and,tK,lz]
  rfl
 ·have he:af ts≠[]:=fun e=>by
   have:=of_decide_eq_false h
   rw [e] at this
   exact this rfl
  refine (show aq E0 36 [bg ws] m (bu [] _) from aq.fresh aU (by kernel_rfl:E0.fn 36=some Tryz.f36) (by kernel_rfl:Tryz.f36.body=some (Tryz.f36.body.getD .skip)) (by kernel_rfl) rfl fun _=>?_)
  refine Good.ni ((bA nM 1000 (US ws (fun i=>i=((0:Nat):Int))) ?_ (fun s m h=>h.elim) fun fs m h=>Jb (A:=dL (af ts).length (aE (af ts)) 3) (fun i e=>by rw [e];exact ad8 w hb he 32 0 (by omega) rfl) h).mono fun s m h=>?_)
  ·simp only [and_true,true_and,tK,lz]
   rfl
  ·unfold dL at h
   split at h
   ·exact ⟨_,h⟩
   ·exact h.elim
def hH (ts:Array Value) (a h:Int):Bool:=decide (a∈cm (aG ts) (aG ts h))
theorem TT:aG ts 0=0:=by
 have g:aB ts 0=false:=by
  show bF (aF ts) 0=false
  unfold bF gV
  rw [decide_eq_false (by omega)];rfl
 unfold aG
 rw [g]
 rfl
theorem AE (hf:ay ts) {x:Int} (hx:x∈af ts):aG ts x=0∨aG ts x∈af ts:=hf.fo.cl x hx
theorem acI (w:SW ts ws) (hf:ay ts) (a:Int):∀ h,h=0∨h∈af ts→Good Tryz.prog (bM 0 [] (sB (.o (hH ts a h))) aT) 0 (FO ws a h) (FP ws a h):=by
 have hb:=hf.ok
 have hz:=w.sz
 have bK:(64:Nat)≤448:=by decide
 have wb:=w.wb hb
 refine jj hf.fo ?_ ?_
 ·refine bD nM 1000 (L6 ws a 0 (hH ts a 0) (fun _=>False)) ?_ (fun _ _ h=>h) (fun fs m hb=>Dn (fun _ h=>h.elim) hb)
  have d:((0:Int) != 0)=false:=rfl
  have e:hH ts a 0=false:=by unfold hH;rw [TT,fZ];rfl
  simp only [d,e,q6]
 ·intro h hx ih
  have hg:=(bU hb).1 hx
  have h0:(h != 0)=true:=bne_iff_ne.2 (hf.fo.nz h hx)
  have es:=w.slot hb h
  rw [if_pos hg] at es
  have gS:=(dX hb hg).2.2.1
  have y0:(0:Int)≤(sl h:Int):=by omega
  have y1:(sl h:Int)<32:=by omega
  have c0:ws[64+sl h*12]?=some (.int .i64 (aG ts h)):=w.cell hb hg (j:=0) (by decide)
  have i0:=bw c0
  have i1:=bI c0
  by_cases c:aG ts h=a
  ·refine bD nM 1000 (L6 ws a h (hH ts a h) (fun _=>False)) ?_ (fun _ _ h=>h) (fun fs m hb=>Dn (fun _ h=>h.elim) hb)
   have c1:(aG ts h==a)=true:=beq_iff_eq.2 c
   have e:hH ts a h=(a != 0):=by
    unfold hH
    rw [c]
    rcases AE hf hx with k | k
    ·rw [← c,k,fZ];rfl
    ·rw [c] at k
     rw [fO hf.fo k,decide_eq_true (List.mem_cons_self ..)]
     exact (bne_iff_ne.2 (hf.fo.nz a k)).symm
   simp only [Int.toNat_natCast,h0,hz,bK,wb,es,y0,y1,i0,i1,c1,e,q6]
  ·have e:hH ts a h=hH ts a (aG ts h):=by
    unfold hH
    rcases AE hf hx with k | k
    ·rw [k,TT]
    ·rw [fO hf.fo k]
     by_cases q:a∈cm (aG ts) (aG ts (aG ts h))
     ·rw [decide_eq_true q,decide_eq_true (List.mem_cons_of_mem _ q)]
     ·rw [decide_eq_false q,decide_eq_false (fun r=>(List.mem_cons.1 r).elim (fun r=>c r.symm) q)]
   rw [e]
   refine bD nM 1000 (L6 ws a h (hH ts a (aG ts h)) (fun h'=>h'=aG ts h)) ?_ (fun _ _ h=>h) (fun fs m hb=>Dn (fun h' e=>by rw [e];exact ih) hb)
   have c1:(aG ts h==a)=false:=beq_eq_false_iff_ne.2 c
   simp only [Int.toNat_natCast,h0,hz,bK,wb,es,y0,y1,i0,i1,c1,Pu,q6]
theorem Wk (a h:Int) (m:aj):aq E0 67 [bg ws,i64 (.o a),i64 (.o h)] m (bu [SW ts ws,ay ts,h=0∨aB ts h=true] (.ret (sB (.o (hH ts a h))) m)):=by
 refine aq.pure aU (by kernel_rfl:E0.fn 67=some Tryz.f67) (by kernel_rfl:Tryz.f67.body=some (Tryz.f67.body.getD .skip)) (by kernel_rfl) (by kernel_rfl) fun hq=>?_
 have w:SW ts ws:=hq _ (by simp)
 have hf:ay ts:=hq _ (by simp)
 have hh:h=0∨aB ts h=true:=hq _ (by simp)
 refine (Good.ret (pL:=aT) [] (bA nM 1000 (ad7 ws a h (fun h'=>h'=h)) ?_ (fun s m h=>h.elim) fun fs m hm=>Dn (fun h' e=>by rw [e];exact acI w hf a h (hh.imp id (bU hf.ok).2)) hm)).mono fun _ _ h=>h.1
 simp only [and_true,true_and,Pu,lz]
theorem DH (hf:ay ts) {x:Int} (hg:aB ts x=true):aY ts x=aY ts (aG ts x)+1:=by
 have hx:=(bU hf.ok).2 hg
 have e1:aY ts x=dx (aG ts) x:=if_pos hg
 have e2:aY ts (aG ts x)=dx (aG ts) (aG ts x):=by
  rcases AE hf hx with k | k
  ·rw [k,wD]
   unfold aY
   split
   ·exact wD
   ·rfl
  ·exact if_pos ((bU hf.ok).1 k)
 rw [e1,e2]
 exact kr hf.fo hx
theorem aa2 (hf:ay ts) {x:Int} (hg:aB ts x=true):aO ts x=if aG ts x=0 then x else aO ts (aG ts x):=by
 have hx:=(bU hf.ok).2 hg
 have e1:aO ts x=gE (aG ts) x:=if_pos hg
 split
 ·rename_i c;rw [e1];exact (zP hf.fo hx).2 c
 ·rename_i c
  have k:=(AE hf hx).resolve_left c
  have e2:aO ts (aG ts x)=gE (aG ts) (aG ts x):=if_pos ((bU hf.ok).1 k)
  rw [e1,e2]
  refine (acJ hf.fo x (.inr hx) ?_).symm
  rw [fO hf.fo hx,fO hf.fo k]
  exact List.mem_cons_of_mem _ (List.mem_cons_self ..)
theorem levels (ts:Array Value):∀ n:Nat,(∀ (ws:Array Value) (h:Int) (m:aj),aq E0 71 [bg ws,i64 (.o h)] m (.need [SW ts ws,ay ts,aY ts h<n] (.ret (i64 (.o (aY ts h:Int))) m)))∧(∀ (ws:Array Value) (h:Int) (m:aj),aq E0 43 [bg ws,i64 (.o h)] m (.need [SW ts ws,ay ts,aY ts h<n] (.ret (i64 (.o (aO ts h))) m))):=by
 intro n
 induction n with
 | zero =>
  refine ⟨fun ws h m=>aq.asked fun hq=>?_,fun ws h m=>aq.asked fun hq=>?_⟩
  ·have:aY ts h<0:=hq _ (by simp)
   exact absurd this (Nat.not_lt_zero _)
  ·have:aY ts h<0:=hq _ (by simp)
   exact absurd this (Nat.not_lt_zero _)
 | succ n ih =>
  have hE:bf (Nb ts n):=bf.with aU _ _ fun g l m t h=>by
   unfold S6 at h
   split at h
   ·rename_i ws x;cases h
    exact aq.n1 (ih.1 ws x.den m)
   ·rename_i ws x;cases h
    exact aq.n1 (ih.2 ws x.den m)
   ·exact Po ts _ _ _ _ h
  refine ⟨fun ws h m=>?_,fun ws h m=>?_⟩
  ·refine aq.asked fun hq=>?_
   refine (show aq E0 71 [bg ws,i64 (.o h)] m (bu [] _) from aq.pure aU (by kernel_rfl:E0.fn 71=some Tryz.f71) (by kernel_rfl:Tryz.f71.body=some (Tryz.f71.body.getD .skip)) (by kernel_rfl) (by kernel_rfl) fun _=>?_)
   have w:SW ts ws:=hq _ (by simp)
   have hf:ay ts:=hq _ (by simp)
   have hd:aY ts h<n+1:=hq _ (by simp)
   refine (Good.ret [] (bA hE 1000 (dp0 ts n ws h (aY ts h:Int)) ?_ (fun s m h=>h) fun _ _ h=>h.elim)).mono fun _ _ h=>h.1
   have hz:=w.sz
   have hb:=hf.ok
   cases hg:aB ts h with
   | false =>
    have e:aY ts h=0:=if_neg (by rw [hg];decide)
    simp only [hz,w,hb,hg,e,Bool.not_false,q6]
    rfl
   | true =>
    have e:=DH hf hg
    have h13:=tR hf h
    have e2:ah .add .i64 1 (aY ts (aG ts h):Int)=(aY ts h:Int):=by rw [dn,cC (by omega) (by omega)];omega
    have e3:aY ts (aG ts h)<n:=by omega
    simp only [hz,w,hb,hf,hg,e2,e3,Bool.not_true,q6]
  ·refine aq.asked fun hq=>?_
   refine (show aq E0 43 [bg ws,i64 (.o h)] m (bu [] _) from aq.pure aU (by kernel_rfl:E0.fn 43=some Tryz.f43) (by kernel_rfl:Tryz.f43.body=some (Tryz.f43.body.getD .skip)) (by kernel_rfl) (by kernel_rfl) fun _=>?_)
   have w:SW ts ws:=hq _ (by simp)
   have hf:ay ts:=hq _ (by simp)
   have hd:aY ts h<n+1:=hq _ (by simp)
   refine (Good.ret [] (bA hE 1000 (ro0 ts n ws h (aO ts h)) ?_ (fun s m h=>h) fun _ _ h=>h.elim)).mono fun _ _ h=>h.1
   have hz:=w.sz
   have hb:=hf.ok
   cases hg:aB ts h with
   | false =>
    have e:aO ts h=0:=if_neg (by rw [hg];decide)
    simp only [hz,w,hb,hg,e,dJ,cF,Bool.not_false,q6]
   | true =>
    have e:=DH hf hg
    have e3:aY ts (aG ts h)<n:=by omega
    have er:=aa2 hf hg
    by_cases c:aG ts h=0
    ·have c1:(aG ts h != 0)=false:=by rw [c];rfl
     rw [if_pos c] at er
     simp only [hz,w,hb,hf,hg,er,c1,dJ,cF,Bool.not_true,q6]
    ·have c1:(aG ts h != 0)=true:=bne_iff_ne.2 c
     rw [if_neg c] at er
     simp only [hz,w,hb,hf,hg,er,c1,e3,dJ,cF,Bool.not_true,q6]
theorem Oa (h:Int) (m:aj):aq E0 71 [bg ws,i64 (.o h)] m (.need [SW ts ws,ay ts] (.ret (i64 (.o (aY ts h:Int))) m)):=by
 intro A hs
 refine (levels ts (aY ts h+1)).1 ws h m A ⟨fun p hp=>?_,hs.2⟩
 simp only [List.mem_cons,List.not_mem_nil,or_false] at hp
 rcases hp with rfl | rfl | rfl
 ·exact hs.1 _ (by simp)
 ·exact hs.1 _ (by simp)
 ·exact Nat.lt_succ_self _
theorem WI (h:Int) (m:aj):aq E0 43 [bg ws,i64 (.o h)] m (.need [SW ts ws,ay ts] (.ret (i64 (.o (aO ts h))) m)):=by
 intro A hs
 refine (levels ts (aY ts h+1)).2 ws h m A ⟨fun p hp=>?_,hs.2⟩
 simp only [List.mem_cons,List.not_mem_nil,or_false] at hp
 rcases hp with rfl | rfl | rfl
 ·exact hs.1 _ (by simp)
 ·exact hs.1 _ (by simp)
 ·exact Nat.lt_succ_self _
end
set_option linter.unusedVariables false
noncomputable def ur (ts:Array Value) (g:FuncId) (l:List SV) (m:aj):Option Tree:=match g,l with
 | 36,[.s (.agg (.op ws))]=>some (.need [SW ts ws,aM ts] (mP (af ts) m))
 | 67,[.s (.agg (.op ws)),.s (.c (.f (.int .i64 a))),.s (.c (.f (.int .i64 h)))]=>some (.need [SW ts ws,ay ts,h.den=0∨aB ts h.den=true] (.ret (sB (.o (hH ts a.den h.den))) m))
 | 71,[.s (.agg (.op ws)),.s (.c (.f (.int .i64 h)))]=>some (.need [SW ts ws,ay ts] (.ret (i64 (.o (aY ts h.den:Int))) m))
 | 43,[.s (.agg (.op ws)),.s (.c (.f (.int .i64 h)))]=>some (.need [SW ts ws,ay ts] (.ret (i64 (.o (aO ts h.den))) m))
 | g,l=>Ec ts g l m
noncomputable def s9 (ts:Array Value):Env:=⟨Tryz.prog,dg,ur ts,dy [84*1000+4]⟩
noncomputable def TH (ts:Array Value):Env:=⟨Tryz.prog,dg,ur ts,dy [84*1000+6]⟩
noncomputable def iI:List bh:=cY Tryz.f84 4
noncomputable def xh (ws:Array Value) (h:Int) (n:Nat) (rs:Array Value) (i:Int):List av:=[dw 84 Tryz.f84 [(1,i64 (.o h)),(2,ptr 0 (.l 0)),(5,jd),(6,fK 1 n),(7,i64 (.o i))] iI]
noncomputable def xj (ws:Array Value) (h:Int) (n:Nat) (rs:Array Value) (i:Int):aj:=cD 2 [(0,⟨.op ws,51,true⟩),(1,⟨.pop rs,3,true⟩)]
def Ed (ws:Array Value) (h:Int) (n:Nat) (rs:Array Value) (Q:Int→Prop) (fs:List av) (m:aj):Prop:=(match b9 fs 0 with | some f0=>(match dh f0 7 with | some i=>(match aV f0 2 with | some p0=>(match fG f0 6 with | some p1=>Q i∧cV 0 [(0,p0),(1,p1)] (xh ws h n rs i) (xj ws h n rs i) fs m | none=>False) | none=>False) | none=>False) | none=>False)
noncomputable def Jz:List bh:=cY Tryz.f84 4
noncomputable def Au (ws:Array Value) (h:Int) (n:Nat) (rs:Array Value) (i:Int) (k:Nat) (cs:Array Value):List av:=[dw 84 Tryz.f84 [(1,i64 (.o h)),(2,ptr 0 (.l 0)),(5,fK 2 k),(6,fK 1 n),(7,i64 (.o i))] Jz]
noncomputable def Av (ws:Array Value) (h:Int) (n:Nat) (rs:Array Value) (i:Int) (k:Nat) (cs:Array Value):aj:=cD 3 [(0,⟨.op ws,51,true⟩),(1,⟨.pop rs,3,true⟩),(2,⟨.pop cs,3,true⟩)]
def Ee (ws:Array Value) (h:Int) (n:Nat) (rs:Array Value) (Q:Int→Nat→Array Value→Prop) (fs:List av) (m:aj):Prop:=(match b9 fs 0 with | some f0=>(match dh f0 7 with | some i=>(match aV f0 2 with | some p0=>(match fG f0 6 with | some p1=>(match fG f0 5 with | some p2=>(match qR f0 5 with | some k=>(match cO m p2 with | some cs=>Q i k cs∧cV 0 [(0,p0),(1,p1),(2,p2)] (Au ws h n rs i k cs) (Av ws h n rs i k cs) fs m | none=>False) | none=>False) | none=>False) | none=>False) | none=>False) | none=>False) | none=>False)
def FK (ws:Array Value) (h:Int) (n:Nat) (rs:Array Value) (QZ:Int→Prop) (QS:Int→Nat→Array Value→Prop) (fs:List av) (m:aj):Prop:=match fs with | f :: _=>(match f.tm.get 5 with | some (.s (.c (.f (.slice _ _ _ _))))=>Ee ws h n rs QS fs m | _=>Ed ws h n rs QZ fs m) | []=>False
noncomputable def acq (ts ws:Array Value) (h:Int):Tree:=run (s9 ts) 1000 0 [a_ 84 Tryz.f84.ntmps [bg ws,i64 (.o h)] (Tryz.f84.body.getD .skip)] aT
noncomputable def S4 (ts ws:Array Value) (h:Int) (n:Nat) (rs:Array Value) (i:Int):Tree:=stepT (s9 ts).go (run (s9 ts) 1000) 0 (xh ws h n rs i) (xj ws h n rs i)
noncomputable def acr (ts ws:Array Value) (h:Int) (n:Nat) (rs:Array Value) (i:Int) (k:Nat) (cs:Array Value):Tree:=stepT (s9 ts).go (run (s9 ts) 1000) 0 (Au ws h n rs i k cs) (Av ws h n rs i k cs)
theorem wu (r:Nat→Option Nat):ak r iI iI:=ak.it (by kernel_rfl)
theorem CF (r:Nat→Option Nat):ak r Jz Jz:=ak.it (by kernel_rfl)
theorem Ib {A:SV→aj→Prop} {ws:Array Value} {h:Int} {n:Nat} {rs:Array Value} {Q:Int→Prop} {fs:List av} {m:aj} (H:∀ i,Q i→Good Tryz.prog A 0 (xh ws h n rs i) (xj ws h n rs i)) (hb:Ed ws h n rs Q fs m):Good Tryz.prog A 0 fs m:=by
 unfold Ed at hb
 iterate 4 (split at hb;rotate_left;exact hb.elim)
 exact Good.c_ hb.2 (H _ hb.1)
theorem Ic {A:SV→aj→Prop} {ws:Array Value} {h:Int} {n:Nat} {rs:Array Value} {Q:Int→Nat→Array Value→Prop} {fs:List av} {m:aj} (H:∀ i k cs,Q i k cs→Good Tryz.prog A 0 (Au ws h n rs i k cs) (Av ws h n rs i k cs)) (hb:Ee ws h n rs Q fs m):Good Tryz.prog A 0 fs m:=by
 unfold Ee at hb
 iterate 7 (split at hb;rotate_left;exact hb.elim)
 exact Good.c_ hb.2 (H _ _ _ hb.1)
set_option maxRecDepth 100000
theorem adT (ts ws:Array Value) (a h:Int) (o:Bool):(run (s9 ts) 1000 0 [a_ 69 Tryz.f69.ntmps [bg ws,i64 (.o a),i64 (.o h)] (Tryz.f69.body.getD .skip)] aT).vc (bM 0 [] (sB (.o o)) aT) (fun _ _=>False) =
  ((ws.size=448∧True)∧(SW ts ws∧aM ts∧True)∧((aB ts a==true)=true→(ws.size=448∧True)∧(SW ts ws∧aM ts∧True)∧((aB ts h==true)=true→(((a==h)==false)=true→(ws.size=448∧True)∧(SW ts ws∧ay ts∧(h=(0:Int)∨aB ts h=true)∧True)∧o=hH ts a h∧True)∧(((a==h)==false)=false→o=true∧True))∧((aB ts h==true)=false→o=false∧True))∧((aB ts a==true)=false→o=false∧True)):=by kernel_rfl
theorem adU (ts ws:Array Value) (h:Int):(run (TH ts) 1000 0 [a_ 84 Tryz.f84.ntmps [bg ws,i64 (.o h)] (Tryz.f84.body.getD .skip)] aT).vc iS (fun _ _=>False) =
  ((ws.size=448∧True)∧(SW ts ws∧aM ts∧True)∧(decide ((af ts).length=0)=true→True)∧(decide ((af ts).length=0)=false→(decide ((0:Int)<(↑((af ts).length):Int))=true→False)∧(decide ((0:Int)<(↑((af ts).length):Int))=false→True))):=by kernel_rfl
theorem TI (ts ws:Array Value) (h:Int) (n:Nat) (rs:Array Value) (Q:Int→Prop):(acq ts ws h).vc (fun _ _=>False) (Ed ws h n rs Q) =
  ((ws.size=448∧True)∧(SW ts ws∧aM ts∧True)∧(decide ((af ts).length=0)=true→False)∧(decide ((af ts).length=0)=false→Q (0:Int)∧cN∧ak (aD 0 [(0,0),(1,1)]) iI iI∧h=h∧(0:Int)=(0:Int)∧Value.slice none 0 0=Value.slice none 0 0∧n=(af ts).length∧51=51∧ws=ws∧3=3∧rs=aE (af ts)∧True)):=by kernel_rfl
theorem TJ (ts ws:Array Value) (h:Int) (n:Nat) (rs:Array Value) (i:Int) (QZ:Int→Prop) (QS:Int→Nat→Array Value→Prop):(S4 ts ws h n rs i).vc iS (FK ws h n rs QZ QS) =
  ((decide (i<(↑n:Int))=true→(ws.size=448∧True)∧(SW ts ws∧aM ts∧True)∧((aB ts h==true)=true→(ws.size=448∧True)∧((0≤i∧i<(↑n:Int))∧True)∧(aA .i64 rs (0+i.toNat*1)∧True)∧(SW ts ws∧aM ts∧True)∧((aG ts (aa rs (0+i.toNat*1))==h)=true→((0≤i∧i<(↑n:Int))∧True)∧(aA .i64 rs (0+i.toNat*1)∧True)∧QS (ah .add .i64 i 1) (1:Nat) #[Value.int .i64 (aa rs (0+i.toNat*1))]∧cN∧ak (aD 0 [(0,0),(1,1),(2,3)]) iI iI∧h=h∧ah .add .i64 i 1=ah .add .i64 i 1∧(1:Nat)=1∧n=n∧51=51∧ws=ws∧3=3∧rs=rs∧3=3∧#[Value.int .i64 (aa rs (0+i.toNat*1))]=#[Value.int .i64 (aa rs (0+i.toNat*1))]∧True)∧((aG ts (aa rs (0+i.toNat*1))==h)=false→QZ (ah .add .i64 i 1)∧cN∧ak (aD 0 [(0,0),(1,1)]) iI iI∧h=h∧ah .add .i64 i 1=ah .add .i64 i 1∧Value.slice none 0 0=Value.slice none 0 0∧n=n∧51=51∧ws=ws∧3=3∧rs=rs∧True))∧((aB ts h==true)=false→QZ (ah .add .i64 i 1)∧cN∧ak (aD 0 [(0,0),(1,1)]) iI iI∧h=h∧ah .add .i64 i 1=ah .add .i64 i 1∧Value.slice none 0 0=Value.slice none 0 0∧n=n∧51=51∧ws=ws∧3=3∧rs=rs∧True))∧(decide (i<(↑n:Int))=false→True)):=by kernel_rfl
theorem adV (ts ws:Array Value) (h:Int) (n:Nat) (rs:Array Value) (i:Int) (kF:Nat) (cj:Array Value) (QZ:Int→Prop) (QS:Int→Nat→Array Value→Prop):(S4 ts ws h n rs i).vc (dL kF cj 3) (FK ws h n rs QZ QS) =
  ((decide (i<(↑n:Int))=true→(ws.size=448∧True)∧(SW ts ws∧aM ts∧True)∧((aB ts h==true)=true→(ws.size=448∧True)∧((0≤i∧i<(↑n:Int))∧True)∧(aA .i64 rs (0+i.toNat*1)∧True)∧(SW ts ws∧aM ts∧True)∧((aG ts (aa rs (0+i.toNat*1))==h)=true→((0≤i∧i<(↑n:Int))∧True)∧(aA .i64 rs (0+i.toNat*1)∧True)∧QS (ah .add .i64 i 1) (1:Nat) #[Value.int .i64 (aa rs (0+i.toNat*1))]∧cN∧ak (aD 0 [(0,0),(1,1),(2,3)]) iI iI∧h=h∧ah .add .i64 i 1=ah .add .i64 i 1∧(1:Nat)=1∧n=n∧51=51∧ws=ws∧3=3∧rs=rs∧3=3∧#[Value.int .i64 (aa rs (0+i.toNat*1))]=#[Value.int .i64 (aa rs (0+i.toNat*1))]∧True)∧((aG ts (aa rs (0+i.toNat*1))==h)=false→QZ (ah .add .i64 i 1)∧cN∧ak (aD 0 [(0,0),(1,1)]) iI iI∧h=h∧ah .add .i64 i 1=ah .add .i64 i 1∧Value.slice none 0 0=Value.slice none 0 0∧n=n∧51=51∧ws=ws∧3=3∧rs=rs∧True))∧((aB ts h==true)=false→QZ (ah .add .i64 i 1)∧cN∧ak (aD 0 [(0,0),(1,1)]) iI iI∧h=h∧ah .add .i64 i 1=ah .add .i64 i 1∧Value.slice none 0 0=Value.slice none 0 0∧n=n∧51=51∧ws=ws∧3=3∧rs=rs∧True))∧(decide (i<(↑n:Int))=false→False)):=by kernel_rfl
theorem TK (ts ws:Array Value) (h:Int) (n:Nat) (rs:Array Value) (i:Int) (k:Nat) (cs:Array Value) (kF:Nat) (cj:Array Value) (QS:Int→Nat→Array Value→Prop):(acr ts ws h n rs i k cs).vc (dL kF cj 3) (Ee ws h n rs QS) =
  ((decide (i<(↑n:Int))=true→(ws.size=448∧True)∧(SW ts ws∧aM ts∧True)∧((aB ts h==true)=true→(ws.size=448∧True)∧((0≤i∧i<(↑n:Int))∧True)∧(aA .i64 rs (0+i.toNat*1)∧True)∧(SW ts ws∧aM ts∧True)∧((aG ts (aa rs (0+i.toNat*1))==h)=true→((0≤i∧i<(↑n:Int))∧True)∧(aA .i64 rs (0+i.toNat*1)∧True)∧(((k+1)*8≤140737488355328∧k+1≤140737488355328)∧k*1=cs.size∧True)∧QS (ah .add .i64 i 1) (k+1) (cs++#[Value.int .i64 (aa rs (0+i.toNat*1))])∧cN∧ak (aD 0 [(0,0),(1,1),(2,4)]) iI iI∧h=h∧ah .add .i64 i 1=ah .add .i64 i 1∧k+1=k+1∧n=n∧51=51∧ws=ws∧3=3∧rs=rs∧3=3∧cs++#[Value.int .i64 (aa rs (0+i.toNat*1))]=cs++#[Value.int .i64 (aa rs (0+i.toNat*1))]∧True)∧((aG ts (aa rs (0+i.toNat*1))==h)=false→QS (ah .add .i64 i 1) k cs∧cN∧ak (aD 0 [(0,0),(1,1),(2,2)]) iI iI∧h=h∧ah .add .i64 i 1=ah .add .i64 i 1∧k=k∧n=n∧51=51∧ws=ws∧3=3∧rs=rs∧3=3∧cs=cs∧True))∧((aB ts h==true)=false→QS (ah .add .i64 i 1) k cs∧cN∧ak (aD 0 [(0,0),(1,1),(2,2)]) iI iI∧h=h∧ah .add .i64 i 1=ah .add .i64 i 1∧k=k∧n=n∧51=51∧ws=ws∧3=3∧rs=rs∧3=3∧cs=cs∧True))∧(decide (i<(↑n:Int))=false→kF=k∧3=3∧cj=cs∧True)):=by kernel_rfl
set_option linter.unusedVariables false
theorem zA (ts:Array Value):∀ g l m t,ur ts g l m=some t→aq E0 g l m t:=by
 intro g l m t h
 unfold ur at h
 split at h
 ·rename_i ws;cases h
  exact XS m
 ·rename_i ws a x;cases h
  exact aq.n2 (Wk a.den x.den m)
 ·rename_i ws x;cases h
  exact aq.n1 (Oa x.den m)
 ·rename_i ws x;cases h
  exact aq.n1 (WI x.den m)
 ·exact Po ts _ _ _ _ h
theorem qc (ts:Array Value):bf (s9 ts):=bf.with aU _ _ (zA ts)
theorem Zb (ts:Array Value):bf (TH ts):=bf.with aU _ _ (zA ts)
section
variable {ts ws:Array Value} {h:Int}
theorem RT (hf:ay ts) (a h:Int):fm ts a h=(aB ts a&&(aB ts h&&((a==h)||hH ts a h))):=by
 have hb:=hf.ok
 unfold fm hH
 cases hg:aB ts h with
 | false=>simp
 | true =>
  have hx:=(bU hb).2 hg
  rw [fO hf.fo hx]
  by_cases m:a∈h :: cm (aG ts) (aG ts h)
  ·have ha:aB ts a=true:=(bU hb).1 (DB hf.fo h (.inr hx) a (by rw [fO hf.fo hx];exact m))
   rw [decide_eq_true m,ha]
   rcases List.mem_cons.1 m with e | e
   ·rw [beq_iff_eq.2 e];rfl
   ·rw [decide_eq_true e,Bool.or_true];rfl
  ·rw [decide_eq_false m]
   rw [List.mem_cons,not_or] at m
   rw [beq_eq_false_iff_ne.2 m.1,decide_eq_false m.2]
   simp
theorem Pp (a h:Int) (m:aj):aq E0 69 [bg ws,i64 (.o a),i64 (.o h)] m (bu [SW ts ws,ay ts] (.ret (sB (.o (fm ts a h))) m)):=by
 refine aq.pure aU (by kernel_rfl:E0.fn 69=some Tryz.f69) (by kernel_rfl:Tryz.f69.body=some (Tryz.f69.body.getD .skip)) (by kernel_rfl) (by kernel_rfl) fun hq=>?_
 have w:SW ts ws:=hq _ (by simp)
 have hf:ay ts:=hq _ (by simp)
 have hb:=hf.ok
 have hz:=w.sz
 refine (Good.ret [] (bA (qc ts) 1000 (adT ts ws a h (fm ts a h)) ?_ (fun s m h=>h) fun _ _ h=>h.elim)).mono fun _ _ h=>h.1
 rw [RT hf]
 cases ga:aB ts a <;> cases gh:aB ts h <;> cases e:(a==h)
 all_goals simp only [hz,w,hb,hf,ga,gh,e,Bool.true_and,Bool.false_and,Bool.and_true,Bool.and_false,Bool.true_or,Bool.false_or,or_true,q8,q6]
theorem HJ {n:Nat} {rs:Array Value} {A:SV→aj→Prop} {QZ:Int→Prop} {QS:Int→Nat→Array Value→Prop} {fs:List av} {m:aj} (hz:∀ i,QZ i→Good Tryz.prog A 0 (xh ws h n rs i) (xj ws h n rs i)) (hs:∀ i k cs,QS i k cs→Good Tryz.prog A 0 (Au ws h n rs i k cs) (Av ws h n rs i k cs)) (hb:FK ws h n rs QZ QS fs m):Good Tryz.prog A 0 fs m:=by
 unfold FK at hb
 split at hb
 ·split at hb
  ·exact Ic hs hb
  ·exact Ib hz hb
 ·exact hb.elim
theorem aaG (w:SW ts ws) (hb:aM ts) (hg:aB ts h=true):∀ (k i:Nat),i+k=(af ts).length→Good Tryz.prog (dL (cG ts h (af ts).length).length (aE (cG ts h (af ts).length)) 3) 0 (Au ws h (af ts).length (aE (af ts)) (i:Int) (cG ts h i).length (aE (cG ts h i))) (Av ws h (af ts).length (aE (af ts)) (i:Int) (cG ts h i).length (aE (cG ts h i))):=by
 have hz:=w.sz
 have hlen:=iw ts
 intro k
 induction k with
 | zero =>
  intro i hi
  obtain rfl:i=(af ts).length:=by omega
  refine bD (qc ts) 1000 (TK ts ws h _ _ _ _ _ (cG ts h (af ts).length).length (aE (cG ts h (af ts).length)) (fun _ _ _=>False)) ?_ (fun _ _ h=>h) (fun fs m hb=>Ic (fun _ _ _ h=>h.elim) hb)
  have d:decide (((af ts).length:Int)<((af ts).length:Int))=false:=decide_eq_false (by omega)
  simp only [d,q6]
 | succ k ih =>
  intro i hi
  refine bD (qc ts) 1000 (TK ts ws h _ _ (i:Int) _ _ (cG ts h (af ts).length).length (aE (cG ts h (af ts).length)) (fun i' k' c'=>i'=((i+1:Nat):Int)∧k'=(cG ts h (i+1)).length∧c'=aE (cG ts h (i+1)))) ?_ (fun _ _ h=>h) (fun fs m hb=>Ic (fun i' k' c' ⟨e1,e2,e3⟩=>by rw [e1,e2,e3];exact ih (i+1) (by omega)) hb)
  have hi':i<(af ts).length:=by omega
  have d:decide ((i:Int)<((af ts).length:Int))=true:=decide_eq_true (by omega)
  have ei:ah .add .i64 (i:Int) 1=((i+1:Nat):Int):=by rw [dn,cC (by omega) (by omega)];omega
  have g1:aA .i64 (aE (af ts)) i:=bw (fj hi')
  have g2:aa (aE (af ts)) i=(af ts).getD i 0:=bI (fj hi')
  have jo:0≤(i:Int):=by omega
  have jC:(i:Int)<((af ts).length:Int):=by omega
  have hl:(cG ts h i).length≤i:=RU i
  have je:(((cG ts h i).length+1)*8≤140737488355328∧(cG ts h i).length+1≤140737488355328):=⟨by omega,by omega⟩
  rw [tJ hi']
  cases c:(aG ts ((af ts).getD i 0)==h)
  all_goals
   simp only [d,ei,g1,g2,jo,jC,hz,w,hb,hg,je,c,dJ,cF,tF,Ie,List.length_append,List.length_cons,List.length_nil,if_true,if_false,decide_true,wu,CF,q7,q6]
theorem acs (w:SW ts ws) (hb:aM ts) (hg:aB ts h=true) (hne:cG ts h (af ts).length≠[]):∀ (k i:Nat),i+k=(af ts).length→cG ts h i=[]→Good Tryz.prog (dL (cG ts h (af ts).length).length (aE (cG ts h (af ts).length)) 3) 0 (xh ws h (af ts).length (aE (af ts)) (i:Int)) (xj ws h (af ts).length (aE (af ts)) (i:Int)):=by
 have hz:=w.sz
 have hlen:=iw ts
 intro k
 induction k with
 | zero =>
  intro i hi he
  obtain rfl:i=(af ts).length:=by omega
  exact absurd he hne
 | succ k ih =>
  intro i hi he
  refine bD (qc ts) 1000 (adV ts ws h _ _ (i:Int) (cG ts h (af ts).length).length (aE (cG ts h (af ts).length)) (fun i'=>i'=((i+1:Nat):Int)∧cG ts h (i+1)=[]) (fun i' k' c'=>i'=((i+1:Nat):Int)∧k'=(cG ts h (i+1)).length∧c'=aE (cG ts h (i+1)))) ?_ (fun _ _ h=>h) (fun fs m hb'=>HJ (fun i' ⟨e1,e2⟩=>by rw [e1];exact ih (i+1) (by omega) e2) (fun i' k' c' ⟨e1,e2,e3⟩=>by rw [e1,e2,e3];exact aaG w hb hg k (i+1) (by omega)) hb')
  have hi':i<(af ts).length:=by omega
  have d:decide ((i:Int)<((af ts).length:Int))=true:=decide_eq_true (by omega)
  have ei:ah .add .i64 (i:Int) 1=((i+1:Nat):Int):=by rw [dn,cC (by omega) (by omega)];omega
  have g1:aA .i64 (aE (af ts)) i:=bw (fj hi')
  have g2:aa (aE (af ts)) i=(af ts).getD i 0:=bI (fj hi')
  have jo:0≤(i:Int):=by omega
  have jC:(i:Int)<((af ts).length:Int):=by omega
  rw [tJ hi',he]
  cases c:(aG ts ((af ts).getD i 0)==h)
  all_goals
   simp only [d,ei,g1,g2,jo,jC,hz,w,hb,hg,c,dJ,cF,Ig,List.nil_append,List.length_cons,List.length_nil,if_true,if_false,decide_true,wu,CF,q7,q6]
theorem aaH (w:SW ts ws) (hb:aM ts) (hne:az ts h=[]):∀ (k i:Nat),i+k=(af ts).length→Good Tryz.prog iS 0 (xh ws h (af ts).length (aE (af ts)) (i:Int)) (xj ws h (af ts).length (aE (af ts)) (i:Int)):=by
 have hz:=w.sz
 have hlen:=iw ts
 intro k
 induction k with
 | zero =>
  intro i hi
  obtain rfl:i=(af ts).length:=by omega
  refine bD (qc ts) 1000 (TJ ts ws h _ _ _ (fun _=>False) (fun _ _ _=>False)) ?_ (fun _ _ h=>h) (fun fs m hb=>HJ (fun _ h=>h.elim) (fun _ _ _ h=>h.elim) hb)
  have d:decide (((af ts).length:Int)<((af ts).length:Int))=false:=decide_eq_false (by omega)
  simp only [d,q6]
 | succ k ih =>
  intro i hi
  refine bD (qc ts) 1000 (TJ ts ws h _ _ (i:Int) (fun i'=>i'=((i+1:Nat):Int)) (fun i' k' c'=>False)) ?_ (fun _ _ h=>h) (fun fs m hb'=>HJ (fun i' e1=>by rw [e1];exact ih (i+1) (by omega)) (fun _ _ _ h=>h.elim) hb')
  have hi':i<(af ts).length:=by omega
  have d:decide ((i:Int)<((af ts).length:Int))=true:=decide_eq_true (by omega)
  have ei:ah .add .i64 (i:Int) 1=((i+1:Nat):Int):=by rw [dn,cC (by omega) (by omega)];omega
  have g1:aA .i64 (aE (af ts)) i:=bw (fj hi')
  have g2:aa (aE (af ts)) i=(af ts).getD i 0:=bI (fj hi')
  have jo:0≤(i:Int):=by omega
  have jC:(i:Int)<((af ts).length:Int):=by omega
  cases hg:aB ts h with
  | false =>
   simp only [d,ei,g1,g2,jo,jC,hz,w,hb,hg,dJ,cF,decide_true,wu,CF,q7,q6]
  | true =>
   have ha:=Dl hg
   have he:=QD (h:=h) (i:=i+1) (Nat.le_refl _) (by omega) (ha.trans hne)
   have c:(aG ts ((af ts).getD i 0)==h)=false:=by
    rw [tJ hi'] at he
    split at he
    ·simp at he
    ·rename_i k;simpa using k
   simp only [d,ei,g1,g2,jo,jC,hz,w,hb,hg,c,dJ,cF,decide_true,wu,CF,q7,q6]
theorem Oq (h:Int) (m:aj):aq E0 84 [bg ws,i64 (.o h)] m (.need [SW ts ws,aM ts] (mP (az ts h) m)):=by
 refine aq.asked fun hq=>?_
 have w:SW ts ws:=hq _ (by simp)
 have hb:aM ts:=hq _ (by simp)
 have hs:=w.sz
 refine aq.two (fun hz=>?_) (fun hz=>?_)
 ·have he:az ts h=[]:=List.eq_nil_of_length_eq_zero (of_decide_eq_true hz)
  refine (show aq E0 84 [bg ws,i64 (.o h)] m (bu [] _) from aq.pure aU (by kernel_rfl:E0.fn 84=some Tryz.f84) (by kernel_rfl:Tryz.f84.body=some (Tryz.f84.body.getD .skip)) (by kernel_rfl) (by kernel_rfl) fun hq=>?_)
  refine Good.mono (A:=iS) ?_ ?_
  ·cases c:decide ((af ts).length=0) with
   | true =>
    refine bA (Zb ts) 1000 (adU ts ws h) ?_ (fun s m h=>h) fun fs m hm=>hm.elim
    simp only [c,hs,w,hb,q6]
   | false =>
    refine bA (qc ts) 1000 (TI ts ws h (af ts).length (aE (af ts)) (fun i=>i=((0:Nat):Int))) ?_ (fun s m h=>h.elim) fun fs m hm=>Ib (fun i e=>by rw [e];exact aaH w hb he (af ts).length 0 (by omega)) hm
    simp only [c,hs,w,hb,wu,q6]
    rfl
  ·intro s m' hs
   unfold iS at hs
   split at hs
   ·rfl
   ·exact hs.elim
 ·have hne:az ts h≠[]:=fun e=>by
   have:=of_decide_eq_false hz
   rw [e] at this
   exact this rfl
  have hg:aB ts h=true:=by
   cases c:aB ts h with
   | true=>rfl
   | false=>exact absurd (by unfold az;rw [c];rfl) hne
  have ha:=Dl hg
  have hl:(af ts).length≠0:=by
   intro e
   have e0:=List.eq_nil_of_length_eq_zero e
   have BF:=hne
   rw [← ha] at BF
   apply BF
   unfold cG
   rw [e0]
   rfl
  have c:decide ((af ts).length=0)=false:=decide_eq_false hl
  refine (show aq E0 84 [bg ws,i64 (.o h)] m (bu [] _) from aq.fresh aU (by kernel_rfl:E0.fn 84=some Tryz.f84) (by kernel_rfl:Tryz.f84.body=some (Tryz.f84.body.getD .skip)) (by kernel_rfl) rfl fun _=>?_)
  refine Good.ni ((bA (qc ts) 1000 (TI ts ws h (af ts).length (aE (af ts)) (fun i=>i=((0:Nat):Int))) ?_ (fun s m h=>h.elim) fun fs m hm=>Ib (A:=dL (az ts h).length (aE (az ts h)) 3) (fun i e=>by rw [e,← ha];exact acs w hb hg (by rw [ha];exact hne) (af ts).length 0 (by omega) rfl) hm).mono fun s m h=>?_)
  ·simp only [c,hs,w,hb,wu,q6]
   rfl
  ·unfold dL at h
   split at h
   ·exact ⟨_,h⟩
   ·exact h.elim
end
section
variable {ts ws:Array Value}
theorem S5 {vs bs:Array Value} (h:∀ i,i<32→gv vs i=cB bs i):∀ k i,i+k=32→pM vs k i=tH bs k i
 | 0,_,_=>rfl
 | k+1,i,e=>by
  show (if gv vs i=0 then some i else pM vs k (i+1))=_
  rw [CA,h i (by omega),S5 h k (i+1) (by omega)]
theorem SW.fr (w:SW ts ws):pM (ws.extract 0 64) 32 0=mE (aF ts):=S5 (fun i hi=>w.kn hi) 32 0 rfl
theorem SW.adX (w:SW ts ws) (e:mE (aF ts)=none):eK (ws.extract 0 64)=ws.extract 0 64∧iQ (ws.extract 0 64)=0:=by
 unfold eK iQ
 rw [w.fr,e]
 exact ⟨rfl,rfl⟩
theorem SW.TN (w:SW ts ws) (hb:aM ts) {i:Nat} (hi:i<32) (e:mE (aF ts)=some i):eK (ws.extract 0 64)=(ws.extract 0 64).setIfInBounds (32+i) (.int .i64 1)∧iQ (ws.extract 0 64)=cW i (cw (aF ts) i)∧WB (eK (ws.extract 0 64))∧aQ (eK (ws.extract 0 64)) (iQ (ws.extract 0 64))=(i:Int):=by
 have wb:=w.wb hb
 have e1:eK (ws.extract 0 64)=(ws.extract 0 64).setIfInBounds (32+i) (.int .i64 1):=by unfold eK;rw [w.fr,e];rfl
 have e2:iQ (ws.extract 0 64)=cW i (cw (aF ts) i):=by
  unfold iQ
  rw [w.fr,e]
  show cW i (cZ (ws.extract 0 64) i)=_
  rw [w.gn hi]
 obtain ⟨s1,s2,s3⟩:=JA (x:=1) wb hi ⟨by decide,by decide⟩
 refine ⟨e1,e2,by rw [e1];exact s1,?_⟩
 rw [e1,e2]
 refine HL (k:=i) (fun j hj c=>?_) ⟨by rw [s3 i hi,if_pos rfl],by rw [s2 i hi,w.gn hi]⟩ 32 0 rfl (Nat.zero_le _) hi
 rw [s2 j hj,w.gn hj] at c
 exact (wF hj hi c.2).1
def fS (ts ws:Array Value) (u q:Int):Array Value:=if newE ts u q=0 then putAt (putAt ws 0 (eK (ws.extract 0 64)).toList) (64+sl (ct (aF ts))*12) [.int .i64 u,.int .i64 q,.slice none 0 0,.int .i64 0,.int .i64 0,.int .i64 0,.int .i64 0,.int .i64 0,.int .i64 0,.int .i64 0,.int .i64 0,.int .i64 0] else ws
theorem XT (u q:Int) (m:aj):aq E0 78 [bg ws,i64 (.o u),i64 (.o q)] m (bu [SW ts ws,aM ts] (.ret (.bW [.agg (.op (fS ts ws u q)),.c (.f (.int .i64 (.o (iD ts u q)))),.c (.f (.int .i64 (.o (newE ts u q))))]) m)):=by
 refine aq.pure aU (by kernel_rfl:E0.fn 78=some Tryz.f78) (by kernel_rfl:Tryz.f78.body=some (Tryz.f78.body.getD .skip)) (by kernel_rfl) (by kernel_rfl) fun hq=>?_
 have w:SW ts ws:=hq _ (by simp)
 have hb:aM ts:=hq _ (by simp)
 refine (Good.ret [] (bA wU 1000 (nw0 ws u q (fS ts ws u q) (iD ts u q) (newE ts u q)) ?_ (fun s m h=>h) fun _ _ h=>h.elim)).mono fun _ _ h=>h.1
 unfold Kv Kw
 have hz:=w.sz
 have bK:(64:Nat)≤448:=by decide
 have wb:=w.wb hb
 have es:=w.slot hb u
 have key:∀ e,newE ts u q=e→e≠0→fS ts ws u q=ws∧iD ts u q=0:=fun e h1 h2=>by
  constructor
  ·unfold fS;rw [if_neg (by rw [h1];exact h2)]
  ·unfold iD;rw [if_neg (by rw [h1];exact h2)]
 by_cases c0:u≠0∧aB ts u=false
 ·have d0:(u != 0)=true:=bne_iff_ne.2 c0.1
  have d1:decide (aQ (ws.extract 0 64) u≥0)=false:=decide_eq_false (by rw [es,if_neg (by rw [c0.2];decide)];omega)
  have e:newE ts u q=4:=by unfold newE;rw [if_pos c0]
  obtain ⟨k1,k2⟩:=key 4 e (by decide)
  simp only [d0,d1,e,k1,k2,hz,bK,wb,q8,q6]
 ·have fin:(u != 0)=false∨((u != 0)=true∧decide (aQ (ws.extract 0 64) u≥0)=true):=by
   by_cases z:u=0
   ·left;rw [z];rfl
   ·right
    have g:aB ts u=true:=by
     cases g:aB ts u with
     | true=>rfl
     | false=>exact absurd ⟨z,g⟩ c0
    exact ⟨bne_iff_ne.2 z,decide_eq_true (by rw [es,if_pos g];omega)⟩
  by_cases c1:0≤q∧q≤64
  ·have d2:decide (q<0)=false:=decide_eq_false (by omega)
   have d3:decide (q>64)=false:=decide_eq_false (by omega)
   rcases rJ (bs:=aF ts) with ⟨f1,_,f3,f4⟩ | ⟨i,h1,h2,g1,g2,g3,g4⟩
   ·obtain ⟨n1,n2⟩:=w.adX f1
    have e:newE ts u q=7:=by unfold newE;rw [if_neg c0,if_pos c1,f4];rfl
    obtain ⟨k1,k2⟩:=key 7 e (by decide)
    have d4:(iQ (ws.extract 0 64)==0)=true:=by rw [n2];rfl
    have sz:=wb.sz
    rcases fin with d0 | ⟨d0,d1⟩
    ·simp only [d0,d2,d3,d4,n1,e,k1,k2,sz,hz,bK,wb,q8,q6]
    ·simp only [d0,d1,d2,d3,d4,n1,e,k1,k2,sz,hz,bK,wb,q8,q6]
   ·obtain ⟨n1,n2,n3,n4⟩:=w.TN hb h1 g4
    have e:newE ts u q=0:=by unfold newE;rw [if_neg c0,if_pos c1,g3];rfl
    have hr:=hb.bk.ra i h1
    have M5:sl (ct (aF ts))=i:=by rw [g2];exact rK h1 hr
    have d4:(iQ (ws.extract 0 64)==0)=false:=beq_eq_false_iff_ne.2 (by rw [n2];unfold cW;omega)
    have sz:=n3.sz
    have k1:fS ts ws u q=putAt (putAt ws 0 (eK (ws.extract 0 64)).toList) (64+i*12) [.int .i64 u,.int .i64 q,.slice none 0 0,.int .i64 0,.int .i64 0,.int .i64 0,.int .i64 0,.int .i64 0,.int .i64 0,.int .i64 0,.int .i64 0,.int .i64 0]:=by unfold fS;rw [if_pos e,M5]
    have k2:iD ts u q=iQ (ws.extract 0 64):=by unfold iD;rw [if_pos e,n2,g2]
    have y0:(0:Int)≤(i:Int):=by omega
    have y1:(i:Int)<32:=by omega
    have z1:(putAt ws 0 (eK (ws.extract 0 64)).toList).size=448:=by rw [kR (by rw [Array.length_toList,sz,hz];decide)];exact hz
    have z2:64+i*12+12≤448:=by omega
    have z3:(putAt (putAt ws 0 (eK (ws.extract 0 64)).toList) (64+i*12) [.int .i64 u,.int .i64 q,.slice none 0 0,.int .i64 0,.int .i64 0,.int .i64 0,.int .i64 0,.int .i64 0,.int .i64 0,.int .i64 0,.int .i64 0,.int .i64 0]).size=448:=by
     rw [kR (by rw [z1];exact z2)];exact z1
    have zl:∀ a0 a1 a2 a3 a4 a5 a6 a7 a8 a9 b0 b1:Value,List.length [a0,a1,a2,a3,a4,a5,a6,a7,a8,a9,b0,b1]=12:=fun _ _ _ _ _ _ _ _ _ _ _ _=>rfl
    have z4:0+64≤448:=by decide
    rcases fin with d0 | ⟨d0,d1⟩
    ·simp only [d0,d2,d3,d4,n3,n4,e,k1,k2,sz,hz,bK,wb,y0,y1,z1,z2,z3,z4,zl,Int.toNat_natCast,decide_true,q8,q6]
    ·simp only [d0,d1,d2,d3,d4,n3,n4,e,k1,k2,sz,hz,bK,wb,y0,y1,z1,z2,z3,z4,zl,Int.toNat_natCast,decide_true,q8,q6]
  ·have e:newE ts u q=2:=by unfold newE;rw [if_neg c0,if_neg c1]
   obtain ⟨k1,k2⟩:=key 2 e (by decide)
   by_cases c2:q<0
   ·have d2:decide (q<0)=true:=decide_eq_true c2
    rcases fin with d0 | ⟨d0,d1⟩
    ·simp only [d0,d2,e,k1,k2,hz,bK,wb,q8,q6]
    ·simp only [d0,d1,d2,e,k1,k2,hz,bK,wb,q8,q6]
   ·have d2:decide (q<0)=false:=decide_eq_false c2
    have d3:decide (q>64)=true:=decide_eq_true (by omega)
    rcases fin with d0 | ⟨d0,d1⟩
    ·simp only [d0,d2,d3,e,k1,k2,hz,bK,wb,q8,q6]
    ·simp only [d0,d1,d2,d3,e,k1,k2,hz,bK,wb,q8,q6]
end
section
variable {ts ws:Array Value}
theorem tT {u q u' q':Int} {c d:Nat→Int} (h1:u=u') (h2:q=q') (h:∀ k,k<8→c k=d k):fX u q c=fX u' q' d:=by
 unfold fX
 rw [h1,h2,h 0 (by decide),h 1 (by decide),h 2 (by decide),h 3 (by decide),h 4 (by decide),h 5 (by decide),h 6 (by decide),h 7 (by decide)]
theorem TO {u q:Int} (e:newE ts u q=0):(u=0∨aB ts u=true)∧(0≤q∧q≤64)∧ir (aF ts)=true:=by
 unfold newE at e
 split at e
 ·exact absurd e (by decide)
 rename_i n2
 split at e
 rotate_left
 ·exact absurd e (by decide)
 rename_i hq
 split at e
 rotate_left
 ·exact absurd e (by decide)
 rename_i ho
 refine ⟨?_,hq,ho⟩
 by_cases c:u=0
 ·exact .inl c
 ·right
  cases d:aB ts u with
  | true=>rfl
  | false=>exact absurd ⟨c,d⟩ n2
theorem acu (hv:FV ts) {u q:Int} (hu:aN u) (e:newE ts u q=0):aG (fL ts u q) (ct (aF ts))=u∧∀ x,aB ts x=true→aG (fL ts u q) x=aG ts x:=by
 obtain ⟨vK,hq,ho⟩:=TO e
 have hb:=hv.f.ok
 obtain ⟨r1,r2,r3,r4,r5⟩:=FC hb ho (u:=u) (q:=q) hu hq
 obtain ⟨i1,i2,_⟩:=I8 hb ho
 constructor
 ·have g:aB (fL ts u q) (ct (aF ts))=true:=by rw [r3,decide_eq_true rfl,Bool.or_true]
  unfold aG
  rw [if_pos g,r4.1]
  rcases vK with c | c
  ·rw [c];split <;> rfl
  ·rw [if_pos (by rw [r3,c];rfl)]
 ·intro x g
  have g':aB (fL ts u q) x=true:=by rw [r3,g];rfl
  have hne:cg ts x≠ct (aF ts):=fun k=>by
   rcases hv.o x g with c | c
   ·exact i2 (k.symm.trans c)
   ·rw [k] at c
    exact (H9 hb.bk ho).2 c
  unfold aG
  rw [if_pos g,if_pos g',(r5 x g).1,r3,decide_eq_false hne,Bool.or_false]
theorem SW.new (w:SW ts ws) (hv:FV ts) {u q:Int} (hu:aN u) (e:newE ts u q=0):SW (fL ts u q) (fS ts ws u q):=by
 obtain ⟨vK,hq,ho⟩:=TO e
 have hb:=hv.f.ok
 obtain ⟨p1,p2⟩:=acu hv hu e
 obtain ⟨r1,r2,r3,r4,r5⟩:=FC hb ho (u:=u) (q:=q) hu hq
 rcases rJ (bs:=aF ts) with ⟨_,_,_,f4⟩ | ⟨i,h1,h2,g1,g2,g3,g4⟩
 ·rw [ho] at f4;cases f4
 obtain ⟨n1,n2,n3,n4⟩:=w.TN hb h1 g4
 have hr:=hb.bk.ra i h1
 have M5:sl (ct (aF ts))=i:=by rw [g2];exact rK h1 hr
 have hz:=w.sz
 have sz:=n3.sz
 have GH:=hb.bk.sz
 have z0:0+(eK (ws.extract 0 64)).toList.length≤ws.size:=by rw [Array.length_toList,sz,hz];decide
 have z1:(putAt ws 0 (eK (ws.extract 0 64)).toList).size=448:=by rw [kR z0];exact hz
 have ew:fS ts ws u q=putAt (putAt ws 0 (eK (ws.extract 0 64)).toList) (64+i*12) (fX u q fun _=>0).toList:=by unfold fS;rw [if_pos e,M5];rfl
 have zl:(fX u q fun _=>0).toList.length=12:=rfl
 have z2:64+i*12+(fX u q fun _=>0).toList.length≤(putAt ws 0 (eK (ws.extract 0 64)).toList).size:=by rw [zl,z1];omega
 have ll:(eK (ws.extract 0 64)).toList.length=64:=by rw [Array.length_toList,sz]
 have low:∀ j,j<64→(fS ts ws u q)[j]?=if j=32+i then some (.int .i64 1) else ws[j]?:=fun j hj=>by
  rw [ew,kS z2 (.inl (by omega)),nH z0 (Nat.zero_le _) (by omega),Nat.sub_zero,Array.getElem?_toList,n1,Array.getElem?_setIfInBounds]
  by_cases c:32+i=j
  ·rw [if_pos c,if_pos c.symm,if_pos (by rw [rN (by omega)];omega)]
  ·rw [if_neg c,if_neg (fun k=>c k.symm),w.bk hj]
 have mid:∀ j k,j<32→k<12→(fS ts ws u q)[64+j*12+k]?=if j=i then (fX u q fun _=>0)[k]? else ws[64+j*12+k]?:=fun j k hj hk=>by
  rw [ew]
  by_cases c:j=i
  ·rw [if_pos c,nH z2 (by omega) (by rw [zl];omega),Array.getElem?_toList,c]
   congr 1
   omega
  ·rw [if_neg c,kS z2 (by rw [zl];omega),kS z0 (by rw [ll];omega)]
 have ea:∀ j,cw (aF (fL ts u q)) j=cw (aF ts) j:=fun j=>by rw [r2,g1,wM]
 have ek:∀ j,cB (aF (fL ts u q)) j=if j=i then 1 else cB (aF ts) j:=fun j=>by rw [r2,g1,wG GH h1]
 have en:∀ j,gw (fL ts u q) j=gw ts j:=fun j=>by unfold gw;rw [ea]
 refine ⟨by rw [ew,kR z2];exact z1,fun j hj=>?_,fun j hj=>?_,fun j hj hk c hc=>?_,fun j hj hk c hc=>?_⟩
 ·rw [low j (by omega),if_neg (by omega),ea]
  exact w.g j hj
 ·rw [low (32+j) (by omega),ek]
  by_cases c:j=i
  ·rw [if_pos (by omega),if_pos c]
  ·rw [if_neg (by omega),if_neg c]
   exact w.s j hj
 ·rw [mid j c hj hc,en]
  by_cases d:j=i
  ·rw [if_pos d]
   have em:gw ts j=ct (aF ts):=by rw [g2,d];rfl
   have er:jU (fL ts u q) (ct (aF ts))=fX u q fun _=>0:=tT p1 r4.2.1 fun k hk=>r4.2.2 k hk
   rw [em,er]
  ·rw [if_neg d]
   rw [ek,if_neg d] at hk
   have gx:aB ts (gw ts j)=true:=(lN hb.bk).2 ⟨j,hj,hk,rfl⟩
   have er:jU (fL ts u q) (gw ts j)=jU ts (gw ts j):=tT (p2 _ gx) (r5 _ gx).2.1 fun k hk=>(r5 _ gx).2.2 k hk
   rw [er]
   exact w.r j hj hk c hc
 ·rw [ek] at hk
  by_cases d:j=i
  ·rw [if_pos d] at hk
   exact absurd rfl hk
  ·rw [if_neg d] at hk
   rw [mid j c hj hc,if_neg d]
   exact w.z j hj hk c hc
end
set_option linter.unusedVariables false
noncomputable def Kx (ts:Array Value) (g:FuncId) (l:List SV) (m:aj):Option Tree:=match g,l with
 | 78,[.s (.agg (.op ws)),.s (.c (.f (.int .i64 u))),.s (.c (.f (.int .i64 q)))]=>some (.need [SW ts ws,aM ts] (.ret (.bW [.agg (.op (fS ts ws u.den q.den)),.c (.f (.int .i64 (.o (iD ts u.den q.den)))),.c (.f (.int .i64 (.o (newE ts u.den q.den))))]) m))
 | g,l=>ur ts g l m
noncomputable def Uu (ts:Array Value):Env:=⟨Tryz.prog,dg,Kx ts,dy []⟩
set_option maxRecDepth 100000
def Ky (ts:Array Value) (ws:Array Value) (u:Int) (q:Int) (o:Array Value) (h:Int) (e:Int):Prop:=(decide (q≥0)==true)=true→((decide (q≤64)==true)=true→(ws.size=448∧True)∧(SW ts ws∧ay ts∧True)∧(decide ((↑(aY ts u):Int)>5)=true→(ws.size=448∧True)∧(ws.size=448∧ws.size=448∧True)∧(ws.size=448∧True)∧o=ws∧h=0∧e=8∧True)∧(decide ((↑(aY ts u):Int)>5)=false→(ws.size=448∧True)∧(SW ts ws∧aM ts∧True)∧((fS ts ws u q).size=448∧(fS ts ws u q).size=448∧True)∧((fS ts ws u q).size=448∧True)∧o=fS ts ws u q∧h=iD ts u q∧e=newE ts u q∧True))∧((decide (q≤64)==true)=false→(ws.size=448∧True)∧(SW ts ws∧aM ts∧True)∧((fS ts ws u q).size=448∧(fS ts ws u q).size=448∧True)∧((fS ts ws u q).size=448∧True)∧o=fS ts ws u q∧h=iD ts u q∧e=newE ts u q∧True)
def Kz (ts:Array Value) (ws:Array Value) (u:Int) (q:Int) (o:Array Value) (h:Int) (e:Int):Prop:=(decide (q≥0)==true)=false→(ws.size=448∧True)∧(SW ts ws∧aM ts∧True)∧((fS ts ws u q).size=448∧(fS ts ws u q).size=448∧True)∧((fS ts ws u q).size=448∧True)∧o=fS ts ws u q∧h=iD ts u q∧e=newE ts u q∧True
theorem rn0 (ts ws:Array Value) (u q:Int) (o:Array Value) (h e:Int):(run (Uu ts) 1000 0 [a_ 35 Tryz.f35.ntmps [bg ws,i64 (.o u),i64 (.o q)] (Tryz.f35.body.getD .skip)] aT).vc (Uv o h e) (fun _ _=>False) =
  ((((u==0)==false)=true→(ws.size=448∧True)∧(SW ts ws∧aM ts∧True)∧((aB ts u==true)=true→(Ky ts ws u q o h e)∧(Kz ts ws u q o h e))∧((aB ts u==true)=false→(ws.size=448∧True)∧(SW ts ws∧aM ts∧True)∧((fS ts ws u q).size=448∧(fS ts ws u q).size=448∧True)∧((fS ts ws u q).size=448∧True)∧o=fS ts ws u q∧h=iD ts u q∧e=newE ts u q∧True))∧(((u==0)==false)=false→(Ky ts ws u q o h e)∧(Kz ts ws u q o h e))):=by kernel_rfl
set_option linter.unusedVariables false
theorem XU (ts:Array Value):∀ g l m t,Kx ts g l m=some t→aq E0 g l m t:=by
 intro g l m t h
 unfold Kx at h
 split at h
 ·rename_i ws u q;cases h
  exact aq.n2 (XT u.den q.den m)
 ·exact zA ts _ _ _ _ h
theorem aaJ (ts:Array Value):bf (Uu ts):=bf.with aU _ _ (XU ts)
section
variable {ts ws:Array Value}
def jq (ts ws:Array Value) (u q:Int):Array Value:=if gR ts u q=0 then fS ts ws u q else ws
theorem SW.adY (w:SW ts ws) (hv:FV ts) {u q:Int} (hu:aN u):SW (gC ts u q) (jq ts ws u q):=by
 unfold gC jq
 split
 ·rename_i e
  refine w.new hv hu ?_
  unfold gR at e
  split at e
  ·exact absurd e (by decide)
  ·exact e
 ·exact w
theorem QF (u q:Int):(newE ts u q=0∨newE ts u q=7)↔((u=0∨aB ts u=true)∧0≤q∧q≤64):=by
 constructor
 ·intro h
  unfold newE at h
  split at h
  ·omega
  ·rename_i n
   split at h
   ·rename_i hq
    refine ⟨?_,hq⟩
    by_cases c:u=0
    ·exact .inl c
    ·right
     cases d:aB ts u with
     | true=>rfl
     | false=>exact absurd ⟨c,d⟩ n
   ·omega
 ·rintro ⟨h1,h2⟩
  unfold newE
  rw [if_neg (fun k=>h1.elim k.1 fun g=>by rw [k.2] at g;cases g),if_pos h2]
  split
  ·exact .inl rfl
  ·exact .inr rfl
theorem WJ (u q:Int) (m:aj):aq E0 35 [bg ws,i64 (.o u),i64 (.o q)] m (bu [SW ts ws,FV ts,aN u] (.ret (.bW [.agg (.op (jq ts ws u q)),.c (.f (.int .i64 (.o (jc ts u q)))),.c (.f (.int .i64 (.o (gR ts u q))))]) m)):=by
 refine aq.pure aU (by kernel_rfl:E0.fn 35=some Tryz.f35) (by kernel_rfl:Tryz.f35.body=some (Tryz.f35.body.getD .skip)) (by kernel_rfl) (by kernel_rfl) fun hq=>?_
 have w:SW ts ws:=hq _ (by simp)
 have hv:FV ts:=hq _ (by simp)
 have hu:aN u:=hq _ (by simp)
 have hf:=hv.f
 have hb:=hf.ok
 have hz:=w.sz
 refine (Good.ret [] (bA (aaJ ts) 1000 (rn0 ts ws u q (jq ts ws u q) (jc ts u q) (gR ts u q)) ?_ (fun s m h=>h) fun _ _ h=>h.elim)).mono fun _ _ h=>h.1
 unfold Kz Ky
 have sn:(fS ts ws u q).size=448:=by
  by_cases c:newE ts u q=0
  ·exact (w.new hv hu c).sz
  ·unfold fS;rw [if_neg c];exact hz
 by_cases L:((u=0∨aB ts u=true)∧0≤q∧q≤64)∧6≤aY ts u
 ·have e:gR ts u q=8:=by unfold gR;rw [if_pos ⟨(QF u q).2 L.1,L.2⟩]
  have e1:jq ts ws u q=ws:=by unfold jq;rw [e];rfl
  have e2:jc ts u q=0:=by unfold jc;rw [e];rfl
  obtain ⟨⟨l1,l2,l3⟩,l4⟩:=L
  have d2:decide (q≥0)=true:=decide_eq_true l2
  have d3:decide (q≤64)=true:=decide_eq_true l3
  have d4:decide ((aY ts u:Int)>5)=true:=decide_eq_true (by omega)
  by_cases z:u=0
  ·have d0:(u==0)=true:=beq_iff_eq.2 z
   simp only [d0,d2,d3,d4,e,e1,e2,hz,w,hf,hb,q8,q6]
  ·have d0:(u==0)=false:=beq_eq_false_iff_ne.2 z
   have d1:=l1.resolve_left z
   simp only [d0,d1,d2,d3,d4,e,e1,e2,hz,w,hf,hb,q8,q6]
 ·have e:gR ts u q=newE ts u q:=by unfold gR;rw [if_neg (fun k=>L ⟨(QF u q).1 k.1,k.2⟩)]
  have e1:jq ts ws u q=fS ts ws u q:=by
   unfold jq
   rw [e]
   split
   ·rfl
   ·rename_i k;unfold fS;rw [if_neg k]
  have e2:jc ts u q=iD ts u q:=by unfold jc iD;rw [e]
  cases d0:(u==0) <;> cases d1:aB ts u <;> cases d2:decide (q≥0) <;> cases d3:decide (q≤64) <;> cases d4:decide ((aY ts u:Int)>5)
  all_goals first
   |(exfalso
     refine L ⟨⟨?_,of_decide_eq_true d2,of_decide_eq_true d3⟩,by have:=of_decide_eq_true d4;omega⟩
     first
      | exact .inl (eq_of_beq d0)
      | exact .inr d1)
   | simp only [d0,d1,d2,d3,d4,e,e1,e2,sn,hz,w,hf,hb,q8,q6]
end
section
variable {ws:Array Value}
def hJ (ws:Array Value) (h:Int):Array Value:=if aQ ws h<0 then ws else if cZ ws (aQ ws h).toNat=8388607 then (ws.setIfInBounds (32+(aQ ws h).toNat) (.int .i64 0)).setIfInBounds (32+(aQ ws h).toNat) (.int .i64 2) else (ws.setIfInBounds (32+(aQ ws h).toNat) (.int .i64 0)).setIfInBounds (aQ ws h).toNat (.int .i64 (cZ ws (aQ ws h).toNat+1))
theorem HM {vs:Array Value} {h:Int}:∀ n i,i+n=32→m6 vs h n i<32
 | 0,i,e=>by show (-1:Int)<32;decide
 | n+1,i,e=>by
  show (if gv vs i=1∧cW i (cZ vs i)=h then (i:Int) else m6 vs h n (i+1))<32
  split
  ·omega
  ·exact HM n (i+1) (by omega)
theorem WK (h:Int) (m:aj):aq E0 85 [s8 ws,i64 (.o h)] m (bu [WB ws] (.ret (.bW [.agg (.op (hJ ws h)),.c (.f (.bool (.o (decide (0≤aQ ws h)))))]) m)):=by
 refine aq.pure aU (by kernel_rfl:E0.fn 85=some Tryz.f85) (by kernel_rfl:Tryz.f85.body=some (Tryz.f85.body.getD .skip)) (by kernel_rfl) (by kernel_rfl) fun hq=>?_
 have hw:WB ws:=hq _ (by simp)
 refine (Good.ret [] (bA wU 1000 (vo0 ws h (hJ ws h) (decide (0≤aQ ws h))) ?_ (fun s m h=>h) fun _ _ h=>h.elim)).mono fun _ _ h=>h.1
 unfold xk Aw Ax mF
 have hz:=hw.sz
 by_cases c:aQ ws h<0
 ·have d:decide (aQ ws h<0)=true:=decide_eq_true c
  have e:hJ ws h=ws:=if_pos c
  have e2:decide (0≤aQ ws h)=false:=decide_eq_false (by omega)
  simp only [d,e,e2,hz,hw,q6]
 ·have hlt:aQ ws h<32:=HM 32 0 rfl
  have hk:hJ ws h=if cZ ws (aQ ws h).toNat=8388607 then (ws.setIfInBounds (32+(aQ ws h).toNat) (.int .i64 0)).setIfInBounds (32+(aQ ws h).toNat) (.int .i64 2) else (ws.setIfInBounds (32+(aQ ws h).toNat) (.int .i64 0)).setIfInBounds (aQ ws h).toNat (.int .i64 (cZ ws (aQ ws h).toNat+1)):=if_neg c
  rw [hk]
  generalize eI:aQ ws h=x at *
  obtain ⟨i,rfl⟩:∃ j:Nat,x=(j:Int):=⟨x.toNat,by omega⟩
  have hi:i<32:=by omega
  have y0:0≤(i:Int):=by omega
  have d:decide ((i:Int)<0)=false:=decide_eq_false (by omega)
  have e2:decide (0≤(i:Int))=true:=decide_eq_true y0
  obtain ⟨s1,s2,s3⟩:=JA (x:=0) hw hi ⟨by decide,by decide⟩
  have g1:=s1.g i hi
  have g2:aa (ws.setIfInBounds (32+i) (.int .i64 0)) i=cZ ws i:=s2 i hi
  have hr:=hw.rg i hi
  have y3:32+i<64:=by omega
  have y4:i<64:=by omega
  by_cases k:cZ ws i=8388607
  ·have d2:(cZ ws i==8388607)=true:=beq_iff_eq.2 k
   simp only [d,d2,e2,if_pos k,y0,hlt,y3,y4,g1,g2,hz,hw,Array.size_setIfInBounds,decide_true,q7,q6]
  ·have d2:(cZ ws i==8388607)=false:=beq_eq_false_iff_ne.2 k
   have ea:ah .add .i64 (cZ ws i) 1=cZ ws i+1:=by rw [dn,cC (by omega) (by omega)]
   simp only [d,d2,e2,ea,if_neg k,y0,hlt,y3,y4,g1,g2,hz,hw,Array.size_setIfInBounds,decide_true,q7,q6]
end
set_option linter.unusedVariables false
noncomputable def DF (ts:Array Value) (n:Nat) (g:FuncId) (l:List SV) (m:aj):Option Tree:=match g,l with
 | 60,[.s (.agg (.op ws)),.s (.c (.f (.int .i64 h)))]=>some (.need [SW ts ws,ay ts,14≤aY ts h.den+n] (mP (aJ ts h.den) m))
 | 84,[.s (.agg (.op ws)),.s (.c (.f (.int .i64 h)))]=>some (.need [SW ts ws,aM ts] (mP (az ts h.den) m))
 | 69,[.s (.agg (.op ws)),.s (.c (.f (.int .i64 a))),.s (.c (.f (.int .i64 h)))]=>some (.need [SW ts ws,ay ts] (.ret (sB (.o (fm ts a.den h.den))) m))
 | g,l=>ur ts g l m
noncomputable def uY (ts:Array Value) (n:Nat):Env:=⟨Tryz.prog,dg,DF ts n,dy [60*1000+6]⟩
noncomputable def TL (ts:Array Value) (n:Nat):Env:=⟨Tryz.prog,dg,DF ts n,dy [60*1000+8]⟩
noncomputable def qd:List bh:=cY Tryz.f60 6
noncomputable def Ef (ws:Array Value) (h:Int) (n:Nat) (rs:Array Value) (i:Int) (k:Nat) (cs:Array Value):List av:=[dw 60 Tryz.f60 [(1,i64 (.o h)),(2,ptr 0 (.l 0)),(5,fK 1 k),(6,fK 2 n),(7,i64 (.o i))] qd]
noncomputable def Eg (ws:Array Value) (h:Int) (n:Nat) (rs:Array Value) (i:Int) (k:Nat) (cs:Array Value):aj:=cD 3 [(0,⟨.op ws,51,true⟩),(1,⟨.pop cs,3,true⟩),(2,⟨.pop rs,3,true⟩)]
def Eh (ws:Array Value) (h:Int) (n:Nat) (rs:Array Value) (Q:Int→Nat→Array Value→Prop) (fs:List av) (m:aj):Prop:=(match b9 fs 0 with | some f0=>(match dh f0 7 with | some i=>(match aV f0 2 with | some p0=>(match fG f0 5 with | some p1=>(match fG f0 6 with | some p2=>(match qR f0 5 with | some k=>(match cO m p1 with | some cs=>Q i k cs∧cV 0 [(0,p0),(1,p1),(2,p2)] (Ef ws h n rs i k cs) (Eg ws h n rs i k cs) fs m | none=>False) | none=>False) | none=>False) | none=>False) | none=>False) | none=>False) | none=>False)
noncomputable def RV (ts:Array Value) (n:Nat) (ws:Array Value) (h:Int):Tree:=run (uY ts n) 1000 0 [a_ 60 Tryz.f60.ntmps [bg ws,i64 (.o h)] (Tryz.f60.body.getD .skip)] aT
noncomputable def aaI (ts:Array Value) (n:Nat) (ws:Array Value) (h:Int) (r:Nat) (rs:Array Value) (i:Int) (k:Nat) (cs:Array Value):Tree:=stepT (uY ts n).go (run (uY ts n) 1000) 0 (Ef ws h r rs i k cs) (Eg ws h r rs i k cs)
theorem HK (r:Nat→Option Nat):ak r qd qd:=ak.it (by kernel_rfl)
theorem Ih {A:SV→aj→Prop} {ws:Array Value} {h:Int} {n:Nat} {rs:Array Value} {Q:Int→Nat→Array Value→Prop} {fs:List av} {m:aj} (H:∀ i k cs,Q i k cs→Good Tryz.prog A 0 (Ef ws h n rs i k cs) (Eg ws h n rs i k cs)) (hb:Eh ws h n rs Q fs m):Good Tryz.prog A 0 fs m:=by
 unfold Eh at hb
 iterate 7 (split at hb;rotate_left;exact hb.elim)
 exact Good.c_ hb.2 (H _ _ _ hb.1)
set_option maxRecDepth 100000
theorem adW (ts:Array Value) (n:Nat) (ws:Array Value) (h:Int):(RV ts n ws h).vc iS (fun _ _=>False) =
  ((ws.size=448∧True)∧(SW ts ws∧aM ts∧True)∧((!aB ts h)=true→True)∧((!aB ts h)=false→(ws.size=448∧True)∧(SW ts ws∧aM ts∧True)∧(decide ((az ts h).length=0)=true→False)∧(decide ((az ts h).length=0)=false→False))):=by kernel_rfl
noncomputable def jL (rs:Array Value) (i:Int):Int:=aa rs (0+i.toNat*1)
theorem TM (ts:Array Value) (n:Nat) (ws:Array Value) (h:Int) (r:Nat) (rs:Array Value) (i:Int) (k:Nat) (cs:Array Value) (kF:Nat) (cj:Array Value) (Q:Int→Nat→Array Value→Prop):(aaI ts n ws h r rs i k cs).vc (dL kF cj 3) (Eh ws h r rs Q) =
  ((decide (i<(↑r:Int))=true→(ws.size=448∧True)∧((0≤i∧i<(↑r:Int))∧True)∧(aA .i64 rs (0+i.toNat*1)∧True)∧(SW ts ws∧ay ts∧(14:Nat)≤aY ts (jL rs i)+n∧True)∧(decide ((aJ ts (jL rs i)).length=0)=true→Q (ah .add .i64 i 1) k cs∧cN∧ak (aD 0 [(0,0),(1,1),(2,2)]) qd qd∧h=h∧ah .add .i64 i 1=ah .add .i64 i 1∧k=k∧r=r∧51=51∧ws=ws∧3=3∧cs=cs∧3=3∧rs=rs∧True)∧(decide ((aJ ts (jL rs i)).length=0)=false→(0+(aJ ts (jL rs i)).length*1≤(aE (aJ ts (jL rs i))).size∧((k+(aJ ts (jL rs i)).length)*8≤140737488355328∧k+(aJ ts (jL rs i)).length≤140737488355328)∧k*1=cs.size∧True)∧Q (ah .add .i64 i 1) (k+(aJ ts (jL rs i)).length) (cs++Array.extract (aE (aJ ts (jL rs i))) (0:Nat) (0+(aJ ts (jL rs i)).length*1))∧cN∧ak (aD 0 [(0,0),(1,4),(2,2)]) qd qd∧h=h∧ah .add .i64 i 1=ah .add .i64 i 1∧k+(aJ ts (jL rs i)).length=k+(aJ ts (jL rs i)).length∧r=r∧51=51∧ws=ws∧3=3∧cs++Array.extract (aE (aJ ts (jL rs i))) (0:Nat) (0+(aJ ts (jL rs i)).length*1)=cs++Array.extract (aE (aJ ts (jL rs i))) (0:Nat) (0+(aJ ts (jL rs i)).length*1)∧3=3∧rs=rs∧True))∧(decide (i<(↑r:Int))=false→kF=k∧3=3∧cj=cs∧True)):=by kernel_rfl
set_option linter.unusedVariables false
def RW (h:Int) (ty:TypeId) (s:SV) (m:aj):Prop:=match s with | .s (.c (.f (.slice M1 _ _ _)))=>bM 0 [(0,M1)] (.s (.c (.f (.slice 0 (.l 0) (.l 1) (.n (.l 1)))))) (cD 1 [(0,⟨.ls [.f (.int .i64 (.o h))],ty,true⟩)]) s m | _=>False
noncomputable def tU:List bh:=cY Tryz.f60 6
noncomputable def KA (ws:Array Value) (h:Int) (n:Nat) (rs:Array Value):List av:=[dw 60 Tryz.f60 [(1,i64 (.o h)),(2,ptr 0 (.l 0)),(5,.s (.c (.f (.slice 1 (.l 0) (.l 1) (.n (.l 1)))))),(6,fK 2 n),(7,i64 (.o 0))] tU]
noncomputable def KB (ws:Array Value) (h:Int) (n:Nat) (rs:Array Value):aj:=cD 3 [(0,⟨.op ws,51,true⟩),(1,⟨.ls [.f (.int .i64 (.o h))],3,true⟩),(2,⟨.pop rs,3,true⟩)]
def KC (ws:Array Value) (h:Int) (n:Nat) (rs:Array Value) (Q:Prop) (fs:List av) (m:aj):Prop:=(match b9 fs 0 with | some f0=>(match aV f0 2 with | some p0=>(match fG f0 5 with | some p1=>(match fG f0 6 with | some p2=>Q∧cV 0 [(0,p0),(1,p1),(2,p2)] (KA ws h n rs) (KB ws h n rs) fs m | none=>False) | none=>False) | none=>False) | none=>False)
noncomputable def aaK (ts:Array Value) (n:Nat) (ws:Array Value) (h:Int) (r:Nat) (rs:Array Value):Tree:=stepT (uY ts n).go (run (uY ts n) 1000) 0 (KA ws h r rs) (KB ws h r rs)
theorem Ot (r:Nat→Option Nat):ak r tU tU:=ak.it (by kernel_rfl)
theorem XV {A:SV→aj→Prop} {ws:Array Value} {h:Int} {n:Nat} {rs:Array Value} {Q:Prop} {fs:List av} {m:aj} (H:Q →Good Tryz.prog A 0 (KA ws h n rs) (KB ws h n rs)) (hb:KC ws h n rs Q fs m):Good Tryz.prog A 0 fs m:=by
 unfold KC at hb
 iterate 4 (split at hb;rotate_left;exact hb.elim)
 exact Good.c_ hb.2 (H  hb.1)
set_option maxRecDepth 100000
theorem ad1 (ts:Array Value) (n:Nat) (ws:Array Value) (h:Int):(run (TL ts n) 1000 0 [a_ 60 Tryz.f60.ntmps [bg ws,i64 (.o h)] (Tryz.f60.body.getD .skip)] aT).vc (RW h 3) (fun _ _=>False) =
  ((ws.size=448∧True)∧(SW ts ws∧aM ts∧True)∧((!aB ts h)=true→False)∧((!aB ts h)=false→(ws.size=448∧True)∧(SW ts ws∧aM ts∧True)∧(decide ((az ts h).length=0)=true→3=3∧h=h∧True)∧(decide ((az ts h).length=0)=false→(decide ((0:Int)<(↑((az ts h).length):Int))=true→False)∧(decide ((0:Int)<(↑((az ts h).length):Int))=false→3=3∧h=h∧True)))):=by kernel_rfl
theorem ad2 (ts:Array Value) (n:Nat) (ws:Array Value) (h:Int) (r:Nat) (rs:Array Value) (kF:Nat) (cj:Array Value):(RV ts n ws h).vc (dL kF cj 3) (KC ws h r rs True) =
  ((ws.size=448∧True)∧(SW ts ws∧aM ts∧True)∧((!aB ts h)=true→False)∧((!aB ts h)=false→(ws.size=448∧True)∧(SW ts ws∧aM ts∧True)∧(decide ((az ts h).length=0)=true→False)∧(decide ((az ts h).length=0)=false→True∧cN∧ak (aD 0 [(0,0),(1,1),(2,2)]) tU tU∧h=h∧(0:Int)=(0:Int)∧r=(az ts h).length∧51=51∧ws=ws∧3=3∧h=h∧3=3∧rs=aE (az ts h)∧True))):=by kernel_rfl
noncomputable def jY (rs:Array Value):Int:=aa rs (0+0*1)
theorem ad3 (ts:Array Value) (n:Nat) (ws:Array Value) (h:Int) (r:Nat) (rs:Array Value) (kF:Nat) (cj:Array Value) (Q:Int→Nat→Array Value→Prop):(aaK ts n ws h r rs).vc (dL kF cj 3) (Eh ws h r rs Q) =
  ((decide ((0:Int)<(↑r:Int))=true→(ws.size=448∧True)∧(((0:Int)≤0∧(0:Int)<(↑r:Int))∧True)∧(aA .i64 rs (0+0*1)∧True)∧(SW ts ws∧ay ts∧(14:Nat)≤aY ts (jY rs)+n∧True)∧(decide ((aJ ts (jY rs)).length=0)=true→Q (1:Int) (1:Nat) #[Value.int .i64 h]∧False)∧(decide ((aJ ts (jY rs)).length=0)=false→(0+(aJ ts (jY rs)).length*1≤(aE (aJ ts (jY rs))).size∧((1+(aJ ts (jY rs)).length)*8≤140737488355328∧1+(aJ ts (jY rs)).length≤140737488355328)∧True)∧Q (1:Int) (1+(aJ ts (jY rs)).length) (#[Value.int .i64 h]++Array.extract (aE (aJ ts (jY rs))) (0:Nat) (0+(aJ ts (jY rs)).length*1))∧cN∧ak (aD 0 [(0,0),(1,4),(2,2)]) tU tU∧h=h∧(1:Int)=(1:Int)∧1+(aJ ts (jY rs)).length=1+(aJ ts (jY rs)).length∧r=r∧51=51∧ws=ws∧3=3∧#[Value.int .i64 h]++Array.extract (aE (aJ ts (jY rs))) (0:Nat) (0+(aJ ts (jY rs)).length*1)=#[Value.int .i64 h]++Array.extract (aE (aJ ts (jY rs))) (0:Nat) (0+(aJ ts (jY rs)).length*1)∧3=3∧rs=rs∧True))∧(decide ((0:Int)<(↑r:Int))=false→False)):=by kernel_rfl
set_option linter.unusedVariables false
theorem Good.acv {P:Program} {fs:List av} {m:aj} {x:Int} {ty:TypeId} (hg:Good P (fun s m'=>s=.s (.c (.f (.slice 0 (.l 0) (.l 1) (.n (.l 1)))))∧m'=cD 1 [(0,⟨.ls [.f (.int .i64 (.o x))],ty,true⟩)]) 0 fs m):Good P (fun s m'=>s=.s (.c (.f (.slice 0 (.l 0) (.o 1) (.full 1))))∧m'=cD 1 [(0,⟨.pop #[.int .i64 x],ty,true⟩)]) 0 fs m:=by
 intro n0 F w0 ws w Rs R fr dm hf hR hX hs
 refine (hg n0 F w0 ws w Rs R fr dm hf hR hX hs).mono ?_
 rintro v w' ⟨s,m',R',⟨rfl,rfl⟩,mU,fq,hv⟩
 obtain ⟨g,cs,fz,e1,e2,e3,e4,e5⟩:=fq.dS 0 ⟨.ls [.f (.int .i64 (.o x))],ty,true⟩ rfl
 have hc:cs=#[.int .i64 x]:=by
  have e4:aK (SC.ok R') [.f (.int .i64 (.o x))] cs.toList:=e4
  cases hl:cs.toList with
  | nil=>rw [hl] at e4;exact e4.elim
  | cons a l =>
   rw [hl] at e4
   obtain ⟨h1,h2⟩:=e4
   cases l with
   | nil =>
    have h1:a=.int .i64 x:=h1
    rw [h1] at hl
    apply Array.toList_inj.1
    rw [hl]
   | cons b l=>exact h2.elim
 have hn:g.n=1:=by rw [← e3,hc];rfl
 have key:∀ i b,aH (cD 1 [(0,⟨.pop #[.int .i64 x],ty,true⟩)]).bl i=some b→i=0∧b=⟨.pop #[.int .i64 x],ty,true⟩:=by
  intro i b h
  have h:aH (Tr.nil.set 0 (some ⟨.pop #[.int .i64 x],ty,true⟩)) i=some b:=h
  cases i with
  | zero=>exact ⟨rfl,(Option.some.inj h).symm⟩
  | succ i=>exact absurd h (by
    rw [jv,if_neg (by omega)]
    intro h;cases h)
 refine ⟨_,_,R',⟨rfl,rfl⟩,mU,?_,?_⟩
 ·refine { fq with inj:=?_,dS:=?_ }
  ·intro i j g h b c _ _ _ hi hj _
   rw [(key i b hi).1,(key j c hj).1]
  ·intro i b h
   obtain ⟨rfl,rfl⟩:=key i b h
   refine ⟨g,cs,fz,e1,e2,e3,?_,e5⟩
   show SA.cH R' (.pop #[.int .i64 x]) cs
   rw [hc]
   refine ⟨rfl,?_⟩
   intro v hv
   rw [List.mem_singleton.1 hv]
   rfl
 ·obtain ⟨g',c,k1,k2,k3,k4⟩:=hv
  rw [e1] at k1
  obtain rfl:=Option.some.inj k1
  have k3:c=1:=k3
  refine ⟨g,c,e1,k2,?_,k4⟩
  show c*1=g.n∧c≤maxLen
  rw [k3,hn]
  exact ⟨rfl,by decide⟩
section
variable {ts ws:Array Value} {h:Int}
theorem Pq (l r:List Int):aE (l++r)=aE l++aE r:=by unfold aE;simp
noncomputable def jV (ts:Array Value) (h:Int) (i:Nat):List Int:=h :: ((az ts h).take i).flatMap (bn ts)
theorem Pr {i:Nat} (hi:i<(az ts h).length):jV ts h (i+1)=jV ts h i++bn ts ((az ts h).getD i 0):=by
 unfold jV
 rw [List.take_add_one,List.getElem?_eq_getElem hi,Option.toList_some,List.flatMap_append,List.flatMap_cons,List.flatMap_nil,List.append_nil,List.getD_eq_getElem?_getD,List.getElem?_eq_getElem hi]
 rfl
theorem Zc (hf:ay ts) (hg:aB ts h=true):jV ts h (az ts h).length=aJ ts h:=by
 have hx:=(bU hf.ok).2 hg
 unfold jV aJ
 rw [List.take_length,if_pos hg,nK hf hx]
 exact (iX hf hx).symm
theorem Ja {x:Int} (hk:x∈az ts h):x∈af ts∧aG ts x=h:=by
 unfold az at hk
 split at hk
 ·obtain ⟨a,b⟩:=List.mem_filter.1 hk
  exact ⟨a,by simpa using b⟩
 ·cases hk
theorem Ou (n:Nat) (ih:∀ (ws:Array Value) (h:Int) (m:aj),aq E0 60 [bg ws,i64 (.o h)] m (.need [SW ts ws,ay ts,14≤aY ts h+n] (mP (aJ ts h) m))):∀ g l m t,DF ts n g l m=some t→aq E0 g l m t:=by
 intro g l m t h
 unfold DF at h
 split at h
 ·rename_i ws x;cases h
  exact aq.n1 (ih ws x.den m)
 ·rename_i ws x;cases h
  exact aq.n1 (Oq x.den m)
 ·rename_i ws a x;cases h
  exact aq.n2 (Pp a.den x.den m)
 ·exact zA ts _ _ _ _ h
theorem aaL {n:Nat} (hE:bf (uY ts n)) (w:SW ts ws) (hf:ay ts) (hg:aB ts h=true) (hn:14≤aY ts h+(n+1)):∀ (k i:Nat),i+k=(az ts h).length→Good Tryz.prog (dL (aJ ts h).length (aE (aJ ts h)) 3) 0 (Ef ws h (az ts h).length (aE (az ts h)) (i:Int) (jV ts h i).length (aE (jV ts h i))) (Eg ws h (az ts h).length (aE (az ts h)) (i:Int) (jV ts h i).length (aE (jV ts h i))):=by
 have hz:=w.sz
 have hb:=hf.ok
 have hx:=(bU hb).2 hg
 have hlen:=mB ts h
 have hu:(aJ ts h).length≤32:=by
  have:=mD hf hx
  unfold aJ
  rw [if_pos hg]
  exact this
 intro k
 induction k with
 | zero =>
  intro i hi
  obtain rfl:i=(az ts h).length:=by omega
  refine bD hE 1000 (TM ts n ws h _ _ _ _ _ (aJ ts h).length (aE (aJ ts h)) (fun _ _ _=>False)) ?_ (fun _ _ h=>h) (fun fs m hb=>Ih (fun _ _ _ h=>h.elim) hb)
  unfold jL
  have d:decide (((az ts h).length:Int)<((az ts h).length:Int))=false:=decide_eq_false (by omega)
  simp only [d,Zc hf hg,q6]
 | succ k ih =>
  intro i hi
  have hi':i<(az ts h).length:=by omega
  have e0:=Pr hi'
  have hk:=Ja (show (az ts h).getD i 0∈az ts h by rw [List.getD_eq_getElem?_getD,List.getElem?_eq_getElem hi'];exact List.getElem_mem hi')
  have gk:=(bU hb).1 hk.1
  have dk:=DH hf gk
  rw [hk.2] at dk
  have hn2:14≤aY ts ((az ts h).getD i 0)+n:=by omega
  have eu:aJ ts ((az ts h).getD i 0)=bn ts ((az ts h).getD i 0):=if_pos gk
  have lA:(bn ts ((az ts h).getD i 0)).length≠0:=by rw [iX hf hk.1,List.length_cons];omega
  have hu1:(bn ts ((az ts h).getD i 0)).length≤32:=mD hf hk.1
  have d0:decide ((bn ts ((az ts h).getD i 0)).length=0)=false:=decide_eq_false lA
  have hp:(jV ts h i).length≤2000:=by
   unfold jV
   have:∀ l:List Int,(∀ x∈l,(bn ts x).length≤32)→(l.flatMap (bn ts)).length≤l.length*32:=by
    intro l
    induction l with
    | nil=>intro _;simp
    | cons a l ihl =>
     intro h
     have h1:=ihl fun x hx=>h x (List.mem_cons_of_mem _ hx)
     have h2:=h a (List.mem_cons_self ..)
     rw [List.flatMap_cons,List.length_append,List.length_cons]
     omega
   have h1:=this ((az ts h).take i) fun x hx=>mD hf (Ja (List.mem_of_mem_take hx)).1
   have h2:((az ts h).take i).length≤32:=Nat.le_trans (List.length_take_le ..) (by omega)
   rw [List.length_cons]
   omega
  refine bD hE 1000 (TM ts n ws h _ _ (i:Int) _ _ (aJ ts h).length (aE (aJ ts h)) (fun i' k' c'=>i'=((i+1:Nat):Int)∧k'=(jV ts h (i+1)).length∧c'=aE (jV ts h (i+1)))) ?_ (fun _ _ h=>h) (fun fs m hb=>Ih (fun i' k' c' ⟨e1,e2,e3⟩=>by rw [e1,e2,e3];exact ih (i+1) (by omega)) hb)
  unfold jL
  have d:decide ((i:Int)<((az ts h).length:Int))=true:=decide_eq_true (by omega)
  have ei:ah .add .i64 (i:Int) 1=((i+1:Nat):Int):=by rw [dn,cC (by omega) (by omega)];omega
  have g1:aA .i64 (aE (az ts h)) i:=bw (fj hi')
  have g2:aa (aE (az ts h)) i=(az ts h).getD i 0:=bI (fj hi')
  have jo:0≤(i:Int):=by omega
  have jC:(i:Int)<((az ts h).length:Int):=by omega
  have je:(((jV ts h i).length+(bn ts ((az ts h).getD i 0)).length)*8≤140737488355328∧(jV ts h i).length+(bn ts ((az ts h).getD i 0)).length≤140737488355328):=⟨by omega,by omega⟩
  have ex:(aE (bn ts ((az ts h).getD i 0))).extract 0 (bn ts ((az ts h).getD i 0)).length=aE (bn ts ((az ts h).getD i 0)):=by
   rw [← tF,Array.extract_size]
  rw [e0]
  have t1:ak (aD 0 [(0,0),(1,4),(2,2)]) qd qd:=HK _
  simp only [d,d0,ei,g1,g2,jo,jC,hz,w,hf,hn2,eu,je,ex,t1,tF,Pq,List.length_append,Nat.le_refl,decide_true,HK,q7,q6]
theorem VZ (ts:Array Value):∀ n:Nat,∀ (ws:Array Value) (h:Int) (m:aj),aq E0 60 [bg ws,i64 (.o h)] m (.need [SW ts ws,ay ts,14≤aY ts h+n] (mP (aJ ts h) m)):=by
 intro n
 induction n with
 | zero =>
  intro ws h m
  refine aq.asked fun hq=>?_
  have hf:ay ts:=hq _ (by simp)
  have hd:14≤aY ts h+0:=hq _ (by simp)
  have:=tR hf h
  omega
 | succ n ih =>
  intro ws h m
  have hE:bf (uY ts n):=bf.with aU _ _ (Ou n ih)
  have hEz:bf (TL ts n):=bf.with aU _ _ (Ou n ih)
  refine aq.asked fun hq=>?_
  have w:SW ts ws:=hq _ (by simp)
  have hf:ay ts:=hq _ (by simp)
  have hd:14≤aY ts h+(n+1):=hq _ (by simp)
  have hz:=w.sz
  have hb:=hf.ok
  intro A hs
  cases hg:aB ts h with
  | false =>
   have e:aJ ts h=[]:=by unfold aJ;rw [hg];rfl
   rw [e] at hs
   have hs:A (.s (.c (.f (.lit (.slice none 0 0))))) m:=hs.1 rfl
   refine (show aq E0 60 [bg ws,i64 (.o h)] m (bu [] (.ret (.s (.c (.f (.lit (.slice none 0 0))))) m)) from aq.pure aU (by kernel_rfl:E0.fn 60=some Tryz.f60) (by kernel_rfl:Tryz.f60.body=some (Tryz.f60.body.getD .skip)) (by kernel_rfl) (by kernel_rfl) fun _=>?_) A hs
   refine Good.mono (A:=iS) ?_ ?_
   ·refine bA hE 1000 (adW ts n ws h) ?_ (fun s m h=>h) fun _ _ h=>h.elim
    simp only [hz,w,hb,hg,Bool.not_false,q6]
   ·intro s m' hs
    unfold iS at hs
    split at hs
    ·rfl
    ·exact hs.elim
  | true =>
   have hx:=(bU hb).2 hg
   have hun:aJ ts h=bn ts h:=if_pos hg
   have hne:decide ((aJ ts h).length=0)=false:=decide_eq_false (by rw [hun,iX hf hx,List.length_cons];omega)
   have hs:A (.s (.c (.f (.slice m.next (.l 0) (.o (aJ ts h).length) (.full 1))))) (m.new (.pop (aE (aJ ts h))) 3):=hs.2 hne
   by_cases hk:az ts h=[]
   ·have eu:aJ ts h=[h]:=by rw [hun,iX hf hx,← nK hf hx,hk];rfl
    rw [eu] at hs
    refine (show aq E0 60 [bg ws,i64 (.o h)] m (bu [] (.ret (.s (.c (.f (.slice m.next (.l 0) (.o 1) (.full 1))))) (m.new (.pop #[.int .i64 h]) 3))) from aq.fresh aU (by kernel_rfl:E0.fn 60=some Tryz.f60) (by kernel_rfl:Tryz.f60.body=some (Tryz.f60.body.getD .skip)) (by kernel_rfl) rfl fun _=>?_) A hs
    refine Good.acv (Good.ni ((bA hEz 1000 (ad1 ts n ws h) ?_ (fun s m h=>h) fun _ _ h=>h.elim).mono fun s m h=>?_))
    ·have d:decide ((az ts h).length=0)=true:=decide_eq_true (by rw [hk];rfl)
     simp only [hz,w,hb,hg,d,Bool.not_true,q6]
    ·unfold RW at h
     split at h
     ·exact ⟨_,h⟩
     ·exact h.elim
   ·refine (show aq E0 60 [bg ws,i64 (.o h)] m (bu [] (.ret (.s (.c (.f (.slice m.next (.l 0) (.o (aJ ts h).length) (.full 1))))) (m.new (.pop (aE (aJ ts h))) 3))) from aq.fresh aU (by kernel_rfl:E0.fn 60=some Tryz.f60) (by kernel_rfl:Tryz.f60.body=some (Tryz.f60.body.getD .skip)) (by kernel_rfl) rfl fun _=>?_) A hs
    refine Good.ni ((bA hE 1000 (ad2 ts n ws h (az ts h).length (aE (az ts h)) (aJ ts h).length (aE (aJ ts h))) ?_ (fun s m h=>h) fun fs m hm=>XV (A:=dL (aJ ts h).length (aE (aJ ts h)) 3) (fun _=>?_) hm).mono fun s m h=>?_)
    ·have d:decide ((az ts h).length=0)=false:=decide_eq_false (fun e=>hk (List.eq_nil_of_length_eq_zero e))
     simp only [hz,w,hb,hg,d,Bool.not_true,Ot,q6]
    ·have hp:=List.length_pos_iff.2 hk
     have GI:=Ja (show (az ts h).getD 0 0∈az ts h by rw [List.getD_eq_getElem?_getD,List.getElem?_eq_getElem hp];exact List.getElem_mem hp)
     have gk:=(bU hb).1 GI.1
     have dk:=DH hf gk
     rw [GI.2] at dk
     have hn2:14≤aY ts ((az ts h).getD 0 0)+n:=by omega
     have eu:aJ ts ((az ts h).getD 0 0)=bn ts ((az ts h).getD 0 0):=if_pos gk
     have lA:(bn ts ((az ts h).getD 0 0)).length≠0:=by rw [iX hf GI.1,List.length_cons];omega
     have hu1:(bn ts ((az ts h).getD 0 0)).length≤32:=mD hf GI.1
     have d0:decide ((bn ts ((az ts h).getD 0 0)).length=0)=false:=decide_eq_false lA
     refine bD hE 1000 (ad3 ts n ws h _ _ (aJ ts h).length (aE (aJ ts h)) (fun i' k' c'=>i'=((0+1:Nat):Int)∧k'=(jV ts h (0+1)).length∧c'=aE (jV ts h (0+1)))) ?_ (fun _ _ h=>h) (fun fs m hb=>Ih (fun i' k' c' ⟨e1,e2,e3⟩=>by rw [e1,e2,e3];exact aaL hE w hf hg hd ((az ts h).length - 1) 1 (by omega)) hb)
     unfold jY
     have d:decide ((0:Int)<((az ts h).length:Int))=true:=decide_eq_true (by omega)
     have g1:aA .i64 (aE (az ts h)) 0:=bw (fj hp)
     have g2:aa (aE (az ts h)) 0=(az ts h).getD 0 0:=bI (fj hp)
     have jC:(0:Int)<((az ts h).length:Int):=by omega
     have je:((1+(bn ts ((az ts h).getD 0 0)).length)*8≤140737488355328∧1+(bn ts ((az ts h).getD 0 0)).length≤140737488355328):=⟨by omega,by omega⟩
     have ex:(aE (bn ts ((az ts h).getD 0 0))).extract 0 (bn ts ((az ts h).getD 0 0)).length=aE (bn ts ((az ts h).getD 0 0)):=by
      rw [← tF,Array.extract_size]
     have e0:jV ts h 1=[h]++bn ts ((az ts h).getD 0 0):=Pr (ts:=ts) (h:=h) hp
     rw [show 0+1=1 from rfl,e0]
     simp only [d,d0,g1,g2,jC,hz,w,hf,hn2,eu,je,ex,Ig,tF,Pq,List.length_append,List.length_singleton,Nat.le_refl,Int.le_refl,decide_true,HK,q7,q6]
     exact ⟨rfl,Ot _⟩
    ·unfold dL at h
     split at h
     ·exact ⟨_,h⟩
     ·exact h.elim
theorem Ob (h:Int) (m:aj):aq E0 60 [bg ws,i64 (.o h)] m (.need [SW ts ws,ay ts] (mP (aJ ts h) m)):=by
 refine aq.asked fun hq=>?_
 have w:SW ts ws:=hq _ (by simp)
 have hf:ay ts:=hq _ (by simp)
 intro A hs
 refine VZ ts 14 ws h m A ⟨fun p hp=>?_,hs⟩
 simp only [List.mem_cons,List.not_mem_nil,or_false] at hp
 rcases hp with rfl | rfl | rfl
 ·exact w
 ·exact hf
 ·omega
end
set_option linter.unusedVariables false
def yd:List Value:=[.int .i64 0,.int .i64 0,.slice none 0 0,.int .i64 0,.int .i64 0,.int .i64 0,.int .i64 0,.int .i64 0,.int .i64 0,.int .i64 0,.int .i64 0,.int .i64 0]
def zW:Array Value:=(List.replicate 64 (Value.int .i64 0)++(List.replicate 32 yd).flatten).toArray
theorem Ay:zW.size=448:=by decide +kernel
def fC (us:Array Value) (h:Int):Nat→Array Value
 | 0=>us
 | n+1=>if aa (fC us h n) (64+n*12)=h then (fC us h n).setIfInBounds (64+n*12) (.int .i64 0) else fC us h n
def ke (ws:Array Value) (h:Int):Array Value:=putAt (putAt ws 0 (hJ (ws.extract 0 64) h).toList) (64+(aQ (ws.extract 0 64) h).toNat*12) yd
def lB (ws:Array Value) (h:Int):Array Value:=if aQ (ws.extract 0 64) h<0 then ws else fC (ke ws h) h 32
def s_ (ws:Array Value) (h:Int):Int:=if aQ (ws.extract 0 64) h<0 then 4 else 0
structure WT (ws:Array Value):Prop where
 sz:ws.size=448
 wb:WB (ws.extract 0 64)
 up:∀ i,i<32→aA .i64 ws (64+i*12)
noncomputable def KD (g:FuncId) (l:List SV) (m:aj):Option Tree:=match g,l with
 | 85,[.s (.agg (.op ws)),.s (.c (.f (.int .i64 h)))]=>some (.need [WB ws] (.ret (.bW [.agg (.op (hJ ws h.den)),.c (.f (.bool (.o (decide (0≤aQ ws h.den)))))]) m))
 | g,l=>uu g l m
noncomputable def GJ:Env:=⟨Tryz.prog,dg,KD,dy [61*1000+7]⟩
noncomputable def pN (o:Array Value) (e:Int):SV:=.bW [.agg (.op o),.c (.f (.int .i64 (.o e)))]
noncomputable def jf (ts ws:Array Value) (h u:Int):Array Value:=if dz ts h u=0 then ws.setIfInBounds (64+sl h*12) (.int .i64 u) else ws
noncomputable def sj (ts:Array Value) (g:FuncId) (l:List SV) (m:aj):Option Tree:=match g,l with
 | 61,[.s (.agg (.op ws)),.s (.c (.f (.int .i64 h)))]=>some (.need [WT ws] (.ret (pN (lB ws h.den) (s_ ws h.den)) m))
 | 70,[.s (.agg (.op ws)),.s (.c (.f (.int .i64 h))),.s (.c (.f (.int .i64 u)))]=>some (.need [SW ts ws,ay ts] (.ret (pN (jf ts ws h.den u.den) (dz ts h.den u.den)) m))
 | 60,[.s (.agg (.op ws)),.s (.c (.f (.int .i64 h)))]=>some (.need [SW ts ws,ay ts] (mP (aJ ts h.den) m))
 | 84,[.s (.agg (.op ws)),.s (.c (.f (.int .i64 h)))]=>some (.need [SW ts ws,aM ts] (mP (az ts h.den) m))
 | 69,[.s (.agg (.op ws)),.s (.c (.f (.int .i64 a))),.s (.c (.f (.int .i64 h)))]=>some (.need [SW ts ws,ay ts] (.ret (sB (.o (fm ts a.den h.den))) m))
 | g,l=>ur ts g l m
noncomputable def KE (ts us:Array Value) (g:FuncId) (l:List SV) (m:aj):Option Tree:=match g,l with
 | 60,[.s (.agg (.op ws)),.s (.c (.f (.int .i64 h)))]=>some (.need [SW us ws,ay us] (mP (aJ us h.den) m))
 | 71,[.s (.agg (.op ws)),.s (.c (.f (.int .i64 h)))]=>some (.need [SW us ws,ay us] (.ret (i64 (.o (aY us h.den:Int))) m))
 | g,l=>sj ts g l m
noncomputable def q9 (ts:Array Value):Env:=⟨Tryz.prog,dg,sj ts,dy [28*1000+6,28*1000+10,25*1000+3]⟩
noncomputable def GK (ts us:Array Value):Env:=⟨Tryz.prog,dg,KE ts us,dy [30*1000+8]⟩
noncomputable def Uw (o:Array Value) (i n:Nat):SV:=.bW [.agg (.op o),.c (.f (.slice i (.l 0) (.o n) (.full 1))),.c (.f (.int .i64 (.o 0)))]
def Cc (o:Array Value) (n:Nat) (rs:Array Value) (s:SV) (m:aj):Prop:=match s with | .bW [_,.c (.f (.slice i _ _ _)),_]=>bM 0 [(0,i)] (Uw o 0 n) (cD 1 [(0,⟨.pop rs,3,true⟩)]) s m | _=>False
noncomputable def Ux (ws:Array Value):SV:=.bW [.agg (.op ws),.c (.f (.lit (.slice none 0 0))),.c (.f (.int .i64 (.o 4)))]
noncomputable def qe:List bh:=cY Tryz.f61 7
noncomputable def Ei (h:Int) (i:Int) (us:Array Value) (zz:Array Value):List av:=[dw 61 Tryz.f61 [(1,i64 (.o h)),(2,ptr 0 (.l 0)),(4,ptr 1 (.l 0)),(7,i64 (.o i))] qe]
noncomputable def Ej (h:Int) (i:Int) (us:Array Value) (zz:Array Value):aj:=cD 2 [(0,⟨.op us,51,true⟩),(1,⟨.op zz,51,true⟩)]
def Ek (h:Int) (Q:Int→Array Value→Array Value→Prop) (fs:List av) (m:aj):Prop:=(match b9 fs 0 with | some f0=>(match dh f0 7 with | some i=>(match aV f0 2 with | some p0=>(match aV f0 4 with | some p1=>(match cO m p0 with | some us=>(match cO m p1 with | some zz=>Q i us zz∧cV 0 [(0,p0),(1,p1)] (Ei h i us zz) (Ej h i us zz) fs m | none=>False) | none=>False) | none=>False) | none=>False) | none=>False) | none=>False)
noncomputable def tV:List bh:=cY Tryz.f28 6
noncomputable def xm (ws:Array Value) (h:Int) (n:Nat) (ks:Array Value) (i:Int) (us:Array Value) (zz:Array Value):List av:=[dw 28 Tryz.f28 [(1,i64 (.o h)),(2,ptr 0 (.l 0)),(4,ptr 1 (.l 0)),(6,ptr 2 (.l 0)),(7,fK 3 n),(8,i64 (.o i))] tV]
noncomputable def xp (ws:Array Value) (h:Int) (n:Nat) (ks:Array Value) (i:Int) (us:Array Value) (zz:Array Value):aj:=cD 4 [(0,⟨.op ws,51,true⟩),(1,⟨.op zz,51,true⟩),(2,⟨.op us,51,true⟩),(3,⟨.pop ks,3,true⟩)]
def El (ws:Array Value) (h:Int) (n:Nat) (ks:Array Value) (Q:Int→Array Value→Array Value→Prop) (fs:List av) (m:aj):Prop:=(match b9 fs 0 with | some f0=>(match dh f0 8 with | some i=>(match aV f0 2 with | some p0=>(match aV f0 4 with | some p1=>(match aV f0 6 with | some p2=>(match fG f0 7 with | some p3=>(match cO m p2 with | some us=>(match cO m p1 with | some zz=>Q i us zz∧cV 0 [(0,p0),(1,p1),(2,p2),(3,p3)] (xm ws h n ks i us zz) (xp ws h n ks i us zz) fs m | none=>False) | none=>False) | none=>False) | none=>False) | none=>False) | none=>False) | none=>False) | none=>False)
noncomputable def nL:List bh:=cY Tryz.f28 10
noncomputable def Az (ws:Array Value) (h:Int) (n:Nat) (ks:Array Value) (i:Int) (k:Int) (c:Int) (us:Array Value) (zz:Array Value):List av:=[dw 28 Tryz.f28 [(1,i64 (.o h)),(2,ptr 0 (.l 0)),(4,ptr 1 (.l 0)),(6,ptr 2 (.l 0)),(7,fK 3 n),(8,i64 (.o i)),(9,i64 (.o k)),(10,i64 (.o c))] nL]
noncomputable def AA (ws:Array Value) (h:Int) (n:Nat) (ks:Array Value) (i:Int) (k:Int) (c:Int) (us:Array Value) (zz:Array Value):aj:=cD 4 [(0,⟨.op ws,51,true⟩),(1,⟨.op zz,51,true⟩),(2,⟨.op us,51,true⟩),(3,⟨.pop ks,3,true⟩)]
def Em (ws:Array Value) (h:Int) (n:Nat) (ks:Array Value) (Q:Int→Int→Int→Array Value→Array Value→Prop) (fs:List av) (m:aj):Prop:=(match b9 fs 0 with | some f0=>(match dh f0 8 with | some i=>(match dh f0 9 with | some k=>(match dh f0 10 with | some c=>(match aV f0 2 with | some p0=>(match aV f0 4 with | some p1=>(match aV f0 6 with | some p2=>(match fG f0 7 with | some p3=>(match cO m p2 with | some us=>(match cO m p1 with | some zz=>Q i k c us zz∧cV 0 [(0,p0),(1,p1),(2,p2),(3,p3)] (Az ws h n ks i k c us zz) (AA ws h n ks i k c us zz) fs m | none=>False) | none=>False) | none=>False) | none=>False) | none=>False) | none=>False) | none=>False) | none=>False) | none=>False) | none=>False)
noncomputable def tW:List bh:=cY Tryz.f30 8
noncomputable def En (ws:Array Value) (h:Int) (u:Int) (vs:Array Value) (e:Int) (n:Nat) (ks:Array Value) (i:Int) (zz:Array Value):List av:=[dw 30 Tryz.f30 [(1,i64 (.o h)),(2,i64 (.o u)),(3,ptr 0 (.l 0)),(6,ptr 1 (.l 0)),(8,ptr 2 (.l 0)),(9,i64 (.o e)),(10,fK 3 n),(11,i64 (.o i))] tW]
noncomputable def Eo (ws:Array Value) (h:Int) (u:Int) (vs:Array Value) (e:Int) (n:Nat) (ks:Array Value) (i:Int) (zz:Array Value):aj:=cD 4 [(0,⟨.op ws,51,true⟩),(1,⟨.op zz,51,true⟩),(2,⟨.op vs,51,true⟩),(3,⟨.pop ks,3,true⟩)]
def Ep (ws:Array Value) (h:Int) (u:Int) (vs:Array Value) (e:Int) (n:Nat) (ks:Array Value) (Q:Int→Array Value→Prop) (fs:List av) (m:aj):Prop:=(match b9 fs 0 with | some f0=>(match dh f0 11 with | some i=>(match aV f0 3 with | some p0=>(match aV f0 6 with | some p1=>(match aV f0 8 with | some p2=>(match fG f0 10 with | some p3=>(match cO m p1 with | some zz=>Q i zz∧cV 0 [(0,p0),(1,p1),(2,p2),(3,p3)] (En ws h u vs e n ks i zz) (Eo ws h u vs e n ks i zz) fs m | none=>False) | none=>False) | none=>False) | none=>False) | none=>False) | none=>False) | none=>False)
noncomputable def tX:List bh:=cY Tryz.f25 3
noncomputable def Er (h:Int) (n:Nat) (ks:Array Value) (i:Int) (us:Array Value) (zz:Array Value):List av:=[dw 25 Tryz.f25 [(1,i64 (.o h)),(2,ptr 0 (.l 0)),(4,ptr 1 (.l 0)),(7,fK 2 n),(8,i64 (.o i))] tX]
noncomputable def Es (h:Int) (n:Nat) (ks:Array Value) (i:Int) (us:Array Value) (zz:Array Value):aj:=cD 3 [(0,⟨.op us,51,true⟩),(1,⟨.op zz,51,true⟩),(2,⟨.pop ks,3,true⟩)]
def Et (h:Int) (n:Nat) (ks:Array Value) (Q:Int→Array Value→Array Value→Prop) (fs:List av) (m:aj):Prop:=(match b9 fs 0 with | some f0=>(match dh f0 8 with | some i=>(match aV f0 2 with | some p0=>(match aV f0 4 with | some p1=>(match fG f0 7 with | some p2=>(match cO m p0 with | some us=>(match cO m p1 with | some zz=>Q i us zz∧cV 0 [(0,p0),(1,p1),(2,p2)] (Er h n ks i us zz) (Es h n ks i us zz) fs m | none=>False) | none=>False) | none=>False) | none=>False) | none=>False) | none=>False) | none=>False)
noncomputable def TP (ts:Array Value):Env:=⟨Tryz.prog,dg,sj ts,dy [25*1000+5]⟩
def L3 (ws:Array Value) (h:Int) (n:Nat) (ks:Array Value) (QO:Int→Array Value→Array Value→Prop) (QI:Int→Int→Int→Array Value→Array Value→Prop) (fs:List av) (m:aj):Prop:=match Nat.beq (atR fs) (28*1000+6) with | true=>El ws h n ks QO fs m | false=>Em ws h n ks QI fs m
theorem HN (r:Nat→Option Nat):ak r qe qe:=ak.it (by kernel_rfl)
theorem Ov (r:Nat→Option Nat):ak r tV tV:=ak.it (by kernel_rfl)
theorem CG (r:Nat→Option Nat):ak r nL nL:=ak.it (by kernel_rfl)
theorem Ow (r:Nat→Option Nat):ak r tW tW:=ak.it (by kernel_rfl)
theorem Ox (r:Nat→Option Nat):ak r tX tX:=ak.it (by kernel_rfl)
theorem CY {A:SV→aj→Prop} {h:Int} {Q:Int→Array Value→Array Value→Prop} {fs:List av} {m:aj} (H:∀ i us zz,Q i us zz→Good Tryz.prog A 0 (Ei h i us zz) (Ej h i us zz)) (hb:Ek h Q fs m):Good Tryz.prog A 0 fs m:=by
 unfold Ek at hb
 iterate 6 (split at hb;rotate_left;exact hb.elim)
 exact Good.c_ hb.2 (H _ _ _ hb.1)
theorem Ii {A:SV→aj→Prop} {ws:Array Value} {h:Int} {n:Nat} {ks:Array Value} {Q:Int→Array Value→Array Value→Prop} {fs:List av} {m:aj} (H:∀ i us zz,Q i us zz→Good Tryz.prog A 0 (xm ws h n ks i us zz) (xp ws h n ks i us zz)) (hb:El ws h n ks Q fs m):Good Tryz.prog A 0 fs m:=by
 unfold El at hb
 iterate 8 (split at hb;rotate_left;exact hb.elim)
 exact Good.c_ hb.2 (H _ _ _ hb.1)
theorem Ij {A:SV→aj→Prop} {ws:Array Value} {h:Int} {n:Nat} {ks:Array Value} {Q:Int→Int→Int→Array Value→Array Value→Prop} {fs:List av} {m:aj} (H:∀ i k c us zz,Q i k c us zz→Good Tryz.prog A 0 (Az ws h n ks i k c us zz) (AA ws h n ks i k c us zz)) (hb:Em ws h n ks Q fs m):Good Tryz.prog A 0 fs m:=by
 unfold Em at hb
 iterate 10 (split at hb;rotate_left;exact hb.elim)
 exact Good.c_ hb.2 (H _ _ _ _ _ hb.1)
theorem zB {A:SV→aj→Prop} {ws:Array Value} {h:Int} {u:Int} {vs:Array Value} {e:Int} {n:Nat} {ks:Array Value} {Q:Int→Array Value→Prop} {fs:List av} {m:aj} (H:∀ i zz,Q i zz→Good Tryz.prog A 0 (En ws h u vs e n ks i zz) (Eo ws h u vs e n ks i zz)) (hb:Ep ws h u vs e n ks Q fs m):Good Tryz.prog A 0 fs m:=by
 unfold Ep at hb
 iterate 7 (split at hb;rotate_left;exact hb.elim)
 exact Good.c_ hb.2 (H _ _ hb.1)
theorem Ik {A:SV→aj→Prop} {h:Int} {n:Nat} {ks:Array Value} {Q:Int→Array Value→Array Value→Prop} {fs:List av} {m:aj} (H:∀ i us zz,Q i us zz→Good Tryz.prog A 0 (Er h n ks i us zz) (Es h n ks i us zz)) (hb:Et h n ks Q fs m):Good Tryz.prog A 0 fs m:=by
 unfold Et at hb
 iterate 7 (split at hb;rotate_left;exact hb.elim)
 exact Good.c_ hb.2 (H _ _ _ hb.1)
set_option maxRecDepth 100000
noncomputable def AB:List Value:=[Value.int .i64 0,Value.int .i64 0,Value.slice none 0 0,Value.int .i64 0,Value.int .i64 0,Value.int .i64 0,Value.int .i64 0,Value.int .i64 0,Value.int .i64 0,Value.int .i64 0,Value.int .i64 0,Value.int .i64 0]
noncomputable def jN (ws:Array Value):Array Value:=Array.extract ws 0 64
theorem Uy (ws:Array Value) (h:Int) (o:Array Value) (e:Int) (Q:Int→Array Value→Array Value→Prop):(run GJ 1000 0 [a_ 61 Tryz.f61.ntmps [bg ws,i64 (.o h)] (Tryz.f61.body.getD .skip)] aT).vc (lC o e) (Ek h Q) =
  ((64≤ws.size∧True)∧(WB (jN ws)∧True)∧(decide (aQ (jN ws) h<0)=true→(ws.size=448∧True)∧(ws.size=448∧ws.size=448∧True)∧(ws.size=448∧True)∧o=ws∧e=4∧True)∧(decide (aQ (jN ws) h<0)=false→(64≤ws.size∧True)∧(WB (jN ws)∧True)∧((hJ (jN ws) h).size=64∧0+(hJ (jN ws) h).size≤ws.size∧True)∧((0≤aQ (jN ws) h∧aQ (jN ws) h<32)∧True)∧(64+(aQ (jN ws) h).toNat*12+12≤(putAt ws 0 (Array.toList (hJ (jN ws) h))).size∧True)∧Q (0:Int) (putAt (putAt ws 0 (Array.toList (hJ (jN ws) h))) (64+(aQ (jN ws) h).toNat*12) (AB)) zW∧cN∧ak (aD 0 [(0,0),(1,1)]) qe qe∧h=h∧(0:Int)=(0:Int)∧51=51∧putAt (putAt ws 0 (Array.toList (hJ (jN ws) h))) (64+(aQ (jN ws) h).toNat*12) (AB)=putAt (putAt ws 0 (Array.toList (hJ (jN ws) h))) (64+(aQ (jN ws) h).toNat*12) (AB)∧51=51∧zW=zW∧True)):=by kernel_rfl
theorem Uz (h i:Int) (us zz:Array Value) (o:Array Value) (e:Int) (Q:Int→Array Value→Array Value→Prop):(stepT GJ.go (run GJ 1000) 0 (Ei h i us zz) (Ej h i us zz)).vc (lC o e) (Ek h Q) =
  ((decide (i<32)=true→((0≤i∧i<32)∧True)∧(aA .i64 us (64+i.toNat*12)∧True)∧((aa us (64+i.toNat*12)==h)=true→((0≤i∧i<32)∧True)∧(64+i.toNat*12<us.size∧True)∧Q (ah .add .i64 i 1) (Array.setIfInBounds us (64+i.toNat*12) (Value.int .i64 0)) zz∧cN∧ak (aD 0 [(0,0),(1,1)]) qe qe∧h=h∧ah .add .i64 i 1=ah .add .i64 i 1∧51=51∧Array.setIfInBounds us (64+i.toNat*12) (Value.int .i64 0)=Array.setIfInBounds us (64+i.toNat*12) (Value.int .i64 0)∧51=51∧zz=zz∧True)∧((aa us (64+i.toNat*12)==h)=false→Q (ah .add .i64 i 1) us zz∧cN∧ak (aD 0 [(0,0),(1,1)]) qe qe∧h=h∧ah .add .i64 i 1=ah .add .i64 i 1∧51=51∧us=us∧51=51∧zz=zz∧True))∧(decide (i<32)=false→(us.size=448∧True)∧(us.size=448∧us.size=zz.size∧True)∧(us.size=448∧True)∧o=us∧e=0∧True)):=by kernel_rfl
noncomputable def qp (ws:Array Value) (h:Int) (u:Int):Array Value:=Array.setIfInBounds ws (64+(aQ (Array.extract ws 0 (0+64)) h).toNat*12) (Value.int .i64 u)
def KF (ts:Array Value) (ws:Array Value) (h:Int) (u:Int) (o:Array Value) (e:Int):Prop:=((u != 0)==true)=true→(((u==h)==false)=true→(ws.size=448∧True)∧(SW ts ws∧ay ts∧(u=(0:Int)∨aB ts u=true)∧True)∧(hH ts h u=true→(ws.size=448∧True)∧(ws.size=448∧ws.size=448∧True)∧(ws.size=448∧True)∧o=ws∧e=12∧True)∧(hH ts h u=false→(0+64≤ws.size∧True)∧(WB (Array.extract ws 0 (0+64))∧True)∧((0≤aQ (Array.extract ws 0 (0+64)) h∧aQ (Array.extract ws 0 (0+64)) h<32)∧True)∧(64+(aQ (Array.extract ws 0 (0+64)) h).toNat*12<ws.size∧True)∧((qp ws h u).size=448∧True)∧((qp ws h u).size=448∧(qp ws h u).size=448∧True)∧((qp ws h u).size=448∧True)∧o=Array.setIfInBounds ws (64+(aQ (Array.extract ws 0 (0+64)) h).toNat*12) (Value.int .i64 u)∧e=0∧True))∧(((u==h)==false)=false→(ws.size=448∧True)∧(ws.size=448∧ws.size=448∧True)∧(ws.size=448∧True)∧o=ws∧e=12∧True)
def KG (ws:Array Value) (h:Int) (u:Int) (o:Array Value) (e:Int):Prop:=((u != 0)==true)=false→(0+64≤ws.size∧True)∧(WB (Array.extract ws 0 (0+64))∧True)∧((0≤aQ (Array.extract ws 0 (0+64)) h∧aQ (Array.extract ws 0 (0+64)) h<32)∧True)∧(64+(aQ (Array.extract ws 0 (0+64)) h).toNat*12<ws.size∧True)∧((qp ws h u).size=448∧True)∧((qp ws h u).size=448∧(qp ws h u).size=448∧True)∧((qp ws h u).size=448∧True)∧o=Array.setIfInBounds ws (64+(aQ (Array.extract ws 0 (0+64)) h).toNat*12) (Value.int .i64 u)∧e=0∧True
theorem wra (ts ws:Array Value) (h u:Int) (o:Array Value) (e:Int):(run (s9 ts) 1000 0 [a_ 70 Tryz.f70.ntmps [bg ws,i64 (.o h),i64 (.o u)] (Tryz.f70.body.getD .skip)] aT).vc (lC o e) (fun _ _=>False) =
  ((ws.size=448∧True)∧(SW ts ws∧aM ts∧True)∧(((!aB ts h)==false)=true→(((u != 0)==true)=true→(ws.size=448∧True)∧(SW ts ws∧aM ts∧True)∧((!aB ts u)=true→(ws.size=448∧True)∧(ws.size=448∧ws.size=448∧True)∧(ws.size=448∧True)∧o=ws∧e=4∧True)∧((!aB ts u)=false→(KF ts ws h u o e)∧(KG ws h u o e)))∧(((u != 0)==true)=false→(KF ts ws h u o e)∧(KG ws h u o e)))∧(((!aB ts h)==false)=false→(ws.size=448∧True)∧(ws.size=448∧ws.size=448∧True)∧(ws.size=448∧True)∧o=ws∧e=4∧True)):=by kernel_rfl
theorem UA (ts ws:Array Value) (h:Int) (n:Nat) (ks:Array Value) (o:Array Value) (e:Int) (Q:Int→Array Value→Array Value→Prop):(run (q9 ts) 1000 0 [a_ 28 Tryz.f28.ntmps [bg ws,i64 (.o h)] (Tryz.f28.body.getD .skip)] aT).vc (lC o e) (El ws h n ks Q) =
  ((ws.size=448∧True)∧(SW ts ws∧aM ts∧True)∧((!aB ts h)=true→(ws.size=448∧True)∧(ws.size=448∧ws.size=448∧True)∧(ws.size=448∧True)∧o=ws∧e=4∧True)∧((!aB ts h)=false→(ws.size=448∧True)∧(ws.size=448∧ws.size=448∧True)∧(ws.size=448∧True)∧(SW ts ws∧ay ts∧True)∧(decide ((aJ ts h).length=0)=true→False)∧(decide ((aJ ts h).length=0)=false→Q (0:Int) ws zW∧cN∧ak (aD 0 [(0,0),(1,1),(2,2),(3,3)]) tV tV∧h=h∧n=(aJ ts h).length∧(0:Int)=(0:Int)∧51=51∧ws=ws∧51=51∧zW=zW∧3=3∧ks=aE (aJ ts h)∧51=51∧ws=ws∧True))):=by kernel_rfl
noncomputable def m_ (ws:Array Value):Array Value:=Array.extract ws 0 (0+64)
noncomputable def xq (ws:Array Value) (h:Int) (us:Array Value):Array Value:=Array.setIfInBounds us (64+(aQ (m_ ws) h).toNat*12) (Value.int .i64 0)
theorem UB (ts ws:Array Value) (h:Int) (n:Nat) (ks:Array Value) (i:Int) (us zz:Array Value) (o:Array Value) (e:Int) (Q:Int→Int→Int→Array Value→Array Value→Prop):(stepT (q9 ts).go (run (q9 ts) 1000) 0 (xm ws h n ks i us zz) (xp ws h n ks i us zz)).vc (lC o e) (Em ws h n ks Q) =
  ((decide (i<(↑n:Int))=true→(0+64≤ws.size∧True)∧((0≤i∧i<(↑n:Int))∧True)∧(aA .i64 ks (0+i.toNat*1)∧True)∧(WB (m_ ws)∧True)∧Q i (aQ (m_ ws) (aa ks (0+i.toNat*1))) (0:Int) us zz∧cN∧ak (aD 0 [(0,0),(1,1),(2,2),(3,3)]) nL nL∧h=h∧n=n∧aQ (m_ ws) (aa ks (0+i.toNat*1))=aQ (m_ ws) (aa ks (0+i.toNat*1))∧i=i∧(0:Int)=(0:Int)∧51=51∧ws=ws∧51=51∧zz=zz∧3=3∧ks=ks∧51=51∧us=us∧True)∧(decide (i<(↑n:Int))=false→(0+64≤ws.size∧True)∧(WB (m_ ws)∧True)∧((0≤aQ (m_ ws) h∧aQ (m_ ws) h<32)∧True)∧(64+(aQ (m_ ws) h).toNat*12<us.size∧True)∧((xq ws h us).size=448∧True)∧((xq ws h us).size=448∧(xq ws h us).size=zz.size∧True)∧((xq ws h us).size=448∧True)∧o=Array.setIfInBounds us (64+(aQ (m_ ws) h).toNat*12) (Value.int .i64 0)∧e=0∧True)):=by kernel_rfl
theorem UC (ts ws:Array Value) (h:Int) (n:Nat) (ks:Array Value) (i k c:Int) (us zz:Array Value) (o:Array Value) (e:Int) (QO:Int→Array Value→Array Value→Prop) (QI:Int→Int→Int→Array Value→Array Value→Prop):(stepT (q9 ts).go (run (q9 ts) 1000) 0 (Az ws h n ks i k c us zz) (AA ws h n ks i k c us zz)).vc (lC o e) (L3 ws h n ks QO QI) =
  ((decide (c<8)=true→((0≤k∧k<32)∧True)∧((0≤c∧c<8)∧True)∧(aA .i64 ws (64+k.toNat*12+4+c.toNat*1)∧True)∧(((aa ws (64+k.toNat*12+4+c.toNat*1) != 0)==true)=true→(ws.size=448∧True)∧(SW ts ws∧ay ts∧(h=(0:Int)∨aB ts h=true)∧True)∧(hH ts (aa ws (64+k.toNat*12+4+c.toNat*1)) h=true→((0≤k∧k<32)∧True)∧((0≤c∧c<8)∧True)∧(64+k.toNat*12+4+c.toNat*1<us.size∧True)∧QI i k (ah .add .i64 c 1) (Array.setIfInBounds us (64+k.toNat*12+4+c.toNat*1) (Value.int .i64 0)) zz∧cN∧ak (aD 0 [(0,0),(1,1),(2,2),(3,3)]) nL nL∧h=h∧n=n∧k=k∧i=i∧ah .add .i64 c 1=ah .add .i64 c 1∧51=51∧ws=ws∧51=51∧zz=zz∧3=3∧ks=ks∧51=51∧Array.setIfInBounds us (64+k.toNat*12+4+c.toNat*1) (Value.int .i64 0)=Array.setIfInBounds us (64+k.toNat*12+4+c.toNat*1) (Value.int .i64 0)∧True)∧(hH ts (aa ws (64+k.toNat*12+4+c.toNat*1)) h=false→QI i k (ah .add .i64 c 1) us zz∧cN∧ak (aD 0 [(0,0),(1,1),(2,2),(3,3)]) nL nL∧h=h∧n=n∧k=k∧i=i∧ah .add .i64 c 1=ah .add .i64 c 1∧51=51∧ws=ws∧51=51∧zz=zz∧3=3∧ks=ks∧51=51∧us=us∧True))∧(((aa ws (64+k.toNat*12+4+c.toNat*1) != 0)==true)=false→QI i k (ah .add .i64 c 1) us zz∧cN∧ak (aD 0 [(0,0),(1,1),(2,2),(3,3)]) nL nL∧h=h∧n=n∧k=k∧i=i∧ah .add .i64 c 1=ah .add .i64 c 1∧51=51∧ws=ws∧51=51∧zz=zz∧3=3∧ks=ks∧51=51∧us=us∧True))∧(decide (c<8)=false→QO (ah .add .i64 i 1) us zz∧cN∧ak (aD 0 [(0,0),(1,1),(2,2),(3,3)]) tV tV∧h=h∧n=n∧ah .add .i64 i 1=ah .add .i64 i 1∧51=51∧ws=ws∧51=51∧zz=zz∧3=3∧ks=ks∧51=51∧us=us∧True)):=by kernel_rfl
theorem M6 (ts us ws:Array Value) (h u:Int) (vs:Array Value) (n:Nat) (ks:Array Value) (o:Array Value) (e e':Int) (Q:Int→Array Value→Prop):(run (GK ts us) 1000 0 [a_ 30 Tryz.f30.ntmps [bg ws,i64 (.o h),i64 (.o u)] (Tryz.f30.body.getD .skip)] aT).vc (lC o e) (Ep ws h u vs e' n ks Q) =
  ((ws.size=448∧True)∧(SW ts ws∧aM ts∧True)∧(((!aB ts h)==false)=true→(ws.size=448∧True)∧(SW ts ws∧aM ts∧True)∧((!aB ts u)=true→(ws.size=448∧True)∧(ws.size=448∧ws.size=448∧True)∧(ws.size=448∧True)∧o=ws∧e=4∧True)∧((!aB ts u)=false→(ws.size=448∧True)∧(SW ts ws∧aM ts∧True)∧(((aG ts h != 0)==false)=true→(ws.size=448∧True)∧(SW ts ws∧ay ts∧True)∧(fm ts h u=true→(ws.size=448∧True)∧(ws.size=448∧ws.size=448∧True)∧(ws.size=448∧True)∧o=ws∧e=12∧True)∧(fm ts h u=false→(ws.size=448∧True)∧(SW ts ws∧ay ts∧True)∧((jf ts ws h u).size=448∧(jf ts ws h u).size=448∧True)∧((jf ts ws h u).size=448∧True)∧(SW us (jf ts ws h u)∧ay us∧True)∧(decide ((aJ us h).length=0)=true→False)∧(decide ((aJ us h).length=0)=false→Q (0:Int) zW∧cN∧ak (aD 0 [(0,0),(1,1),(2,2),(3,3)]) tW tW∧h=h∧(0:Int)=(0:Int)∧e'=dz ts h u∧u=u∧n=(aJ us h).length∧51=51∧ws=ws∧51=51∧zW=zW∧3=3∧ks=aE (aJ us h)∧51=51∧vs=jf ts ws h u∧True)))∧(((aG ts h != 0)==false)=false→(ws.size=448∧True)∧(ws.size=448∧ws.size=448∧True)∧(ws.size=448∧True)∧o=ws∧e=12∧True)))∧(((!aB ts h)==false)=false→(ws.size=448∧True)∧(ws.size=448∧ws.size=448∧True)∧(ws.size=448∧True)∧o=ws∧e=4∧True)):=by kernel_rfl
theorem UD (ts us ws:Array Value) (h u:Int) (vs:Array Value) (e':Int) (n:Nat) (ks:Array Value) (i:Int) (zz:Array Value) (o:Array Value) (e:Int) (Q:Int→Array Value→Prop):(stepT (GK ts us).go (run (GK ts us) 1000) 0 (En ws h u vs e' n ks i zz) (Eo ws h u vs e' n ks i zz)).vc (lC o e) (Ep ws h u vs e' n ks Q) =
  ((decide (i<(↑n:Int))=true→(vs.size=448∧True)∧((0≤i∧i<(↑n:Int))∧True)∧(aA .i64 ks (0+i.toNat*1)∧True)∧(SW us vs∧ay us∧True)∧(decide ((↑(aY us (aa ks (0+i.toNat*1))):Int)>6)=true→(ws.size=448∧True)∧(ws.size=448∧ws.size=zz.size∧True)∧(ws.size=448∧True)∧o=ws∧e=8∧True)∧(decide ((↑(aY us (aa ks (0+i.toNat*1))):Int)>6)=false→Q (ah .add .i64 i 1) zz∧cN∧ak (aD 0 [(0,0),(1,1),(2,2),(3,3)]) tW tW∧h=h∧ah .add .i64 i 1=ah .add .i64 i 1∧e'=e'∧u=u∧n=n∧51=51∧ws=ws∧51=51∧zz=zz∧3=3∧ks=ks∧51=51∧vs=vs∧True))∧(decide (i<(↑n:Int))=false→(vs.size=448∧True)∧(vs.size=448∧vs.size=zz.size∧True)∧(vs.size=448∧True)∧o=vs∧e=e'∧True)):=by kernel_rfl
theorem wf0 (ts ws:Array Value) (h:Int) (n:Nat) (ks:Array Value) (o:Array Value) (Q:Int→Array Value→Array Value→Prop):(run (q9 ts) 1000 0 [a_ 25 Tryz.f25.ntmps [bg ws,i64 (.o h)] (Tryz.f25.body.getD .skip)] aT).vc (Cc o n ks) (Et h n ks Q) =
  ((ws.size=448∧True)∧(SW ts ws∧ay ts∧True)∧(decide ((aJ ts h).length=0)=true→False)∧(decide ((aJ ts h).length=0)=false→Q (0:Int) ws zW∧cN∧ak (aD 0 [(0,0),(1,1),(2,2)]) tX tX∧h=h∧n=(aJ ts h).length∧(0:Int)=(0:Int)∧51=51∧ws=ws∧51=51∧zW=zW∧3=3∧ks=aE (aJ ts h)∧True)):=by kernel_rfl
theorem ad4 (ts ws:Array Value) (h:Int):(run (TP ts) 1000 0 [a_ 25 Tryz.f25.ntmps [bg ws,i64 (.o h)] (Tryz.f25.body.getD .skip)] aT).vc (bM 0 [] (Ux ws) aT) (fun _ _=>False) =
  ((ws.size=448∧True)∧(SW ts ws∧ay ts∧True)∧(decide ((aJ ts h).length=0)=true→(ws.size=448∧True)∧(ws.size=448∧ws.size=448∧True)∧(ws.size=448∧True)∧ws=ws∧Value.slice none 0 0=Value.slice none 0 0∧(4:Int)=(4:Int)∧True)∧(decide ((aJ ts h).length=0)=false→(decide ((0:Int)<(↑((aJ ts h).length):Int))=true→False)∧(decide ((0:Int)<(↑((aJ ts h).length):Int))=false→(((↑((aJ ts h).length):Int)==0)=true→(ws.size=448∧True)∧(ws.size=448∧ws.size=448∧True)∧(ws.size=448∧True)∧ws=ws∧Value.slice none 0 0=Value.slice none 0 0∧(4:Int)=(4:Int)∧True)∧(((↑((aJ ts h).length):Int)==0)=false→(ws.size=448∧True)∧(ws.size=448∧ws.size=448∧True)∧(ws.size=448∧True)∧False)))):=by kernel_rfl
theorem UE (ts:Array Value) (h:Int) (n:Nat) (ks:Array Value) (i:Int) (us zz:Array Value) (o:Array Value) (Q:Int→Array Value→Array Value→Prop):(stepT (q9 ts).go (run (q9 ts) 1000) 0 (Er h n ks i us zz) (Es h n ks i us zz)).vc (Cc o n ks) (Et h n ks Q) =
  ((decide (i<(↑n:Int))=true→(us.size=448∧True)∧((0≤i∧i<(↑n:Int))∧True)∧(aA .i64 ks (0+i.toNat*1)∧True)∧(WT us∧True)∧((lB us (aa ks (0+i.toNat*1))).size=448∧(lB us (aa ks (0+i.toNat*1))).size=us.size∧True)∧Q (ah .add .i64 i 1) (lB us (aa ks (0+i.toNat*1))) zz∧cN∧ak (aD 0 [(0,0),(1,1),(2,2)]) tX tX∧h=h∧n=n∧ah .add .i64 i 1=ah .add .i64 i 1∧51=51∧lB us (aa ks (0+i.toNat*1))=lB us (aa ks (0+i.toNat*1))∧51=51∧zz=zz∧3=3∧ks=ks∧True)∧(decide (i<(↑n:Int))=false→(((↑n:Int)==0)=true→(us.size=448∧True)∧(us.size=448∧us.size=zz.size∧True)∧(us.size=448∧True)∧False)∧(((↑n:Int)==0)=false→(us.size=448∧True)∧(us.size=448∧us.size=zz.size∧True)∧(us.size=448∧True)∧o=us∧n=n∧(0:Int)=(0:Int)∧3=3∧ks=ks∧True))):=by kernel_rfl
section
variable {ts ws:Array Value} {h:Int}
theorem SW.wt (w:SW ts ws) (hb:aM ts):WT ws:=by
 refine ⟨w.sz,w.wb hb,fun i hi=>?_⟩
 by_cases k:cB (aF ts) i=1
 ·exact bw (w.r i hi k 0 (by decide))
 ·exact bw (w.z i hi k 0 (by decide))
theorem Eu (us:Array Value) (h:Int) (hz:us.size=448):∀ n,n≤32→(fC us h n).size=448∧(∀ i,i<n→aa us (64+i*12)=h→(fC us h n)[64+i*12]?=some (.int .i64 0))∧∀ j,(∀ i,i<n→j=64+i*12→aa us j≠h)→(fC us h n)[j]?=us[j]?
 | 0,_=>⟨hz,fun i hi=>absurd hi (Nat.not_lt_zero _),fun j _=>rfl⟩
 | n+1,hn=>by
  obtain ⟨z,a,b⟩:=Eu us h hz n (by omega)
  have e:aa (fC us h n) (64+n*12)=aa us (64+n*12):=by
   unfold aa
   rw [b _ (fun i hi e=>by omega)]
  show ((if aa (fC us h n) (64+n*12)=h then (fC us h n).setIfInBounds (64+n*12) (.int .i64 0) else fC us h n).size=448)∧(∀ i,i<n+1→aa us (64+i*12)=h→(if aa (fC us h n) (64+n*12)=h then (fC us h n).setIfInBounds (64+n*12) (.int .i64 0) else fC us h n)[64+i*12]?=some (.int .i64 0))∧∀ j,(∀ i,i<n+1→j=64+i*12→aa us j≠h)→(if aa (fC us h n) (64+n*12)=h then (fC us h n).setIfInBounds (64+n*12) (.int .i64 0) else fC us h n)[j]?=us[j]?
  rw [e]
  by_cases c:aa us (64+n*12)=h
  ·rw [if_pos c]
   refine ⟨by rw [Array.size_setIfInBounds];exact z,fun i hi hh=>?_,fun j hj=>?_⟩
   ·by_cases d:i=n
    ·rw [d,Array.getElem?_setIfInBounds,if_pos rfl,if_pos (by rw [z];omega)]
    ·rw [Array.getElem?_setIfInBounds,if_neg (by omega)]
     exact a i (by omega) hh
   ·have hne:64+n*12≠j:=fun k=>hj n (by omega) k.symm (by rw [← k];exact c)
    rw [Array.getElem?_setIfInBounds,if_neg hne]
    exact b j fun i hi=>hj i (by omega)
  ·rw [if_neg c]
   refine ⟨z,fun i hi hh=>?_,fun j hj=>b j fun i hi=>hj i (by omega)⟩
   by_cases d:i=n
   ·rw [d] at hh;exact absurd hh c
   ·exact a i (by omega) hh
theorem Pt (hw:WB ws) (h:Int):(hJ ws h).size=64:=by
 unfold hJ
 split
 ·exact hw.sz
 ·split
  ·rw [Array.size_setIfInBounds,Array.size_setIfInBounds];exact hw.sz
  ·rw [Array.size_setIfInBounds,Array.size_setIfInBounds];exact hw.sz
theorem KH (t:WT ws) {s:Nat} (hs:s<32) (es:aQ (ws.extract 0 64) h=(s:Int)):(ke ws h).size=448∧(∀ j,j<64→(ke ws h)[j]?=(hJ (ws.extract 0 64) h)[j]?)∧∀ j c,j<32→c<12→(ke ws h)[64+j*12+c]?=if j=s then yd[c]? else ws[64+j*12+c]?:=by
 have hz:=t.sz
 have vz:=Pt t.wb h
 have vl:(hJ (ws.extract 0 64) h).toList.length=64:=by rw [Array.length_toList,vz]
 have z0:0+(hJ (ws.extract 0 64) h).toList.length≤ws.size:=by omega
 have z1:(putAt ws 0 (hJ (ws.extract 0 64) h).toList).size=448:=by rw [kR z0];exact hz
 have zl:yd.length=12:=rfl
 have e:ke ws h=putAt (putAt ws 0 (hJ (ws.extract 0 64) h).toList) (64+s*12) yd:=by unfold ke;rw [es,Int.toNat_natCast]
 have z2:64+s*12+yd.length≤(putAt ws 0 (hJ (ws.extract 0 64) h).toList).size:=by rw [z1,zl];omega
 refine ⟨by rw [e,kR z2];exact z1,fun j hj=>?_,fun j c hj hc=>?_⟩
 ·rw [e,kS z2 (.inl (by omega)),nH z0 (Nat.zero_le _) (by omega),Nat.sub_zero,Array.getElem?_toList]
 ·rw [e]
  by_cases d:j=s
  ·rw [if_pos d,nH z2 (by omega) (by rw [zl];omega),d]
   congr 1
   omega
  ·rw [if_neg d,kS z2 (by rw [zl];omega),kS z0 (by rw [vl];omega)]
theorem aaM (t:WT ws) {s:Nat} (hs:s<32) (es:aQ (ws.extract 0 64) h=(s:Int)) {i:Nat} (hi:i<32):aA .i64 (ke ws h) (64+i*12):=by
 have:=(KH t hs es).2.2 i 0 hi (by decide)
 rw [Nat.add_zero] at this
 by_cases d:i=s
 ·rw [if_pos d] at this
  exact bw (n:=0) this
 ·rw [if_neg d] at this
  exact bw (this.trans (t.up i hi))
theorem XW:∀ g l m t,KD g l m=some t→aq E0 g l m t:=by
 intro g l m t h
 unfold KD at h
 split at h
 ·rename_i ws x;cases h
  exact aq.n1 (WK x.den m)
 ·exact Il _ _ _ _ h
theorem DI:bf GJ:=bf.with aU _ _ XW
theorem aaN {us zz:Array Value} (hz:us.size=448) (hu:∀ i,i<32→aA .i64 us (64+i*12)) (jD:zz.size=448):∀ (n i:Nat),i+n=32→Good Tryz.prog (lC (fC us h 32) 0) 0 (Ei h (i:Int) (fC us h i) zz) (Ej h (i:Int) (fC us h i) zz):=by
 intro n
 induction n with
 | zero =>
  intro i hi
  obtain rfl:i=32:=by omega
  obtain ⟨z,_,_⟩:=Eu us h hz 32 (Nat.le_refl _)
  refine bD DI 1000 (Uz h _ _ zz (fC us h 32) 0 (fun _ _ _=>False)) ?_ (fun _ _ h=>h) (fun fs m hb=>CY (fun _ _ _ h=>h.elim) hb)
  have d:decide (((32:Nat):Int)<32)=false:=rfl
  simp only [d,z,jD,q6]
 | succ n ih =>
  intro i hi
  have hi':i<32:=by omega
  obtain ⟨z,a,b⟩:=Eu us h hz i (by omega)
  refine bD DI 1000 (Uz h (i:Int) _ zz (fC us h 32) 0 (fun i' u z=>i'=((i+1:Nat):Int)∧u=fC us h (i+1)∧z=zz)) ?_ (fun _ _ h=>h) (fun fs m hb=>CY (fun i' u z ⟨e1,e2,e3⟩=>by rw [e1,e2,e3];exact ih (i+1) (by omega)) hb)
  have y0:0≤(i:Int):=by omega
  have y1:(i:Int)<32:=by omega
  have d:decide ((i:Int)<32)=true:=decide_eq_true y1
  have ei:ah .add .i64 (i:Int) 1=((i+1:Nat):Int):=by rw [dn,cC (by omega) (by omega)];omega
  have g:aA .i64 (fC us h i) (64+i*12):=bw ((b _ (fun k hk e=>by omega)).trans (hu i hi'))
  have y:64+i*12<448:=by omega
  have eL:fC us h (i+1)=if aa (fC us h i) (64+i*12)=h then (fC us h i).setIfInBounds (64+i*12) (.int .i64 0) else fC us h i:=rfl
  rw [eL]
  by_cases c:aa (fC us h i) (64+i*12)=h
  ·have c1:(aa (fC us h i) (64+i*12)==h)=true:=beq_iff_eq.2 c
   rw [if_pos c]
   simp only [Int.toNat_natCast,c1,y0,y1,d,ei,g,y,z,decide_true,HN,q6]
  ·have c1:(aa (fC us h i) (64+i*12)==h)=false:=beq_eq_false_iff_ne.2 c
   rw [if_neg c]
   simp only [Int.toNat_natCast,c1,y0,y1,d,ei,g,y,z,decide_true,HN,q6]
theorem WL (h:Int) (m:aj):aq E0 61 [bg ws,i64 (.o h)] m (bu [WT ws] (.ret (pN (lB ws h) (s_ ws h)) m)):=by
 refine aq.pure aU (by kernel_rfl:E0.fn 61=some Tryz.f61) (by kernel_rfl:Tryz.f61.body=some (Tryz.f61.body.getD .skip)) (by kernel_rfl) (by kernel_rfl) fun hq=>?_
 have t:WT ws:=hq _ (by simp)
 have hz:=t.sz
 have bK:(64:Nat)≤448:=by decide
 have wb:=t.wb
 by_cases c:aQ (ws.extract 0 64) h<0
 ·refine (Good.ret [] (bA DI 1000 (Uy ws h (lB ws h) (s_ ws h) (fun _ _ _=>False)) ?_ (fun s m h=>h) fun fs m hb=>CY (fun _ _ _ h=>h.elim) hb)).mono fun _ _ h=>h.1
  unfold jN AB
  have d:decide (aQ (ws.extract 0 64) h<0)=true:=decide_eq_true c
  have e1:lB ws h=ws:=if_pos c
  have e2:s_ ws h=4:=if_pos c
  simp only [d,e1,e2,hz,bK,wb,q6]
 ·have hlt:aQ (ws.extract 0 64) h<32:=HM 32 0 rfl
  obtain ⟨s,es⟩:∃ j:Nat,aQ (ws.extract 0 64) h=(j:Int):=⟨(aQ (ws.extract 0 64) h).toNat,by omega⟩
  have hs:s<32:=by omega
  have e1:lB ws h=fC (ke ws h) h 32:=if_neg c
  have e2:s_ ws h=0:=if_neg c
  rw [e1,e2]
  refine (Good.ret [] (bA DI 1000 (Uy ws h (fC (ke ws h) h 32) 0 (fun i u z=>i=((0:Nat):Int)∧u=fC (ke ws h) h 0∧z=zW)) ?_ (fun s m h=>h) fun fs m hb=>CY (fun i u z ⟨a,b,d⟩=>by rw [a,b,d];exact aaN (KH t hs es).1 (fun i hi=>aaM t hs es hi) Ay 32 0 rfl) hb)).mono fun _ _ h=>h.1
  unfold jN AB
  have d:decide (aQ (ws.extract 0 64) h<0)=false:=decide_eq_false c
  have vz:=Pt wb h
  have y0:0≤aQ (ws.extract 0 64) h:=by omega
  have z0:0+(hJ (ws.extract 0 64) h).toList.length≤ws.size:=by rw [Array.length_toList];omega
  have z1:(putAt ws 0 (hJ (ws.extract 0 64) h).toList).size=448:=by rw [kR z0];exact hz
  have y2:64+(aQ (ws.extract 0 64) h).toNat*12+12≤448:=by omega
  simp only [d,vz,y0,hlt,z1,y2,hz,bK,wb,Nat.zero_add,HN,q6]
  exact ⟨rfl,rfl⟩
theorem acw (hw:WB ws) {s:Nat} (hs:s<32) (es:aQ ws h=(s:Int)):∀ j,j<32→(hJ ws h)[j]?=(if j=s∧cZ ws s≠8388607 then some (.int .i64 (cZ ws s+1)) else ws[j]?)∧(hJ ws h)[32+j]?=(if j=s then some (.int .i64 (if cZ ws s=8388607 then 2 else 0)) else ws[32+j]?):=by
 intro j hj
 have hz:=hw.sz
 unfold hJ
 rw [if_neg (by omega),es,Int.toNat_natCast]
 by_cases c:cZ ws s=8388607
 ·rw [if_pos c,if_neg (fun k=>k.2 c),if_pos c]
  constructor
  ·rw [Array.getElem?_setIfInBounds,if_neg (by omega),Array.getElem?_setIfInBounds,if_neg (by omega)]
  ·rw [Array.getElem?_setIfInBounds]
   by_cases d:j=s
   ·rw [if_pos d,if_pos (by omega),if_pos (by rw [Array.size_setIfInBounds];omega)]
   ·rw [if_neg d,if_neg (by omega),Array.getElem?_setIfInBounds,if_neg (by omega)]
 ·rw [if_neg c,if_neg c]
  constructor
  ·rw [Array.getElem?_setIfInBounds]
   by_cases d:j=s
   ·rw [if_pos d.symm,if_pos (show j=s∧cZ ws s≠8388607 from ⟨d,c⟩),if_pos (by rw [Array.size_setIfInBounds];omega)]
   ·rw [if_neg (fun k=>d k.symm),if_neg (show ¬ (j=s∧cZ ws s≠8388607) from fun k=>d k.1),Array.getElem?_setIfInBounds,if_neg (by omega)]
  ·rw [Array.getElem?_setIfInBounds,if_neg (by omega),Array.getElem?_setIfInBounds]
   by_cases d:j=s
   ·rw [if_pos d,if_pos (by omega),if_pos (by omega)]
   ·rw [if_neg d,if_neg (by omega)]
theorem SW.drop (w:SW ts ws) (hb:aM ts) (h:Int):SW (gG ts h) (lB ws h)∧s_ ws h=dR ts h:=by
 have es:=w.slot hb h
 have t:=w.wt hb
 cases hg:aB ts h with
 | false =>
  rw [if_neg (by rw [hg];decide)] at es
  have e1:lB ws h=ws:=if_pos (by omega)
  have e2:s_ ws h=4:=if_pos (by omega)
  have e3:gG ts h=ts:=by unfold gG;rw [hg];rfl
  have e4:dR ts h=4:=by unfold dR;rw [hg];rfl
  rw [e1,e2,e3,e4]
  exact ⟨w,rfl⟩
 | true =>
  rw [if_pos hg] at es
  obtain ⟨_,_,gS,hk,hn,_,h1⟩:=dX hb hg
  have e1:lB ws h=fC (ke ws h) h 32:=if_neg (by omega)
  have e2:s_ ws h=0:=if_neg (by omega)
  have e3:gG ts h=gF ts h:=by unfold gG;rw [hg];rfl
  have e4:dR ts h=0:=by unfold dR;rw [hg];rfl
  rw [e1,e2,e3,e4]
  refine ⟨?_,rfl⟩
  obtain ⟨a1,a2,a3⟩:=KH t gS es
  obtain ⟨b1,b2,b3⟩:=Eu (ke ws h) h a1 32 (Nat.le_refl _)
  have v:=acw t.wb gS es
  obtain ⟨d1,d2,d3,d4⟩:=wR hb hg
  have UF:cZ (ws.extract 0 64) (sl h)=cw (aF ts) (sl h):=w.gn gS
  have UG:aF (gF ts h)=jM (aF ts) (sl h):=by
   rw [d2]
   rcases CC hb.bk h with ⟨k,_⟩ | ⟨i,hi,_,e,_,ev⟩
   ·rw [show bF (aF ts) h=true from hg] at k;cases k
   ·rw [ev]
    have:sl h=i:=by rw [e];exact rK hi (hb.bk.ra i hi)
    rw [this]
  have GH:=hb.bk.sz
  have ek:∀ j,cB (aF (gF ts h)) j=if j=sl h then (if cw (aF ts) (sl h)=8388607 then 2 else 0) else cB (aF ts) j:=fun j=>by rw [UG];exact zk GH gS
  have ea:∀ j,cw (aF (gF ts h)) j=if j=sl h then (if cw (aF ts) (sl h)=8388607 then cw (aF ts) (sl h) else cw (aF ts) (sl h)+1) else cw (aF ts) j:=fun j=>by rw [UG];exact zy GH gS
  have low:∀ j,j<64→(fC (ke ws h) h 32)[j]?=(hJ (ws.extract 0 64) h)[j]?:=fun j hj=>by
   rw [b3 j (fun i hi e=>by omega)]
   exact a2 j hj
  refine ⟨b1,fun j hj=>?_,fun j hj=>?_,fun j hj pO c hc=>?_,fun j hj pO c hc=>?_⟩
  ·rw [low j (by omega),(v j hj).1,ea,UF]
   by_cases d:j=sl h
   ·by_cases k:cw (aF ts) (sl h)=8388607
    ·rw [if_neg (fun q=>q.2 k),if_pos d,if_pos k,w.bk (by omega),d]
     exact w.g _ gS
    ·rw [if_pos ⟨d,k⟩,if_pos d,if_neg k]
   ·rw [if_neg (fun q=>d q.1),if_neg d,w.bk (by omega)]
    exact w.g j hj
  ·rw [low (32+j) (by omega),(v j hj).2,ek,UF]
   by_cases d:j=sl h
   ·rw [if_pos d,if_pos d]
   ·rw [if_neg d,if_neg d,w.bk (by omega)]
    exact w.s j hj
  ·rw [ek] at pO
   by_cases d:j=sl h
   ·rw [if_pos d] at pO
    split at pO <;> exact absurd pO (by decide)
   rw [if_neg d] at pO
   have en:gw (gF ts h) j=gw ts j:=by unfold gw;rw [ea,if_neg d]
   rw [en]
   have gx:aB ts (gw ts j)=true:=(lN hb.bk).2 ⟨j,hj,pO,rfl⟩
   have hne:gw ts j≠h:=fun k=>d (by rw [hn] at k;exact (wF hj gS k).1)
   obtain ⟨q1,q2,q3⟩:=d4 _ gx hne
   have qu:=Qv hb hg gx hne
   have ar:∀ c,c<12→(ke ws h)[64+j*12+c]?=(jU ts (gw ts j))[c]?:=fun c hc=>by
    rw [a3 j c hj hc,if_neg d]
    exact w.r j hj pO c hc
   have er:jU (gF ts h) (gw ts j)=fX (if aG ts (gw ts j)=h then 0 else aG ts (gw ts j)) (dc ts (gw ts j)) (bL ts (gw ts j)):=tT qu q2 q3
   rw [er]
   have i0:aa (ke ws h) (64+j*12)=aG ts (gw ts j):=bI (ar 0 (by decide))
   by_cases GL:c=0
   ·rw [GL]
    by_cases k:aG ts (gw ts j)=h
    ·rw [if_pos k]
     exact b2 j hj (i0.trans k)
    ·rw [if_neg k]
     rw [b3 _ (fun i hi e=>by
      have:i=j:=by omega
      rw [Nat.add_zero,i0];exact k)]
     exact ar 0 (by decide)
   ·rw [b3 _ (fun i hi e=>by omega),ar c hc]
    match c,hc,GL with
    | 1,_,_ | 2,_,_ | 3,_,_ | 4,_,_ | 5,_,_ | 6,_,_ | 7,_,_ | 8,_,_ | 9,_,_ | 10,_,_ | 11,_,_=>rfl
  ·have ar:∀ c,c<12→(ke ws h)[64+j*12+c]?=(fX 0 0 fun _=>0)[c]?:=fun c hc=>by
    rw [a3 j c hj hc]
    by_cases d:j=sl h
    ·rw [if_pos d]
     match c,hc with
     | 0,_ | 1,_ | 2,_ | 3,_ | 4,_ | 5,_ | 6,_ | 7,_ | 8,_ | 9,_ | 10,_ | 11,_=>rfl
    ·rw [if_neg d]
     rw [ek,if_neg d] at pO
     exact w.z j hj pO c hc
   have i0:aa (ke ws h) (64+j*12)=0:=bI (ar 0 (by decide))
   rw [b3 _ (fun i hi e=>by
    by_cases GL:c=0
    ·rw [GL,Nat.add_zero,i0];omega
    ·omega)]
   exact ar c hc
end
section
variable {ts ws:Array Value} {h:Int}
theorem SW.rows (w:SW ts ws) (hb:aM ts) {ts' ws':Array Value} (e:aF ts'=aF ts) (sz:ws'.size=448) (lo:∀ j,j<64→ws'[j]?=ws[j]?) (r:∀ x,aB ts x=true→∀ c,c<12→ws'[64+sl x*12+c]?=(jU ts' x)[c]?) (z:∀ i,i<32→cB (aF ts) i≠1→∀ c,c<12→ws'[64+i*12+c]?=ws[64+i*12+c]?):SW ts' ws':=by
 have en:∀ i,gw ts' i=gw ts i:=fun i=>by unfold gw;rw [e]
 refine ⟨sz,fun i hi=>?_,fun i hi=>?_,fun i hi hk c hc=>?_,fun i hi hk c hc=>?_⟩
 ·rw [lo i (by omega),e];exact w.g i hi
 ·rw [lo (32+i) (by omega),e];exact w.s i hi
 ·rw [e] at hk
  have gx:aB ts (gw ts i)=true:=(lN hb.bk).2 ⟨i,hi,hk,rfl⟩
  have es:sl (gw ts i)=i:=rK hi (hb.bk.ra i hi)
  have:=r _ gx c hc
  rw [es] at this
  rw [en]
  exact this
 ·rw [e] at hk
  rw [z i hi hk c hc]
  exact w.z i hi hk c hc
theorem z8 (hb:aM ts) {x y:Int} (hx:aB ts x=true) (hy:aB ts y=true) (e:sl x=sl y):x=y:=by
 obtain ⟨_,_,_,_,nx,_⟩:=dX hb hx
 obtain ⟨_,_,_,_,ny,_⟩:=dX hb hy
 rw [nx,ny,e]
theorem Dm (hb:aM ts) {x:Int} (hx:aB ts x=true) {i:Nat} (hk:cB (aF ts) i≠1):sl x≠i:=fun e=>by
 obtain ⟨_,_,_,k,_⟩:=dX hb hx
 rw [e] at k
 exact hk k
theorem UH (hb:aM ts) (hg:aB ts h=true) {u:Int} (hu:u=0∨aB ts u=true) (hi:aN u):∀ x,aB ts x=true→aG (bz ts h u) x=if x=h then u else aG ts x:=by
 intro x hx
 obtain ⟨r1,r2,r3,r4,r5⟩:=r8 hb hg hi
 split
 ·rename_i c
  unfold aG
  rw [c,iJ r2,iJ r2,r3,if_pos hg]
  rcases hu with k | k
  ·rw [k];split <;> rfl
  ·rw [if_pos k]
 ·rename_i c
  exact r9 r2 (r4 x hx c)
theorem SW.raise (w:SW ts ws) (hb:aM ts) (hg:aB ts h=true) {u:Int} (hu:u=0∨aB ts u=true):SW (bz ts h u) (ws.setIfInBounds (64+sl h*12) (.int .i64 u)):=by
 have hi:aN u:=by
  rcases hu with k | k
  ·rw [k];exact ⟨by decide,by decide⟩
  ·exact (dX hb k).2.2.2.2.2.1
 obtain ⟨r1,r2,r3,r4,r5⟩:=r8 hb hg hi
 have hz:=w.sz
 have gS:=(dX hb hg).2.2.1
 refine w.rows hb r2 (by rw [Array.size_setIfInBounds];exact hz) (fun j hj=>?_) (fun x hx c hc=>?_) (fun i hi' hk c hc=>?_)
 ·rw [Array.getElem?_setIfInBounds,if_neg (by omega)]
 ·have yN:=(dX hb hx).2.2.1
  have er:jU (bz ts h u) x=fX (if x=h then u else aG ts x) (dc ts x) (bL ts x):=tT (UH hb hg hu hi x hx) (r5 x).1 (fun k hk=>(r5 x).2 k hk)
  rw [er,Array.getElem?_setIfInBounds]
  by_cases e:x=h
  ·rw [if_pos e,e]
   by_cases c0:c=0
   ·rw [c0,if_pos (by omega),if_pos (by omega)]
    rfl
   ·rw [if_neg (by omega),w.cell hb hg hc]
    match c,hc,c0 with
    | 1,_,_ | 2,_,_ | 3,_,_ | 4,_,_ | 5,_,_ | 6,_,_ | 7,_,_ | 8,_,_ | 9,_,_ | 10,_,_ | 11,_,_=>rfl
  ·have:sl x≠sl h:=fun k=>e (z8 hb hx hg k)
   rw [if_neg e,if_neg (by omega),w.cell hb hx hc]
   rfl
 ·have:=Dm hb hg hk
  rw [Array.getElem?_setIfInBounds,if_neg (by omega)]
theorem acy (hf:ay ts) {u:Int} (hu:u=0∨aB ts u=true):decide (h∈cm (aG ts) u)=((u != 0)&&((u==h)||hH ts h u)):=by
 rcases hu with k | k
 ·rw [k,fZ];rfl
 ·have hu:=(bU hf.ok).2 k
  have nz:=hf.fo.nz u hu
  rw [bne_iff_ne.2 nz,Bool.true_and,fO hf.fo hu]
  unfold hH
  cases c:(u==h) with
  | true=>rw [Bool.true_or];exact decide_eq_true (by rw [beq_iff_eq.1 c];exact List.mem_cons_self ..)
  | false =>
   rw [Bool.false_or]
   refine decide_eq_decide.2 ⟨fun m=>(List.mem_cons.1 m).resolve_left fun e=>beq_eq_false_iff_ne.1 c e.symm,fun m=>List.mem_cons_of_mem _ m⟩
theorem Wl (h u:Int) (m:aj):aq E0 70 [bg ws,i64 (.o h),i64 (.o u)] m (bu [SW ts ws,ay ts] (.ret (pN (jf ts ws h u) (dz ts h u)) m)):=by
 refine aq.pure aU (by kernel_rfl:E0.fn 70=some Tryz.f70) (by kernel_rfl:Tryz.f70.body=some (Tryz.f70.body.getD .skip)) (by kernel_rfl) (by kernel_rfl) fun hq=>?_
 have w:SW ts ws:=hq _ (by simp)
 have hf:ay ts:=hq _ (by simp)
 have hb:=hf.ok
 have hz:=w.sz
 have hle:64≤ws.size:=by omega
 have bK:(64:Nat)≤448:=by decide
 have wb:=w.wb hb
 have es:=w.slot hb h
 refine (Good.ret [] (bA (qc ts) 1000 (wra ts ws h u (jf ts ws h u) (dz ts h u)) ?_ (fun s m h=>h) fun _ _ h=>h.elim)).mono fun _ _ h=>h.1
 unfold KG KF qp
 have bad:(aB ts h=false∨(u≠0∧aB ts u=false))→jf ts ws h u=ws∧dz ts h u=4:=fun k=>by
  have e1:dz ts h u=4:=by unfold dz;rw [if_pos k]
  exact ⟨by unfold jf;rw [if_neg (by rw [e1];decide)],e1⟩
 cases hg:aB ts h with
 | false =>
  obtain ⟨e1,e2⟩:=bad (.inl hg)
  simp only [hz,w,hb,hf,hg,e1,e2,q8,q6]
 | true =>
  rw [if_pos hg] at es
  have gS:=(dX hb hg).2.2.1
  have y0:(0:Int)≤(sl h:Int):=by omega
  have y1:(sl h:Int)<32:=by omega
  have y2:64+sl h*12<448:=by omega
  by_cases nw:u=0
  ·have c0:(u != 0)=false:=by rw [nw];rfl
   have n1:¬ (aB ts h=false∨(u≠0∧aB ts u=false)):=by rintro (k | ⟨k,_⟩);(rw [hg] at k;cases k);exact k nw
   have n2:h∉cm (aG ts) u:=by rw [nw,fZ];exact List.not_mem_nil
   have e1:dz ts h u=0:=by unfold dz;rw [if_neg n1,if_neg n2]
   have e2:jf ts ws h u=ws.setIfInBounds (64+sl h*12) (.int .i64 u):=by unfold jf;rw [if_pos e1]
   simp only [hz,bK,hle,wb,w,hb,hf,hg,es,e1,e2,c0,y0,y1,y2,Int.toNat_natCast,Nat.zero_add,Array.size_setIfInBounds,q8,q6]
  ·have c0:(u != 0)=true:=bne_iff_ne.2 nw
   cases cA:aB ts u with
   | false =>
    obtain ⟨e1,e2⟩:=bad (.inr ⟨nw,cA⟩)
    simp only [hz,w,hb,hf,hg,cA,e1,e2,c0,q8,q6]
   | true =>
    have n1:¬ (aB ts h=false∨(u≠0∧aB ts u=false)):=by
     rintro (k | ⟨_,k⟩)
     ·rw [hg] at k;cases k
     ·rw [cA] at k;cases k
    have hin:=acy (h:=h) hf (.inr cA)
    rw [c0,Bool.true_and] at hin
    cases c1:(u==h) with
    | true =>
     rw [c1,Bool.true_or] at hin
     have e1:dz ts h u=12:=by unfold dz;rw [if_neg n1,if_pos (of_decide_eq_true hin)]
     have e2:jf ts ws h u=ws:=by unfold jf;rw [if_neg (by rw [e1];decide)]
     simp only [hz,w,hb,hf,hg,cA,e1,e2,c0,c1,q8,q6]
    | false =>
     rw [c1,Bool.false_or] at hin
     cases c2:hH ts h u with
     | true =>
      rw [c2] at hin
      have e1:dz ts h u=12:=by unfold dz;rw [if_neg n1,if_pos (of_decide_eq_true hin)]
      have e2:jf ts ws h u=ws:=by unfold jf;rw [if_neg (by rw [e1];decide)]
      simp only [hz,w,hb,hf,hg,cA,e1,e2,c0,c1,c2,or_true,q8,q6]
     | false =>
      rw [c2] at hin
      have e1:dz ts h u=0:=by unfold dz;rw [if_neg n1,if_neg (of_decide_eq_false hin)]
      have e2:jf ts ws h u=ws.setIfInBounds (64+sl h*12) (.int .i64 u):=by unfold jf;rw [if_pos e1]
      simp only [hz,bK,hle,wb,w,hb,hf,hg,cA,es,e1,e2,c0,c1,c2,y0,y1,y2,Int.toNat_natCast,Nat.zero_add,Array.size_setIfInBounds,or_true,q8,q6]
structure BG (rr:Array Value):Prop where
 sz:rr.size=12
 q:aA .i64 rr 1
 hq:0≤aa rr 1∧aa rr 1≤64
 r:rr[2]?=some (.slice none 0 0)
 l:aA .i64 rr 3
 hl:aa rr 3=0
 c:∀ k,k<8→aA .i64 rr (4+k)
def me (ts ws:Array Value) (h:Int) (rr:Array Value):Array Value:=if aB ts h=true then putAt ws (64+sl h*12) (fX (aG ts h) (aa rr 1) fun k=>aa rr (4+k)).toList else ws
theorem XX {rr:Array Value} (h:Int) (m:aj):aq E0 34 [bg ws,i64 (.o h),bg rr] m (bu [SW ts ws,aM ts,BG rr] (.ret (pN (me ts ws h rr) (dR ts h)) m)):=by
 refine aq.pure aU (by kernel_rfl:E0.fn 34=some Tryz.f34) (by kernel_rfl:Tryz.f34.body=some (Tryz.f34.body.getD .skip)) (by kernel_rfl) (by kernel_rfl) fun hq=>?_
 have w:SW ts ws:=hq _ (by simp)
 have hb:aM ts:=hq _ (by simp)
 have rk:BG rr:=hq _ (by simp)
 have hz:=w.sz
 have bK:(64:Nat)≤448:=by decide
 have wb:=w.wb hb
 have es:=w.slot hb h
 refine (Good.ret [] (bA wU 1000 (se0 ws h rr (me ts ws h rr) (dR ts h)) ?_ (fun s m h=>h) fun _ _ h=>h.elim)).mono fun _ _ h=>h.1
 unfold AD xu ng mG Ev
 cases hg:aB ts h with
 | false =>
  rw [if_neg (by rw [hg];decide)] at es
  have d:decide (aQ (ws.extract 0 64) h<0)=true:=decide_eq_true (by omega)
  have e1:me ts ws h rr=ws:=by unfold me;rw [hg];rfl
  have e2:dR ts h=4:=by unfold dR;rw [hg];rfl
  simp only [hz,bK,wb,d,e1,e2,q6]
 | true =>
  rw [if_pos hg] at es
  have gS:=(dX hb hg).2.2.1
  have y0:(0:Int)≤(sl h:Int):=by omega
  have y1:(sl h:Int)<32:=by omega
  have d:decide ((sl h:Int)<0)=false:=decide_eq_false (by omega)
  have c0:ws[64+sl h*12]?=some (.int .i64 (aG ts h)):=w.cell hb hg (j:=0) (by decide)
  have e1:me ts ws h rr=putAt ws (64+sl h*12) (fX (aG ts h) (aa rr 1) fun k=>aa rr (4+k)).toList:=by unfold me;rw [hg];rfl
  have e2:dR ts h=0:=by unfold dR;rw [hg];rfl
  have rz:=rk.sz
  have n0:(rr.setIfInBounds 0 (.int .i64 (aG ts h)))[0]?=some (.int .i64 (aG ts h)):=by rw [Array.getElem?_setIfInBounds,if_pos rfl,if_pos (by omega)]
  have z:∀ j,j≠0→(rr.setIfInBounds 0 (.int .i64 (aG ts h)))[j]?=rr[j]?:=fun j hj=>by rw [Array.getElem?_setIfInBounds,if_neg (fun k=>hj k.symm)]
  have zi:∀ j,j≠0→aA .i64 rr j→(aA .i64 (rr.setIfInBounds 0 (.int .i64 (aG ts h))) j∧aa (rr.setIfInBounds 0 (.int .i64 (aG ts h))) j=aa rr j):=fun j hj k=>by
   have:=(z j hj).trans k
   exact ⟨bw this,bI this⟩
  have q1:=rk.q
  have q3:=rk.l
  have n2:=rk.r
  have n2':(rr.setIfInBounds 0 (.int .i64 (aG ts h)))[2]?=some (.slice none 0 0):=by rw [z 2 (by decide)];exact n2
  have l3:=rk.hl
  have d1:decide (aa rr 1<0)=false:=decide_eq_false (by have:=rk.hq.1;omega)
  have d2:decide (aa rr 1>64)=false:=decide_eq_false (by have:=rk.hq.2;omega)
  have d3:decide ((0:Int)≥0)=true:=rfl
  have d4:decide ((0:Int)≤0)=true:=rfl
  have y3:0<12:=by decide
  have zl:(fX (aG ts h) (aa rr 1) fun k=>aa rr (4+k)).toList.length=12:=rfl
  have z2:64+sl h*12+(fX (aG ts h) (aa rr 1) fun k=>aa rr (4+k)).toList.length≤ws.size:=by rw [zl];omega
  have z3:(putAt ws (64+sl h*12) (fX (aG ts h) (aa rr 1) fun k=>aa rr (4+k)).toList).size=448:=by rw [kR z2];exact hz
  have ef:putAt ws (64+sl h*12) [Value.int .i64 (aG ts h),Value.int .i64 (aa rr 1),Value.slice none 0 0,Value.int .i64 0,Value.int .i64 (aa rr 4),Value.int .i64 (aa rr 5),Value.int .i64 (aa rr 6),Value.int .i64 (aa rr 7),Value.int .i64 (aa rr 8),Value.int .i64 (aa rr 9),Value.int .i64 (aa rr 10),Value.int .i64 (aa rr 11)]=putAt ws (64+sl h*12) (fX (aG ts h) (aa rr 1) fun k=>aa rr (4+k)).toList:=rfl
  obtain ⟨p1,p1'⟩:=zi 1 (by decide) q1
  obtain ⟨p3,p3'⟩:=zi 3 (by decide) q3
  obtain ⟨p4,p4'⟩:=zi 4 (by decide) (rk.c 0 (by decide))
  obtain ⟨p5,p5'⟩:=zi 5 (by decide) (rk.c 1 (by decide))
  obtain ⟨p6,p6'⟩:=zi 6 (by decide) (rk.c 2 (by decide))
  obtain ⟨p7,p7'⟩:=zi 7 (by decide) (rk.c 3 (by decide))
  obtain ⟨p8,p8'⟩:=zi 8 (by decide) (rk.c 4 (by decide))
  obtain ⟨p9,p9'⟩:=zi 9 (by decide) (rk.c 5 (by decide))
  obtain ⟨kL,ad5⟩:=zi 10 (by decide) (rk.c 6 (by decide))
  obtain ⟨q_,ad6⟩:=zi 11 (by decide) (rk.c 7 (by decide))
  have y4:64+sl h*12+12≤448:=by omega
  simp only [hz,bK,wb,d,es,y0,y1,y3,y4,rz,q1,q3,n2,n2',l3,d1,d2,d3,d4,Int.toNat_natCast,bw c0,bI c0,bw n0,bI n0,p1,p1',p3,p3',p4,p4',p5,p5',p6,p6',p7,p7',p8,p8',p9,p9',kL,ad5,q_,ad6,e1,e2,ef,z3,List.length_cons,List.length_nil,q8,q6]
theorem SW.set (w:SW ts ws) (hb:aM ts) (hg:aB ts h=true) {rp rr:Array Value} (hr:lg rp 0) (e1:aa rr 1=aa rp 1) (e2:∀ k,k<8→aa rr (4+k)=aa rp (4+k)):SW (gq ts h rp) (me ts ws h rr):=by
 obtain ⟨r1,r2,r3,r4,r5⟩:=Km hb hg hr
 have hz:=w.sz
 have gS:=(dX hb hg).2.2.1
 have eW:me ts ws h rr=putAt ws (64+sl h*12) (fX (aG ts h) (aa rr 1) fun k=>aa rr (4+k)).toList:=by unfold me;rw [hg];rfl
 have zl:(fX (aG ts h) (aa rr 1) fun k=>aa rr (4+k)).toList.length=12:=rfl
 have z2:64+sl h*12+(fX (aG ts h) (aa rr 1) fun k=>aa rr (4+k)).toList.length≤ws.size:=by rw [zl];omega
 rw [eW]
 refine w.rows hb r2 (by rw [kR z2];exact hz) (fun j hj=>?_) (fun x hx c hc=>?_) (fun i hi' hk c hc=>?_)
 ·rw [kS z2 (.inl (by omega))]
 ·have yN:=(dX hb hx).2.2.1
  have eu:aG (gq ts h rp) x=aG ts x:=r9 r2 (r3 x hx)
  by_cases e:x=h
  ·rw [e] at eu ⊢
   have er:jU (gq ts h rp) h=fX (aG ts h) (aa rr 1) (fun k=>aa rr (4+k)):=tT eu (r4.1.trans e1.symm) (fun k hk=>(r4.2 k hk).trans (e2 k hk).symm)
   rw [er,nH z2 (by omega) (by rw [zl];omega),Array.getElem?_toList]
   congr 1
   omega
  ·have:sl x≠sl h:=fun k=>e (z8 hb hx hg k)
   have er:jU (gq ts h rp) x=jU ts x:=tT eu (r5 x hx e).1 (r5 x hx e).2
   rw [er,kS z2 (by rw [zl];omega)]
   exact w.cell hb hx hc
 ·have:=Dm hb hg hk
  rw [kS z2 (by rw [zl];omega)]
end
section
variable {ts ws:Array Value} {h:Int}
theorem wH (ts:Array Value):∀ g l m t,sj ts g l m=some t→aq E0 g l m t:=by
 intro g l m t h
 unfold sj at h
 split at h
 ·rename_i ws x;cases h
  exact aq.n1 (WL x.den m)
 ·rename_i ws a x;cases h
  exact aq.n2 (Wl a.den x.den m)
 ·rename_i ws x;cases h
  exact aq.n1 (Ob x.den m)
 ·rename_i ws x;cases h
  exact aq.n1 (Oq x.den m)
 ·rename_i ws a x;cases h
  exact aq.n2 (Pp a.den x.den m)
 ·exact zA ts _ _ _ _ h
theorem qg (ts:Array Value):bf (q9 ts):=bf.with aU _ _ (wH ts)
theorem Zd (ts:Array Value):bf (TP ts):=bf.with aU _ _ (wH ts)
def jW (ts:Array Value) (h x:Int) (k:Nat):Bool:=(bL ts x k != 0)&&hH ts (bL ts x k) h
def jr (ts:Array Value) (h x:Int) (us:Array Value):Nat→Array Value
 | 0=>us
 | c+1=>if jW ts h x c=true then (jr ts h x us c).setIfInBounds (64+sl x*12+4+c) (.int .i64 0) else jr ts h x us c
def lD (ts:Array Value) (h:Int) (us:Array Value) (l:List Int):Array Value:=l.foldl (fun u x=>jr ts h x u 8) us
theorem Ze (us:Array Value) (l:List Int) (x:Int):lD ts h us (l++[x])=jr ts h x (lD ts h us l) 8:=by unfold lD;rw [List.foldl_append];rfl
noncomputable def iR (ts ws:Array Value) (h:Int):Array Value:=if aB ts h=true then (lD ts h ws (aJ ts h)).setIfInBounds (64+sl h*12) (.int .i64 0) else ws
theorem KI {x:Int} (hx:sl x<32) {us:Array Value} (hz:us.size=448):∀ c,c≤8→(jr ts h x us c).size=448∧(∀ k,k<c→(jr ts h x us c)[64+sl x*12+4+k]?=if jW ts h x k=true then some (.int .i64 0) else us[64+sl x*12+4+k]?)∧∀ j,(∀ k,k<c→j≠64+sl x*12+4+k)→(jr ts h x us c)[j]?=us[j]?
 | 0,_=>⟨hz,fun k hk=>absurd hk (Nat.not_lt_zero _),fun j _=>rfl⟩
 | c+1,hc=>by
  obtain ⟨z,a,b⟩:=KI hx hz c (by omega)
  have e:jr ts h x us (c+1)=if jW ts h x c=true then (jr ts h x us c).setIfInBounds (64+sl x*12+4+c) (.int .i64 0) else jr ts h x us c:=rfl
  rw [e]
  by_cases k:jW ts h x c=true
  ·rw [if_pos k]
   refine ⟨by rw [Array.size_setIfInBounds];exact z,fun j hj=>?_,fun j hj=>?_⟩
   ·by_cases d:j=c
    ·rw [d,if_pos k,Array.getElem?_setIfInBounds,if_pos rfl,if_pos (by omega)]
    ·rw [Array.getElem?_setIfInBounds,if_neg (by omega)]
     exact a j (by omega)
   ·rw [Array.getElem?_setIfInBounds,if_neg (fun q=>hj c (by omega) q.symm)]
    exact b j fun i hi=>hj i (by omega)
  ·rw [if_neg k]
   refine ⟨z,fun j hj=>?_,fun j hj=>b j fun i hi=>hj i (by omega)⟩
   by_cases d:j=c
   ·rw [d,if_neg k]
    exact b _ fun i hi=>by omega
   ·exact a j (by omega)
theorem Ew (hb:aM ts):∀ (l:List Int) {us:Array Value},us.size=448→(∀ x∈l,aB ts x=true)→(lD ts h us l).size=448∧(∀ y,aB ts y=true→∀ k,k<8→(lD ts h us l)[64+sl y*12+4+k]?=if y∈l∧jW ts h y k=true then some (.int .i64 0) else us[64+sl y*12+4+k]?)∧∀ j,(∀ y,aB ts y=true→∀ k,k<8→j≠64+sl y*12+4+k)→(lD ts h us l)[j]?=us[j]?
 | [],us,hz,_=>⟨hz,fun y _ k _=>by rw [if_neg (fun q=>by cases q.1)];rfl,fun j _=>rfl⟩
 | x :: l,us,hz,hl=>by
  have gx:=hl x (List.mem_cons_self ..)
  have yN:=(dX hb gx).2.2.1
  obtain ⟨z,a,b⟩:=KI (ts:=ts) (h:=h) yN hz 8 (Nat.le_refl _)
  obtain ⟨z2,a2,b2⟩:=Ew hb l z fun y hy=>hl y (List.mem_cons_of_mem _ hy)
  have e:lD ts h us (x :: l)=lD ts h (jr ts h x us 8) l:=rfl
  rw [e]
  refine ⟨z2,fun y hy k hk=>?_,fun j hj=>?_⟩
  ·rw [a2 y hy k hk]
   by_cases c:y=x
   ·rw [c,a k hk]
    by_cases d:jW ts h x k=true
    ·rw [if_pos d,if_pos (show x∈x :: l∧jW ts h x k=true from ⟨List.mem_cons_self ..,d⟩)]
     split <;> rfl
    ·rw [if_neg d,if_neg (fun q=>d q.2),if_neg (fun q=>d q.2)]
   ·have hne:sl y≠sl x:=fun q=>c (z8 hb hy gx q)
    rw [b _ (fun i hi=>by omega)]
    by_cases d:y∈l∧jW ts h y k=true
    ·rw [if_pos d,if_pos (show y∈x :: l∧jW ts h y k=true from ⟨List.mem_cons_of_mem _ d.1,d.2⟩)]
    ·rw [if_neg d,if_neg (fun q=>d ⟨(List.mem_cons.1 q.1).resolve_left c,q.2⟩)]
  ·rw [b2 j hj]
   exact b j (hj x gx)
theorem Oy {n:Nat} {ks:Array Value} {A:SV→aj→Prop} {QO:Int→Array Value→Array Value→Prop} {QI:Int→Int→Int→Array Value→Array Value→Prop} {fs:List av} {m:aj} (hO:∀ i us zz,QO i us zz→Good Tryz.prog A 0 (xm ws h n ks i us zz) (xp ws h n ks i us zz)) (hI:∀ i k c us zz,QI i k c us zz→Good Tryz.prog A 0 (Az ws h n ks i k c us zz) (AA ws h n ks i k c us zz)) (hb:L3 ws h n ks QO QI fs m):Good Tryz.prog A 0 fs m:=by
 unfold L3 at hb
 split at hb
 ·exact Ii hO hb
 ·exact Ij hI hb
theorem aaO (w:SW ts ws) (hf:ay ts) (hg:aB ts h=true) {x:Int} (gx:aB ts x=true) {n:Nat} {ks zz us O:Array Value} (hz:us.size=448) {i:Nat} (hi:i<1000) (hO:Good Tryz.prog (lC O 0) 0 (xm ws h n ks ((i+1:Nat):Int) (jr ts h x us 8) zz) (xp ws h n ks ((i+1:Nat):Int) (jr ts h x us 8) zz)):∀ (r c:Nat),c+r=8→Good Tryz.prog (lC O 0) 0 (Az ws h n ks (i:Int) (sl x:Int) (c:Int) (jr ts h x us c) zz) (AA ws h n ks (i:Int) (sl x:Int) (c:Int) (jr ts h x us c) zz):=by
 have hb:=hf.ok
 have hs:=w.sz
 have yN:=(dX hb gx).2.2.1
 intro r
 induction r with
 | zero =>
  intro c hc
  obtain rfl:c=8:=by omega
  refine bD (qg ts) 1000 (UC ts ws h n ks (i:Int) (sl x:Int) _ _ zz O 0 (fun i' u z=>i'=((i+1:Nat):Int)∧u=jr ts h x us 8∧z=zz) (fun _ _ _ _ _=>False)) ?_ (fun _ _ h=>h) (fun fs m hb=>Oy (fun i' u z ⟨a,b,c⟩=>by rw [a,b,c];exact hO) (fun _ _ _ _ _ h=>h.elim) hb)
  have d:decide (((8:Nat):Int)<8)=false:=rfl
  have ei:ah .add .i64 (i:Int) 1=((i+1:Nat):Int):=by rw [dn,cC (by omega) (by omega)];omega
  simp only [d,ei,Ov,q6]
 | succ r ih =>
  intro c hc
  have jg:c<8:=by omega
  obtain ⟨z,a,b⟩:=KI (ts:=ts) (h:=h) yN hz c (by omega)
  refine bD (qg ts) 1000 (UC ts ws h n ks (i:Int) (sl x:Int) (c:Int) _ zz O 0 (fun _ _ _=>False) (fun i' k' c' u z=>i'=(i:Int)∧k'=(sl x:Int)∧c'=((c+1:Nat):Int)∧u=jr ts h x us (c+1)∧z=zz)) ?_ (fun _ _ h=>h) (fun fs m hb=>Oy (fun _ _ _ h=>h.elim) (fun i' k' c' u z ⟨e1,e2,e3,e4,e5⟩=>by rw [e1,e2,e3,e4,e5];exact ih (c+1) (by omega)) hb)
  have d:decide ((c:Int)<8)=true:=decide_eq_true (by omega)
  have ei:ah .add .i64 (c:Int) 1=((c+1:Nat):Int):=by rw [dn,cC (by omega) (by omega)];omega
  have y0:0≤(sl x:Int):=by omega
  have y1:(sl x:Int)<32:=by omega
  have y2:0≤(c:Int):=by omega
  have y3:(c:Int)<8:=by omega
  have y4:64+sl x*12+4+c<448:=by omega
  have cc:ws[64+sl x*12+4+c]?=some (.int .i64 (bL ts x c)):=by
   rw [Nat.add_assoc,w.cell hb gx (by omega)]
   match c,jg with
   | 0,_ | 1,_ | 2,_ | 3,_ | 4,_ | 5,_ | 6,_ | 7,_=>rfl
  have e:jr ts h x us (c+1)=if jW ts h x c=true then (jr ts h x us c).setIfInBounds (64+sl x*12+4+c) (.int .i64 0) else jr ts h x us c:=rfl
  rw [e]
  unfold jW
  cases c1:(bL ts x c != 0) with
  | false =>
   rw [Bool.false_and,if_neg Bool.false_ne_true]
   simp only [Int.toNat_natCast,Nat.mul_one,bw cc,bI cc,c1,d,ei,y0,y1,y2,y3,dJ,cF,decide_true,CG,q6]
  | true =>
   rw [Bool.true_and]
   cases c2:hH ts (bL ts x c) h with
   | false =>
    rw [if_neg Bool.false_ne_true]
    simp only [Int.toNat_natCast,Nat.mul_one,bw cc,bI cc,c1,c2,d,ei,y0,y1,y2,y3,hs,w,hf,hg,or_true,dJ,cF,decide_true,CG,q6]
   | true =>
    rw [if_pos rfl]
    simp only [Int.toNat_natCast,Nat.mul_one,bw cc,bI cc,c1,c2,d,ei,y0,y1,y2,y3,y4,z,hs,w,hf,hg,or_true,dJ,cF,decide_true,CG,q6]
theorem aaP (w:SW ts ws) (hf:ay ts) (hg:aB ts h=true) {zz:Array Value} (jD:zz.size=448):∀ (r i:Nat),i+r=(aJ ts h).length→Good Tryz.prog (lC (iR ts ws h) 0) 0 (xm ws h (aJ ts h).length (aE (aJ ts h)) (i:Int) (lD ts h ws ((aJ ts h).take i)) zz) (xp ws h (aJ ts h).length (aE (aJ ts h)) (i:Int) (lD ts h ws ((aJ ts h).take i)) zz):=by
 have hb:=hf.ok
 have hs:=w.sz
 have hx:=(bU hb).2 hg
 have hle:64≤ws.size:=by omega
 have wb:=w.wb hb
 have hun:aJ ts h=bn ts h:=if_pos hg
 have TQ:(aJ ts h).length≤32:=by rw [hun];exact mD hf hx
 have hall:∀ x∈aJ ts h,aB ts x=true:=fun x hm=>(bU hb).1 (mA hf.fo h hx x (by rw [hun] at hm;exact hm)).1
 intro r
 induction r with
 | zero =>
  intro i hi
  obtain rfl:i=(aJ ts h).length:=by omega
  obtain ⟨z,_,_⟩:=Ew (h:=h) hb (aJ ts h) hs hall
  have es:=w.slot hb h
  rw [if_pos hg] at es
  have gS:=(dX hb hg).2.2.1
  refine bD (qg ts) 1000 (UB ts ws h _ _ _ _ zz (iR ts ws h) 0 (fun _ _ _ _ _=>False)) ?_ (fun _ _ h=>h) (fun fs m hb=>Ij (fun _ _ _ _ _ h=>h.elim) hb)
  unfold xq m_
  have d:decide (((aJ ts h).length:Int)<((aJ ts h).length:Int))=false:=decide_eq_false (by omega)
  have y0:(0:Int)≤(sl h:Int):=by omega
  have y1:(sl h:Int)<32:=by omega
  have y2:64+sl h*12<448:=by omega
  have bK:(64:Nat)≤448:=by decide
  have e:iR ts ws h=(lD ts h ws (aJ ts h)).setIfInBounds (64+sl h*12) (.int .i64 0):=if_pos hg
  simp only [d,es,y0,y1,y2,e,z,hs,jD,bK,wb,List.take_length,Int.toNat_natCast,Nat.zero_add,Array.size_setIfInBounds,q6]
 | succ r ih =>
  intro i hi
  have hi':i<(aJ ts h).length:=by omega
  have gx:=hall ((aJ ts h).getD i 0) (by rw [List.getD_eq_getElem?_getD,List.getElem?_eq_getElem hi'];exact List.getElem_mem hi')
  obtain ⟨z,_,_⟩:=Ew (h:=h) hb ((aJ ts h).take i) hs fun x hm=>hall x (List.mem_of_mem_take hm)
  refine bD (qg ts) 1000 (UB ts ws h _ _ (i:Int) _ zz (iR ts ws h) 0 (fun i' k' c' u z=>i'=(i:Int)∧k'=(sl ((aJ ts h).getD i 0):Int)∧c'=((0:Nat):Int)∧u=lD ts h ws ((aJ ts h).take i)∧z=zz)) ?_ (fun _ _ h=>h) (fun fs m hb=>Ij (fun i' k' c' u fB ⟨a,b,c,d,e⟩=>by
   rw [a,b,c,d,e]
   have:=ih (i+1) (by omega)
   rw [take_one hi',Ze] at this
   exact aaO w hf hg gx z (by omega) this 8 0 rfl) hb)
  unfold xq m_
  have es:=w.slot hb ((aJ ts h).getD i 0)
  rw [if_pos gx] at es
  have d:decide ((i:Int)<((aJ ts h).length:Int))=true:=decide_eq_true (by omega)
  have g1:aA .i64 (aE (aJ ts h)) i:=bw (fj hi')
  have g2:aa (aE (aJ ts h)) i=(aJ ts h).getD i 0:=bI (fj hi')
  have y0:0≤(i:Int):=by omega
  have y1:(i:Int)<((aJ ts h).length:Int):=by omega
  have bK:(64:Nat)≤448:=by decide
  simp only [d,es,g1,g2,y0,y1,hs,bK,wb,decide_true,CG,q7,q6]
  rfl
theorem XY (h:Int) (m:aj):aq E0 28 [bg ws,i64 (.o h)] m (bu [SW ts ws,ay ts] (.ret (pN (iR ts ws h) (kG ts h)) m)):=by
 refine aq.pure aU (by kernel_rfl:E0.fn 28=some Tryz.f28) (by kernel_rfl:Tryz.f28.body=some (Tryz.f28.body.getD .skip)) (by kernel_rfl) (by kernel_rfl) fun hq=>?_
 have w:SW ts ws:=hq _ (by simp)
 have hf:ay ts:=hq _ (by simp)
 have hb:=hf.ok
 have hz:=w.sz
 cases hg:aB ts h with
 | false =>
  refine (Good.ret [] (bA (qg ts) 1000 (UA ts ws h 0 #[] (iR ts ws h) (kG ts h) (fun _ _ _=>False)) ?_ (fun s m h=>h) fun fs m hb=>Ii (fun _ _ _ h=>h.elim) hb)).mono fun _ _ h=>h.1
  have e1:iR ts ws h=ws:=by unfold iR;rw [hg];rfl
  have e2:kG ts h=4:=by unfold kG;rw [hg];rfl
  simp only [hz,w,hb,hg,e1,e2,Bool.not_false,q6]
 | true =>
  have hx:=(bU hb).2 hg
  have hun:aJ ts h=bn ts h:=if_pos hg
  have d:decide ((aJ ts h).length=0)=false:=decide_eq_false (by rw [hun,iX hf hx,List.length_cons];omega)
  have e2:kG ts h=0:=by unfold kG;rw [hg];rfl
  rw [e2]
  refine (Good.ret [] (bA (qg ts) 1000 (UA ts ws h (aJ ts h).length (aE (aJ ts h)) (iR ts ws h) 0 (fun i u z=>i=((0:Nat):Int)∧u=lD ts h ws ((aJ ts h).take 0)∧z=zW)) ?_ (fun s m h=>h) fun fs m hb=>Ii (fun i u z ⟨a,b,c⟩=>by rw [a,b,c];exact aaP w hf hg Ay (aJ ts h).length 0 (by omega)) hb)).mono fun _ _ h=>h.1
  simp only [hz,w,hb,hf,hg,d,Bool.not_true,Ov,q6]
  exact ⟨rfl,rfl⟩
theorem aaQ (hf:ay ts) (hg:aB ts h=true) {x:Int} {k:Nat}:(if jW ts h x k=true then 0 else bL ts x k)=gu ts h (bL ts x k):=by
 have hb:=hf.ok
 have hx:=(bU hb).2 hg
 unfold gu jW
 rw [RT hf,hg,Bool.true_and]
 generalize bL ts x k=c
 cases ha:hH ts c h with
 | false =>
  rw [Bool.and_false,if_neg Bool.false_ne_true,Bool.or_false]
  split
  ·rename_i q
   have:=q.2
   simp only [Bool.and_eq_true,beq_iff_eq] at this
   exact absurd this.2 q.1
  ·rfl
 | true =>
  have hm:c∈cm (aG ts) (aG ts h):=of_decide_eq_true ha
  have hl:=DB hf.fo (aG ts h) (AE hf hx) c hm
  have gc:=(bU hb).1 hl
  have hne:c≠h:=fun e=>by
   have nd:=XZ hf.fo h (.inr hx)
   rw [fO hf.fo hx] at nd
   exact (List.nodup_cons.1 nd).1 (by rw [e] at hm;exact hm)
  rw [bne_iff_ne.2 (hf.fo.nz c hl),gc,Bool.or_true]
  simp [hne]
theorem SW.cut (w:SW ts ws) (hf:ay ts):SW (gA ts h) (iR ts ws h):=by
 cases hg:aB ts h with
 | false =>
  have e1:iR ts ws h=ws:=by unfold iR;rw [hg];rfl
  have e2:gA ts h=ts:=by unfold gA;rw [hg];rfl
  rw [e1,e2];exact w
 | true =>
  have hb:=hf.ok
  have hs:=w.sz
  obtain ⟨k1,k2,k3,k4,k5⟩:=DE hf hg
  have hl:h∈af ts:=(bU hb).2 hg
  have gS:=(dX hb hg).2.2.1
  have kK:=qn k2
  have hl':h∈af (bz ts h 0):=by rw [kK];exact hl
  have eT:gA ts h=dU ts h (bz ts h 0) (bn (bz ts h 0) h):=if_pos hg
  obtain ⟨c1,c2,c3⟩:=FB (ts:=ts) (h:=h) (bn (bz ts h 0) h) k1.ok (fun x hx=>(bU k1.ok).1 (mA k1.fo h hl' x hx).1)
  obtain ⟨r1,r2,r3,r4,r5⟩:=r8 (u:=0) hb hg ⟨by decide,by decide⟩
  have yK:=c2.trans k2
  have hun:aJ ts h=bn ts h:=if_pos hg
  have hall:∀ x∈aJ ts h,aB ts x=true:=fun x hm=>(bU hb).1 (mA hf.fo h hl x (by rw [hun] at hm;exact hm)).1
  obtain ⟨z,a,b⟩:=Ew (h:=h) hb (aJ ts h) hs hall
  have e1:iR ts ws h=(lD ts h ws (aJ ts h)).setIfInBounds (64+sl h*12) (.int .i64 0):=if_pos hg
  rw [e1,eT]
  refine w.rows hb yK (by rw [Array.size_setIfInBounds];exact z) (fun j hj=>?_) (fun x hx c hc=>?_) (fun i hi' hk c hc=>?_)
  ·rw [Array.getElem?_setIfInBounds,if_neg (by omega),b j (fun y hy k hk=>by omega)]
  ·have yN:=(dX hb hx).2.2.1
   have gx':aB (bz ts h 0) x=true:=by rw [iJ k2];exact hx
   obtain ⟨d1,d2,d3⟩:=c3 x gx'
   have eu:aG (dU ts h (bz ts h 0) (bn (bz ts h 0) h)) x=if x=h then 0 else aG ts x:=(r9 c2 d1).trans (UH hb hg (.inl rfl) ⟨by decide,by decide⟩ x hx)
   have hm:x∈bn (bz ts h 0) h↔x∈aJ ts h:=by
    rw [hun,tS k1.fo hl',tS hf.fo hl,kK]
    exact ⟨fun q=>⟨q.1,(k4 x (.inr q.1)).1 q.2⟩,fun q=>⟨q.1,(k4 x (.inr q.1)).2 q.2⟩⟩
   have ec:∀ k,k<8→bL (dU ts h (bz ts h 0) (bn (bz ts h 0) h)) x k=if x∈aJ ts h∧jW ts h x k=true then 0 else bL ts x k:=fun k hk=>by
    rw [d3 k hk,(r5 x).2 k hk,← aaQ hf hg]
    by_cases q:x∈aJ ts h
    ·rw [if_pos (hm.2 q)]
     by_cases p:jW ts h x k=true
     ·rw [if_pos p,if_pos ⟨q,p⟩]
     ·rw [if_neg p,if_neg (fun s=>p s.2)]
    ·rw [if_neg (fun s=>q (hm.1 s)),if_neg (fun s=>q s.1)]
   have er:jU (dU ts h (bz ts h 0) (bn (bz ts h 0) h)) x=fX (if x=h then 0 else aG ts x) (dc ts x) (fun k=>if x∈aJ ts h∧jW ts h x k=true then 0 else bL ts x k):=tT eu (d2.trans (r5 x).1) ec
   rw [er]
   by_cases UI:c<4
   ·by_cases e:x=h
    ·rw [Array.getElem?_setIfInBounds,e]
     by_cases c0:c=0
     ·rw [c0,if_pos (by omega),if_pos (by omega)]
      rw [if_pos rfl]
      rfl
     ·rw [if_neg (by omega),b _ (fun y hy k hk=>by omega),w.cell hb hg hc]
      match c,UI,c0 with
      | 1,_,_ | 2,_,_ | 3,_,_=>rfl
    ·have:sl x≠sl h:=fun k=>e (z8 hb hx hg k)
     rw [Array.getElem?_setIfInBounds,if_neg (by omega),b _ (fun y hy k hk=>by omega),w.cell hb hx hc,if_neg e]
     match c,UI with
     | 0,_ | 1,_ | 2,_ | 3,_=>rfl
   ·obtain ⟨k,rfl⟩:∃ k,c=4+k:=⟨c - 4,by omega⟩
    have hk:k<8:=by omega
    rw [Array.getElem?_setIfInBounds,if_neg (by omega),← Nat.add_assoc,a x hx k hk,Nat.add_assoc,w.cell hb hx hc]
    have e3:(jU ts x)[4+k]?=some (.int .i64 (bL ts x k)):=by
     match k,hk with
     | 0,_ | 1,_ | 2,_ | 3,_ | 4,_ | 5,_ | 6,_ | 7,_=>rfl
    have e4:(fX (if x=h then 0 else aG ts x) (dc ts x) (fun k=>if x∈aJ ts h∧jW ts h x k=true then 0 else bL ts x k))[4+k]?=some (.int .i64 (if x∈aJ ts h∧jW ts h x k=true then 0 else bL ts x k)):=by
     match k,hk with
     | 0,_ | 1,_ | 2,_ | 3,_ | 4,_ | 5,_ | 6,_ | 7,_=>rfl
    rw [e3,e4]
    split <;> rfl
  ·have hd:=Dm hb hg hk
   rw [Array.getElem?_setIfInBounds,if_neg (by omega)]
   refine b _ (fun y hy k hk'=>?_)
   have:=Dm hb hy hk
   omega
end
section
variable {ts ws:Array Value} {h u:Int}
theorem X0 (ts us:Array Value):∀ g l m t,KE ts us g l m=some t→aq E0 g l m t:=by
 intro g l m t h
 unfold KE at h
 split at h
 ·rename_i ws x;cases h
  exact aq.n1 (Ob x.den m)
 ·rename_i ws x;cases h
  exact aq.n1 (Oa x.den m)
 ·exact wH ts _ _ _ _ h
theorem z9 (ts us:Array Value):bf (GK ts us):=bf.with aU _ _ (X0 ts us)
theorem acz (hv:FV ts) (hg:aB ts h=true) (cA:aB ts u=true) (yL:aG ts h=0) (hnot:h∉cm (aG ts) u):ay (bz ts h u)∧aF (bz ts h u)=aF ts∧(∀ y,y∈aJ (bz ts h u) h↔y∈bn ts h)∧∀ y∈aJ (bz ts h u) h,aY (bz ts h u) y=aY ts y+aY ts u:=by
 have hf:=hv.f
 have hb:=hf.ok
 have hl:=(bU hb).2 hg
 have B_:=(bU hb).2 cA
 have hi:aN u:=(dX hb cA).2.2.2.2.2.1
 obtain ⟨r1,r2,r3,r4,r5⟩:=r8 (u:=u) hb hg hi
 have h0:aG (bz ts h u) h=u:=by unfold aG;rw [iJ r2,iJ r2,r3,if_pos hg,if_pos cA]
 have yM:∀ x∈af ts,x≠h→aG (bz ts h u) x=aG ts x:=fun x hx hne=>r9 r2 (r4 x ((bU hb).1 hx) hne)
 obtain ⟨f1,f2,f3⟩:=Pe hf.fo hl yL B_ hnot h0 yM (fun x hx hc=>by have:=hv.d x hx;have:=hv.d u B_;omega)
 have kK:=qn r2
 have hF:ay (bz ts h u):=⟨r1,by rw [kK];exact f1⟩
 have eU:aJ (bz ts h u) h=bn (bz ts h u) h:=if_pos (by rw [iJ r2];exact hg)
 have hl':h∈af (bz ts h u):=by rw [kK];exact hl
 have hm:∀ y,y∈aJ (bz ts h u) h↔y∈bn ts h:=fun y=>by
  rw [eU,tS hF.fo hl',tS hf.fo hl,kK]
  constructor
  ·rintro ⟨a,b⟩
   refine ⟨a,?_⟩
   by_cases c:h∈cm (aG ts) y
   ·exact c
   ·rw [f2 y (.inr a) c] at b;exact b
  ·rintro ⟨a,b⟩
   exact ⟨a,by rw [f3 y (.inr a) b];exact List.mem_append_left _ b⟩
 refine ⟨hF,r2,hm,fun y hy=>?_⟩
 obtain ⟨a,b⟩:=(tS hf.fo hl).1 ((hm y).1 hy)
 have ga:=(bU hb).1 a
 unfold aY
 rw [if_pos (by rw [iJ r2];exact ga),if_pos ga,if_pos cA]
 unfold dx
 rw [f3 y (.inr a) b,List.length_append]
noncomputable def jE (ts ws:Array Value) (h u:Int):Array Value:=if eZ ts h u=0 then ws.setIfInBounds (64+sl h*12) (.int .i64 u) else ws
theorem aaR (ts:Array Value) (hw:ws.size=448) {vs us:Array Value} (hu:SW us vs) (hF:ay us) {U:List Int} (hU:U=aJ us h) (hl:U.length≤32) {zz:Array Value} (jD:zz.size=448) {o:Array Value} {e:Int} (ho:(∀ x∈U,aY us x≤6)→o=vs∧e=0) (hn:(¬ ∀ x∈U,aY us x≤6)→o=ws∧e=8):∀ (r i:Nat),i+r=U.length→(∀ j,j<i→aY us (U.getD j 0)≤6)→Good Tryz.prog (lC o e) 0 (En ws h u vs 0 U.length (aE U) (i:Int) zz) (Eo ws h u vs 0 U.length (aE U) (i:Int) zz):=by
 have hvs:=hu.sz
 intro r
 induction r with
 | zero =>
  intro i hi hj
  obtain rfl:i=U.length:=by omega
  obtain ⟨e1,e2⟩:=ho fun x hx=>by
   obtain ⟨j,hj',rfl⟩:=List.getElem_of_mem hx
   have:=hj j hj'
   rw [List.getD_eq_getElem?_getD,List.getElem?_eq_getElem hj'] at this
   exact this
  refine bD (z9 ts us) 1000 (UD ts us ws h u vs 0 _ _ _ zz o e (fun _ _=>False)) ?_ (fun _ _ h=>h) (fun fs m hb=>zB (fun _ _ h=>h.elim) hb)
  have d:decide ((U.length:Int)<(U.length:Int))=false:=decide_eq_false (by omega)
  simp only [d,e1,e2,hvs,jD,q6]
 | succ r ih =>
  intro i hi hj
  have hi':i<U.length:=by omega
  refine bD (z9 ts us) 1000 (UD ts us ws h u vs 0 _ _ (i:Int) zz o e (fun i' z=>i'=((i+1:Nat):Int)∧z=zz∧aY us (U.getD i 0)≤6)) ?_ (fun _ _ h=>h) (fun fs m hb=>zB (fun i' z ⟨e1,e2,e3⟩=>by
   rw [e1,e2]
   refine ih (i+1) (by omega) fun j hj'=>?_
   by_cases c:j=i
   ·rw [c];exact e3
   ·exact hj j (by omega)) hb)
  have d:decide ((i:Int)<(U.length:Int))=true:=decide_eq_true (by omega)
  have ei:ah .add .i64 (i:Int) 1=((i+1:Nat):Int):=by rw [dn,cC (by omega) (by omega)];omega
  have g1:aA .i64 (aE U) i:=bw (fj hi')
  have g2:aa (aE U) i=U.getD i 0:=bI (fj hi')
  have y0:0≤(i:Int):=by omega
  have y1:(i:Int)<(U.length:Int):=by omega
  by_cases c:aY us (U.getD i 0)≤6
  ·have d2:decide ((aY us (U.getD i 0):Int)>6)=false:=decide_eq_false (by omega)
   simp only [d,ei,g1,g2,y0,y1,c,d2,hvs,hu,hF,decide_true,Ow,q7,q6]
  ·have d2:decide ((aY us (U.getD i 0):Int)>6)=true:=decide_eq_true (by omega)
   obtain ⟨e1,e2⟩:=hn fun k=>c (k _ (by rw [List.getD_eq_getElem?_getD,List.getElem?_eq_getElem hi'];exact List.getElem_mem hi'))
   simp only [d,ei,g1,g2,y0,y1,d2,e1,e2,hvs,hw,jD,hu,hF,decide_true,q7,q6]
theorem Wm (h u:Int) (m:aj):aq E0 30 [bg ws,i64 (.o h),i64 (.o u)] m (bu [SW ts ws,FV ts] (.ret (pN (jE ts ws h u) (eZ ts h u)) m)):=by
 refine aq.pure aU (by kernel_rfl:E0.fn 30=some Tryz.f30) (by kernel_rfl:Tryz.f30.body=some (Tryz.f30.body.getD .skip)) (by kernel_rfl) (by kernel_rfl) fun hq=>?_
 have w:SW ts ws:=hq _ (by simp)
 have hv:FV ts:=hq _ (by simp)
 have hf:=hv.f
 have hb:=hf.ok
 have hz:=w.sz
 have no:∀ e,eZ ts h u=e→e≠0→jE ts ws h u=ws:=fun e k1 k2=>if_neg (by rw [k1];exact k2)
 by_cases n1:aB ts h=false∨aB ts u=false
 ·have e2:eZ ts h u=4:=if_pos n1
  have e1:=no 4 e2 (by decide)
  refine (Good.ret [] (bA (z9 ts ts) 1000 (M6 ts ts ws h u #[] 0 #[] (jE ts ws h u) (eZ ts h u) 0 (fun _ _=>False)) ?_ (fun s m h=>h) fun fs m hb=>zB (fun _ _ h=>h.elim) hb)).mono fun _ _ h=>h.1
  cases hg:aB ts h with
  | false=>simp only [hz,w,hb,hg,e1,e2,q8,q6]
  | true =>
   have cA:aB ts u=false:=n1.resolve_left (by rw [hg];decide)
   simp only [hz,w,hb,hg,cA,e1,e2,q8,q6]
 ·have hg:aB ts h=true:=by cases c:aB ts h with | true=>rfl | false=>exact absurd (.inl c) n1
  have cA:aB ts u=true:=by cases c:aB ts u with | true=>rfl | false=>exact absurd (.inr c) n1
  have hl:=(bU hb).2 hg
  have er:aO ts h=gE (aG ts) h:=if_pos hg
  by_cases n2:aO ts h≠h∨fm ts h u=true
  ·have e2:eZ ts h u=12:=by unfold eZ;rw [if_neg n1,if_pos n2]
   have e1:=no 12 e2 (by decide)
   refine (Good.ret [] (bA (z9 ts ts) 1000 (M6 ts ts ws h u #[] 0 #[] (jE ts ws h u) (eZ ts h u) 0 (fun _ _=>False)) ?_ (fun s m h=>h) fun fs m hb=>zB (fun _ _ h=>h.elim) hb)).mono fun _ _ h=>h.1
   by_cases c:aG ts h=0
   ·have c1:(aG ts h != 0)=false:=by rw [c];rfl
    have ho:fm ts h u=true:=n2.resolve_left (fun k=>k (by rw [er];exact (zP hf.fo hl).2 c))
    simp only [hz,w,hb,hf,hg,cA,c1,ho,e1,e2,q8,q6]
   ·have c1:(aG ts h != 0)=true:=bne_iff_ne.2 c
    simp only [hz,w,hb,hf,hg,cA,c1,e1,e2,q8,q6]
  ·rw [not_or] at n2
   have hr:aO ts h=h:=Decidable.not_not.1 n2.1
   have ho:fm ts h u=false:=by cases c:fm ts h u with | true=>exact absurd c n2.2 | false=>rfl
   have yL:aG ts h=0:=(zP hf.fo hl).1 (by rw [← er];exact hr)
   have hnot:h∉cm (aG ts) u:=fun k=>by
    have:fm ts h u=true:=by unfold fm;rw [cA,decide_eq_true k];rfl
    rw [ho] at this;cases this
   have n3:¬ (aO ts h≠h∨fm ts h u=true):=fun k=>k.elim n2.1 n2.2
   have eG:eZ ts h u=(open Classical in if Cd ts h u then 0 else 8):=by unfold eZ;rw [if_neg n1,if_neg n3]
   obtain ⟨g1,g2,g3,g4⟩:=acz hv hg cA yL hnot
   have Cb:dz ts h u=0:=by
    unfold dz
    rw [if_neg (by
     rintro (k | ⟨_,k⟩)
     ·rw [hg] at k;cases k
     ·rw [cA] at k;cases k),if_neg hnot]
   have eV:jf ts ws h u=ws.setIfInBounds (64+sl h*12) (.int .i64 u):=if_pos Cb
   have sv:SW (bz ts h u) (jf ts ws h u):=by rw [eV];exact w.raise hb hg (.inr cA)
   have szv:=sv.sz
   have hun:aJ (bz ts h u) h=bn (bz ts h u) h:=if_pos (by rw [iJ g2];exact hg)
   have hl':h∈af (bz ts h u):=by rw [qn g2];exact hl
   have TQ:(aJ (bz ts h u) h).length≤32:=by rw [hun];exact mD g1 hl'
   have d:decide ((aJ (bz ts h u) h).length=0)=false:=decide_eq_false (by rw [hun,iX g1 hl',List.length_cons];omega)
   have h6:Cd ts h u↔∀ x∈aJ (bz ts h u) h,aY (bz ts h u) x≤6:=by
    constructor
    ·intro k x hx
     rw [g4 x hx]
     exact k x ((g3 x).1 hx)
    ·intro k y hy
     have hy':=(g3 y).2 hy
     rw [← g4 y hy']
     exact k y hy'
   refine (Good.ret [] (bA (z9 ts (bz ts h u)) 1000 (M6 ts (bz ts h u) ws h u (jf ts ws h u) (aJ (bz ts h u) h).length (aE (aJ (bz ts h u) h)) (jE ts ws h u) (eZ ts h u) 0 (fun i z=>i=((0:Nat):Int)∧z=zW)) ?_ (fun s m h=>h) fun fs m hb=>zB (fun i z ⟨a,b⟩=>by
    rw [a,b]
    exact aaR ts (o:=jE ts ws h u) (e:=eZ ts h u) hz sv g1 rfl TQ Ay (fun k=>by
     have e0:eZ ts h u=0:=by rw [eG,if_pos (h6.2 k)]
     exact ⟨by rw [eV];exact if_pos e0,e0⟩) (fun k=>by
     have e0:eZ ts h u=8:=by rw [eG,if_neg (fun q=>k (h6.1 q))]
     exact ⟨no 8 e0 (by decide),e0⟩) _ 0 (Nat.zero_add _) (fun j hj=>absurd hj (Nat.not_lt_zero _))) hb)).mono fun _ _ h=>h.1
   have c1:(aG ts h != 0)=false:=by rw [yL];rfl
   simp only [hz,w,hb,hf,hg,cA,c1,ho,Cb,sv,szv,g1,d,Ow,q8,q6]
   rfl
theorem SW.oY (w:SW ts ws) (hv:FV ts):SW (gW ts h u) (jE ts ws h u):=by
 by_cases hE:eZ ts h u=0
 rotate_left
 ·have e1:gW ts h u=ts:=if_neg hE
  have e2:jE ts ws h u=ws:=if_neg hE
  rw [e1,e2];exact w
 ·have e1:gW ts h u=bz ts h u:=if_pos hE
  have e2:jE ts ws h u=ws.setIfInBounds (64+sl h*12) (.int .i64 u):=if_pos hE
  rw [e1,e2]
  unfold eZ at hE
  split at hE
  ·exact absurd hE (by decide)
  rename_i n1
  rw [not_or] at n1
  exact w.raise hv.f.ok (by cases c:aB ts h with | true=>rfl | false=>exact absurd c n1.1) (.inr (by cases c:aB ts u with | true=>rfl | false=>exact absurd c n1.2))
def gL (ws:Array Value) (l:List Int):Array Value:=l.foldl lB ws
theorem Zf (ws:Array Value) (l:List Int) (x:Int):gL ws (l++[x])=lB (gL ws l) x:=by unfold gL;rw [List.foldl_append];rfl
theorem SW.mH:∀ (l:List Int) {ts ws:Array Value},SW ts ws→aM ts→SW (iP ts l) (gL ws l)
 | [],_,_,w,_=>w
 | x :: l,_,_,w,hb=>SW.mH l (w.drop hb x).1 (I6 hb x)
noncomputable def UJ (ts ws:Array Value) (h:Int) (m:aj):Tree:=.br (decide ((aJ ts h).length=0)) (.ret (Ux ws) m) (.ret (Uw (gL ws (aJ ts h)) m.next (aJ ts h).length) (m.new (.pop (aE (aJ ts h))) 3))
theorem aaS (w:SW ts ws) (hb:aM ts) {U:List Int} (hl:U.length≤32) (hne:U.length≠0) {zz:Array Value} (jD:zz.size=448):∀ (r i:Nat),i+r=U.length→Good Tryz.prog (Cc (gL ws U) U.length (aE U)) 0 (Er h U.length (aE U) (i:Int) (gL ws (U.take i)) zz) (Es h U.length (aE U) (i:Int) (gL ws (U.take i)) zz):=by
 intro r
 induction r with
 | zero =>
  intro i hi
  obtain rfl:i=U.length:=by omega
  refine bD (qg ts) 1000 (UE ts h _ _ _ _ zz (gL ws U) (fun _ _ _=>False)) ?_ (fun _ _ h=>h) (fun fs m hb=>Ik (fun _ _ _ h=>h.elim) hb)
  have d:decide ((U.length:Int)<(U.length:Int))=false:=decide_eq_false (by omega)
  have d2:((U.length:Int)==0)=false:=beq_eq_false_iff_ne.2 (by omega)
  have hs:=(SW.mH U w hb).sz
  simp only [d,d2,hs,jD,List.take_length,q6]
 | succ r ih =>
  intro i hi
  have hi':i<U.length:=by omega
  refine bD (qg ts) 1000 (UE ts h _ _ (i:Int) _ zz (gL ws U) (fun i' u z=>i'=((i+1:Nat):Int)∧u=gL ws (U.take (i+1))∧z=zz)) ?_ (fun _ _ h=>h) (fun fs m hb=>Ik (fun i' u z ⟨e1,e2,e3⟩=>by rw [e1,e2,e3];exact ih (i+1) (by omega)) hb)
  have d:decide ((i:Int)<(U.length:Int))=true:=decide_eq_true (by omega)
  have ei:ah .add .i64 (i:Int) 1=((i+1:Nat):Int):=by rw [dn,cC (by omega) (by omega)];omega
  have g1:aA .i64 (aE U) i:=bw (fj hi')
  have g2:aa (aE U) i=U.getD i 0:=bI (fj hi')
  have y0:0≤(i:Int):=by omega
  have y1:(i:Int)<(U.length:Int):=by omega
  have sw:=SW.mH (U.take i) w hb
  have dZ:=D_ (U.take i) hb
  have hs:=sw.sz
  have wt:=sw.wt dZ
  have vI:=(sw.drop dZ (U.getD i 0)).1.sz
  rw [take_one hi',Zf]
  simp only [d,ei,g1,g2,y0,y1,hs,vI,wt,decide_true,Ox,q7,q6]
theorem WM (h:Int) (m:aj):aq E0 25 [bg ws,i64 (.o h)] m (.need [SW ts ws,ay ts] (UJ ts ws h m)):=by
 refine aq.asked fun hq=>?_
 have w:SW ts ws:=hq _ (by simp)
 have hf:ay ts:=hq _ (by simp)
 have hb:=hf.ok
 have nw:=w.sz
 refine aq.two (fun hz=>?_) (fun hz=>?_)
 ·refine (show aq E0 25 [bg ws,i64 (.o h)] m (bu [] _) from aq.pure aU (by kernel_rfl:E0.fn 25=some Tryz.f25) (by kernel_rfl:Tryz.f25.body=some (Tryz.f25.body.getD .skip)) (by kernel_rfl) (by kernel_rfl) fun hq=>?_)
  refine (Good.ret [] (bA (Zd ts) 1000 (ad4 ts ws h) ?_ (fun s m h=>h) fun fs m hm=>hm.elim)).mono fun _ _ h=>h.1
  simp only [hz,nw,w,hf,q6]
 ·have hne:(aJ ts h).length≠0:=of_decide_eq_false hz
  have hg:aB ts h=true:=by
   cases c:aB ts h with
   | true=>rfl
   | false=>exact absurd (by unfold aJ;rw [c];rfl) hne
  have gS:(aJ ts h).length≤32:=by
   have:aJ ts h=bn ts h:=if_pos hg
   rw [this];exact mD hf ((bU hb).2 hg)
  refine aq.RO aU (by kernel_rfl:E0.fn 25=some Tryz.f25) (by kernel_rfl:Tryz.f25.body=some (Tryz.f25.body.getD .skip)) (by kernel_rfl) (Good.ni ((bA (qg ts) 1000 (wf0 ts ws h (aJ ts h).length (aE (aJ ts h)) (gL ws (aJ ts h)) (fun i u z=>i=((0:Nat):Int)∧u=gL ws ((aJ ts h).take 0)∧z=zW)) ?_ (fun s m h=>h) fun fs m hm=>Ik (A:=Cc (gL ws (aJ ts h)) (aJ ts h).length (aE (aJ ts h))) (fun i u z ⟨e1,e2,e3⟩=>by rw [e1,e2,e3];exact aaS w hb gS hne Ay _ 0 (Nat.zero_add _)) hm).mono fun s m h=>?_))
  ·simp only [hz,nw,w,hf,Ox,q6]
   exact ⟨rfl,rfl⟩
  ·unfold Cc at h
   split at h
   ·exact ⟨_,h⟩
   ·exact h.elim
end
set_option linter.unusedVariables false
noncomputable def nA (i n:Nat):SV:=.s (.c (.f (.slice i (.l 0) (.o n) .any)))
noncomputable def pP (a b:Array Value):aj:=cD 2 [(0,⟨.pop a,30,false⟩),(1,⟨.pop b,3,false⟩)]
noncomputable def GM:Env:=⟨Tryz.prog,dg,nT,dy [26*1000+4]⟩
noncomputable def UM:Env:=⟨Tryz.prog,dg,nT,dy []⟩
noncomputable def tY:List bh:=cY Tryz.f26 4
noncomputable def Ex (n:Nat) (a:Array Value) (b:Array Value) (i:Int):List av:=[dw 26 Tryz.f26 [(0,nA 0 n),(1,nA 1 n),(5,i64 (.o i))] tY]
noncomputable def Ey (n:Nat) (a:Array Value) (b:Array Value) (i:Int):aj:=cD 2 [(0,⟨.pop a,30,false⟩),(1,⟨.pop b,3,false⟩)]
def Ez (n:Nat) (a:Array Value) (b:Array Value) (Q:Int→Prop) (fs:List av) (m:aj):Prop:=(match b9 fs 0 with | some f0=>(match dh f0 5 with | some i=>Q i∧cV 2 [] (Ex n a b i) (Ey n a b i) fs m | none=>False) | none=>False)
theorem OA (r:Nat→Option Nat):ak r tY tY:=ak.it (by kernel_rfl)
theorem Im {A:SV→aj→Prop} {n:Nat} {a:Array Value} {b:Array Value} {Q:Int→Prop} {fs:List av} {m:aj} (H:∀ i,Q i→Good Tryz.prog A 2 (Ex n a b i) (Ey n a b i)) (hb:Ez n a b Q fs m):Good Tryz.prog A 2 fs m:=by
 unfold Ez at hb
 iterate 2 (split at hb;rotate_left;exact hb.elim)
 exact Good.c_ hb.2 (H _ hb.1)
set_option maxRecDepth 100000
theorem wr0 (n:Nat) (a b:Array Value) (Q:Int→Prop):(run GM 1000 2 [a_ 26 Tryz.f26.ntmps [nA 0 n,nA 1 n] (Tryz.f26.body.getD .skip)] (pP a b)).vc (gD true) (Ez n a b Q) =
  ((((↑n:Int) != (↑n:Int))=true→false=true)∧(((↑n:Int) != (↑n:Int))=false→Q (0:Int)∧cN∧ak (aD 2 []) tY tY∧n=n∧n=n∧(0:Int)=(0:Int)∧30=30∧a=a∧3=3∧b=b∧True)):=by kernel_rfl
theorem UN (n:Nat) (a b:Array Value) (i:Int) (Q:Int→Prop):(stepT GM.go (run GM 1000) 2 (Ex n a b i) (Ey n a b i)).vc (gD true) (Ez n a b Q) =
  ((decide (i<(↑n:Int))=true→((0≤i∧i<(↑n:Int))∧True)∧(aA .u32 a (0+i.toNat*1)∧True)∧((0≤i∧i<(↑n:Int))∧True)∧(aA .i64 b (0+i.toNat*1)∧True)∧((IntKind.wrap .i64 (aa a (0+i.toNat*1)) != aa b (0+i.toNat*1))=true→false=true)∧((IntKind.wrap .i64 (aa a (0+i.toNat*1)) != aa b (0+i.toNat*1))=false→Q (ah .add .i64 i 1)∧cN∧ak (aD 2 []) tY tY∧n=n∧n=n∧ah .add .i64 i 1=ah .add .i64 i 1∧30=30∧a=a∧3=3∧b=b∧True))∧(decide (i<(↑n:Int))=false→true=true)):=by kernel_rfl
theorem wrZ (z:Nat):(run UM 1000 0 [a_ 26 Tryz.f26.ntmps [jd,jd] (Tryz.f26.body.getD .skip)] aT).vc (gD true) (fun _ _=>False) =
  (true=true):=by kernel_rfl
set_option linter.unusedVariables false
def au (ts:Array Value) (n:Int):Int:=if 1≤n∧n≤32∧cB (aF ts) (n - 1).toNat=1 then gw ts (n - 1).toNat else n
noncomputable def M7:Env:=⟨Tryz.prog,dg,nT,dy []⟩
set_option maxRecDepth 100000
theorem nm0 (ws:Array Value) (n:Int) (o:Int):(run M7 1000 0 [a_ 23 Tryz.f23.ntmps [bg ws,.s (.c (.f (.int .u32 (.o n))))] (Tryz.f23.body.getD .skip)] aT).vc (bM 0 [] (i64 (.o o)) aT) (fun _ _=>False) =
  (((decide (n≥1)==true)=true→((decide (n≤32)==true)=true→((0≤ah .sub .u32 n 1∧ah .sub .u32 n 1<32)∧True)∧(aA .i64 ws (32+(ah .sub .u32 n 1).toNat*1)∧True)∧((aa ws (32+(ah .sub .u32 n 1).toNat*1)==1)=true→(64≤ws.size∧True)∧(WB (Array.extract ws 0 64)∧(0≤IntKind.wrap .i64 (ah .sub .u32 n 1)∧IntKind.wrap .i64 (ah .sub .u32 n 1)<32)∧True)∧o=cW ((IntKind.wrap .i64 (ah .sub .u32 n 1)).toNat) (cZ (Array.extract ws 0 64) ((IntKind.wrap .i64 (ah .sub .u32 n 1)).toNat))∧True)∧((aa ws (32+(ah .sub .u32 n 1).toNat*1)==1)=false→o=IntKind.wrap .i64 n∧True))∧((decide (n≤32)==true)=false→o=IntKind.wrap .i64 n∧True))∧((decide (n≥1)==true)=false→o=IntKind.wrap .i64 n∧True)):=by kernel_rfl
set_option linter.unusedVariables false
theorem JB:bf GM:=bf.with aU _ _ oC
theorem aaV:bf UM:=bf.with aU _ _ oC
theorem RX:bf M7:=bf.with aU _ _ oC
def jh (a b:Array Value) (n k:Nat):Prop:=∃ l:List Int,a=aL l∧b=aE l∧n=l.length∧k=l.length∧l.length≤32∧∀ x∈l,aN x
theorem uZ {x:Int} (h:aN x):IntKind.i64.wrap x=x:=by
 have h0:0≤x:=h.1
 have h1:x<4294967296:=h.2
 exact cC (by omega) (by omega)
theorem aaW {l:List Int} (hl:l.length≤32) (hi:∀ x∈l,aN x):∀ (r i:Nat),i+r=l.length→Good Tryz.prog (gD true) 2 (Ex l.length (aL l) (aE l) (i:Int)) (Ey l.length (aL l) (aE l) (i:Int)):=by
 intro r
 induction r with
 | zero =>
  intro i hi
  obtain rfl:i=l.length:=by omega
  refine bD JB 1000 (UN _ _ _ _ (fun _=>False)) ?_ (fun _ _ h=>h) (fun fs m hb=>Im (fun _ h=>h.elim) hb)
  have d:decide ((l.length:Int)<(l.length:Int))=false:=decide_eq_false (by omega)
  simp only [d,q6]
 | succ r ih =>
  intro i hi2
  have hi':i<l.length:=by omega
  refine bD JB 1000 (UN _ _ _ (i:Int) (fun i'=>i'=((i+1:Nat):Int))) ?_ (fun _ _ h=>h) (fun fs m hb=>Im (fun i' e1=>by rw [e1];exact ih (i+1) (by omega)) hb)
  have d:decide ((i:Int)<(l.length:Int))=true:=decide_eq_true (by omega)
  have ei:ah .add .i64 (i:Int) 1=((i+1:Nat):Int):=by rw [dn,cC (by omega) (by omega)];omega
  have g1:aA .u32 (aL l) i:=bw (fN hi')
  have g2:aa (aL l) i=l.getD i 0:=bI (fN hi')
  have g3:aA .i64 (aE l) i:=bw (fj hi')
  have g4:aa (aE l) i=l.getD i 0:=bI (fj hi')
  have y0:0≤(i:Int):=by omega
  have y1:(i:Int)<(l.length:Int):=by omega
  have ew:IntKind.i64.wrap (l.getD i 0)=l.getD i 0:=uZ (hi _ (by rw [List.getD_eq_getElem?_getD,List.getElem?_eq_getElem hi'];exact List.getElem_mem _))
  simp only [d,ei,g1,g2,g3,g4,y0,y1,ew,bne_self_eq_false,decide_true,OA,q7,q6]
theorem TS:E0.fn 26=some Tryz.f26:=by kernel_rfl
theorem RY:Tryz.f26.body=some (Tryz.f26.body.getD .skip):=by kernel_rfl
theorem X3 (m:aj):aq E0 26 [jd,jd] m (bu [] (.ret (sB (.l true)) m)):=by
 refine aq.mI (ms:=aT) (l':=[jd,jd]) aU TS RY rfl (fun _=>0) (fun q b hb=>by cases hb) (fun R vs hv=>mw (by kernel_rfl) hv) (A:=gD true) (fun hq=>?_) (fun s m' R R' v hs hv=>DA hs hv)
 exact bA aaV 1000 (wrZ 0) (by simp) (fun s m h=>h) fun fs m h=>h.elim
theorem Zh {m:aj} {i j:Nat} {n k:SN} {c1 c2:SK} {a b:Array Value} {w1 w2:Bool} (dZ:aH m.bl i=some ⟨.pop a,30,w1⟩) (e_:aH m.bl j=some ⟨.pop b,3,w2⟩):aq E0 26 [.s (.c (.f (.slice i (.l 0) n c1))),.s (.c (.f (.slice j (.l 0) k c2)))] m (.need [jh a b n.den k.den] (.ret (sB (.l true)) m)):=by
 refine aq.asked fun hq=>?_
 obtain ⟨l,rfl,rfl,e1,e2,e3,e4⟩:jh a b n.den k.den:=hq _ (by simp)
 have hm:∀ q b,aH (pP (aL l) (aE l)).bl q=some b→q<(pP (aL l) (aE l)).next∧b.wr=false∧∃ d,aH m.bl ((fun q=>if q=0 then i else j) q)=some d∧b.ty=d.ty∧∀ R cs,d.arr.cH R cs→b.arr.cH (pull (fun q=>if q=0 then i else j) (pP (aL l) (aE l)).next R) cs:=by
  intro q b hb
  have hb:aH (((Tr.nil:Tr bN).set 0 (some ⟨.pop (aL l),30,false⟩)).set 1 (some ⟨.pop (aE l),3,false⟩)) q=some b:=hb
  rw [jv] at hb
  split at hb
  ·rename_i e;cases hb;subst e;exact ⟨(show 1<2 by decide),rfl,_,e_,rfl,fun R cs h=>h⟩
  ·rw [jv] at hb
   split at hb
   ·rename_i e;cases hb;subst e;exact ⟨(show 0<2 by decide),rfl,_,dZ,rfl,fun R cs h=>h⟩
   ·have hb:(Tr.nil:Tr bN).get q=some b:=hb
    rw [Tr.get_nil] at hb
    cases hb
 have hl:∀ R vs,aK (SV.ok R) [.s (.c (.f (.slice i (.l 0) n c1))),.s (.c (.f (.slice j (.l 0) k c2)))] vs→aK (SV.ok (pull (fun q=>if q=0 then i else j) (pP (aL l) (aE l)).next R)) [nA 0 l.length,nA 1 l.length] vs:=by
  intro R vs ha
  match vs,ha with
  | [u,v],ha =>
   obtain ⟨⟨g,cp,k1,k2,k3,k4⟩,⟨g',nB,th,vO,M8,oq⟩,_⟩:=ha
   exact ⟨⟨g,cp,by unfold pull;exact k1,by rw [k2,e1],trivial,by rw [e1] at k4;exact k4⟩,⟨g',nB,by unfold pull;exact th,by rw [vO,e2],trivial,by rw [e2] at oq;exact oq⟩,trivial⟩
 refine (show aq E0 26 _ m (bu [] _) from aq.mI aU TS RY rfl (fun q=>if q=0 then i else j) hm hl (A:=gD true) (fun _=>?_) (fun s m' R R' v hs hv=>DA hs hv))
 refine bA JB 1000 (wr0 l.length (aL l) (aE l) (fun i=>i=((0:Nat):Int))) ?_ (fun s m h=>h) fun fs m hb=>Im (fun i e=>by rw [e];exact aaW e3 e4 _ 0 (Nat.zero_add _)) hb
 simp only [bne_self_eq_false,OA,q6]
 rfl
section
variable {ts ws:Array Value}
theorem aaX (n:Int) (m:aj):aq E0 23 [bg ws,.s (.c (.f (.int .u32 (.o n))))] m (bu [SW ts ws,aM ts,aN n] (.ret (i64 (.o (au ts n))) m)):=by
 refine aq.pure aU (by kernel_rfl:E0.fn 23=some Tryz.f23) (by kernel_rfl:Tryz.f23.body=some (Tryz.f23.body.getD .skip)) (by kernel_rfl) (by kernel_rfl) fun hq=>?_
 have w:SW ts ws:=hq _ (by simp)
 have hb:aM ts:=hq _ (by simp)
 have hn:aN n:=hq _ (by simp)
 have hz:=w.sz
 have bK:(64:Nat)≤448:=by decide
 have wb:=w.wb hb
 have ew:=uZ hn
 refine (Good.ret [] (bA RX 1000 (nm0 ws n (au ts n)) ?_ (fun s m h=>h) fun _ _ h=>h.elim)).mono fun _ _ h=>h.1
 by_cases c1:1≤n
 ·have d1:decide (n≥1)=true:=decide_eq_true c1
  by_cases c2:n≤32
  ·have d2:decide (n≤32)=true:=decide_eq_true c2
   obtain ⟨i,rfl⟩:∃ i:Nat,n=(i:Int)+1:=⟨(n - 1).toNat,by omega⟩
   have hi:i<32:=by omega
   have es:ah .sub .u32 ((i:Int)+1) 1=(i:Int):=by rw [zQ,show (i:Int)+1 - 1=(i:Int) by omega];exact u32_in (by omega) (by omega)
   have Ce:IntKind.i64.wrap (i:Int)=(i:Int):=cC (by omega) (by omega)
   have y0:0≤(i:Int):=by omega
   have y1:(i:Int)<32:=by omega
   have k1:ws[32+i]?=some (.int .i64 (cB (aF ts) i)):=w.s i hi
   have g:=w.gn hi
   have en:au ts ((i:Int)+1)=if cB (aF ts) i=1 then gw ts i else (i:Int)+1:=by
    unfold au
    rw [show (i:Int)+1 - 1=(i:Int) by omega,Int.toNat_natCast]
    by_cases k:cB (aF ts) i=1
    ·rw [if_pos k,if_pos ⟨c1,c2,k⟩]
    ·rw [if_neg k,if_neg (fun q=>k q.2.2)]
   rw [en]
   cases k:(cB (aF ts) i==1) with
   | true =>
    rw [if_pos (beq_iff_eq.1 k)]
    simp only [d1,d2,es,Ce,y0,y1,bw k1,bI k1,k,g,hz,bK,wb,dJ,cF,Nat.mul_one,Int.toNat_natCast,q6]
    rfl
   | false =>
    rw [if_neg (beq_eq_false_iff_ne.1 k)]
    simp only [d1,d2,es,ew,y0,y1,bw k1,bI k1,k,dJ,cF,Nat.mul_one,Int.toNat_natCast,q6]
  ·have d2:decide (n≤32)=false:=decide_eq_false c2
   have en:au ts n=n:=if_neg (fun q=>c2 q.2.1)
   simp only [d1,d2,en,ew,dJ,cF,q6]
 ·have d1:decide (n≥1)=false:=decide_eq_false c1
  have en:au ts n=n:=if_neg (fun q=>c1 q.1)
  simp only [d1,en,ew,dJ,cF,q6]
theorem mJ (hb:aM ts) {n:Int} (hn:aN n):aN (au ts n):=by
 unfold au
 split
 ·rename_i c
  have g:aB ts (gw ts (n - 1).toNat)=true:=(lN hb.bk).2 ⟨(n - 1).toNat,by omega,c.2.2,rfl⟩
  exact (dX hb g).2.2.2.2.2.1
 ·exact hn
end
noncomputable def vP (a0 a1 a3 c0 c1 c2 c3 c4 c5 c6 c7:Int):Array Value:=#[.int .i64 a0,.int .i64 a1,.slice none 0 0,.int .i64 a3,.int .i64 c0,.int .i64 c1,.int .i64 c2,.int .i64 c3,.int .i64 c4,.int .i64 c5,.int .i64 c6,.int .i64 c7]
set_option linter.unusedVariables false
noncomputable def cP (ts:Array Value) (x b z:Int):Array Value:=Array.setIfInBounds (dO ts (IntKind.wrap IntKind.u32 x)) ((4:Nat)+Int.toNat (ah BinOp.rem IntKind.u32 b (8:Int))*(1:Nat)) (Value.int IntKind.u32 (IntKind.wrap IntKind.u32 z))
noncomputable def cR (ts:Array Value) (x b z:Int):Array Value:=Array.setIfInBounds (nC ts x) ((4:Nat)+Int.toNat (ah BinOp.rem IntKind.u32 b (8:Int))*(1:Nat)) (Value.int IntKind.i64 z)
noncomputable def lP (rr:Array Value):Array Value:=mV (aa rr 0) (aa rr 1) (aa rr 3) (aa rr 4) (aa rr 5) (aa rr 6) (aa rr 7) (aa rr 8) (aa rr 9) (aa rr 10) (aa rr 11)
noncomputable def lR (rr:Array Value):Array Value:=vP (aa rr 0) (aa rr 1) (aa rr 3) (aa rr 4) (aa rr 5) (aa rr 6) (aa rr 7) (aa rr 8) (aa rr 9) (aa rr 10) (aa rr 11)
def UO (rr:Array Value):Prop:=aA IntKind.u32 rr 0∧aA IntKind.i64 rr 1∧rr[(2:Nat)]?=some (Value.slice none (0:Nat) (0:Nat))∧aA IntKind.i64 rr 3∧aA IntKind.u32 rr 4∧aA IntKind.u32 rr 5∧aA IntKind.u32 rr 6∧aA IntKind.u32 rr 7∧aA IntKind.u32 rr 8∧aA IntKind.u32 rr 9∧aA IntKind.u32 rr 10∧aA IntKind.u32 rr 11∧True
def UP (rr:Array Value):Prop:=aA IntKind.i64 rr 0∧aA IntKind.i64 rr 1∧rr[(2:Nat)]?=some (Value.slice none (0:Nat) (0:Nat))∧aA IntKind.i64 rr 3∧aA IntKind.i64 rr 4∧aA IntKind.i64 rr 5∧aA IntKind.i64 rr 6∧aA IntKind.i64 rr 7∧aA IntKind.i64 rr 8∧aA IntKind.i64 rr 9∧aA IntKind.i64 rr 10∧aA IntKind.i64 rr 11∧True
noncomputable def FL (n:Int):SV:=.s (.c (.f (.int .u32 (.o n))))
noncomputable def mW (d a b c q:Int):SV:=.s (.agg (.ls [.f (.int .u8 (.o d)),.f (.int .u32 (.o a)),.f (.int .u32 (.o b)),.f (.int .u32 (.o c)),.f (.int .i64 (.o q))]))
noncomputable def M9 (oP oW:Array Value):SV:=.bW [.agg (.op oP),.agg (.op oW),.c (.f (.bool (.l true)))]
noncomputable def KJ (ts:Array Value) (g:FuncId) (l:List SV) (m:aj):Option Tree:=match g,l with
 | 23,[.s (.agg (.op ws)),.s (.c (.f (.int .u32 n)))]=>some (.need [SW ts ws,aM ts,aN n.den] (.ret (i64 (.o (au ts n.den))) m))
 | 26,[.s (.c (.f (.slice i (.l 0) n c1))),.s (.c (.f (.slice j (.l 0) k c2)))]=>(match aH m.bl i,aH m.bl j with | some ⟨.pop a,30,_⟩,some ⟨.pop b,3,_⟩=>some (.need [jh a b n.den k.den] (.ret (sB (.l true)) m)) | _,_=>none)
 | 26,[.s (.c (.f (.lit (.slice none 0 0)))),.s (.c (.f (.lit (.slice none 0 0))))]=>some (.ret (sB (.l true)) m)
 | 25,[.s (.agg (.op ws)),.s (.c (.f (.int .i64 h)))]=>some (.need [SW ts ws,ay ts] (UJ ts ws h.den m))
 | 28,[.s (.agg (.op ws)),.s (.c (.f (.int .i64 h)))]=>some (.need [SW ts ws,ay ts] (.ret (pN (iR ts ws h.den) (kG ts h.den)) m))
 | 30,[.s (.agg (.op ws)),.s (.c (.f (.int .i64 h))),.s (.c (.f (.int .i64 u)))]=>some (.need [SW ts ws,FV ts] (.ret (pN (jE ts ws h.den u.den) (eZ ts h.den u.den)) m))
 | 35,[.s (.agg (.op ws)),.s (.c (.f (.int .i64 u))),.s (.c (.f (.int .i64 q)))]=>some (.need [SW ts ws,FV ts,aN u.den] (.ret (.bW [.agg (.op (jq ts ws u.den q.den)),.c (.f (.int .i64 (.o (jc ts u.den q.den)))),.c (.f (.int .i64 (.o (gR ts u.den q.den))))]) m))
 | 34,[.s (.agg (.op ws)),.s (.c (.f (.int .i64 h))),.s (.agg (.ls [.f (.int .i64 a0),.f (.int .i64 a1),.f (.lit (.slice none 0 0)),.f (.int .i64 a3),.f (.int .i64 c0),.f (.int .i64 c1),.f (.int .i64 c2),.f (.int .i64 c3),.f (.int .i64 c4),.f (.int .i64 c5),.f (.int .i64 c6),.f (.int .i64 c7)]))]=>some (.need [SW ts ws,aM ts,BG (vP a0.den a1.den a3.den c0.den c1.den c2.den c3.den c4.den c5.den c6.den c7.den)] (.ret (pN (me ts ws h.den (vP a0.den a1.den a3.den c0.den c1.den c2.den c3.den c4.den c5.den c6.den c7.den)) (dR ts h.den)) m))
 | 24,[.s (.agg (.op ts)),.s (.c (.f (.int .u32 h)))]=>some (.need [ay ts,aN h.den] (Kl ts h.den m))
 | 14,[.s (.agg (.op ts)),.s (.c (.f (.int .u32 u))),.s (.c (.f (.int .i64 q)))]=>some (.need [ay ts,aN u.den] (.ret (MY (gC ts u.den q.den) (jc ts u.den q.den) (gR ts u.den q.den)) m))
 | g,l=>sj ts g l m
noncomputable def UQ (ts:Array Value):Env:=⟨Tryz.prog,dg,KJ ts,dy []⟩
end Go.Proofs.YtldoopjnjlpbpaaGreatDoor
