/- Of forests: ForestPlays: an act, in both: run. -/
import Derived.Test.YtldoopjnjlpbpaaGreatDoorMC
import Derived.Test.YtldoopjnjlpbpaaGreatDoorMB
import Derived.Test.YtldoopjnjlpbpaaGreatDoorK27
set_option linter.unusedVariables false
set_option linter.unusedSimpArgs false
namespace Go.Proofs.YtldoopjnjlpbpaaGreatDoor
set_option maxRecDepth 100000
noncomputable def cI (ts:Array Value) (a:Int):Int:=IntKind.wrap .u32 (au ts a)
def uv (ts:Array Value) (a:Int):Prop:=0≤IntKind.wrap .u32 (au ts a)∧IntKind.wrap .u32 (au ts a)<4294967296
def oZ (ws:Array Value):Prop:=ws.size=448∧ws.size=448∧True
def xw (ts:Array Value) (ws:Array Value) (a:Int):Prop:=(gL ws (aJ ts (au ts a))).size=448∧(gL ws (aJ ts (au ts a))).size=448∧True
def qt (ts:Array Value):Prop:=ts.size=448∧ts.size=448∧True
noncomputable def o7 (ts:Array Value) (a:Int) (b:Int) (c:Int):Array Value:=gq ts (cI ts a) (lP (cP ts (au ts a) b (au ts c)))
noncomputable def o8 (ts:Array Value) (ws:Array Value) (a:Int) (b:Int) (c:Int):Array Value:=me ts ws (au ts a) (lR (cR ts (au ts a) b (au ts c)))
def AF (ts:Array Value) (a:Int):Prop:=(gY ts (cI ts a)).size=448∧(gY ts (cI ts a)).size=448∧True
noncomputable def uw (ts:Array Value) (a:Int) (b:Int):Array Value:=gW ts (cI ts a) (IntKind.wrap .u32 (au ts b))
def xy (ts:Array Value) (ws:Array Value):Prop:=ts.size=448∧ws.size=448∧True
def DJ (ts:Array Value) (a:Int) (q:Int):Prop:=(gC ts (cI ts a) q).size=448∧(gC ts (cI ts a) q).size=448∧True
def wV (ts:Array Value) (ws:Array Value) (a:Int):Prop:=(gL ws (aJ ts (au ts a))).size=448∧True
def wW (ts:Array Value) (a:Int):Prop:=(gY ts (cI ts a)).size=448∧True
def DK (ts:Array Value) (ws:Array Value) (a:Int) (q:Int):Prop:=(jq ts ws (au ts a) q).size=448∧(jq ts ws (au ts a) q).size=448∧True
theorem do0 (ts ws:Array Value) (d a b c q:Int) (oP oW:Array Value):(run (UQ ts) 1000 0 [a_ 6 Tryz.f6.ntmps [bB ts,bg ws,mW d a b c q] (Tryz.f6.body.getD .skip)] aT).vc (bM 0 [] (M9 oP oW) aT) (fun _ _=>False) =
  ((ws.size=448∧True)∧(SW ts ws∧aM ts∧(0≤a∧a<4294967296)∧True)∧(ws.size=448∧True)∧(SW ts ws∧aM ts∧(0≤b∧b<4294967296)∧True)∧(ws.size=448∧True)∧(SW ts ws∧aM ts∧(0≤c∧c<4294967296)∧True)∧((d==0)=true→(ts.size=448∧True)∧(ay ts∧(uv ts a)∧True)∧(decide ((aJ ts (cI ts a)).length=0)=true→(qt ts)∧(ws.size=448∧True)∧(SW ts ws∧ay ts∧True)∧(decide ((aJ ts (au ts a)).length=0)=true→(oZ ws)∧(ts.size=448∧True)∧(ws.size=448∧True)∧(ts.size=448∧ts.size=ts.size∧True)∧(ws.size=448∧ws.size=ws.size∧True)∧(ts.size=448∧True)∧(ws.size=448∧True)∧(qt ts)∧(oZ ws)∧(xy ts ws)∧oP=ts∧oW=ws∧true=true∧True)∧(decide ((aJ ts (au ts a)).length=0)=false→(xw ts ws a)∧(ts.size=448∧True)∧(wV ts ws a)∧(ts.size=448∧ts.size=ts.size∧True)∧((gL ws (aJ ts (au ts a))).size=448∧(gL ws (aJ ts (au ts a))).size=ws.size∧True)∧(((0:Int) != (↑((aJ ts (au ts a)).length):Int))=true→(ts.size=448∧True)∧(wV ts ws a)∧(qt ts)∧(xw ts ws a)∧(ts.size=448∧(gL ws (aJ ts (au ts a))).size=448∧True)∧False)∧(((0:Int) != (↑((aJ ts (au ts a)).length):Int))=false→(ts.size=448∧True)∧(wV ts ws a)∧(qt ts)∧(xw ts ws a)∧(ts.size=448∧(gL ws (aJ ts (au ts a))).size=448∧True)∧oP=ts∧oW=gL ws (aJ ts (au ts a))∧true=false∧True)))∧(decide ((aJ ts (cI ts a)).length=0)=false→(AF ts a)∧(ws.size=448∧True)∧(SW ts ws∧ay ts∧True)∧(decide ((aJ ts (au ts a)).length=0)=true→(oZ ws)∧(wW ts a)∧(ws.size=448∧True)∧((gY ts (cI ts a)).size=448∧(gY ts (cI ts a)).size=ts.size∧True)∧(ws.size=448∧ws.size=ws.size∧True)∧(((↑((aJ ts (cI ts a)).length):Int) != 0)=true→(wW ts a)∧(ws.size=448∧True)∧(AF ts a)∧(oZ ws)∧((gY ts (cI ts a)).size=448∧ws.size=448∧True)∧False)∧(((↑((aJ ts (cI ts a)).length):Int) != 0)=false→(decide ((0:Int)<(↑((aJ ts (cI ts a)).length):Int))=true→(((0:Int)≤0∧(0:Int)<(↑((aJ ts (cI ts a)).length):Int))∧True)∧(aA .u32 (aL (aJ ts (cI ts a))) (0+0*1)∧True)∧False)∧(decide ((0:Int)<(↑((aJ ts (cI ts a)).length):Int))=false→(wW ts a)∧(ws.size=448∧True)∧(AF ts a)∧(oZ ws)∧((gY ts (cI ts a)).size=448∧ws.size=448∧True)∧oP=gY ts (cI ts a)∧oW=ws∧true=false∧True)))∧(decide ((aJ ts (au ts a)).length=0)=false→(xw ts ws a)∧(wW ts a)∧(wV ts ws a)∧((gY ts (cI ts a)).size=448∧(gY ts (cI ts a)).size=ts.size∧True)∧((gL ws (aJ ts (au ts a))).size=448∧(gL ws (aJ ts (au ts a))).size=ws.size∧True)∧(jh (aL (aJ ts (cI ts a))) (aE (aJ ts (au ts a))) ((aJ ts (cI ts a)).length) ((aJ ts (au ts a)).length)∧True)∧(wW ts a)∧(wV ts ws a)∧(AF ts a)∧(xw ts ws a)∧((gY ts (cI ts a)).size=448∧(gL ws (aJ ts (au ts a))).size=448∧True)∧oP=gY ts (cI ts a)∧oW=gL ws (aJ ts (au ts a))∧true=true∧True)))∧((d==0)=false→((d==1)=true→(ts.size=448∧True)∧(ay ts∧(uv ts a)∧True)∧((gA ts (cI ts a)).size=448∧(gA ts (cI ts a)).size=ts.size∧True)∧(ws.size=448∧True)∧(SW ts ws∧ay ts∧True)∧((iR ts ws (au ts a)).size=448∧(iR ts ws (au ts a)).size=ws.size∧True)∧((gA ts (cI ts a)).size=448∧True)∧((iR ts ws (au ts a)).size=448∧True)∧((gA ts (cI ts a)).size=448∧(gA ts (cI ts a)).size=448∧True)∧((iR ts ws (au ts a)).size=448∧(iR ts ws (au ts a)).size=448∧True)∧((gA ts (cI ts a)).size=448∧(iR ts ws (au ts a)).size=448∧True)∧oP=gA ts (cI ts a)∧oW=iR ts ws (au ts a)∧true=(kG ts (cI ts a)==kG ts (au ts a))∧True)∧((d==1)=false→((d==2)=true→(ts.size=448∧True)∧(ay ts∧(uv ts a)∧(0≤IntKind.wrap .u32 (au ts b)∧IntKind.wrap .u32 (au ts b)<4294967296)∧True)∧((uw ts a b).size=448∧(uw ts a b).size=ts.size∧True)∧(ws.size=448∧True)∧(SW ts ws∧FV ts∧True)∧((jE ts ws (au ts a) (au ts b)).size=448∧(jE ts ws (au ts a) (au ts b)).size=ws.size∧True)∧((uw ts a b).size=448∧True)∧((jE ts ws (au ts a) (au ts b)).size=448∧True)∧((uw ts a b).size=448∧(uw ts a b).size=448∧True)∧((jE ts ws (au ts a) (au ts b)).size=448∧(jE ts ws (au ts a) (au ts b)).size=448∧True)∧((uw ts a b).size=448∧(jE ts ws (au ts a) (au ts b)).size=448∧True)∧oP=gW ts (cI ts a) (IntKind.wrap .u32 (au ts b))∧oW=jE ts ws (au ts a) (au ts b)∧true=(eZ ts (cI ts a) (IntKind.wrap .u32 (au ts b))==eZ ts (au ts a) (au ts b))∧True)∧((d==2)=false→((d==3)=true→(ts.size=448∧True)∧(aM ts∧(uv ts a)∧True)∧((dO ts (cI ts a)).size=12∧(dO ts (cI ts a)).size=12∧True)∧((0≤ah .rem .u32 b 8∧ah .rem .u32 b 8<8)∧True)∧(4+(ah .rem .u32 b 8).toNat*1<(dO ts (cI ts a)).size∧True)∧(ws.size=448∧True)∧(SW ts ws∧aM ts∧True)∧((nC ts (au ts a)).size=12∧(nC ts (au ts a)).size=12∧True)∧((0≤ah .rem .u32 b 8∧ah .rem .u32 b 8<8)∧True)∧(4+(ah .rem .u32 b 8).toNat*1<(nC ts (au ts a)).size∧True)∧(((dR ts (cI ts a)==0)==true)=true→((lE ts (au ts a)==0)=true→(ts.size=448∧True)∧(UO (cP ts (au ts a) b (au ts c)))∧(aM ts∧(uv ts a)∧lg (lP (cP ts (au ts a) b (au ts c))) (0:Nat)∧True)∧((o7 ts a b c).size=448∧(o7 ts a b c).size=ts.size∧True)∧(ws.size=448∧True)∧(UP (cR ts (au ts a) b (au ts c)))∧(SW ts ws∧aM ts∧BG (lR (cR ts (au ts a) b (au ts c)))∧True)∧((o8 ts ws a b c).size=448∧(o8 ts ws a b c).size=ws.size∧True)∧((o7 ts a b c).size=448∧True)∧((o8 ts ws a b c).size=448∧True)∧(((dR ts (cI ts a)==lE ts (au ts a))==true)=true→((o7 ts a b c).size=448∧(o7 ts a b c).size=448∧True)∧((o8 ts ws a b c).size=448∧(o8 ts ws a b c).size=448∧True)∧((o7 ts a b c).size=448∧(o8 ts ws a b c).size=448∧True)∧oP=gq ts (cI ts a) (lP (cP ts (au ts a) b (au ts c)))∧oW=me ts ws (au ts a) (lR (cR ts (au ts a) b (au ts c)))∧true=(dR ts (cI ts a)==dR ts (au ts a))∧True)∧(((dR ts (cI ts a)==lE ts (au ts a))==true)=false→((o7 ts a b c).size=448∧(o7 ts a b c).size=448∧True)∧((o8 ts ws a b c).size=448∧(o8 ts ws a b c).size=448∧True)∧((o7 ts a b c).size=448∧(o8 ts ws a b c).size=448∧True)∧False))∧((lE ts (au ts a)==0)=false→(ts.size=448∧True)∧(ws.size=448∧True)∧(((dR ts (cI ts a)==lE ts (au ts a))==true)=true→(qt ts)∧(oZ ws)∧(xy ts ws)∧oP=ts∧oW=ws∧True)∧(((dR ts (cI ts a)==lE ts (au ts a))==true)=false→(qt ts)∧(oZ ws)∧(xy ts ws)∧False)))∧(((dR ts (cI ts a)==0)==true)=false→(ts.size=448∧True)∧(ws.size=448∧True)∧(((dR ts (cI ts a)==lE ts (au ts a))==true)=true→(qt ts)∧(oZ ws)∧(xy ts ws)∧oP=ts∧oW=ws∧True)∧(((dR ts (cI ts a)==lE ts (au ts a))==true)=false→(qt ts)∧(oZ ws)∧(xy ts ws)∧False)))∧((d==3)=false→(ts.size=448∧True)∧(ay ts∧(uv ts a)∧True)∧(DJ ts a q)∧(ws.size=448∧True)∧(SW ts ws∧FV ts∧(0≤au ts a∧au ts a<4294967296)∧True)∧(DK ts ws a q)∧((gC ts (cI ts a) q).size=448∧True)∧((jq ts ws (au ts a) q).size=448∧True)∧((gC ts (cI ts a) q).size=448∧(gC ts (cI ts a) q).size=ts.size∧True)∧((jq ts ws (au ts a) q).size=448∧(jq ts ws (au ts a) q).size=ws.size∧True)∧((gC ts (cI ts a) q).size=448∧True)∧((jq ts ws (au ts a) q).size=448∧True)∧(((IntKind.wrap .i64 (jc ts (cI ts a) q)==jc ts (au ts a) q)==true)=true→(DJ ts a q)∧(DK ts ws a q)∧((gC ts (cI ts a) q).size=448∧(jq ts ws (au ts a) q).size=448∧True)∧oP=gC ts (cI ts a) q∧oW=jq ts ws (au ts a) q∧true=(gR ts (cI ts a) q==gR ts (au ts a) q)∧True)∧(((IntKind.wrap .i64 (jc ts (cI ts a) q)==jc ts (au ts a) q)==true)=false→(DJ ts a q)∧(DK ts ws a q)∧((gC ts (cI ts a) q).size=448∧(jq ts ws (au ts a) q).size=448∧True)∧False)))))):=by kernel_rfl
set_option linter.unusedSimpArgs false
set_option linter.unusedVariables false
theorem aaY {R:aX} {v:Value} {a0 a1 a3 c0 c1 c2 c3 c4 c5 c6 c7:SI} (h:(SV.s (.agg (.ls [.f (.int .i64 a0),.f (.int .i64 a1),.f (.lit (.slice none 0 0)),.f (.int .i64 a3),.f (.int .i64 c0),.f (.int .i64 c1),.f (.int .i64 c2),.f (.int .i64 c3),.f (.int .i64 c4),.f (.int .i64 c5),.f (.int .i64 c6),.f (.int .i64 c7)]))).ok R v):(bg (vP a0.den a1.den a3.den c0.den c1.den c2.den c3.den c4.den c5.den c6.den c7.den)).ok R v:=by
 obtain ⟨cs,rfl,hl⟩:=h
 have hl:aK (SC.ok R) _ cs.toList:=hl
 have key:cs=vP a0.den a1.den a3.den c0.den c1.den c2.den c3.den c4.den c5.den c6.den c7.den:=by
  apply Array.ext'
  match hc:cs.toList,hl with
 | [v0,v1,v2,v3,v4,v5,v6,v7,v8,v9,v10,v11],⟨h0,h1,h2,h3,h4,h5,h6,h7,h8,h9,h10,h11,_⟩ =>
  have e0:v0=.int .i64 a0.den:=h0
  have e1:v1=.int .i64 a1.den:=h1
  have e2:v2=.slice none 0 0:=h2.1
  have e3:v3=.int .i64 a3.den:=h3
  have e4:v4=.int .i64 c0.den:=h4
  have e5:v5=.int .i64 c1.den:=h5
  have e6:v6=.int .i64 c2.den:=h6
  have e7:v7=.int .i64 c3.den:=h7
  have e8:v8=.int .i64 c4.den:=h8
  have e9:v9=.int .i64 c5.den:=h9
  have M_:v10=.int .i64 c6.den:=h10
  have Na:v11=.int .i64 c7.den:=h11
  rw [e0,e1,e2,e3,e4,e5,e6,e7,e8,e9,M_,Na]
  rfl
 refine ⟨cs,rfl,key,fun v hv=>?_⟩
 rw [key] at hv
 simp only [vP,List.mem_cons,List.not_mem_nil,or_false] at hv
 rcases hv with rfl | rfl | rfl | rfl | rfl | rfl | rfl | rfl | rfl | rfl | rfl | rfl <;> rfl
theorem X4 (ts:Array Value):∀ g l m t,KJ ts g l m=some t→aq E0 g l m t:=by
 intro g l m t h
 unfold KJ at h
 split at h
 ·rename_i ws n;cases h
  exact aq.n1 (aaX n.den m)
 ·split at h
  ·rename_i a w1 b w2 h1 h2;cases h
   exact Zh h1 h2
  ·cases h
 ·cases h;exact X3 m
 ·rename_i ws x;cases h
  exact aq.n1 (WM x.den m)
 ·rename_i ws x;cases h
  exact aq.n1 (XY x.den m)
 ·rename_i ws a x;cases h
  exact aq.n2 (Wm a.den x.den m)
 ·rename_i ws a x;cases h
  exact aq.n2 (WJ a.den x.den m)
 ·rename_i ws x a0 a1 a3 c0 c1 c2 c3 c4 c5 c6 c7;cases h
  refine aq.asked fun hq=>aq.args (l':=[bg ws,i64 (.o x.den),bg (vP a0.den a1.den a3.den c0.den c1.den c2.den c3.den c4.den c5.den c6.den c7.den)]) (fun R vs ha=>by
   match vs,ha with
   | [v,w,z],ha=>exact ⟨ha.1,ha.2.1,aaY ha.2.2.1,trivial⟩) ?_
  intro A hs
  exact XX x.den m A ⟨fun p hp=>hq p hp,hs⟩
 ·rename_i ts x;cases h
  exact aq.n1 (Pc x.den m)
 ·rename_i ts u q;cases h
  exact aq.n2 (Pb u.den q.den m)
 ·exact wH ts _ _ _ _ h
theorem aaZ (ts:Array Value):bf (UQ ts):=bf.with aU _ _ (X4 ts)
section
variable {ts ws:Array Value}
theorem pI {x:Int} (h:aN x):IntKind.u32.wrap x=x:=by
 have h0:0≤x:=h.1
 have h1:x<4294967296:=h.2
 exact u32_in (by omega) (by omega)
theorem UR {b:Int} (hb:aN b):ah .rem .u32 b 8=b % 8:=by
 have h0:0≤b:=hb.1
 rw [Qw,Int.tmod_eq_emod_of_nonneg h0]
def pQ (ts:Array Value) (x b z:Int) (j:Nat):Int:=if j=(b % 8).toNat then z else bL ts x j
theorem acC {x b z:Int} (hg:aB ts x=true) (hx:aN x) (hb:aN b) (hz:aN z):cP ts x b z=gT (aG ts x) (dc ts x) 0 (pQ ts x b z)∧cR ts x b z=fX (aG ts x) (dc ts x) (pQ ts x b z):=by
 have h1:dO ts x=gT (aG ts x) (dc ts x) 0 (bL ts x):=if_pos hg
 have h2:nC ts x=fX (aG ts x) (dc ts x) (bL ts x):=if_pos hg
 unfold cP cR pQ
 rw [pI hx,pI hz,UR hb,h1,h2,Nat.mul_one]
 have hk:(b % 8).toNat<8:=by omega
 generalize (b % 8).toNat=k at *
 match k,hk with
 | 0,_ | 1,_ | 2,_ | 3,_ | 4,_ | 5,_ | 6,_ | 7,_=>exact ⟨rfl,rfl⟩
theorem acD (hb:aM ts) {x:Int} (hg:aB ts x=true):aN (aG ts x):=by
 unfold aG
 rw [if_pos hg]
 split
 ·exact (sk hb hg).1
 ·exact ⟨by decide,by decide⟩
theorem L4 (ht:aM ts) {x b z:Int} (hg:aB ts x=true) (hx:aN x) (hb:aN b) (hz:aN z):UO (cP ts x b z)∧UP (cR ts x b z)∧lg (lP (cP ts x b z)) 0∧BG (lR (cR ts x b z))∧aa (lR (cR ts x b z)) 1=aa (lP (cP ts x b z)) 1∧∀ k,k<8→aa (lR (cR ts x b z)) (4+k)=aa (lP (cP ts x b z)) (4+k):=by
 obtain ⟨e1,e2⟩:=acC hg hx hb hz
 obtain ⟨i1,i2,i3⟩:=sk ht hg
 rw [e1,e2]
 have e3:lP (gT (aG ts x) (dc ts x) 0 (pQ ts x b z))=gT (aG ts x) (dc ts x) 0 (pQ ts x b z):=rfl
 have e4:lR (fX (aG ts x) (dc ts x) (pQ ts x b z))=fX (aG ts x) (dc ts x) (pQ ts x b z):=rfl
 rw [e3,e4]
 have hin:∀ j,j<8→aN (pQ ts x b z j):=fun j hj=>by
  unfold pQ
  split
  ·exact hz
  ·exact i3 j hj
 refine ⟨⟨rfl,rfl,rfl,rfl,rfl,rfl,rfl,rfl,rfl,rfl,rfl,rfl,trivial⟩,⟨rfl,rfl,rfl,rfl,rfl,rfl,rfl,rfl,rfl,rfl,rfl,rfl,trivial⟩,(DD (us:=gT (aG ts x) (dc ts x) 0 (pQ ts x b z)) (p:=0) (fun j _=>by rw [Nat.zero_add]) (acD ht hg) i2 hin).1,⟨rfl,rfl,i2,rfl,rfl,rfl,fun k hk=>?_⟩,rfl,fun k hk=>?_⟩
 ·match k,hk with
  | 0,_ | 1,_ | 2,_ | 3,_ | 4,_ | 5,_ | 6,_ | 7,_=>rfl
 ·match k,hk with
  | 0,_ | 1,_ | 2,_ | 3,_ | 4,_ | 5,_ | 6,_ | 7,_=>rfl
noncomputable def iq (ts:Array Value) (d a b c q:Int):Array Value:=if d=0 then gY ts (au ts a) else if d=1 then gA ts (au ts a) else if d=2 then gW ts (au ts a) (au ts b) else if d=3 then (if aB ts (au ts a)=true then gq ts (au ts a) (lP (cP ts (au ts a) b (au ts c))) else ts) else gC ts (au ts a) q
noncomputable def iU (ts ws:Array Value) (d a b c q:Int):Array Value:=if d=0 then gL ws (aJ ts (au ts a)) else if d=1 then iR ts ws (au ts a) else if d=2 then jE ts ws (au ts a) (au ts b) else if d=3 then (if aB ts (au ts a)=true then me ts ws (au ts a) (lR (cR ts (au ts a) b (au ts c))) else ws) else jq ts ws (au ts a) q
theorem L5 (w:SW ts ws) (hv:FV ts) {d a b c q:Int} (ha:aN a) (hb:aN b) (hc:aN c):FV (iq ts d a b c q)∧SW (iq ts d a b c q) (iU ts ws d a b c q):=by
 have ht:=hv.f.ok
 have hx:=mJ ht ha
 have hy:=mJ ht hb
 have hz:=mJ ht hc
 unfold iq iU
 by_cases d0:d=0
 ·rw [if_pos d0,if_pos d0]
  refine ⟨?_,SW.mH _ w ht⟩
  cases g:aB ts (au ts a) with
  | true=>exact (aax hv g).1
  | false =>
   have e:gY ts (au ts a)=ts:=by unfold gY aJ;rw [g];rfl
   rw [e];exact hv
 ·rw [if_neg d0,if_neg d0]
  by_cases d1:d=1
  ·rw [if_pos d1,if_pos d1]
   exact ⟨aaw hv _,w.cut hv.f⟩
  ·rw [if_neg d1,if_neg d1]
   by_cases d2:d=2
   ·rw [if_pos d2,if_pos d2]
    exact ⟨(Qu hv hy).1,w.oY hv⟩
   ·rw [if_neg d2,if_neg d2]
    by_cases d3:d=3
    ·rw [if_pos d3,if_pos d3]
     by_cases hg:aB ts (au ts a)=true
     ·rw [if_pos hg,if_pos hg]
      obtain ⟨_,_,p3,_,p5,p6⟩:=L4 ht hg hx hb hz
      exact ⟨aaA hv hg p3,w.set ht hg p3 p5 p6⟩
     ·rw [if_neg hg,if_neg hg]
      exact ⟨hv,w⟩
    ·rw [if_neg d3,if_neg d3]
     exact ⟨aay hv hx,w.adY hv hx⟩
theorem aa0 (hb:aM ts) (u q:Int):aN (jc ts u q):=by
 unfold jc
 split
 ·exact (AG hb).1
 ·exact ⟨by decide,by decide⟩
theorem aa1 (d a b c q:Int) (m:aj):aq E0 6 [bB ts,bg ws,mW d a b c q] m (bu [SW ts ws,FV ts,aN a,aN b,aN c] (.ret (M9 (iq ts d a b c q) (iU ts ws d a b c q)) m)):=by
 refine aq.pure aU (by kernel_rfl:E0.fn 6=some Tryz.f6) (by kernel_rfl:Tryz.f6.body=some (Tryz.f6.body.getD .skip)) (by kernel_rfl) (by kernel_rfl) fun hq=>?_
 have w:SW ts ws:=hq _ (by simp)
 have hv:FV ts:=hq _ (by simp)
 have ha:aN a:=hq _ (by simp)
 have hb:aN b:=hq _ (by simp)
 have hc:aN c:=hq _ (by simp)
 obtain ⟨v1,w1⟩:=L5 w hv ha hb hc (d:=d) (q:=q)
 have s1:=v1.f.ok.sz
 have s2:=w1.sz
 have hf:=hv.f
 have ht:=hf.ok
 have hs:=ht.sz
 have hw:=w.sz
 have hx:=mJ ht ha
 have hy:=mJ ht hb
 have hz:=mJ ht hc
 have ha':0≤a∧a<4294967296:=ha
 have hb':0≤b∧b<4294967296:=hb
 have jg:0≤c∧c<4294967296:=hc
 have hx':0≤au ts a∧au ts a<4294967296:=hx
 have hy':0≤au ts b∧au ts b<4294967296:=hy
 have ex:=pI hx
 have ey:=pI hy
 refine (Good.ret [] (bA (aaZ ts) 1000 (do0 ts ws d a b c q (iq ts d a b c q) (iU ts ws d a b c q)) ?_ (fun s m h=>h) fun _ _ h=>h.elim)).mono fun _ _ h=>h.1
 unfold DK wW wV DJ xy uw AF o8 o7 qt xw oZ uv cI
 by_cases d0:d=0
 ·have c0:(d==0)=true:=beq_iff_eq.2 d0
  have e1:iq ts d a b c q=gY ts (au ts a):=if_pos d0
  have e2:iU ts ws d a b c q=gL ws (aJ ts (au ts a)):=if_pos d0
  rw [e1] at s1 ⊢
  rw [e2] at s2 ⊢
  cases k:decide ((aJ ts (au ts a)).length=0) with
  | true =>
   have e0:aJ ts (au ts a)=[]:=List.eq_nil_of_length_eq_zero (of_decide_eq_true k)
   have e3:gY ts (au ts a)=ts:=by unfold gY;rw [e0];rfl
   have e4:gL ws (aJ ts (au ts a))=ws:=by rw [e0];rfl
   simp only [c0,k,e3,e4,ex,hs,hw,w,hf,ht,ha',hb',jg,hx',q6]
  | false =>
   have hg:aB ts (au ts a)=true:=by
    cases g:aB ts (au ts a) with
    | true=>rfl
    | false=>exact absurd (by unfold aJ;rw [g];rfl) (of_decide_eq_false k)
   have hl:=(bU ht).2 hg
   have hun:aJ ts (au ts a)=bn ts (au ts a):=if_pos hg
   have hr:jh (aL (aJ ts (au ts a))) (aE (aJ ts (au ts a))) (aJ ts (au ts a)).length (aJ ts (au ts a)).length:=⟨_,rfl,rfl,rfl,rfl,by rw [hun];exact mD hf hl,fun y hy=>by rw [hun] at hy;exact iA ht (.inr (mA hf.fo _ hl y hy).1)⟩
   simp only [c0,k,hr,s1,s2,ex,hs,hw,w,hf,ht,ha',hb',jg,hx',q6]
 ·have c0:(d==0)=false:=beq_eq_false_iff_ne.2 d0
  by_cases d1:d=1
  ·have c1:(d==1)=true:=beq_iff_eq.2 d1
   have e1:iq ts d a b c q=gA ts (au ts a):=by unfold iq;rw [if_neg d0,if_pos d1]
   have e2:iU ts ws d a b c q=iR ts ws (au ts a):=by unfold iU;rw [if_neg d0,if_pos d1]
   rw [e1] at s1 ⊢
   rw [e2] at s2 ⊢
   simp only [c0,c1,s1,s2,ex,hs,hw,w,hf,ht,ha',hb',jg,hx',beq_self_eq_true,q6]
  ·have c1:(d==1)=false:=beq_eq_false_iff_ne.2 d1
   by_cases d2:d=2
   ·have c2:(d==2)=true:=beq_iff_eq.2 d2
    have e1:iq ts d a b c q=gW ts (au ts a) (au ts b):=by unfold iq;rw [if_neg d0,if_neg d1,if_pos d2]
    have e2:iU ts ws d a b c q=jE ts ws (au ts a) (au ts b):=by unfold iU;rw [if_neg d0,if_neg d1,if_pos d2]
    rw [e1] at s1 ⊢
    rw [e2] at s2 ⊢
    simp only [c0,c1,c2,s1,s2,ex,ey,hs,hw,w,hv,hf,ht,ha',hb',jg,hx',hy',beq_self_eq_true,q6]
   ·have c2:(d==2)=false:=beq_eq_false_iff_ne.2 d2
    by_cases d3:d=3
    ·have c3:(d==3)=true:=beq_iff_eq.2 d3
     have e1:iq ts d a b c q=if aB ts (au ts a)=true then gq ts (au ts a) (lP (cP ts (au ts a) b (au ts c))) else ts:=by unfold iq;rw [if_neg d0,if_neg d1,if_neg d2,if_pos d3]
     have e2:iU ts ws d a b c q=if aB ts (au ts a)=true then me ts ws (au ts a) (lR (cR ts (au ts a) b (au ts c))) else ws:=by unfold iU;rw [if_neg d0,if_neg d1,if_neg d2,if_pos d3]
     have er:=UR hb
     have r0:0≤b % 8:=by omega
     have r1:b % 8<8:=by omega
     have r2:4+(b % 8).toNat<12:=by omega
     have z1:=(CD ts (au ts a)).1
     have z2:(nC ts (au ts a)).size=12:=by unfold nC;split <;> rfl
     cases hg:aB ts (au ts a) with
     | true =>
      rw [if_pos hg] at e1 e2
      rw [e1] at s1 ⊢
      rw [e2] at s2 ⊢
      obtain ⟨p1,p2,p3,p4,_,_⟩:=L4 ht hg hx hb hz
      have x5:dR ts (au ts a)=0:=if_pos hg
      have x6:lE ts (au ts a)=0:=if_pos hg
      simp only [c0,c1,c2,c3,s1,s2,ex,er,r0,r1,r2,z1,z2,x5,x6,p1,p2,p3,p4,hs,hw,w,hf,ht,ha',hb',jg,hx',Nat.mul_one,beq_self_eq_true,dJ,cF,q6]
     | false =>
      rw [if_neg (by rw [hg];decide)] at e1 e2
      rw [e1,e2]
      have x5:dR ts (au ts a)=4:=if_neg (by rw [hg];decide)
      have x6:lE ts (au ts a)=4:=if_neg (by rw [hg];decide)
      have x7:((4:Int)==0)=false:=rfl
      simp only [c0,c1,c2,c3,ex,er,r0,r1,r2,z1,z2,x5,x6,x7,hs,hw,w,hf,ht,ha',hb',jg,hx',Nat.mul_one,beq_self_eq_true,dJ,cF,q6]
    ·have c3:(d==3)=false:=beq_eq_false_iff_ne.2 d3
     have e1:iq ts d a b c q=gC ts (au ts a) q:=by unfold iq;rw [if_neg d0,if_neg d1,if_neg d2,if_neg d3]
     have e2:iU ts ws d a b c q=jq ts ws (au ts a) q:=by unfold iU;rw [if_neg d0,if_neg d1,if_neg d2,if_neg d3]
     rw [e1] at s1 ⊢
     rw [e2] at s2 ⊢
     have Ce:=uZ (aa0 ht (au ts a) q)
     simp only [c0,c1,c2,c3,s1,s2,ex,Ce,hs,hw,w,hv,hf,ht,ha',hb',jg,hx',beq_self_eq_true,dJ,cF,q6]
theorem KL {R:aX} {v:Value} {d a b c q:SI} (h:(SV.s (.agg (.ls [.f (.int .u8 d),.f (.int .u32 a),.f (.int .u32 b),.f (.int .u32 c),.f (.int .i64 q)]))).ok R v):(mW d.den a.den b.den c.den q.den).ok R v:=by
 obtain ⟨cs,rfl,hl⟩:=h
 refine ⟨cs,rfl,?_⟩
 have hl:aK (SC.ok R) _ cs.toList:=hl
 show aK (SC.ok R) _ cs.toList
 match hc:cs.toList,hl with
 | [v0,v1,v2,v3,v4],⟨h0,h1,h2,h3,h4,_⟩=>exact ⟨h0,h1,h2,h3,h4,trivial⟩
end
set_option linter.unusedVariables false
def TF:ByteArray:=ByteArray.mk (List.toArray (List.append (List.append [(0:UInt8),(1:UInt8),(1:UInt8),(2:UInt8),(1:UInt8),(2:UInt8),(2:UInt8),(3:UInt8),(1:UInt8),(2:UInt8),(2:UInt8),(3:UInt8),(2:UInt8),(3:UInt8),(3:UInt8),(4:UInt8),(1:UInt8),(2:UInt8),(2:UInt8),(3:UInt8),(2:UInt8),(3:UInt8),(3:UInt8),(4:UInt8),(2:UInt8),(3:UInt8),(3:UInt8),(4:UInt8),(3:UInt8),(4:UInt8),(4:UInt8),(5:UInt8),(1:UInt8),(2:UInt8),(2:UInt8),(3:UInt8),(2:UInt8),(3:UInt8),(3:UInt8),(4:UInt8),(2:UInt8),(3:UInt8),(3:UInt8),(4:UInt8),(3:UInt8),(4:UInt8),(4:UInt8),(5:UInt8),(2:UInt8),(3:UInt8),(3:UInt8),(4:UInt8),(3:UInt8),(4:UInt8),(4:UInt8),(5:UInt8),(3:UInt8),(4:UInt8),(4:UInt8),(5:UInt8),(4:UInt8),(5:UInt8),(5:UInt8),(6:UInt8)] [(1:UInt8),(2:UInt8),(2:UInt8),(3:UInt8),(2:UInt8),(3:UInt8),(3:UInt8),(4:UInt8),(2:UInt8),(3:UInt8),(3:UInt8),(4:UInt8),(3:UInt8),(4:UInt8),(4:UInt8),(5:UInt8),(2:UInt8),(3:UInt8),(3:UInt8),(4:UInt8),(3:UInt8),(4:UInt8),(4:UInt8),(5:UInt8),(3:UInt8),(4:UInt8),(4:UInt8),(5:UInt8),(4:UInt8),(5:UInt8),(5:UInt8),(6:UInt8),(2:UInt8),(3:UInt8),(3:UInt8),(4:UInt8),(3:UInt8),(4:UInt8),(4:UInt8),(5:UInt8),(3:UInt8),(4:UInt8),(4:UInt8),(5:UInt8),(4:UInt8),(5:UInt8),(5:UInt8),(6:UInt8),(3:UInt8),(4:UInt8),(4:UInt8),(5:UInt8),(4:UInt8),(5:UInt8),(5:UInt8),(6:UInt8),(4:UInt8),(5:UInt8),(5:UInt8),(6:UInt8),(5:UInt8),(6:UInt8),(6:UInt8),(7:UInt8)]) (List.append [(1:UInt8),(2:UInt8),(2:UInt8),(3:UInt8),(2:UInt8),(3:UInt8),(3:UInt8),(4:UInt8),(2:UInt8),(3:UInt8),(3:UInt8),(4:UInt8),(3:UInt8),(4:UInt8),(4:UInt8),(5:UInt8),(2:UInt8),(3:UInt8),(3:UInt8),(4:UInt8),(3:UInt8),(4:UInt8),(4:UInt8),(5:UInt8),(3:UInt8),(4:UInt8),(4:UInt8),(5:UInt8),(4:UInt8),(5:UInt8),(5:UInt8),(6:UInt8),(2:UInt8),(3:UInt8),(3:UInt8),(4:UInt8),(3:UInt8),(4:UInt8),(4:UInt8),(5:UInt8),(3:UInt8),(4:UInt8),(4:UInt8),(5:UInt8),(4:UInt8),(5:UInt8),(5:UInt8),(6:UInt8),(3:UInt8),(4:UInt8),(4:UInt8),(5:UInt8),(4:UInt8),(5:UInt8),(5:UInt8),(6:UInt8),(4:UInt8),(5:UInt8),(5:UInt8),(6:UInt8),(5:UInt8),(6:UInt8),(6:UInt8),(7:UInt8)] [(2:UInt8),(3:UInt8),(3:UInt8),(4:UInt8),(3:UInt8),(4:UInt8),(4:UInt8),(5:UInt8),(3:UInt8),(4:UInt8),(4:UInt8),(5:UInt8),(4:UInt8),(5:UInt8),(5:UInt8),(6:UInt8),(3:UInt8),(4:UInt8),(4:UInt8),(5:UInt8),(4:UInt8),(5:UInt8),(5:UInt8),(6:UInt8),(4:UInt8),(5:UInt8),(5:UInt8),(6:UInt8),(5:UInt8),(6:UInt8),(6:UInt8),(7:UInt8),(3:UInt8),(4:UInt8),(4:UInt8),(5:UInt8),(4:UInt8),(5:UInt8),(5:UInt8),(6:UInt8),(4:UInt8),(5:UInt8),(5:UInt8),(6:UInt8),(5:UInt8),(6:UInt8),(6:UInt8),(7:UInt8),(4:UInt8),(5:UInt8),(5:UInt8),(6:UInt8),(5:UInt8),(6:UInt8),(6:UInt8),(7:UInt8),(5:UInt8),(6:UInt8),(6:UInt8),(7:UInt8),(6:UInt8),(7:UInt8),(7:UInt8),(8:UInt8)])))
noncomputable def cJ (os:Array Value):SV:=.s (.agg (.op os))
noncomputable def om (k t h:Int):SV:=.s (.agg (.ls [.f (.int .u8 (.o k)),.f (.int .u8 (.o t)),.f (.int .u8 (.o h))]))
structure LX (os:Array Value) (p:Nat):Prop where
 r:aA .u32 os p
 k:aA .u8 os (p+1)
 t:aA .u8 os (p+2)
 h:aA .u8 os (p+3)
 hr:aN (aa os p)
 hk:0≤aa os (p+1)∧aa os (p+1)≤255
 ht:0≤aa os (p+2)∧aa os (p+2)≤255
 hh:0≤aa os (p+3)∧aa os (p+3)≤255
structure aS (os:Array Value):Prop where
 sz:os.size=128
 c:∀ i,i<32→LX os (i*4)
noncomputable def Ea (g:FuncId) (l:List SV) (m:aj):Option Tree:=match g,l with
 | 24,[.s (.agg (.op ts)),.s (.c (.f (.int .u32 h)))]=>some (.need [ay ts,aN h.den] (Kl ts h.den m))
 | 14,[.s (.agg (.op ts)),.s (.c (.f (.int .u32 u))),.s (.c (.f (.int .i64 q)))]=>some (.need [ay ts,aN u.den] (.ret (MY (gC ts u.den q.den) (jc ts u.den q.den) (gR ts u.den q.den)) m))
 | g,l=>Ar g l m
noncomputable def vJ:Env:=⟨Tryz.prog,dg,Ea,dy []⟩
set_option maxRecDepth 100000
theorem adO (os ts:Array Value) (h k t e:Int):(run vJ 1000 0 [a_ 9 Tryz.f9.ntmps [cJ os,bB ts,u32 h] (Tryz.f9.body.getD .skip)] aT).vc (bM 0 [] (om k t e) aT) (fun _ _=>False) =
  ((ts.size=448∧True)∧(ay ts∧(0≤h∧h<4294967296)∧True)∧((0≤aO ts h∧aO ts h<4294967296)∧True)∧(((!gV (aO ts h))==false)=true→((0≤aP (aO ts h)∧aP (aO ts h)<32)∧True)∧(aA .u32 os (0+(aP (aO ts h)).toNat*4)∧True)∧((aa os (0+(aP (aO ts h)).toNat*4) != aO ts h)=true→k=0∧t=0∧e=0∧True)∧((aa os (0+(aP (aO ts h)).toNat*4) != aO ts h)=false→((0≤aP (aO ts h)∧aP (aO ts h)<32)∧True)∧(aA .u8 os (0+(aP (aO ts h)).toNat*4+1)∧aA .u8 os (0+(aP (aO ts h)).toNat*4+2)∧aA .u8 os (0+(aP (aO ts h)).toNat*4+3)∧True)∧k=aa os (0+(aP (aO ts h)).toNat*4+1)∧t=aa os (0+(aP (aO ts h)).toNat*4+2)∧e=aa os (0+(aP (aO ts h)).toNat*4+3)∧True))∧(((!gV (aO ts h))==false)=false→k=0∧t=0∧e=0∧True)):=by kernel_rfl
theorem mr0 (ts:Array Value) (h e:Int):(run vJ 1000 0 [a_ 49 Tryz.f49.ntmps [bB ts,u32 h] (Tryz.f49.body.getD .skip)] aT).vc (bM 0 [] (i64 (.o e)) aT) (fun _ _=>False) =
  ((64≤ts.size∧True)∧(bP (Array.extract ts 0 64)∧(0≤h∧h<4294967296)∧True)∧((!bF (Array.extract ts 0 64) h)=true→e=4∧True)∧((!bF (Array.extract ts 0 64) h)=false→(ts.size=448∧True)∧(ay ts∧(0≤h∧h<4294967296)∧True)∧((aO ts h != h)=true→e=12∧True)∧((aO ts h != h)=false→e=0∧True))):=by kernel_rfl
theorem mt0 (t e:Int):(run vJ 1000 0 [a_ 50 Tryz.f50.ntmps [i64 (.o t)] (Tryz.f50.body.getD .skip)] aT).vc (bM 0 [] (i64 (.o e)) aT) (fun _ _=>False) =
  (((decide (t<0)==false)=true→(decide (t≥8)=true→e=2∧True)∧(decide (t≥8)=false→e=0∧True))∧((decide (t<0)==false)=false→e=2∧True)):=by kernel_rfl
theorem B8 (k t h n:Int) (b:Bool):(run vJ 1000 0 [a_ 45 Tryz.f45.ntmps [om k t h,i64 (.o n)] (Tryz.f45.body.getD .skip)] aT).vc (bM 0 [] (sB (.o b)) aT) (fun _ _=>False) =
  (((decide (n<0)==false)=true→(decide (n≥8)=true→b=false∧True)∧(decide (n≥8)=false→(0≤n∧True)∧b=(ah .and .u8 (ah .shr .u8 h n) 1==1)∧True))∧((decide (n<0)==false)=false→b=false∧True)):=by kernel_rfl
noncomputable def um (r:Int) (k:Int) (t:Int) (h:Int):List Value:=[Value.int .u32 r,Value.int .u8 k,Value.int .u8 t,Value.int .u8 h]
theorem sy0 (os:Array Value) (r k t h:Int) (o:Array Value):(run vJ 1000 0 [a_ 51 Tryz.f51.ntmps [cJ os,u32 r,om k t h] (Tryz.f51.body.getD .skip)] aT).vc (bM 0 [] (cJ o) aT) (fun _ _=>False) =
  (((0≤r∧r<4294967296)∧True)∧((0≤aP r∧aP r<32)∧True)∧(0+(aP r).toNat*4+(um r k t h).length≤os.size∧True)∧((putAt os (0+(aP r).toNat*4) (um r k t h)).size=128∧True)∧((putAt os (0+(aP r).toNat*4) (um r k t h)).size=128∧(putAt os (0+(aP r).toNat*4) (um r k t h)).size=128∧True)∧((putAt os (0+(aP r).toNat*4) (um r k t h)).size=128∧True)∧o=putAt os (0+(aP r).toNat*4) (um r k t h)∧True):=by kernel_rfl
theorem oc0 (h e:Int):(run vJ 1000 0 [a_ 53 Tryz.f53.ntmps [.s (.c (.f (.int .u8 (.o h))))] (Tryz.f53.body.getD .skip)] aT).vc (bM 0 [] (i64 (.o e)) aT) (fun _ _=>False) =
  (((0≤h∧h<256)∧True)∧e=IntKind.wrap .i64 (rU (TF) (h.toNat))∧True):=by kernel_rfl
set_option linter.unusedVariables false
theorem Pd:∀ g l m t,Ea g l m=some t→aq E0 g l m t:=by
 intro g l m t h
 unfold Ea at h
 split at h
 ·rename_i ts x;cases h
  exact aq.n1 (Pc x.den m)
 ·rename_i ts u q;cases h
  exact aq.n2 (Pb u.den q.den m)
 ·exact H8 _ _ _ _ h
theorem wS:bf vJ:=bf.with aU _ _ Pd
section
variable {os ts:Array Value} {h:Int}
def oR (os:Array Value) (s:Nat):Int:=aa os (s*4)
def oK (os:Array Value) (s:Nat):Int:=aa os (s*4+1)
def oT (os:Array Value) (s:Nat):Int:=aa os (s*4+2)
def oH (os:Array Value) (s:Nat):Int:=aa os (s*4+3)
def oa (os ts:Array Value) (h:Int):Bool:=gV (aO ts h)&&(oR os (sl (aO ts h))==aO ts h)
def aW (os ts:Array Value) (h:Int):Int:=if oa os ts h=true then oK os (sl (aO ts h)) else 0
def bt (os ts:Array Value) (h:Int):Int:=if oa os ts h=true then oT os (sl (aO ts h)) else 0
def aR (os ts:Array Value) (h:Int):Int:=if oa os ts h=true then oH os (sl (aO ts h)) else 0
theorem ab9 (hf:ay ts) (h:Int):aN (aO ts h):=by
 unfold aO
 split
 ·rename_i hg
  have hl:=(bU hf.ok).2 hg
  exact iA hf.ok (.inr (DB hf.fo h (.inr hl) _ (Ju hf.fo h (.inr hl) hl).1))
 ·exact ⟨by decide,by decide⟩
theorem RP (h:Int) (m:aj):aq E0 9 [cJ os,bB ts,u32 h] m (bu [aS os,ay ts,aN h] (.ret (om (aW os ts h) (bt os ts h) (aR os ts h)) m)):=by
 refine aq.pure aU (by kernel_rfl:E0.fn 9=some Tryz.f9) (by kernel_rfl:Tryz.f9.body=some (Tryz.f9.body.getD .skip)) (by kernel_rfl) (by kernel_rfl) fun hq=>?_
 have ho:aS os:=hq _ (by simp)
 have hf:ay ts:=hq _ (by simp)
 have hh:aN h:=hq _ (by simp)
 have bG:0≤h∧h<4294967296:=hh
 have hs:=hf.ok.sz
 have hr:=ab9 hf h
 have hr':0≤aO ts h∧aO ts h<4294967296:=hr
 have B9:=wC hr
 refine (Good.ret [] (bA wS 1000 (adO os ts h (aW os ts h) (bt os ts h) (aR os ts h)) ?_ (fun s m h=>h) fun _ _ h=>h.elim)).mono fun _ _ h=>h.1
 have es:(aP (aO ts h)).toNat=sl (aO ts h):=rfl
 have Up:sl (aO ts h)<32:=by unfold sl;omega
 have c:=ho.c _ Up
 have g0:aA .u32 os (sl (aO ts h)*4):=c.r
 have g1:aA .u8 os (sl (aO ts h)*4+1):=c.k
 have g2:aA .u8 os (sl (aO ts h)*4+2):=c.t
 have g3:aA .u8 os (sl (aO ts h)*4+3):=c.h
 have f0:aa os (sl (aO ts h)*4)=oR os (sl (aO ts h)):=rfl
 have f1:aa os (sl (aO ts h)*4+1)=oK os (sl (aO ts h)):=rfl
 have f2:aa os (sl (aO ts h)*4+2)=oT os (sl (aO ts h)):=rfl
 have f3:aa os (sl (aO ts h)*4+3)=oH os (sl (aO ts h)):=rfl
 unfold aW bt aR oa
 have q1:=B9.1
 have q2:=B9.2
 cases c1:gV (aO ts h) with
 | false =>
  simp only [hs,hf,bG,hr',Bool.false_and,Bool.not_false,Bool.not_true,cF,if_false,q6]
 | true =>
  cases c2:(oR os (sl (aO ts h))==aO ts h) with
  | false =>
   have c3:(oR os (sl (aO ts h)) != aO ts h)=true:=by unfold bne;rw [c2];rfl
   simp only [hs,hf,bG,hr',q1,q2,es,g0,f0,c2,c3,Nat.zero_add,Bool.and_false,Bool.not_false,Bool.not_true,cF,if_false,decide_true,q6]
  | true =>
   have c3:(oR os (sl (aO ts h)) != aO ts h)=false:=by unfold bne;rw [c2];rfl
   simp only [hs,hf,bG,hr',q1,q2,es,g0,g1,g2,g3,f0,f1,f2,f3,c2,c3,Nat.zero_add,Bool.and_true,Bool.not_false,Bool.not_true,cF,if_true,decide_true,q6]
def aI (ts:Array Value) (h:Int):Int:=if aB ts h=false then 4 else if aO ts h=h then 0 else 12
theorem aar (h:Int) (m:aj):aq E0 49 [bB ts,u32 h] m (bu [ay ts,aN h] (.ret (i64 (.o (aI ts h))) m)):=by
 refine aq.pure aU (by kernel_rfl:E0.fn 49=some Tryz.f49) (by kernel_rfl:Tryz.f49.body=some (Tryz.f49.body.getD .skip)) (by kernel_rfl) (by kernel_rfl) fun hq=>?_
 have hf:ay ts:=hq _ (by simp)
 have hh:aN h:=hq _ (by simp)
 have bG:0≤h∧h<4294967296:=hh
 have hs:=hf.ok.sz
 have bK:(64:Nat)≤448:=by decide
 have cQ:bP (aF ts):=hf.ok.bk
 refine (Good.ret [] (bA wS 1000 (mr0 ts h (aI ts h)) ?_ (fun s m h=>h) fun _ _ h=>h.elim)).mono fun _ _ h=>h.1
 unfold aI
 cases hg:aB ts h with
 | false =>
  have hg':bF (aF ts) h=false:=hg
  simp only [eg,hg',hs,bK,cQ,hf,bG,Bool.not_false,if_true,q6]
 | true =>
  have hg':bF (aF ts) h=true:=hg
  by_cases hr:aO ts h=h
  ·have d:(aO ts h != h)=false:=by rw [hr];exact bne_self_eq_false h
   simp only [eg,hg',d,if_pos hr,hs,bK,cQ,hf,bG,Bool.not_true,if_false,q6]
  ·have d:(aO ts h != h)=true:=bne_iff_ne.2 hr
   simp only [eg,hg',d,if_neg hr,hs,bK,cQ,hf,bG,Bool.not_true,if_false,q6]
def dK (t:Int):Int:=if 0≤t∧t<8 then 0 else 2
theorem aas (t:Int) (m:aj):aq E0 50 [i64 (.o t)] m (bu [] (.ret (i64 (.o (dK t))) m)):=by
 refine aq.pure aU (by kernel_rfl:E0.fn 50=some Tryz.f50) (by kernel_rfl:Tryz.f50.body=some (Tryz.f50.body.getD .skip)) (by kernel_rfl) (by kernel_rfl) fun hq=>?_
 refine (Good.ret [] (bA wS 1000 (mt0 t (dK t)) ?_ (fun s m h=>h) fun _ _ h=>h.elim)).mono fun _ _ h=>h.1
 unfold dK
 by_cases c1:t<0
 ·have d1:decide (t<0)=true:=decide_eq_true c1
  simp only [d1,if_neg (show ¬ (0≤t∧t<8) by omega),cF,Bool.not_true,q6]
 ·have d1:decide (t<0)=false:=decide_eq_false c1
  by_cases c2:8≤t
  ·have d2:decide (t≥8)=true:=decide_eq_true c2
   simp only [d1,d2,if_neg (show ¬ (0≤t∧t<8) by omega),cF,Bool.not_false,q6]
  ·have d2:decide (t≥8)=false:=decide_eq_false c2
   simp only [d1,d2,if_pos (show 0≤t∧t<8 by omega),cF,Bool.not_false,q6]
def bJ (h n:Int):Bool:=decide (0≤n∧n<8)&&(ah .and .u8 (ah .shr .u8 h n) 1==1)
theorem aat (k t h n:Int) (m:aj):aq E0 45 [om k t h,i64 (.o n)] m (bu [] (.ret (sB (.o (bJ h n))) m)):=by
 refine aq.pure aU (by kernel_rfl:E0.fn 45=some Tryz.f45) (by kernel_rfl:Tryz.f45.body=some (Tryz.f45.body.getD .skip)) (by kernel_rfl) (by kernel_rfl) fun hq=>?_
 refine (Good.ret [] (bA wS 1000 (B8 k t h n (bJ h n)) ?_ (fun s m h=>h) fun _ _ h=>h.elim)).mono fun _ _ h=>h.1
 unfold bJ
 by_cases c1:n<0
 ·have d1:decide (n<0)=true:=decide_eq_true c1
  have d3:decide (0≤n∧n<8)=false:=decide_eq_false (by omega)
  simp only [d1,d3,cF,Bool.false_and,Bool.not_true,q6]
 ·have d1:decide (n<0)=false:=decide_eq_false c1
  by_cases c2:8≤n
  ·have d2:decide (n≥8)=true:=decide_eq_true c2
   have d3:decide (0≤n∧n<8)=false:=decide_eq_false (by omega)
   simp only [d1,d2,d3,cF,Bool.false_and,Bool.not_false,q6]
  ·have d2:decide (n≥8)=false:=decide_eq_false c2
   have d3:decide (0≤n∧n<8)=true:=decide_eq_true (by omega)
   have y:0≤n:=by omega
   simp only [d1,d2,d3,cF,Bool.true_and,Bool.not_false,q6]
   exact y
def bX (os:Array Value) (r k t h:Int):Array Value:=putAt os (sl r*4) [.int .u32 r,.int .u8 k,.int .u8 t,.int .u8 h]
theorem Y8 (r k t h:Int) (m:aj):aq E0 51 [cJ os,u32 r,om k t h] m (bu [aS os,aN r] (.ret (cJ (bX os r k t h)) m)):=by
 refine aq.pure aU (by kernel_rfl:E0.fn 51=some Tryz.f51) (by kernel_rfl:Tryz.f51.body=some (Tryz.f51.body.getD .skip)) (by kernel_rfl) (by kernel_rfl) fun hq=>?_
 have ho:aS os:=hq _ (by simp)
 have hr:aN r:=hq _ (by simp)
 have hr':0≤r∧r<4294967296:=hr
 have B9:=wC hr
 have q1:=B9.1
 have q2:=B9.2
 have hs:=ho.sz
 refine (Good.ret [] (bA wS 1000 (sy0 os r k t h (bX os r k t h)) ?_ (fun s m h=>h) fun _ _ h=>h.elim)).mono fun _ _ h=>h.1
 unfold um
 have es:(aP r).toNat=sl r:=rfl
 have Up:sl r<32:=by unfold sl;omega
 have y:sl r*4+(0+1+1+1+1)≤128:=by omega
 have e:putAt os (sl r*4) [.int .u32 r,.int .u8 k,.int .u8 t,.int .u8 h]=bX os r k t h:=rfl
 have sz:(bX os r k t h).size=128:=by unfold bX;rw [kR (by rw [hs];exact y)];exact hs
 simp only [hr',q1,q2,es,e,hs,sz,List.length_cons,List.length_nil,Nat.zero_add,decide_true,and_true,true_and]
 omega
def sZ (h:Int):Int:=IntKind.i64.wrap (rU TF h.toNat)
theorem aau (h:Int) (m:aj):aq E0 53 [.s (.c (.f (.int .u8 (.o h))))] m (bu [0≤h∧h≤255] (.ret (i64 (.o (sZ h))) m)):=by
 refine aq.pure aU (by kernel_rfl:E0.fn 53=some Tryz.f53) (by kernel_rfl:Tryz.f53.body=some (Tryz.f53.body.getD .skip)) (by kernel_rfl) (by kernel_rfl) fun hq=>?_
 have hh:0≤h∧h≤255:=hq _ (by simp)
 refine (Good.ret [] (bA wS 1000 (oc0 h (sZ h)) ?_ (fun s m h=>h) fun _ _ h=>h.elim)).mono fun _ _ h=>h.1
 refine ⟨⟨⟨hh.1,by omega⟩,trivial⟩,rfl,?_⟩
 first | trivial | exact ⟨rfl,trivial⟩
end
set_option linter.unusedVariables false
noncomputable def uG (g:FuncId) (l:List SV) (m:aj):Option Tree:=match g,l with
 | 9,[.s (.agg (.op os)),.s (.agg (.op ts)),.s (.c (.f (.int .u32 h)))]=>some (.need [aS os,ay ts,aN h.den] (.ret (om (aW os ts h.den) (bt os ts h.den) (aR os ts h.den)) m))
 | 49,[.s (.agg (.op ts)),.s (.c (.f (.int .u32 h)))]=>some (.need [ay ts,aN h.den] (.ret (i64 (.o (aI ts h.den))) m))
 | 50,[.s (.c (.f (.int .i64 t)))]=>some (.ret (i64 (.o (dK t.den))) m)
 | 45,[.s (.agg (.ls [.f (.int .u8 _),.f (.int .u8 _),.f (.int .u8 h)])),.s (.c (.f (.int .i64 n)))]=>some (.ret (sB (.o (bJ h.den n.den))) m)
 | 51,[.s (.agg (.op os)),.s (.c (.f (.int .u32 r))),.s (.agg (.ls [.f (.int .u8 k),.f (.int .u8 t),.f (.int .u8 h)]))]=>some (.need [aS os,aN r.den] (.ret (cJ (bX os r.den k.den t.den h.den)) m))
 | 53,[.s (.c (.f (.int .u8 h)))]=>some (.need [0≤h.den∧h.den≤255] (.ret (i64 (.o (sZ h.den))) m))
 | g,l=>Ea g l m
noncomputable def zc:Env:=⟨Tryz.prog,dg,uG,dy []⟩
noncomputable def nE (o:Array Value) (e:Int):SV:=.bW [.agg (.op o),.c (.f (.int .i64 (.o e)))]
noncomputable def L_ (o:Array Value) (n e:Int):SV:=.bW [.agg (.op o),.c (.f (.int .i64 (.o n))),.c (.f (.int .i64 (.o e)))]
set_option maxRecDepth 100000
def Lj (os:Array Value) (h:Int) (t:Int) (o:Array Value) (e:Int):Prop:=(dK t != 0)=false→(os.size=128∧True)∧(aS os∧(0≤h∧h<4294967296)∧True)∧((bX os h (1:Int) (IntKind.wrap .u8 t) (0:Int)).size=128∧(bX os h (1:Int) (IntKind.wrap .u8 t) (0:Int)).size=128∧True)∧((bX os h (1:Int) (IntKind.wrap .u8 t) (0:Int)).size=128∧True)∧o=bX os h (1:Int) (IntKind.wrap .u8 t) (0:Int)∧e=0∧True
theorem gi0 (os ts:Array Value) (h t:Int) (o:Array Value) (e:Int):(run zc 1000 0 [a_ 15 Tryz.f15.ntmps [cJ os,bB ts,u32 h,i64 (.o t)] (Tryz.f15.body.getD .skip)] aT).vc (bM 0 [] (nE o e) aT) (fun _ _=>False) =
  ((ts.size=448∧True)∧(ay ts∧(0≤h∧h<4294967296)∧True)∧((aI ts h != 0)=true→((aI ts h != 0)=true→(os.size=128∧True)∧(os.size=128∧os.size=128∧True)∧(os.size=128∧True)∧o=os∧e=aI ts h∧True)∧((aI ts h != 0)=false→(os.size=128∧True)∧(aS os∧(0≤h∧h<4294967296)∧True)∧((bX os h (1:Int) (IntKind.wrap .u8 t) (0:Int)).size=128∧(bX os h (1:Int) (IntKind.wrap .u8 t) (0:Int)).size=128∧True)∧((bX os h (1:Int) (IntKind.wrap .u8 t) (0:Int)).size=128∧True)∧o=bX os h (1:Int) (IntKind.wrap .u8 t) (0:Int)∧e=0∧True))∧((aI ts h != 0)=false→((dK t != 0)=true→((dK t != 0)=true→(os.size=128∧True)∧(os.size=128∧os.size=128∧True)∧(os.size=128∧True)∧o=os∧e=dK t∧True)∧(Lj os h t o e))∧(Lj os h t o e))):=by kernel_rfl
def Ll (os:Array Value) (h:Int) (t:Int) (o:Array Value) (e:Int):Prop:=(dK t != 0)=false→(os.size=128∧True)∧(0≤t∧True)∧(aS os∧(0≤h∧h<4294967296)∧True)∧((bX os h (3:Int) (0:Int) (ah .shl .u8 (1:Int) t)).size=128∧(bX os h (3:Int) (0:Int) (ah .shl .u8 (1:Int) t)).size=128∧True)∧((bX os h (3:Int) (0:Int) (ah .shl .u8 (1:Int) t)).size=128∧True)∧o=bX os h (3:Int) (0:Int) (ah .shl .u8 (1:Int) t)∧e=0∧True
theorem fr0 (os ts:Array Value) (h t:Int) (o:Array Value) (e:Int):(run zc 1000 0 [a_ 16 Tryz.f16.ntmps [cJ os,bB ts,u32 h,i64 (.o t)] (Tryz.f16.body.getD .skip)] aT).vc (bM 0 [] (nE o e) aT) (fun _ _=>False) =
  ((ts.size=448∧True)∧(ay ts∧(0≤h∧h<4294967296)∧True)∧((aI ts h != 0)=true→((aI ts h != 0)=true→(os.size=128∧True)∧(os.size=128∧os.size=128∧True)∧(os.size=128∧True)∧o=os∧e=aI ts h∧True)∧((aI ts h != 0)=false→(os.size=128∧True)∧(0≤t∧True)∧(aS os∧(0≤h∧h<4294967296)∧True)∧((bX os h (3:Int) (0:Int) (ah .shl .u8 (1:Int) t)).size=128∧(bX os h (3:Int) (0:Int) (ah .shl .u8 (1:Int) t)).size=128∧True)∧((bX os h (3:Int) (0:Int) (ah .shl .u8 (1:Int) t)).size=128∧True)∧o=bX os h (3:Int) (0:Int) (ah .shl .u8 (1:Int) t)∧e=0∧True))∧((aI ts h != 0)=false→((dK t != 0)=true→((dK t != 0)=true→(os.size=128∧True)∧(os.size=128∧os.size=128∧True)∧(os.size=128∧True)∧o=os∧e=dK t∧True)∧(Ll os h t o e))∧(Ll os h t o e))):=by kernel_rfl
theorem fl0 (os ts:Array Value) (h:Int) (o:Array Value) (e:Int):(run zc 1000 0 [a_ 21 Tryz.f21.ntmps [cJ os,bB ts,u32 h] (Tryz.f21.body.getD .skip)] aT).vc (bM 0 [] (nE o e) aT) (fun _ _=>False) =
  ((ts.size=448∧True)∧(ay ts∧(0≤h∧h<4294967296)∧True)∧((aI ts h != 0)=true→(os.size=128∧True)∧(os.size=128∧os.size=128∧True)∧(os.size=128∧True)∧o=os∧e=aI ts h∧True)∧((aI ts h != 0)=false→(os.size=128∧True)∧(aS os∧(0≤h∧h<4294967296)∧True)∧((bX os h (2:Int) (0:Int) (0:Int)).size=128∧(bX os h (2:Int) (0:Int) (0:Int)).size=128∧True)∧((bX os h (2:Int) (0:Int) (0:Int)).size=128∧True)∧o=bX os h (2:Int) (0:Int) (0:Int)∧e=0∧True)):=by kernel_rfl
theorem yY (os ts:Array Value) (h t:Int) (o:Array Value) (e:Int):(run zc 1000 0 [a_ 17 Tryz.f17.ntmps [cJ os,bB ts,u32 h,i64 (.o t)] (Tryz.f17.body.getD .skip)] aT).vc (bM 0 [] (nE o e) aT) (fun _ _=>False) =
  ((ts.size=448∧True)∧(ay ts∧(0≤h∧h<4294967296)∧True)∧(os.size=128∧True)∧(ts.size=448∧True)∧(os.size=128∧True)∧(ts.size=448∧True)∧(aS os∧ay ts∧(0≤h∧h<4294967296)∧True)∧((aW os ts h != 3)=true→((aI ts h != 0)=true→((aI ts h != 0)=true→(os.size=128∧True)∧(os.size=128∧os.size=128∧True)∧(os.size=128∧True)∧o=os∧e=aI ts h∧True)∧((aI ts h != 0)=false→(os.size=128∧True)∧(ts.size=448∧True)∧(aS os∧ay ts∧(0≤h∧h<4294967296)∧True)∧(bJ (aR os ts h) t=true→(os.size=128∧True)∧(os.size=128∧os.size=128∧True)∧(os.size=128∧True)∧o=os∧e=7∧True)∧(bJ (aR os ts h) t=false→(0≤t∧True)∧(os.size=128∧True)∧(aS os∧(0≤h∧h<4294967296)∧True)∧((bX os h (aW os ts h) (bt os ts h) (ah .or .u8 (aR os ts h) (ah .shl .u8 (1:Int) t))).size=128∧(bX os h (aW os ts h) (bt os ts h) (ah .or .u8 (aR os ts h) (ah .shl .u8 (1:Int) t))).size=128∧True)∧((bX os h (aW os ts h) (bt os ts h) (ah .or .u8 (aR os ts h) (ah .shl .u8 (1:Int) t))).size=128∧True)∧o=bX os h (aW os ts h) (bt os ts h) (ah .or .u8 (aR os ts h) (ah .shl .u8 (1:Int) t))∧e=0∧True)))∧((aI ts h != 0)=false→(os.size=128∧True)∧(os.size=128∧os.size=128∧True)∧(os.size=128∧True)∧o=os∧e=12∧True))∧((aW os ts h != 3)=false→((aI ts h != 0)=true→((aI ts h != 0)=true→(os.size=128∧True)∧(os.size=128∧os.size=128∧True)∧(os.size=128∧True)∧o=os∧e=aI ts h∧True)∧((aI ts h != 0)=false→(os.size=128∧True)∧(ts.size=448∧True)∧(aS os∧ay ts∧(0≤h∧h<4294967296)∧True)∧(bJ (aR os ts h) t=true→(os.size=128∧True)∧(os.size=128∧os.size=128∧True)∧(os.size=128∧True)∧o=os∧e=7∧True)∧(bJ (aR os ts h) t=false→(0≤t∧True)∧(os.size=128∧True)∧(aS os∧(0≤h∧h<4294967296)∧True)∧((bX os h (aW os ts h) (bt os ts h) (ah .or .u8 (aR os ts h) (ah .shl .u8 (1:Int) t))).size=128∧(bX os h (aW os ts h) (bt os ts h) (ah .or .u8 (aR os ts h) (ah .shl .u8 (1:Int) t))).size=128∧True)∧((bX os h (aW os ts h) (bt os ts h) (ah .or .u8 (aR os ts h) (ah .shl .u8 (1:Int) t))).size=128∧True)∧o=bX os h (aW os ts h) (bt os ts h) (ah .or .u8 (aR os ts h) (ah .shl .u8 (1:Int) t))∧e=0∧True)))∧((aI ts h != 0)=false→((dK t != 0)=true→((dK t != 0)=true→(os.size=128∧True)∧(os.size=128∧os.size=128∧True)∧(os.size=128∧True)∧o=os∧e=dK t∧True)∧((dK t != 0)=false→(os.size=128∧True)∧(ts.size=448∧True)∧(aS os∧ay ts∧(0≤h∧h<4294967296)∧True)∧(bJ (aR os ts h) t=true→(os.size=128∧True)∧(os.size=128∧os.size=128∧True)∧(os.size=128∧True)∧o=os∧e=7∧True)∧(bJ (aR os ts h) t=false→(0≤t∧True)∧(os.size=128∧True)∧(aS os∧(0≤h∧h<4294967296)∧True)∧((bX os h (aW os ts h) (bt os ts h) (ah .or .u8 (aR os ts h) (ah .shl .u8 (1:Int) t))).size=128∧(bX os h (aW os ts h) (bt os ts h) (ah .or .u8 (aR os ts h) (ah .shl .u8 (1:Int) t))).size=128∧True)∧((bX os h (aW os ts h) (bt os ts h) (ah .or .u8 (aR os ts h) (ah .shl .u8 (1:Int) t))).size=128∧True)∧o=bX os h (aW os ts h) (bt os ts h) (ah .or .u8 (aR os ts h) (ah .shl .u8 (1:Int) t))∧e=0∧True)))∧((dK t != 0)=false→(os.size=128∧True)∧(ts.size=448∧True)∧(aS os∧ay ts∧(0≤h∧h<4294967296)∧True)∧(bJ (aR os ts h) t=true→(os.size=128∧True)∧(os.size=128∧os.size=128∧True)∧(os.size=128∧True)∧o=os∧e=7∧True)∧(bJ (aR os ts h) t=false→(0≤t∧True)∧(os.size=128∧True)∧(aS os∧(0≤h∧h<4294967296)∧True)∧((bX os h (aW os ts h) (bt os ts h) (ah .or .u8 (aR os ts h) (ah .shl .u8 (1:Int) t))).size=128∧(bX os h (aW os ts h) (bt os ts h) (ah .or .u8 (aR os ts h) (ah .shl .u8 (1:Int) t))).size=128∧True)∧((bX os h (aW os ts h) (bt os ts h) (ah .or .u8 (aR os ts h) (ah .shl .u8 (1:Int) t))).size=128∧True)∧o=bX os h (aW os ts h) (bt os ts h) (ah .or .u8 (aR os ts h) (ah .shl .u8 (1:Int) t))∧e=0∧True))))):=by kernel_rfl
def Kd (os:Array Value) (ts:Array Value) (h:Int) (t:Int) (o:Array Value) (n:Int) (e:Int):Prop:=(!bJ (aR os ts h) t)=false→(0≤t∧True)∧(os.size=128∧True)∧(aS os∧(0≤h∧h<4294967296)∧True)∧((0≤ah .andNot .u8 (aR os ts h) (ah .shl .u8 (1:Int) t)∧ah .andNot .u8 (aR os ts h) (ah .shl .u8 (1:Int) t)≤255)∧True)∧((bX os h (aW os ts h) (bt os ts h) (ah .andNot .u8 (aR os ts h) (ah .shl .u8 (1:Int) t))).size=128∧(bX os h (aW os ts h) (bt os ts h) (ah .andNot .u8 (aR os ts h) (ah .shl .u8 (1:Int) t))).size=128∧True)∧((bX os h (aW os ts h) (bt os ts h) (ah .andNot .u8 (aR os ts h) (ah .shl .u8 (1:Int) t))).size=128∧True)∧o=bX os h (aW os ts h) (bt os ts h) (ah .andNot .u8 (aR os ts h) (ah .shl .u8 (1:Int) t))∧n=sZ (ah .andNot .u8 (aR os ts h) (ah .shl .u8 (1:Int) t))∧e=0∧True
def Ke (os:Array Value) (ts:Array Value) (h:Int) (t:Int) (o:Array Value) (n:Int) (e:Int):Prop:=(aI ts h != 0)=true→((aI ts h != 0)=true→(os.size=128∧True)∧(os.size=128∧os.size=128∧True)∧(os.size=128∧True)∧o=os∧n=0∧e=aI ts h∧True)∧((aI ts h != 0)=false→(os.size=128∧True)∧(ts.size=448∧True)∧(aS os∧ay ts∧(0≤h∧h<4294967296)∧True)∧((!bJ (aR os ts h) t)=true→(os.size=128∧True)∧(os.size=128∧os.size=128∧True)∧(os.size=128∧True)∧o=os∧n=0∧e=5∧True)∧(Kd os ts h t o n e))
def Kf (os:Array Value) (ts:Array Value) (h:Int) (t:Int) (o:Array Value) (n:Int) (e:Int):Prop:=(dK t != 0)=false→(os.size=128∧True)∧(ts.size=448∧True)∧(aS os∧ay ts∧(0≤h∧h<4294967296)∧True)∧((!bJ (aR os ts h) t)=true→(os.size=128∧True)∧(os.size=128∧os.size=128∧True)∧(os.size=128∧True)∧o=os∧n=0∧e=5∧True)∧(Kd os ts h t o n e)
theorem aet (os ts:Array Value) (h t:Int) (o:Array Value) (n e:Int):(run zc 1000 0 [a_ 18 Tryz.f18.ntmps [cJ os,bB ts,u32 h,i64 (.o t)] (Tryz.f18.body.getD .skip)] aT).vc (bM 0 [] (L_ o n e) aT) (fun _ _=>False) =
  ((ts.size=448∧True)∧(ay ts∧(0≤h∧h<4294967296)∧True)∧(os.size=128∧True)∧(ts.size=448∧True)∧(os.size=128∧True)∧(ts.size=448∧True)∧(aS os∧ay ts∧(0≤h∧h<4294967296)∧True)∧((aW os ts h != 3)=true→(Ke os ts h t o n e)∧((aI ts h != 0)=false→(os.size=128∧True)∧(os.size=128∧os.size=128∧True)∧(os.size=128∧True)∧o=os∧n=0∧e=12∧True))∧((aW os ts h != 3)=false→(Ke os ts h t o n e)∧((aI ts h != 0)=false→((dK t != 0)=true→((dK t != 0)=true→(os.size=128∧True)∧(os.size=128∧os.size=128∧True)∧(os.size=128∧True)∧o=os∧n=0∧e=dK t∧True)∧(Kf os ts h t o n e))∧(Kf os ts h t o n e)))):=by kernel_rfl
set_option linter.unusedVariables false
theorem Vy {R:aX} {k t h:SI} {v:Value} (hv:(SV.s (.agg (.ls [.f (.int .u8 k),.f (.int .u8 t),.f (.int .u8 h)]))).ok R v):(om k.den t.den h.den).ok R v:=by
 obtain ⟨cs,e,h1⟩:=hv
 refine ⟨cs,e,?_⟩
 have h1:aK (SC.ok R) [.f (.int .u8 k),.f (.int .u8 t),.f (.int .u8 h)] cs.toList:=h1
 show aK (SC.ok R) [.f (.int .u8 (.o k.den)),.f (.int .u8 (.o t.den)),.f (.int .u8 (.o h.den))] cs.toList
 revert h1
 generalize cs.toList=l
 intro h1
 match l,h1 with
 | [a0,a1,a2],h1=>exact h1
theorem zD:∀ g l m t,uG g l m=some t→aq E0 g l m t:=by
 intro g l m t h
 unfold uG at h
 split at h
 ·rename_i os ts x;cases h
  refine aq.asked fun hq=>aq.args (l':=[cJ os,bB ts,u32 x.den]) (fun R vs ha=>by
   match vs,ha with
   | [v,w,z],ha=>exact ⟨ha.1,ha.2.1,ha.2.2.1,trivial⟩) ?_
  intro A hs
  exact RP x.den m A ⟨fun p hp=>hq p hp,hs⟩
 ·rename_i ts x;cases h
  exact aq.n1 (aar x.den m)
 ·rename_i x;cases h
  refine aq.args (l':=[i64 (.o x.den)]) (fun R vs ha=>by
   match vs,ha with
   | [v],ha=>exact ⟨ha.1,trivial⟩) ?_
  exact aas x.den m
 ·rename_i a b x n;cases h
  refine aq.args (l':=[om a.den b.den x.den,i64 (.o n.den)]) (fun R vs ha=>by
   match vs,ha with
   | [v,w],ha=>exact ⟨Vy ha.1,ha.2.1,trivial⟩) ?_
  exact aat a.den b.den x.den n.den m
 ·rename_i os r k t x;cases h
  refine aq.asked fun hq=>aq.args (l':=[cJ os,u32 r.den,om k.den t.den x.den]) (fun R vs ha=>by
   match vs,ha with
   | [v,w,z],ha=>exact ⟨ha.1,ha.2.1,Vy ha.2.2.1,trivial⟩) ?_
  intro A hs
  exact Y8 r.den k.den t.den x.den m A ⟨fun p hp=>hq p hp,hs⟩
 ·rename_i x;cases h
  refine aq.asked fun hq=>aq.args (l':=[.s (.c (.f (.int .u8 (.o x.den))))]) (fun R vs ha=>by
   match vs,ha with
   | [v],ha=>exact ⟨ha.1,trivial⟩) ?_
  intro A hs
  exact aau x.den m A ⟨fun p hp=>hq p hp,hs⟩
 ·exact Pd _ _ _ _ h
theorem Aq:bf zc:=bf.with aU _ _ zD
section
variable {os ts:Array Value}
theorem S_ {r:Int} (hr:aN r):sl r<32:=by
 have:=wC hr
 unfold sl
 omega
theorem wY (ho:aS os) {r:Int} (hr:aN r) (k t h:Int):(bX os r k t h).size=128:=by
 have:=S_ hr
 have hs:=ho.sz
 unfold bX
 rw [kR (by rw [hs];simp only [List.length_cons,List.length_nil];omega)]
 exact hs
theorem L7 (x:Int):0≤IntKind.u8.wrap x∧IntKind.u8.wrap x≤255:=by
 have h1:IntKind.u8.wrap x=x % 256:=by first | rfl | (simp only [IntKind.wrap];rfl)
 rw [h1]
 omega
theorem Dq (x y:Int):0≤ah .andNot .u8 x y∧ah .andNot .u8 x y≤255:=by rw [Ws];exact L7 _
def b8 (ts:Array Value) (h t:Int):Int:=if aI ts h≠0 then aI ts h else dK t
def dG (os ts:Array Value) (h t:Int):Array Value:=if b8 ts h t=0 then bX os h 1 (IntKind.u8.wrap t) 0 else os
def dH (os ts:Array Value) (h t:Int):Array Value:=if b8 ts h t=0 then bX os h 3 0 (ah .shl .u8 1 t) else os
def dM (os ts:Array Value) (h:Int):Array Value:=if aI ts h=0 then bX os h 2 0 0 else os
def eM (os ts:Array Value) (h t:Int):Int:=if aI ts h≠0 then aI ts h else if aW os ts h≠3 then 12 else if dK t≠0 then dK t else if bJ (aR os ts h) t=true then 7 else 0
def cK (os ts:Array Value) (h t:Int):Array Value:=if eM os ts h t=0 then bX os h (aW os ts h) (bt os ts h) (ah .or .u8 (aR os ts h) (ah .shl .u8 1 t)) else os
def eH (os ts:Array Value) (h t:Int):Int:=if aI ts h≠0 then aI ts h else if aW os ts h≠3 then 12 else if dK t≠0 then dK t else if bJ (aR os ts h) t=true then 0 else 5
def cL (os ts:Array Value) (h t:Int):Array Value:=if eH os ts h t=0 then bX os h (aW os ts h) (bt os ts h) (ah .andNot .u8 (aR os ts h) (ah .shl .u8 1 t)) else os
def iG (os ts:Array Value) (h t:Int):Int:=if eH os ts h t=0 then sZ (ah .andNot .u8 (aR os ts h) (ah .shl .u8 1 t)) else 0
theorem yj {t:Int} (h:dK t=0):0≤t∧t<8:=by
 unfold dK at h
 split at h
 ·rename_i k;exact k
 ·exact absurd h (by decide)
theorem Yf (h t:Int) (m:aj):aq E0 15 [cJ os,bB ts,u32 h,i64 (.o t)] m (bu [aS os,ay ts,aN h] (.ret (nE (dG os ts h t) (b8 ts h t)) m)):=by
 refine aq.pure aU (by kernel_rfl:E0.fn 15=some Tryz.f15) (by kernel_rfl:Tryz.f15.body=some (Tryz.f15.body.getD .skip)) (by kernel_rfl) (by kernel_rfl) fun hq=>?_
 have ho:aS os:=hq _ (by simp)
 have hf:ay ts:=hq _ (by simp)
 have hh:aN h:=hq _ (by simp)
 have bG:0≤h∧h<4294967296:=hh
 have hs:=ho.sz
 have hts:=hf.ok.sz
 refine (Good.ret [] (bA Aq 1000 (gi0 os ts h t (dG os ts h t) (b8 ts h t)) ?_ (fun s m h=>h) fun _ _ h=>h.elim)).mono fun _ _ h=>h.1
 unfold Lj
 by_cases c1:aI ts h=0
 ·have d1:(aI ts h != 0)=false:=by rw [c1];rfl
  by_cases c2:dK t=0
  ·have d2:(dK t != 0)=false:=by rw [c2];rfl
   have e:b8 ts h t=0:=by unfold b8;rw [if_neg (fun k=>k c1),c2]
   have e2:dG os ts h t=bX os h 1 (IntKind.u8.wrap t) 0:=by unfold dG;rw [if_pos e]
   have sz:=wY ho hh 1 (IntKind.u8.wrap t) 0
   have y:=(yj c2).1
   simp only [e,e2,d1,d2,sz,y,hs,ho,hf,hts,bG,q6]
  ·have d2:(dK t != 0)=true:=bne_iff_ne.2 c2
   have e:b8 ts h t=dK t:=by unfold b8;rw [if_neg (fun k=>k c1)]
   have e2:dG os ts h t=os:=by unfold dG;rw [if_neg (by rw [e];exact c2)]
   simp only [e,e2,d1,d2,hs,ho,hf,hts,bG,q6]
 ·have d1:(aI ts h != 0)=true:=bne_iff_ne.2 c1
  have e:b8 ts h t=aI ts h:=by unfold b8;rw [if_pos c1]
  have e2:dG os ts h t=os:=by unfold dG;rw [if_neg (by rw [e];exact c1)]
  simp only [e,e2,d1,hs,ho,hf,hts,bG,q6]
theorem Wn (h t:Int) (m:aj):aq E0 16 [cJ os,bB ts,u32 h,i64 (.o t)] m (bu [aS os,ay ts,aN h] (.ret (nE (dH os ts h t) (b8 ts h t)) m)):=by
 refine aq.pure aU (by kernel_rfl:E0.fn 16=some Tryz.f16) (by kernel_rfl:Tryz.f16.body=some (Tryz.f16.body.getD .skip)) (by kernel_rfl) (by kernel_rfl) fun hq=>?_
 have ho:aS os:=hq _ (by simp)
 have hf:ay ts:=hq _ (by simp)
 have hh:aN h:=hq _ (by simp)
 have bG:0≤h∧h<4294967296:=hh
 have hs:=ho.sz
 have hts:=hf.ok.sz
 refine (Good.ret [] (bA Aq 1000 (fr0 os ts h t (dH os ts h t) (b8 ts h t)) ?_ (fun s m h=>h) fun _ _ h=>h.elim)).mono fun _ _ h=>h.1
 unfold Ll
 by_cases c1:aI ts h=0
 ·have d1:(aI ts h != 0)=false:=by rw [c1];rfl
  by_cases c2:dK t=0
  ·have d2:(dK t != 0)=false:=by rw [c2];rfl
   have e:b8 ts h t=0:=by unfold b8;rw [if_neg (fun k=>k c1),c2]
   have e2:dH os ts h t=bX os h 3 0 (ah .shl .u8 1 t):=by unfold dH;rw [if_pos e]
   have sz:=wY ho hh 3 0 (ah .shl .u8 1 t)
   have y:=(yj c2).1
   simp only [e,e2,d1,d2,sz,y,hs,ho,hf,hts,bG,q6]
  ·have d2:(dK t != 0)=true:=bne_iff_ne.2 c2
   have e:b8 ts h t=dK t:=by unfold b8;rw [if_neg (fun k=>k c1)]
   have e2:dH os ts h t=os:=by unfold dH;rw [if_neg (by rw [e];exact c2)]
   simp only [e,e2,d1,d2,hs,ho,hf,hts,bG,q6]
 ·have d1:(aI ts h != 0)=true:=bne_iff_ne.2 c1
  have e:b8 ts h t=aI ts h:=by unfold b8;rw [if_pos c1]
  have e2:dH os ts h t=os:=by unfold dH;rw [if_neg (by rw [e];exact c1)]
  simp only [e,e2,d1,hs,ho,hf,hts,bG,q6]
theorem Zv (h:Int) (m:aj):aq E0 21 [cJ os,bB ts,u32 h] m (bu [aS os,ay ts,aN h] (.ret (nE (dM os ts h) (aI ts h)) m)):=by
 refine aq.pure aU (by kernel_rfl:E0.fn 21=some Tryz.f21) (by kernel_rfl:Tryz.f21.body=some (Tryz.f21.body.getD .skip)) (by kernel_rfl) (by kernel_rfl) fun hq=>?_
 have ho:aS os:=hq _ (by simp)
 have hf:ay ts:=hq _ (by simp)
 have hh:aN h:=hq _ (by simp)
 have bG:0≤h∧h<4294967296:=hh
 have hs:=ho.sz
 have hts:=hf.ok.sz
 refine (Good.ret [] (bA Aq 1000 (fl0 os ts h (dM os ts h) (aI ts h)) ?_ (fun s m h=>h) fun _ _ h=>h.elim)).mono fun _ _ h=>h.1
 by_cases c1:aI ts h=0
 ·have d1:(aI ts h != 0)=false:=by rw [c1];rfl
  have e2:dM os ts h=bX os h 2 0 0:=by unfold dM;rw [if_pos c1]
  have sz:=wY ho hh 2 0 0
  simp only [e2,d1,sz,hs,ho,hf,hts,bG,q6]
  exact c1
 ·have d1:(aI ts h != 0)=true:=bne_iff_ne.2 c1
  have e2:dM os ts h=os:=by unfold dM;rw [if_neg c1]
  simp only [e2,d1,hs,ho,hf,hts,bG,q6]
theorem W0 (h t:Int) (m:aj):aq E0 17 [cJ os,bB ts,u32 h,i64 (.o t)] m (bu [aS os,ay ts,aN h] (.ret (nE (cK os ts h t) (eM os ts h t)) m)):=by
 refine aq.pure aU (by kernel_rfl:E0.fn 17=some Tryz.f17) (by kernel_rfl:Tryz.f17.body=some (Tryz.f17.body.getD .skip)) (by kernel_rfl) (by kernel_rfl) fun hq=>?_
 have ho:aS os:=hq _ (by simp)
 have hf:ay ts:=hq _ (by simp)
 have hh:aN h:=hq _ (by simp)
 have bG:0≤h∧h<4294967296:=hh
 have hs:=ho.sz
 have hts:=hf.ok.sz
 refine (Good.ret [] (bA Aq 1000 (yY os ts h t (cK os ts h t) (eM os ts h t)) ?_ (fun s m h=>h) fun _ _ h=>h.elim)).mono fun _ _ h=>h.1
 cases d3:(aW os ts h != 3) <;> by_cases c1:aI ts h=0
 ·have d1:(aI ts h != 0)=false:=by rw [c1];rfl
  have k3:aW os ts h=3:=by simpa using d3
  by_cases c2:dK t=0
  ·have d2:(dK t != 0)=false:=by rw [c2];rfl
   have y:=(yj c2).1
   cases d4:bJ (aR os ts h) t with
   | true =>
    have e:eM os ts h t=7:=by unfold eM;rw [if_neg (fun k=>k c1),if_neg (fun k=>k k3),if_neg (fun k=>k c2),if_pos d4]
    have e2:cK os ts h t=os:=by unfold cK;rw [if_neg (by rw [e];decide)]
    simp only [e,e2,d1,d2,d3,d4,y,hs,ho,hf,hts,bG,Bool.not_true,Bool.not_false,q6]
   | false =>
    have e:eM os ts h t=0:=by unfold eM;rw [if_neg (fun k=>k c1),if_neg (fun k=>k k3),if_neg (fun k=>k c2),if_neg (by rw [d4];simp)]
    have e2:cK os ts h t=bX os h (aW os ts h) (bt os ts h) (ah .or .u8 (aR os ts h) (ah .shl .u8 1 t)):=by unfold cK;rw [if_pos e]
    have sz:=wY ho hh (aW os ts h) (bt os ts h) (ah .or .u8 (aR os ts h) (ah .shl .u8 1 t))
    simp only [e,e2,d1,d2,d3,d4,y,sz,hs,ho,hf,hts,bG,Bool.not_true,Bool.not_false,q6]
  ·have d2:(dK t != 0)=true:=bne_iff_ne.2 c2
   have e:eM os ts h t=dK t:=by unfold eM;rw [if_neg (fun k=>k c1),if_neg (fun k=>k k3),if_pos c2]
   have e2:cK os ts h t=os:=by unfold cK;rw [if_neg (by rw [e];exact c2)]
   simp only [e,e2,d1,d2,d3,hs,ho,hf,hts,bG,Bool.not_true,Bool.not_false,q6]
 ·have d1:(aI ts h != 0)=true:=bne_iff_ne.2 c1
  have e:eM os ts h t=aI ts h:=by unfold eM;rw [if_pos c1]
  have e2:cK os ts h t=os:=by unfold cK;rw [if_neg (by rw [e];exact c1)]
  simp only [e,e2,d1,d3,hs,ho,hf,hts,bG,Bool.not_true,Bool.not_false,q6]
 ·have d1:(aI ts h != 0)=false:=by rw [c1];rfl
  have k3:aW os ts h≠3:=bne_iff_ne.1 d3
  have e:eM os ts h t=12:=by unfold eM;rw [if_neg (fun k=>k c1),if_pos k3]
  have e2:cK os ts h t=os:=by unfold cK;rw [if_neg (by rw [e];decide)]
  simp only [e,e2,d1,d3,hs,ho,hf,hts,bG,Bool.not_true,Bool.not_false,q6]
 ·have d1:(aI ts h != 0)=true:=bne_iff_ne.2 c1
  have e:eM os ts h t=aI ts h:=by unfold eM;rw [if_pos c1]
  have e2:cK os ts h t=os:=by unfold cK;rw [if_neg (by rw [e];exact c1)]
  simp only [e,e2,d1,d3,hs,ho,hf,hts,bG,Bool.not_true,Bool.not_false,q6]
theorem W3 (h t:Int) (m:aj):aq E0 18 [cJ os,bB ts,u32 h,i64 (.o t)] m (bu [aS os,ay ts,aN h] (.ret (L_ (cL os ts h t) (iG os ts h t) (eH os ts h t)) m)):=by
 refine aq.pure aU (by kernel_rfl:E0.fn 18=some Tryz.f18) (by kernel_rfl:Tryz.f18.body=some (Tryz.f18.body.getD .skip)) (by kernel_rfl) (by kernel_rfl) fun hq=>?_
 have ho:aS os:=hq _ (by simp)
 have hf:ay ts:=hq _ (by simp)
 have hh:aN h:=hq _ (by simp)
 have bG:0≤h∧h<4294967296:=hh
 have hs:=ho.sz
 have hts:=hf.ok.sz
 refine (Good.ret [] (bA Aq 1000 (aet os ts h t (cL os ts h t) (iG os ts h t) (eH os ts h t)) ?_ (fun s m h=>h) fun _ _ h=>h.elim)).mono fun _ _ h=>h.1
 unfold Kf Ke Kd
 cases d3:(aW os ts h != 3) <;> by_cases c1:aI ts h=0
 ·have d1:(aI ts h != 0)=false:=by rw [c1];rfl
  have k3:aW os ts h=3:=by simpa using d3
  by_cases c2:dK t=0
  ·have d2:(dK t != 0)=false:=by rw [c2];rfl
   have y:=(yj c2).1
   cases d4:bJ (aR os ts h) t with
   | false =>
    have e:eH os ts h t=5:=by unfold eH;rw [if_neg (fun k=>k c1),if_neg (fun k=>k k3),if_neg (fun k=>k c2),if_neg (by rw [d4];simp)]
    have e2:cL os ts h t=os:=by unfold cL;rw [if_neg (by rw [e];decide)]
    have e3:iG os ts h t=0:=by unfold iG;rw [if_neg (by rw [e];decide)]
    simp only [e,e2,e3,d1,d2,d3,d4,y,hs,ho,hf,hts,bG,Bool.not_true,Bool.not_false,q6]
   | true =>
    have e:eH os ts h t=0:=by unfold eH;rw [if_neg (fun k=>k c1),if_neg (fun k=>k k3),if_neg (fun k=>k c2),if_pos d4]
    have e2:cL os ts h t=bX os h (aW os ts h) (bt os ts h) (ah .andNot .u8 (aR os ts h) (ah .shl .u8 1 t)):=by unfold cL;rw [if_pos e]
    have e3:iG os ts h t=sZ (ah .andNot .u8 (aR os ts h) (ah .shl .u8 1 t)):=by unfold iG;rw [if_pos e]
    have ai:=Dq (aR os ts h) (ah .shl .u8 1 t)
    have sz:=wY ho hh (aW os ts h) (bt os ts h) (ah .andNot .u8 (aR os ts h) (ah .shl .u8 1 t))
    simp only [e,e2,e3,ai,d1,d2,d3,d4,y,sz,hs,ho,hf,hts,bG,Bool.not_true,Bool.not_false,q6]
  ·have d2:(dK t != 0)=true:=bne_iff_ne.2 c2
   have e:eH os ts h t=dK t:=by unfold eH;rw [if_neg (fun k=>k c1),if_neg (fun k=>k k3),if_pos c2]
   have e2:cL os ts h t=os:=by unfold cL;rw [if_neg (by rw [e];exact c2)]
   have e3:iG os ts h t=0:=by unfold iG;rw [if_neg (by rw [e];exact c2)]
   simp only [e,e2,e3,d1,d2,d3,hs,ho,hf,hts,bG,Bool.not_true,Bool.not_false,q6]
 ·have d1:(aI ts h != 0)=true:=bne_iff_ne.2 c1
  have e:eH os ts h t=aI ts h:=by unfold eH;rw [if_pos c1]
  have e2:cL os ts h t=os:=by unfold cL;rw [if_neg (by rw [e];exact c1)]
  have e3:iG os ts h t=0:=by unfold iG;rw [if_neg (by rw [e];exact c1)]
  simp only [e,e2,e3,d1,d3,hs,ho,hf,hts,bG,Bool.not_true,Bool.not_false,q6]
 ·have d1:(aI ts h != 0)=false:=by rw [c1];rfl
  have k3:aW os ts h≠3:=bne_iff_ne.1 d3
  have e:eH os ts h t=12:=by unfold eH;rw [if_neg (fun k=>k c1),if_pos k3]
  have e2:cL os ts h t=os:=by unfold cL;rw [if_neg (by rw [e];decide)]
  have e3:iG os ts h t=0:=by unfold iG;rw [if_neg (by rw [e];decide)]
  simp only [e,e2,e3,d1,d3,hs,ho,hf,hts,bG,Bool.not_true,Bool.not_false,q6]
 ·have d1:(aI ts h != 0)=true:=bne_iff_ne.2 c1
  have e:eH os ts h t=aI ts h:=by unfold eH;rw [if_pos c1]
  have e2:cL os ts h t=os:=by unfold cL;rw [if_neg (by rw [e];exact c1)]
  have e3:iG os ts h t=0:=by unfold iG;rw [if_neg (by rw [e];exact c1)]
  simp only [e,e2,e3,d1,d3,hs,ho,hf,hts,bG,Bool.not_true,Bool.not_false,q6]
end
set_option linter.unusedVariables false
noncomputable def lJ:Env:=⟨Tryz.prog,dg,uG,dy [41*1000+3]⟩
noncomputable def NV:Env:=⟨Tryz.prog,dg,uG,dy [41*1000+4]⟩
def iZ (s:SV) (_:aj):Prop:=match s with | .s (.c (.f (.lit (.slice none 0 0))))=>True | _=>False
def lU (k:Nat) (cs:Array Value) (s:SV) (m:aj):Prop:=match s with | .s (.c (.f (.slice id (.l 0) (.o n) (.full 1))))=>(match aH m.bl id with | some ⟨.pop ds,ty,true⟩=>Nat.ble 1 id=true∧n=k∧ds=cs∧ty=30 | _=>False) | _=>False
noncomputable def mY (k:Int):aj:=cD 1 [(0,⟨.ls [.f (.int .i64 (.o k))],3,false⟩)]
noncomputable def aC:SV:=.s (.c (.fn (.func 42) [] [.ptr 0 (.l 0)]))
noncomputable def cM:List bh:=cY Tryz.f41 3
noncomputable def vp (os:Array Value) (ts:Array Value) (kk:Int) (n:Nat) (rs:Array Value) (i:Int):List av:=[dw 41 Tryz.f41 [(2,aC),(3,ptr 1 (.l 0)),(4,ptr 2 (.l 0)),(7,jd),(11,fK 3 n),(12,i64 (.o (n:Int))),(13,i64 (.o i))] cM]
noncomputable def vq (os:Array Value) (ts:Array Value) (kk:Int) (n:Nat) (rs:Array Value) (i:Int):aj:=cD 4 [(0,⟨.ls [.f (.int .i64 (.o kk))],3,false⟩),(1,⟨.op os,58,true⟩),(2,⟨.op ts,39,true⟩),(3,⟨.pop rs,30,true⟩)]
def BR (os:Array Value) (ts:Array Value) (kk:Int) (n:Nat) (rs:Array Value) (Q:Int→Prop) (fs:List av) (m:aj):Prop:=(match b9 fs 0 with | some f0=>(match dh f0 13 with | some i=>(match aV f0 3 with | some p1=>(match aV f0 4 with | some p2=>(match fG f0 11 with | some p3=>Q i∧cV 1 [(1,p1),(2,p2),(3,p3)] (vp os ts kk n rs i) (vq os ts kk n rs i) fs m | none=>False) | none=>False) | none=>False) | none=>False) | none=>False)
noncomputable def Lm:List bh:=cY Tryz.f41 3
noncomputable def BS (os:Array Value) (ts:Array Value) (kk:Int) (n:Nat) (rs:Array Value) (i:Int) (k:Nat) (cs:Array Value):List av:=[dw 41 Tryz.f41 [(2,aC),(3,ptr 1 (.l 0)),(4,ptr 2 (.l 0)),(7,fK 4 k),(11,fK 3 n),(12,i64 (.o (n:Int))),(13,i64 (.o i))] Lm]
noncomputable def BT (os:Array Value) (ts:Array Value) (kk:Int) (n:Nat) (rs:Array Value) (i:Int) (k:Nat) (cs:Array Value):aj:=cD 5 [(0,⟨.ls [.f (.int .i64 (.o kk))],3,false⟩),(1,⟨.op os,58,true⟩),(2,⟨.op ts,39,true⟩),(3,⟨.pop rs,30,true⟩),(4,⟨.pop cs,30,true⟩)]
def Gf (os:Array Value) (ts:Array Value) (kk:Int) (n:Nat) (rs:Array Value) (Q:Int→Nat→Array Value→Prop) (fs:List av) (m:aj):Prop:=(match b9 fs 0 with | some f0=>(match dh f0 13 with | some i=>(match aV f0 3 with | some p1=>(match aV f0 4 with | some p2=>(match fG f0 11 with | some p3=>(match fG f0 7 with | some p4=>(match qR f0 7 with | some k=>(match cO m p4 with | some cs=>Q i k cs∧cV 1 [(1,p1),(2,p2),(3,p3),(4,p4)] (BS os ts kk n rs i k cs) (BT os ts kk n rs i k cs) fs m | none=>False) | none=>False) | none=>False) | none=>False) | none=>False) | none=>False) | none=>False) | none=>False)
def Hh (os ts:Array Value) (kk:Int) (n:Nat) (rs:Array Value) (QZ:Int→Prop) (QS:Int→Nat→Array Value→Prop) (fs:List av) (m:aj):Prop:=match fs with | f :: _=>(match f.tm.get 7 with | some (.s (.c (.f (.slice _ _ _ _))))=>Gf os ts kk n rs QS fs m | _=>BR os ts kk n rs QZ fs m) | []=>False
noncomputable def Vz (os ts:Array Value) (kk:Int):Tree:=run lJ 1000 1 [a_ 41 Tryz.f41.ntmps [cJ os,bB ts,aC] (Tryz.f41.body.getD .skip)] (mY kk)
noncomputable def bC:SV:=.s (.c (.fn (.func 44) [] [.ptr 0 (.l 0)]))
noncomputable def Ln:List bh:=cY Tryz.f41 3
noncomputable def vr (os:Array Value) (ts:Array Value) (kk:Int) (n:Nat) (rs:Array Value) (i:Int):List av:=[dw 41 Tryz.f41 [(2,bC),(3,ptr 1 (.l 0)),(4,ptr 2 (.l 0)),(7,jd),(11,fK 3 n),(12,i64 (.o (n:Int))),(13,i64 (.o i))] Ln]
noncomputable def vu (os:Array Value) (ts:Array Value) (kk:Int) (n:Nat) (rs:Array Value) (i:Int):aj:=cD 4 [(0,⟨.ls [.f (.int .i64 (.o kk))],3,false⟩),(1,⟨.op os,58,true⟩),(2,⟨.op ts,39,true⟩),(3,⟨.pop rs,30,true⟩)]
def BU (os:Array Value) (ts:Array Value) (kk:Int) (n:Nat) (rs:Array Value) (Q:Int→Prop) (fs:List av) (m:aj):Prop:=(match b9 fs 0 with | some f0=>(match dh f0 13 with | some i=>(match aV f0 3 with | some p1=>(match aV f0 4 with | some p2=>(match fG f0 11 with | some p3=>Q i∧cV 1 [(1,p1),(2,p2),(3,p3)] (vr os ts kk n rs i) (vu os ts kk n rs i) fs m | none=>False) | none=>False) | none=>False) | none=>False) | none=>False)
noncomputable def Lo:List bh:=cY Tryz.f41 3
noncomputable def BV (os:Array Value) (ts:Array Value) (kk:Int) (n:Nat) (rs:Array Value) (i:Int) (k:Nat) (cs:Array Value):List av:=[dw 41 Tryz.f41 [(2,bC),(3,ptr 1 (.l 0)),(4,ptr 2 (.l 0)),(7,fK 4 k),(11,fK 3 n),(12,i64 (.o (n:Int))),(13,i64 (.o i))] Lo]
noncomputable def BW (os:Array Value) (ts:Array Value) (kk:Int) (n:Nat) (rs:Array Value) (i:Int) (k:Nat) (cs:Array Value):aj:=cD 5 [(0,⟨.ls [.f (.int .i64 (.o kk))],3,false⟩),(1,⟨.op os,58,true⟩),(2,⟨.op ts,39,true⟩),(3,⟨.pop rs,30,true⟩),(4,⟨.pop cs,30,true⟩)]
def Gg (os:Array Value) (ts:Array Value) (kk:Int) (n:Nat) (rs:Array Value) (Q:Int→Nat→Array Value→Prop) (fs:List av) (m:aj):Prop:=(match b9 fs 0 with | some f0=>(match dh f0 13 with | some i=>(match aV f0 3 with | some p1=>(match aV f0 4 with | some p2=>(match fG f0 11 with | some p3=>(match fG f0 7 with | some p4=>(match qR f0 7 with | some k=>(match cO m p4 with | some cs=>Q i k cs∧cV 1 [(1,p1),(2,p2),(3,p3),(4,p4)] (BV os ts kk n rs i k cs) (BW os ts kk n rs i k cs) fs m | none=>False) | none=>False) | none=>False) | none=>False) | none=>False) | none=>False) | none=>False) | none=>False)
def Hi (os ts:Array Value) (kk:Int) (n:Nat) (rs:Array Value) (QZ:Int→Prop) (QS:Int→Nat→Array Value→Prop) (fs:List av) (m:aj):Prop:=match fs with | f :: _=>(match f.tm.get 7 with | some (.s (.c (.f (.slice _ _ _ _))))=>Gg os ts kk n rs QS fs m | _=>BU os ts kk n rs QZ fs m) | []=>False
noncomputable def VA (os ts:Array Value) (kk:Int):Tree:=run lJ 1000 1 [a_ 41 Tryz.f41.ntmps [cJ os,bB ts,bC] (Tryz.f41.body.getD .skip)] (mY kk)
theorem kU (r:Nat→Option Nat):ak r cM cM:=ak.it (by kernel_rfl)
theorem kV (r:Nat→Option Nat):ak r Lm Lm:=ak.it (by kernel_rfl)
theorem zL (r:Nat→Option Nat):ak r Ln Ln:=ak.it (by kernel_rfl)
theorem zM (r:Nat→Option Nat):ak r Lo Lo:=ak.it (by kernel_rfl)
theorem Jp {A:SV→aj→Prop} {os:Array Value} {ts:Array Value} {kk:Int} {n:Nat} {rs:Array Value} {Q:Int→Prop} {fs:List av} {m:aj} (H:∀ i,Q i→Good Tryz.prog A 1 (vp os ts kk n rs i) (vq os ts kk n rs i)) (hb:BR os ts kk n rs Q fs m):Good Tryz.prog A 1 fs m:=by
 unfold BR at hb
 iterate 5 (split at hb;rotate_left;exact hb.elim)
 exact Good.c_ hb.2 (H _ hb.1)
theorem Jq {A:SV→aj→Prop} {os:Array Value} {ts:Array Value} {kk:Int} {n:Nat} {rs:Array Value} {Q:Int→Nat→Array Value→Prop} {fs:List av} {m:aj} (H:∀ i k cs,Q i k cs→Good Tryz.prog A 1 (BS os ts kk n rs i k cs) (BT os ts kk n rs i k cs)) (hb:Gf os ts kk n rs Q fs m):Good Tryz.prog A 1 fs m:=by
 unfold Gf at hb
 iterate 8 (split at hb;rotate_left;exact hb.elim)
 exact Good.c_ hb.2 (H _ _ _ hb.1)
theorem Jr {A:SV→aj→Prop} {os:Array Value} {ts:Array Value} {kk:Int} {n:Nat} {rs:Array Value} {Q:Int→Prop} {fs:List av} {m:aj} (H:∀ i,Q i→Good Tryz.prog A 1 (vr os ts kk n rs i) (vu os ts kk n rs i)) (hb:BU os ts kk n rs Q fs m):Good Tryz.prog A 1 fs m:=by
 unfold BU at hb
 iterate 5 (split at hb;rotate_left;exact hb.elim)
 exact Good.c_ hb.2 (H _ hb.1)
theorem Js {A:SV→aj→Prop} {os:Array Value} {ts:Array Value} {kk:Int} {n:Nat} {rs:Array Value} {Q:Int→Nat→Array Value→Prop} {fs:List av} {m:aj} (H:∀ i k cs,Q i k cs→Good Tryz.prog A 1 (BV os ts kk n rs i k cs) (BW os ts kk n rs i k cs)) (hb:Gg os ts kk n rs Q fs m):Good Tryz.prog A 1 fs m:=by
 unfold Gg at hb
 iterate 8 (split at hb;rotate_left;exact hb.elim)
 exact Good.c_ hb.2 (H _ _ _ hb.1)
set_option maxRecDepth 100000
theorem a0E (os ts:Array Value) (kk:Int):(run NV 1000 1 [a_ 41 Tryz.f41.ntmps [cJ os,bB ts,aC] (Tryz.f41.body.getD .skip)] (mY kk)).vc iZ (fun _ _=>False) =
  ((ts.size=448∧True)∧(aM ts∧True)∧(decide ((af ts).length=0)=true→True)∧(decide ((af ts).length=0)=false→(decide ((0:Int)<(↑((af ts).length):Int))=true→False)∧(decide ((0:Int)<(↑((af ts).length):Int))=false→True))):=by kernel_rfl
theorem a0N (os ts:Array Value) (kk:Int) (n:Nat) (rs:Array Value) (Q:Int→Prop):(Vz os ts kk).vc iZ (BR os ts kk n rs Q) =
  ((ts.size=448∧True)∧(aM ts∧True)∧(decide ((af ts).length=0)=true→False)∧(decide ((af ts).length=0)=false→Q (0:Int)∧cN∧ak (aD 1 [(1,1),(2,2),(3,3)]) cM cM∧Value.slice none 0 0=Value.slice none 0 0∧n=(af ts).length∧(0:Int)=(0:Int)∧Fn.func 42=Fn.func 42∧(↑n:Int)=(↑((af ts).length):Int)∧3=3∧kk=kk∧58=58∧os=os∧30=30∧rs=aL (af ts)∧39=39∧ts=ts∧True)):=by kernel_rfl
theorem a0F (os ts:Array Value) (kk:Int) (n:Nat) (rs:Array Value) (kF:Nat) (cj:Array Value) (Q:Int→Prop):(Vz os ts kk).vc (lU kF cj) (BR os ts kk n rs Q) =
  ((ts.size=448∧True)∧(aM ts∧True)∧(decide ((af ts).length=0)=true→False)∧(decide ((af ts).length=0)=false→Q (0:Int)∧cN∧ak (aD 1 [(1,1),(2,2),(3,3)]) cM cM∧Value.slice none 0 0=Value.slice none 0 0∧n=(af ts).length∧(0:Int)=(0:Int)∧Fn.func 42=Fn.func 42∧(↑n:Int)=(↑((af ts).length):Int)∧3=3∧kk=kk∧58=58∧os=os∧30=30∧rs=aL (af ts)∧39=39∧ts=ts∧True)):=by kernel_rfl
theorem a1 (os ts:Array Value) (kk:Int) (n:Nat) (rs:Array Value) (i:Int) (QZ:Int→Prop) (QS:Int→Nat→Array Value→Prop):(stepT lJ.go (run lJ 1000) 1 (vp os ts kk n rs i) (vq os ts kk n rs i)).vc iZ (Hh os ts kk n rs QZ QS) =
  ((decide (i<(↑n:Int))=true→((0≤i∧i<(↑n:Int))∧True)∧(aA .u32 rs (0+i.toNat*1)∧True)∧(ts.size=448∧True)∧(ay ts∧(0≤aa rs (0+i.toNat*1)∧aa rs (0+i.toNat*1)<4294967296)∧True)∧(((aO ts (aa rs (0+i.toNat*1))==aa rs (0+i.toNat*1))==true)=true→(os.size=128∧True)∧(ts.size=448∧True)∧(aS os∧ay ts∧(0≤aa rs (0+i.toNat*1)∧aa rs (0+i.toNat*1)<4294967296)∧True)∧(((aW os ts (aa rs (0+i.toNat*1))==1)==true)=true→((IntKind.wrap .i64 (bt os ts (aa rs (0+i.toNat*1)))==kk)=true→QS (ah .add .i64 i 1) (1:Nat) #[Value.int .u32 (aa rs (0+i.toNat*1))]∧cN∧ak (aD 1 [(1,1),(2,2),(3,3),(4,6)]) cM cM∧(1:Nat)=1∧n=n∧ah .add .i64 i 1=ah .add .i64 i 1∧Fn.func 42=Fn.func 42∧(↑n:Int)=(↑n:Int)∧3=3∧kk=kk∧58=58∧os=os∧30=30∧rs=rs∧39=39∧ts=ts∧30=30∧#[Value.int .u32 (aa rs (0+i.toNat*1))]=#[Value.int .u32 (aa rs (0+i.toNat*1))]∧True)∧((IntKind.wrap .i64 (bt os ts (aa rs (0+i.toNat*1)))==kk)=false→QZ (ah .add .i64 i 1)∧cN∧ak (aD 1 [(1,1),(2,2),(3,3)]) cM cM∧Value.slice none 0 0=Value.slice none 0 0∧n=n∧ah .add .i64 i 1=ah .add .i64 i 1∧Fn.func 42=Fn.func 42∧(↑n:Int)=(↑n:Int)∧3=3∧kk=kk∧58=58∧os=os∧30=30∧rs=rs∧39=39∧ts=ts∧True))∧(((aW os ts (aa rs (0+i.toNat*1))==1)==true)=false→QZ (ah .add .i64 i 1)∧cN∧ak (aD 1 [(1,1),(2,2),(3,3)]) cM cM∧Value.slice none 0 0=Value.slice none 0 0∧n=n∧ah .add .i64 i 1=ah .add .i64 i 1∧Fn.func 42=Fn.func 42∧(↑n:Int)=(↑n:Int)∧3=3∧kk=kk∧58=58∧os=os∧30=30∧rs=rs∧39=39∧ts=ts∧True))∧(((aO ts (aa rs (0+i.toNat*1))==aa rs (0+i.toNat*1))==true)=false→QZ (ah .add .i64 i 1)∧cN∧ak (aD 1 [(1,1),(2,2),(3,3)]) cM cM∧Value.slice none 0 0=Value.slice none 0 0∧n=n∧ah .add .i64 i 1=ah .add .i64 i 1∧Fn.func 42=Fn.func 42∧(↑n:Int)=(↑n:Int)∧3=3∧kk=kk∧58=58∧os=os∧30=30∧rs=rs∧39=39∧ts=ts∧True))∧(decide (i<(↑n:Int))=false→True)):=by kernel_rfl
theorem a2 (os ts:Array Value) (kk:Int) (n:Nat) (rs:Array Value) (i:Int) (kF:Nat) (cj:Array Value) (QZ:Int→Prop) (QS:Int→Nat→Array Value→Prop):(stepT lJ.go (run lJ 1000) 1 (vp os ts kk n rs i) (vq os ts kk n rs i)).vc (lU kF cj) (Hh os ts kk n rs QZ QS) =
  ((decide (i<(↑n:Int))=true→((0≤i∧i<(↑n:Int))∧True)∧(aA .u32 rs (0+i.toNat*1)∧True)∧(ts.size=448∧True)∧(ay ts∧(0≤aa rs (0+i.toNat*1)∧aa rs (0+i.toNat*1)<4294967296)∧True)∧(((aO ts (aa rs (0+i.toNat*1))==aa rs (0+i.toNat*1))==true)=true→(os.size=128∧True)∧(ts.size=448∧True)∧(aS os∧ay ts∧(0≤aa rs (0+i.toNat*1)∧aa rs (0+i.toNat*1)<4294967296)∧True)∧(((aW os ts (aa rs (0+i.toNat*1))==1)==true)=true→((IntKind.wrap .i64 (bt os ts (aa rs (0+i.toNat*1)))==kk)=true→QS (ah .add .i64 i 1) (1:Nat) #[Value.int .u32 (aa rs (0+i.toNat*1))]∧cN∧ak (aD 1 [(1,1),(2,2),(3,3),(4,6)]) cM cM∧(1:Nat)=1∧n=n∧ah .add .i64 i 1=ah .add .i64 i 1∧Fn.func 42=Fn.func 42∧(↑n:Int)=(↑n:Int)∧3=3∧kk=kk∧58=58∧os=os∧30=30∧rs=rs∧39=39∧ts=ts∧30=30∧#[Value.int .u32 (aa rs (0+i.toNat*1))]=#[Value.int .u32 (aa rs (0+i.toNat*1))]∧True)∧((IntKind.wrap .i64 (bt os ts (aa rs (0+i.toNat*1)))==kk)=false→QZ (ah .add .i64 i 1)∧cN∧ak (aD 1 [(1,1),(2,2),(3,3)]) cM cM∧Value.slice none 0 0=Value.slice none 0 0∧n=n∧ah .add .i64 i 1=ah .add .i64 i 1∧Fn.func 42=Fn.func 42∧(↑n:Int)=(↑n:Int)∧3=3∧kk=kk∧58=58∧os=os∧30=30∧rs=rs∧39=39∧ts=ts∧True))∧(((aW os ts (aa rs (0+i.toNat*1))==1)==true)=false→QZ (ah .add .i64 i 1)∧cN∧ak (aD 1 [(1,1),(2,2),(3,3)]) cM cM∧Value.slice none 0 0=Value.slice none 0 0∧n=n∧ah .add .i64 i 1=ah .add .i64 i 1∧Fn.func 42=Fn.func 42∧(↑n:Int)=(↑n:Int)∧3=3∧kk=kk∧58=58∧os=os∧30=30∧rs=rs∧39=39∧ts=ts∧True))∧(((aO ts (aa rs (0+i.toNat*1))==aa rs (0+i.toNat*1))==true)=false→QZ (ah .add .i64 i 1)∧cN∧ak (aD 1 [(1,1),(2,2),(3,3)]) cM cM∧Value.slice none 0 0=Value.slice none 0 0∧n=n∧ah .add .i64 i 1=ah .add .i64 i 1∧Fn.func 42=Fn.func 42∧(↑n:Int)=(↑n:Int)∧3=3∧kk=kk∧58=58∧os=os∧30=30∧rs=rs∧39=39∧ts=ts∧True))∧(decide (i<(↑n:Int))=false→False)):=by kernel_rfl
theorem a3 (os ts:Array Value) (kk:Int) (n:Nat) (rs:Array Value) (i:Int) (k:Nat) (cs:Array Value) (kF:Nat) (cj:Array Value) (QS:Int→Nat→Array Value→Prop):(stepT lJ.go (run lJ 1000) 1 (BS os ts kk n rs i k cs) (BT os ts kk n rs i k cs)).vc (lU kF cj) (Gf os ts kk n rs QS) =
  ((decide (i<(↑n:Int))=true→((0≤i∧i<(↑n:Int))∧True)∧(aA .u32 rs (0+i.toNat*1)∧True)∧(ts.size=448∧True)∧(ay ts∧(0≤aa rs (0+i.toNat*1)∧aa rs (0+i.toNat*1)<4294967296)∧True)∧(((aO ts (aa rs (0+i.toNat*1))==aa rs (0+i.toNat*1))==true)=true→(os.size=128∧True)∧(ts.size=448∧True)∧(aS os∧ay ts∧(0≤aa rs (0+i.toNat*1)∧aa rs (0+i.toNat*1)<4294967296)∧True)∧(((aW os ts (aa rs (0+i.toNat*1))==1)==true)=true→((IntKind.wrap .i64 (bt os ts (aa rs (0+i.toNat*1)))==kk)=true→(((k+1)*4≤140737488355328∧k+1≤140737488355328)∧k*1=cs.size∧True)∧QS (ah .add .i64 i 1) (k+1) (cs++#[Value.int .u32 (aa rs (0+i.toNat*1))])∧cN∧ak (aD 1 [(1,1),(2,2),(3,3),(4,7)]) cM cM∧k+1=k+1∧n=n∧ah .add .i64 i 1=ah .add .i64 i 1∧Fn.func 42=Fn.func 42∧(↑n:Int)=(↑n:Int)∧3=3∧kk=kk∧58=58∧os=os∧30=30∧rs=rs∧39=39∧ts=ts∧30=30∧cs++#[Value.int .u32 (aa rs (0+i.toNat*1))]=cs++#[Value.int .u32 (aa rs (0+i.toNat*1))]∧True)∧((IntKind.wrap .i64 (bt os ts (aa rs (0+i.toNat*1)))==kk)=false→QS (ah .add .i64 i 1) k cs∧cN∧ak (aD 1 [(1,1),(2,2),(3,3),(4,4)]) cM cM∧k=k∧n=n∧ah .add .i64 i 1=ah .add .i64 i 1∧Fn.func 42=Fn.func 42∧(↑n:Int)=(↑n:Int)∧3=3∧kk=kk∧58=58∧os=os∧30=30∧rs=rs∧39=39∧ts=ts∧30=30∧cs=cs∧True))∧(((aW os ts (aa rs (0+i.toNat*1))==1)==true)=false→QS (ah .add .i64 i 1) k cs∧cN∧ak (aD 1 [(1,1),(2,2),(3,3),(4,4)]) cM cM∧k=k∧n=n∧ah .add .i64 i 1=ah .add .i64 i 1∧Fn.func 42=Fn.func 42∧(↑n:Int)=(↑n:Int)∧3=3∧kk=kk∧58=58∧os=os∧30=30∧rs=rs∧39=39∧ts=ts∧30=30∧cs=cs∧True))∧(((aO ts (aa rs (0+i.toNat*1))==aa rs (0+i.toNat*1))==true)=false→QS (ah .add .i64 i 1) k cs∧cN∧ak (aD 1 [(1,1),(2,2),(3,3),(4,4)]) cM cM∧k=k∧n=n∧ah .add .i64 i 1=ah .add .i64 i 1∧Fn.func 42=Fn.func 42∧(↑n:Int)=(↑n:Int)∧3=3∧kk=kk∧58=58∧os=os∧30=30∧rs=rs∧39=39∧ts=ts∧30=30∧cs=cs∧True))∧(decide (i<(↑n:Int))=false→true=true∧k=kF∧cs=cj∧30=30)):=by kernel_rfl
theorem b0E (os ts:Array Value) (kk:Int):(run NV 1000 1 [a_ 41 Tryz.f41.ntmps [cJ os,bB ts,bC] (Tryz.f41.body.getD .skip)] (mY kk)).vc iZ (fun _ _=>False) =
  ((ts.size=448∧True)∧(aM ts∧True)∧(decide ((af ts).length=0)=true→True)∧(decide ((af ts).length=0)=false→(decide ((0:Int)<(↑((af ts).length):Int))=true→False)∧(decide ((0:Int)<(↑((af ts).length):Int))=false→True))):=by kernel_rfl
theorem b0N (os ts:Array Value) (kk:Int) (n:Nat) (rs:Array Value) (Q:Int→Prop):(VA os ts kk).vc iZ (BU os ts kk n rs Q) =
  ((ts.size=448∧True)∧(aM ts∧True)∧(decide ((af ts).length=0)=true→False)∧(decide ((af ts).length=0)=false→Q (0:Int)∧cN∧ak (aD 1 [(1,1),(2,2),(3,3)]) cM cM∧Value.slice none 0 0=Value.slice none 0 0∧n=(af ts).length∧(0:Int)=(0:Int)∧Fn.func 44=Fn.func 44∧(↑n:Int)=(↑((af ts).length):Int)∧3=3∧kk=kk∧58=58∧os=os∧30=30∧rs=aL (af ts)∧39=39∧ts=ts∧True)):=by kernel_rfl
theorem b0F (os ts:Array Value) (kk:Int) (n:Nat) (rs:Array Value) (kF:Nat) (cj:Array Value) (Q:Int→Prop):(VA os ts kk).vc (lU kF cj) (BU os ts kk n rs Q) =
  ((ts.size=448∧True)∧(aM ts∧True)∧(decide ((af ts).length=0)=true→False)∧(decide ((af ts).length=0)=false→Q (0:Int)∧cN∧ak (aD 1 [(1,1),(2,2),(3,3)]) cM cM∧Value.slice none 0 0=Value.slice none 0 0∧n=(af ts).length∧(0:Int)=(0:Int)∧Fn.func 44=Fn.func 44∧(↑n:Int)=(↑((af ts).length):Int)∧3=3∧kk=kk∧58=58∧os=os∧30=30∧rs=aL (af ts)∧39=39∧ts=ts∧True)):=by kernel_rfl
theorem b1 (os ts:Array Value) (kk:Int) (n:Nat) (rs:Array Value) (i:Int) (QZ:Int→Prop) (QS:Int→Nat→Array Value→Prop):(stepT lJ.go (run lJ 1000) 1 (vr os ts kk n rs i) (vu os ts kk n rs i)).vc iZ (Hi os ts kk n rs QZ QS) =
  ((decide (i<(↑n:Int))=true→((0≤i∧i<(↑n:Int))∧True)∧(aA .u32 rs (0+i.toNat*1)∧True)∧(ts.size=448∧True)∧(ay ts∧(0≤aa rs (0+i.toNat*1)∧aa rs (0+i.toNat*1)<4294967296)∧True)∧(((aO ts (aa rs (0+i.toNat*1))==aa rs (0+i.toNat*1))==true)=true→(os.size=128∧True)∧(ts.size=448∧True)∧(aS os∧ay ts∧(0≤aa rs (0+i.toNat*1)∧aa rs (0+i.toNat*1)<4294967296)∧True)∧(((aW os ts (aa rs (0+i.toNat*1))==3)==true)=true→(bJ (aR os ts (aa rs (0+i.toNat*1))) kk=true→QS (ah .add .i64 i 1) (1:Nat) #[Value.int .u32 (aa rs (0+i.toNat*1))]∧cN∧ak (aD 1 [(1,1),(2,2),(3,3),(4,6)]) cM cM∧(1:Nat)=1∧n=n∧ah .add .i64 i 1=ah .add .i64 i 1∧Fn.func 44=Fn.func 44∧(↑n:Int)=(↑n:Int)∧3=3∧kk=kk∧58=58∧os=os∧30=30∧rs=rs∧39=39∧ts=ts∧30=30∧#[Value.int .u32 (aa rs (0+i.toNat*1))]=#[Value.int .u32 (aa rs (0+i.toNat*1))]∧True)∧(bJ (aR os ts (aa rs (0+i.toNat*1))) kk=false→QZ (ah .add .i64 i 1)∧cN∧ak (aD 1 [(1,1),(2,2),(3,3)]) cM cM∧Value.slice none 0 0=Value.slice none 0 0∧n=n∧ah .add .i64 i 1=ah .add .i64 i 1∧Fn.func 44=Fn.func 44∧(↑n:Int)=(↑n:Int)∧3=3∧kk=kk∧58=58∧os=os∧30=30∧rs=rs∧39=39∧ts=ts∧True))∧(((aW os ts (aa rs (0+i.toNat*1))==3)==true)=false→QZ (ah .add .i64 i 1)∧cN∧ak (aD 1 [(1,1),(2,2),(3,3)]) cM cM∧Value.slice none 0 0=Value.slice none 0 0∧n=n∧ah .add .i64 i 1=ah .add .i64 i 1∧Fn.func 44=Fn.func 44∧(↑n:Int)=(↑n:Int)∧3=3∧kk=kk∧58=58∧os=os∧30=30∧rs=rs∧39=39∧ts=ts∧True))∧(((aO ts (aa rs (0+i.toNat*1))==aa rs (0+i.toNat*1))==true)=false→QZ (ah .add .i64 i 1)∧cN∧ak (aD 1 [(1,1),(2,2),(3,3)]) cM cM∧Value.slice none 0 0=Value.slice none 0 0∧n=n∧ah .add .i64 i 1=ah .add .i64 i 1∧Fn.func 44=Fn.func 44∧(↑n:Int)=(↑n:Int)∧3=3∧kk=kk∧58=58∧os=os∧30=30∧rs=rs∧39=39∧ts=ts∧True))∧(decide (i<(↑n:Int))=false→True)):=by kernel_rfl
theorem b2 (os ts:Array Value) (kk:Int) (n:Nat) (rs:Array Value) (i:Int) (kF:Nat) (cj:Array Value) (QZ:Int→Prop) (QS:Int→Nat→Array Value→Prop):(stepT lJ.go (run lJ 1000) 1 (vr os ts kk n rs i) (vu os ts kk n rs i)).vc (lU kF cj) (Hi os ts kk n rs QZ QS) =
  ((decide (i<(↑n:Int))=true→((0≤i∧i<(↑n:Int))∧True)∧(aA .u32 rs (0+i.toNat*1)∧True)∧(ts.size=448∧True)∧(ay ts∧(0≤aa rs (0+i.toNat*1)∧aa rs (0+i.toNat*1)<4294967296)∧True)∧(((aO ts (aa rs (0+i.toNat*1))==aa rs (0+i.toNat*1))==true)=true→(os.size=128∧True)∧(ts.size=448∧True)∧(aS os∧ay ts∧(0≤aa rs (0+i.toNat*1)∧aa rs (0+i.toNat*1)<4294967296)∧True)∧(((aW os ts (aa rs (0+i.toNat*1))==3)==true)=true→(bJ (aR os ts (aa rs (0+i.toNat*1))) kk=true→QS (ah .add .i64 i 1) (1:Nat) #[Value.int .u32 (aa rs (0+i.toNat*1))]∧cN∧ak (aD 1 [(1,1),(2,2),(3,3),(4,6)]) cM cM∧(1:Nat)=1∧n=n∧ah .add .i64 i 1=ah .add .i64 i 1∧Fn.func 44=Fn.func 44∧(↑n:Int)=(↑n:Int)∧3=3∧kk=kk∧58=58∧os=os∧30=30∧rs=rs∧39=39∧ts=ts∧30=30∧#[Value.int .u32 (aa rs (0+i.toNat*1))]=#[Value.int .u32 (aa rs (0+i.toNat*1))]∧True)∧(bJ (aR os ts (aa rs (0+i.toNat*1))) kk=false→QZ (ah .add .i64 i 1)∧cN∧ak (aD 1 [(1,1),(2,2),(3,3)]) cM cM∧Value.slice none 0 0=Value.slice none 0 0∧n=n∧ah .add .i64 i 1=ah .add .i64 i 1∧Fn.func 44=Fn.func 44∧(↑n:Int)=(↑n:Int)∧3=3∧kk=kk∧58=58∧os=os∧30=30∧rs=rs∧39=39∧ts=ts∧True))∧(((aW os ts (aa rs (0+i.toNat*1))==3)==true)=false→QZ (ah .add .i64 i 1)∧cN∧ak (aD 1 [(1,1),(2,2),(3,3)]) cM cM∧Value.slice none 0 0=Value.slice none 0 0∧n=n∧ah .add .i64 i 1=ah .add .i64 i 1∧Fn.func 44=Fn.func 44∧(↑n:Int)=(↑n:Int)∧3=3∧kk=kk∧58=58∧os=os∧30=30∧rs=rs∧39=39∧ts=ts∧True))∧(((aO ts (aa rs (0+i.toNat*1))==aa rs (0+i.toNat*1))==true)=false→QZ (ah .add .i64 i 1)∧cN∧ak (aD 1 [(1,1),(2,2),(3,3)]) cM cM∧Value.slice none 0 0=Value.slice none 0 0∧n=n∧ah .add .i64 i 1=ah .add .i64 i 1∧Fn.func 44=Fn.func 44∧(↑n:Int)=(↑n:Int)∧3=3∧kk=kk∧58=58∧os=os∧30=30∧rs=rs∧39=39∧ts=ts∧True))∧(decide (i<(↑n:Int))=false→False)):=by kernel_rfl
theorem b3 (os ts:Array Value) (kk:Int) (n:Nat) (rs:Array Value) (i:Int) (k:Nat) (cs:Array Value) (kF:Nat) (cj:Array Value) (QS:Int→Nat→Array Value→Prop):(stepT lJ.go (run lJ 1000) 1 (BV os ts kk n rs i k cs) (BW os ts kk n rs i k cs)).vc (lU kF cj) (Gg os ts kk n rs QS) =
  ((decide (i<(↑n:Int))=true→((0≤i∧i<(↑n:Int))∧True)∧(aA .u32 rs (0+i.toNat*1)∧True)∧(ts.size=448∧True)∧(ay ts∧(0≤aa rs (0+i.toNat*1)∧aa rs (0+i.toNat*1)<4294967296)∧True)∧(((aO ts (aa rs (0+i.toNat*1))==aa rs (0+i.toNat*1))==true)=true→(os.size=128∧True)∧(ts.size=448∧True)∧(aS os∧ay ts∧(0≤aa rs (0+i.toNat*1)∧aa rs (0+i.toNat*1)<4294967296)∧True)∧(((aW os ts (aa rs (0+i.toNat*1))==3)==true)=true→(bJ (aR os ts (aa rs (0+i.toNat*1))) kk=true→(((k+1)*4≤140737488355328∧k+1≤140737488355328)∧k*1=cs.size∧True)∧QS (ah .add .i64 i 1) (k+1) (cs++#[Value.int .u32 (aa rs (0+i.toNat*1))])∧cN∧ak (aD 1 [(1,1),(2,2),(3,3),(4,7)]) cM cM∧k+1=k+1∧n=n∧ah .add .i64 i 1=ah .add .i64 i 1∧Fn.func 44=Fn.func 44∧(↑n:Int)=(↑n:Int)∧3=3∧kk=kk∧58=58∧os=os∧30=30∧rs=rs∧39=39∧ts=ts∧30=30∧cs++#[Value.int .u32 (aa rs (0+i.toNat*1))]=cs++#[Value.int .u32 (aa rs (0+i.toNat*1))]∧True)∧(bJ (aR os ts (aa rs (0+i.toNat*1))) kk=false→QS (ah .add .i64 i 1) k cs∧cN∧ak (aD 1 [(1,1),(2,2),(3,3),(4,4)]) cM cM∧k=k∧n=n∧ah .add .i64 i 1=ah .add .i64 i 1∧Fn.func 44=Fn.func 44∧(↑n:Int)=(↑n:Int)∧3=3∧kk=kk∧58=58∧os=os∧30=30∧rs=rs∧39=39∧ts=ts∧30=30∧cs=cs∧True))∧(((aW os ts (aa rs (0+i.toNat*1))==3)==true)=false→QS (ah .add .i64 i 1) k cs∧cN∧ak (aD 1 [(1,1),(2,2),(3,3),(4,4)]) cM cM∧k=k∧n=n∧ah .add .i64 i 1=ah .add .i64 i 1∧Fn.func 44=Fn.func 44∧(↑n:Int)=(↑n:Int)∧3=3∧kk=kk∧58=58∧os=os∧30=30∧rs=rs∧39=39∧ts=ts∧30=30∧cs=cs∧True))∧(((aO ts (aa rs (0+i.toNat*1))==aa rs (0+i.toNat*1))==true)=false→QS (ah .add .i64 i 1) k cs∧cN∧ak (aD 1 [(1,1),(2,2),(3,3),(4,4)]) cM cM∧k=k∧n=n∧ah .add .i64 i 1=ah .add .i64 i 1∧Fn.func 44=Fn.func 44∧(↑n:Int)=(↑n:Int)∧3=3∧kk=kk∧58=58∧os=os∧30=30∧rs=rs∧39=39∧ts=ts∧30=30∧cs=cs∧True))∧(decide (i<(↑n:Int))=false→true=true∧k=kF∧cs=cj∧30=30)):=by kernel_rfl
set_option linter.unusedVariables false
theorem lV:bf lJ:=bf.with aU _ _ zD
theorem SD:bf NV:=bf.with aU _ _ zD
theorem Ug {R R':aX} {k:IntKind} {n:SI} {cs:Array Value} (h:(SA.ls [.f (.int k n)]).cH R cs):(SA.ls [.f (.int k (.o n.den))]).cH R' cs:=by
 have h:aK (SC.ok R) [.f (.int k n)] cs.toList:=h
 show aK (SC.ok R') [.f (.int k (.o n.den))] cs.toList
 revert h
 generalize cs.toList=l
 intro h
 match l,h with
 | [v],h=>exact ⟨h.1,trivial⟩
theorem SE {R R':aX} {l:List Value} (h:aK (SF.ok R) [] l):aK (SF.ok R') [] l:=by
 match l,h with
 | [],_=>trivial
theorem SG {k:Int} {q:Nat} {b:bN} (hb:aH (mY k).bl q=some b):q=0∧b=⟨.ls [.f (.int .i64 (.o k))],3,false⟩:=by
 have hb:aH ((Tr.nil:Tr bN).set 0 (some ⟨.ls [.f (.int .i64 (.o k))],3,false⟩)) q=some b:=hb
 rw [jv] at hb
 split at hb
 ·rename_i e;cases hb;exact ⟨e,rfl⟩
 ·have hb:(Tr.nil:Tr bN).get q=some b:=hb
  rw [Tr.get_nil] at hb
  cases hb
section
variable {os ts:Array Value} {kk:Int}
def bH (L:List Int) (P:Int→Bool) (i:Nat):List Int:=(L.take i).filter P
theorem rM {L:List Int} {P:Int→Bool} {i:Nat} (hi:i<L.length):bH L P (i+1)=if P (L.getD i 0)=true then bH L P i++[L.getD i 0] else bH L P i:=by
 unfold bH
 rw [take_one hi,List.filter_append,List.filter_cons,List.filter_nil]
 split <;> simp
theorem Dr {L:List Int} {P:Int→Bool} (i:Nat):(bH L P i).length≤i:=by
 have:=List.length_filter_le P (L.take i)
 rw [List.length_take] at this
 unfold bH
 omega
theorem Yi (L:List Int) (P:Int→Bool):bH L P L.length=L.filter P:=by unfold bH;rw [List.take_length]
theorem C3 {L:List Int} {P:Int→Bool} {i j:Nat} (hi:i≤j) (e:bH L P j=[]):bH L P i=[]:=by
 unfold bH at *
 have h:(L.take i)=(L.take j).take i:=by rw [List.take_take,Nat.min_eq_left hi]
 rw [h]
 refine List.filter_eq_nil_iff.2 fun x hx=>?_
 exact List.filter_eq_nil_iff.1 e x (List.mem_of_mem_take hx)
theorem Gh:E0.fn 41=some Tryz.f41:=by kernel_rfl
theorem D1:Tryz.f41.body=some (Tryz.f41.body.getD .skip):=by kernel_rfl
def dQ (os ts:Array Value) (kk x:Int):Bool:=(aO ts x==x)&&((aW os ts x==1)&&(IntKind.i64.wrap (bt os ts x)==kk))
theorem IU {n:Nat} {rs:Array Value} {A:SV→aj→Prop} {QZ:Int→Prop} {QS:Int→Nat→Array Value→Prop} {fs:List av} {m:aj} (hz:∀ i,QZ i→Good Tryz.prog A 1 (vp os ts kk n rs i) (vq os ts kk n rs i)) (hs:∀ i k cs,QS i k cs→Good Tryz.prog A 1 (BS os ts kk n rs i k cs) (BT os ts kk n rs i k cs)) (hb:Hh os ts kk n rs QZ QS fs m):Good Tryz.prog A 1 fs m:=by
 unfold Hh at hb
 split at hb
 ·split at hb
  ·exact Jq hs hb
  ·exact Jp hz hb
 ·exact hb.elim
theorem adg (ho:aS os) (hf:ay ts):∀ (w i:Nat),i+w=(af ts).length→Good Tryz.prog (lU (bH (af ts) (dQ os ts kk) (af ts).length).length (aL (bH (af ts) (dQ os ts kk) (af ts).length))) 1 (BS os ts kk (af ts).length (aL (af ts)) (i:Int) (bH (af ts) (dQ os ts kk) i).length (aL (bH (af ts) (dQ os ts kk) i))) (BT os ts kk (af ts).length (aL (af ts)) (i:Int) (bH (af ts) (dQ os ts kk) i).length (aL (bH (af ts) (dQ os ts kk) i))):=by
 have hb:=hf.ok
 have hs:=hb.sz
 have hos:=ho.sz
 have hlen:=iw ts
 intro w
 induction w with
 | zero =>
  intro i hi
  obtain rfl:i=(af ts).length:=by omega
  refine bD lV 1000 (a3 os ts kk _ _ _ _ _ (bH (af ts) (dQ os ts kk) (af ts).length).length (aL (bH (af ts) (dQ os ts kk) (af ts).length)) (fun _ _ _=>False)) ?_ (fun _ _ h=>h) (fun fs m hb=>Jq (fun _ _ _ h=>h.elim) hb)
  have d:decide (((af ts).length:Int)<((af ts).length:Int))=false:=decide_eq_false (by omega)
  simp only [d,q6]
 | succ w ih =>
  intro i hi
  refine bD lV 1000 (a3 os ts kk _ _ (i:Int) _ _ (bH (af ts) (dQ os ts kk) (af ts).length).length (aL (bH (af ts) (dQ os ts kk) (af ts).length)) (fun i' k' c'=>i'=((i+1:Nat):Int)∧k'=(bH (af ts) (dQ os ts kk) (i+1)).length∧c'=aL (bH (af ts) (dQ os ts kk) (i+1)))) ?_ (fun _ _ h=>h) (fun fs m hb=>Jq (fun i' k' c' ⟨e1,e2,e3⟩=>by rw [e1,e2,e3];exact ih (i+1) (by omega)) hb)
  have hi':i<(af ts).length:=by omega
  have d:decide ((i:Int)<((af ts).length:Int))=true:=decide_eq_true (by omega)
  have ei:ah .add .i64 (i:Int) 1=((i+1:Nat):Int):=by rw [dn,cC (by omega) (by omega)];omega
  have g1:aA .u32 (aL (af ts)) i:=bw (fN hi')
  have g2:aa (aL (af ts)) i=(af ts).getD i 0:=bI (fN hi')
  have hx:0≤(af ts).getD i 0∧(af ts).getD i 0<4294967296:=iA hb (.inr (nV hb hi'))
  have y0:0≤(i:Int):=by omega
  have y1:(i:Int)<((af ts).length:Int):=by omega
  have hl:(bH (af ts) (dQ os ts kk) i).length≤i:=Dr i
  have je:(((bH (af ts) (dQ os ts kk) i).length+1)*4≤140737488355328∧(bH (af ts) (dQ os ts kk) i).length+1≤140737488355328):=⟨by omega,by omega⟩
  rw [rM hi']
  generalize (af ts).getD i 0=x at *
  have eP:dQ os ts kk x=((aO ts x==x)&&((aW os ts x==1)&&(IntKind.i64.wrap (bt os ts x)==kk))):=rfl
  rw [eP]
  cases c1:(aO ts x==x) <;> cases c2:(aW os ts x==1) <;> cases c3:(IntKind.i64.wrap (bt os ts x)==kk)
  all_goals
   simp only [d,ei,g1,g2,hx,y0,y1,hs,ho,hos,hf,hb,dJ,cF,pW,pZ,rP,List.length_append,List.length_cons,List.length_nil,decide_true,je,c1,c2,c3,Bool.and_true,Bool.and_false,Bool.true_and,Bool.false_and,Bool.and_self,if_true,if_false,kU,kV,kU,kV,q7,q6]
theorem aev (ho:aS os) (hf:ay ts) (hne:bH (af ts) (dQ os ts kk) (af ts).length≠[]):∀ (w i:Nat),i+w=(af ts).length→(bH (af ts) (dQ os ts kk) i)=[]→Good Tryz.prog (lU (bH (af ts) (dQ os ts kk) (af ts).length).length (aL (bH (af ts) (dQ os ts kk) (af ts).length))) 1 (vp os ts kk (af ts).length (aL (af ts)) (i:Int)) (vq os ts kk (af ts).length (aL (af ts)) (i:Int)):=by
 have hb:=hf.ok
 have hs:=hb.sz
 have hos:=ho.sz
 have hlen:=iw ts
 intro w
 induction w with
 | zero =>
  intro i hi he
  obtain rfl:i=(af ts).length:=by omega
  exact absurd he hne
 | succ w ih =>
  intro i hi he
  refine bD lV 1000 (a2 os ts kk _ _ (i:Int) (bH (af ts) (dQ os ts kk) (af ts).length).length (aL (bH (af ts) (dQ os ts kk) (af ts).length)) (fun i'=>i'=((i+1:Nat):Int)∧(bH (af ts) (dQ os ts kk) (i+1))=[]) (fun i' k' c'=>i'=((i+1:Nat):Int)∧k'=(bH (af ts) (dQ os ts kk) (i+1)).length∧c'=aL (bH (af ts) (dQ os ts kk) (i+1)))) ?_ (fun _ _ h=>h) (fun fs m hb'=>IU (fun i' ⟨e1,e2⟩=>by rw [e1];exact ih (i+1) (by omega) e2) (fun i' k' c' ⟨e1,e2,e3⟩=>by rw [e1,e2,e3];exact adg ho hf w (i+1) (by omega)) hb')
  have hi':i<(af ts).length:=by omega
  have d:decide ((i:Int)<((af ts).length:Int))=true:=decide_eq_true (by omega)
  have ei:ah .add .i64 (i:Int) 1=((i+1:Nat):Int):=by rw [dn,cC (by omega) (by omega)];omega
  have g1:aA .u32 (aL (af ts)) i:=bw (fN hi')
  have g2:aa (aL (af ts)) i=(af ts).getD i 0:=bI (fN hi')
  have hx:0≤(af ts).getD i 0∧(af ts).getD i 0<4294967296:=iA hb (.inr (nV hb hi'))
  have y0:0≤(i:Int):=by omega
  have y1:(i:Int)<((af ts).length:Int):=by omega
  rw [rM hi',he]
  generalize (af ts).getD i 0=x at *
  have eP:dQ os ts kk x=((aO ts x==x)&&((aW os ts x==1)&&(IntKind.i64.wrap (bt os ts x)==kk))):=rfl
  rw [eP]
  cases c1:(aO ts x==x) <;> cases c2:(aW os ts x==1) <;> cases c3:(IntKind.i64.wrap (bt os ts x)==kk)
  all_goals
   simp only [d,ei,g1,g2,hx,y0,y1,hs,ho,hos,hf,hb,dJ,cF,pW,pZ,rP,List.length_append,List.length_cons,List.length_nil,decide_true,c1,c2,c3,List.nil_append,Bool.and_true,Bool.and_false,Bool.true_and,Bool.false_and,Bool.and_self,if_true,if_false,kU,kV,kU,kV,q7,q6]
theorem adh (ho:aS os) (hf:ay ts) (hne:bH (af ts) (dQ os ts kk) (af ts).length=[]):∀ (w i:Nat),i+w=(af ts).length→Good Tryz.prog iZ 1 (vp os ts kk (af ts).length (aL (af ts)) (i:Int)) (vq os ts kk (af ts).length (aL (af ts)) (i:Int)):=by
 have hb:=hf.ok
 have hs:=hb.sz
 have hos:=ho.sz
 have hlen:=iw ts
 intro w
 induction w with
 | zero =>
  intro i hi
  obtain rfl:i=(af ts).length:=by omega
  refine bD lV 1000 (a1 os ts kk _ _ _ (fun _=>False) (fun _ _ _=>False)) ?_ (fun _ _ h=>h) (fun fs m hb=>IU (fun _ h=>h.elim) (fun _ _ _ h=>h.elim) hb)
  have d:decide (((af ts).length:Int)<((af ts).length:Int))=false:=decide_eq_false (by omega)
  simp only [d,q6]
 | succ w ih =>
  intro i hi
  refine bD lV 1000 (a1 os ts kk _ _ (i:Int) (fun i'=>i'=((i+1:Nat):Int)) (fun _ _ _=>False)) ?_ (fun _ _ h=>h) (fun fs m hb'=>IU (fun i' e1=>by rw [e1];exact ih (i+1) (by omega)) (fun _ _ _ h=>h.elim) hb')
  have hi':i<(af ts).length:=by omega
  have d:decide ((i:Int)<((af ts).length:Int))=true:=decide_eq_true (by omega)
  have ei:ah .add .i64 (i:Int) 1=((i+1:Nat):Int):=by rw [dn,cC (by omega) (by omega)];omega
  have g1:aA .u32 (aL (af ts)) i:=bw (fN hi')
  have g2:aa (aL (af ts)) i=(af ts).getD i 0:=bI (fN hi')
  have hx:0≤(af ts).getD i 0∧(af ts).getD i 0<4294967296:=iA hb (.inr (nV hb hi'))
  have y0:0≤(i:Int):=by omega
  have y1:(i:Int)<((af ts).length:Int):=by omega
  have he:=C3 (i:=i+1) (by omega) hne
  have hP:dQ os ts kk ((af ts).getD i 0)=false:=by
   rw [rM hi'] at he
   split at he
   ·simp at he
   ·rename_i k;simpa using k
  generalize (af ts).getD i 0=x at *
  have eP:dQ os ts kk x=((aO ts x==x)&&((aW os ts x==1)&&(IntKind.i64.wrap (bt os ts x)==kk))):=rfl
  rw [eP] at hP
  revert hP
  cases c1:(aO ts x==x) <;> cases c2:(aW os ts x==1) <;> cases c3:(IntKind.i64.wrap (bt os ts x)==kk)
  all_goals
   simp only [d,ei,g1,g2,hx,y0,y1,hs,ho,hos,hf,hb,dJ,cF,pW,pZ,rP,List.length_append,List.length_cons,List.length_nil,decide_true,c1,c2,c3,Bool.and_true,Bool.and_false,Bool.true_and,Bool.false_and,Bool.and_self,if_true,if_false,implies_true,kU,kV,kU,kV,q7,q6]
theorem adi {m:aj} {i:Nat} {n0:SI} {w0:Bool} (hb0:aH m.bl i=some ⟨.ls [.f (.int .i64 n0)],3,w0⟩):aq E0 41 [cJ os,bB ts,.s (.c (.fn (.func 42) [] [.ptr i (.l 0)]))] m (.need [aS os,ay ts] (lf (bH (af ts) (dQ os ts n0.den) (af ts).length) 30 m)):=by
 have hm:∀ q b,aH (mY n0.den).bl q=some b→q<(mY n0.den).next∧b.wr=false∧∃ d,aH m.bl ((fun q=>i) q)=some d∧b.ty=d.ty∧∀ R cs,d.arr.cH R cs→b.arr.cH (pull (fun q=>i) (mY n0.den).next R) cs:=by
  intro q b hb
  obtain ⟨rfl,rfl⟩:=SG hb
  exact ⟨(show 0<1 by decide),rfl,_,hb0,rfl,fun R cs' h=>Ug h⟩
 have hl:∀ R vs,aK (SV.ok R) [cJ os,bB ts,.s (.c (.fn (.func 42) [] [.ptr i (.l 0)]))] vs→aK (SV.ok (pull (fun q=>i) (mY n0.den).next R)) [cJ os,bB ts,aC] vs:=by
  intro R vs ha
  match vs,ha with
  | [u,u',v],ha =>
   obtain ⟨h0,Cu,⟨a,b,e,h1,h2⟩,_⟩:=ha
   refine ⟨h0,Cu,⟨a,b,e,SE h1,?_⟩,trivial⟩
   revert h2
   generalize b.toList=l
   intro h2
   match l,h2 with
   | [c0],⟨q0,_⟩=>exact ⟨(let ⟨g,e1,e2⟩:=q0;⟨g,(by unfold pull;exact e1),e2⟩),trivial⟩
 refine aq.asked fun hq=>?_
 have ho:aS os:=hq _ (by simp)
 have hf:ay ts:=hq _ (by simp)
 have hb:=hf.ok
 have hs:=hb.sz
 have hos:=ho.sz
 refine aq.two (fun hz=>?_) (fun hz=>?_)
 ·have he:bH (af ts) (dQ os ts n0.den) (af ts).length=[]:=List.eq_nil_of_length_eq_zero (of_decide_eq_true hz)
  refine aq.mI (q:=[]) aU Gh D1 rfl _ hm hl (A:=iZ) (fun _=>?_) ?_
  ·cases c:decide ((af ts).length=0) with
   | true =>
    refine bA SD 1000 (a0E os ts n0.den) ?_ (fun s m h=>h) fun fs m hb=>hb.elim
    simp only [c,hs,hb,hos,q6]
   | false =>
    refine bA lV 1000 (a0N os ts n0.den (af ts).length (aL (af ts)) (fun i=>i=((0:Nat):Int))) ?_ (fun s m h=>h) fun fs m hb=>Jp (fun i e=>by rw [e];exact adh ho hf he _ 0 (Nat.zero_add _)) hb
    simp only [c,hs,hb,hos,kU,kV,kU,kV,q6]
    rfl
  ·intro s m' R R' v hs hv
   unfold iZ at hs
   split at hs
   ·exact hv
   ·exact hs.elim
 ·have he:bH (af ts) (dQ os ts n0.den) (af ts).length≠[]:=fun e=>by
   have:=of_decide_eq_false hz
   rw [e] at this
   exact this rfl
  have oh:(af ts).length≠0:=fun e=>by
   have e0:=List.eq_nil_of_length_eq_zero e
   apply he
   unfold bH
   rw [e0]
   rfl
  have c:decide ((af ts).length=0)=false:=decide_eq_false oh
  refine aq.KS (q:=[]) aU Gh D1 rfl _ hm hl rfl fun _=>(bA lV 1000 (a0F os ts n0.den (af ts).length (aL (af ts)) (bH (af ts) (dQ os ts n0.den) (af ts).length).length (aL (bH (af ts) (dQ os ts n0.den) (af ts).length)) (fun i=>i=((0:Nat):Int))) ?_ (fun s m h=>h) fun fs m hb=>Jp (A:=lU (bH (af ts) (dQ os ts n0.den) (af ts).length).length (aL (bH (af ts) (dQ os ts n0.den) (af ts).length))) (fun i e=>by rw [e];exact aev ho hf he _ 0 (Nat.zero_add _) rfl) hb).mono ?_
  ·simp only [c,hs,hb,hos,kU,kV,kU,kV,q6]
   rfl
  ·intro s m' hs
   unfold lU at hs
   split at hs
   ·rename_i id nn
    split at hs
    ·rename_i ds ty hb
     obtain ⟨h1,rfl,rfl,rfl⟩:=hs
     exact ⟨id,Nat.le_of_ble_eq_true h1,rfl,hb⟩
    ·exact hs.elim
   ·exact hs.elim
def dW (os ts:Array Value) (kk x:Int):Bool:=(aO ts x==x)&&((aW os ts x==3)&&bJ (aR os ts x) kk)
theorem IV {n:Nat} {rs:Array Value} {A:SV→aj→Prop} {QZ:Int→Prop} {QS:Int→Nat→Array Value→Prop} {fs:List av} {m:aj} (hz:∀ i,QZ i→Good Tryz.prog A 1 (vr os ts kk n rs i) (vu os ts kk n rs i)) (hs:∀ i k cs,QS i k cs→Good Tryz.prog A 1 (BV os ts kk n rs i k cs) (BW os ts kk n rs i k cs)) (hb:Hi os ts kk n rs QZ QS fs m):Good Tryz.prog A 1 fs m:=by
 unfold Hi at hb
 split at hb
 ·split at hb
  ·exact Js hs hb
  ·exact Jr hz hb
 ·exact hb.elim
theorem adj (ho:aS os) (hf:ay ts):∀ (w i:Nat),i+w=(af ts).length→Good Tryz.prog (lU (bH (af ts) (dW os ts kk) (af ts).length).length (aL (bH (af ts) (dW os ts kk) (af ts).length))) 1 (BV os ts kk (af ts).length (aL (af ts)) (i:Int) (bH (af ts) (dW os ts kk) i).length (aL (bH (af ts) (dW os ts kk) i))) (BW os ts kk (af ts).length (aL (af ts)) (i:Int) (bH (af ts) (dW os ts kk) i).length (aL (bH (af ts) (dW os ts kk) i))):=by
 have hb:=hf.ok
 have hs:=hb.sz
 have hos:=ho.sz
 have hlen:=iw ts
 intro w
 induction w with
 | zero =>
  intro i hi
  obtain rfl:i=(af ts).length:=by omega
  refine bD lV 1000 (b3 os ts kk _ _ _ _ _ (bH (af ts) (dW os ts kk) (af ts).length).length (aL (bH (af ts) (dW os ts kk) (af ts).length)) (fun _ _ _=>False)) ?_ (fun _ _ h=>h) (fun fs m hb=>Js (fun _ _ _ h=>h.elim) hb)
  have d:decide (((af ts).length:Int)<((af ts).length:Int))=false:=decide_eq_false (by omega)
  simp only [d,q6]
 | succ w ih =>
  intro i hi
  refine bD lV 1000 (b3 os ts kk _ _ (i:Int) _ _ (bH (af ts) (dW os ts kk) (af ts).length).length (aL (bH (af ts) (dW os ts kk) (af ts).length)) (fun i' k' c'=>i'=((i+1:Nat):Int)∧k'=(bH (af ts) (dW os ts kk) (i+1)).length∧c'=aL (bH (af ts) (dW os ts kk) (i+1)))) ?_ (fun _ _ h=>h) (fun fs m hb=>Js (fun i' k' c' ⟨e1,e2,e3⟩=>by rw [e1,e2,e3];exact ih (i+1) (by omega)) hb)
  have hi':i<(af ts).length:=by omega
  have d:decide ((i:Int)<((af ts).length:Int))=true:=decide_eq_true (by omega)
  have ei:ah .add .i64 (i:Int) 1=((i+1:Nat):Int):=by rw [dn,cC (by omega) (by omega)];omega
  have g1:aA .u32 (aL (af ts)) i:=bw (fN hi')
  have g2:aa (aL (af ts)) i=(af ts).getD i 0:=bI (fN hi')
  have hx:0≤(af ts).getD i 0∧(af ts).getD i 0<4294967296:=iA hb (.inr (nV hb hi'))
  have y0:0≤(i:Int):=by omega
  have y1:(i:Int)<((af ts).length:Int):=by omega
  have hl:(bH (af ts) (dW os ts kk) i).length≤i:=Dr i
  have je:(((bH (af ts) (dW os ts kk) i).length+1)*4≤140737488355328∧(bH (af ts) (dW os ts kk) i).length+1≤140737488355328):=⟨by omega,by omega⟩
  rw [rM hi']
  generalize (af ts).getD i 0=x at *
  have eP:dW os ts kk x=((aO ts x==x)&&((aW os ts x==3)&&bJ (aR os ts x) kk)):=rfl
  rw [eP]
  cases c1:(aO ts x==x) <;> cases c2:(aW os ts x==3) <;> cases c3:bJ (aR os ts x) kk
  all_goals
   simp only [d,ei,g1,g2,hx,y0,y1,hs,ho,hos,hf,hb,dJ,cF,pW,pZ,rP,List.length_append,List.length_cons,List.length_nil,decide_true,je,c1,c2,c3,Bool.and_true,Bool.and_false,Bool.true_and,Bool.false_and,Bool.and_self,if_true,if_false,zL,zM,kU,kV,q7,q6]
theorem aew (ho:aS os) (hf:ay ts) (hne:bH (af ts) (dW os ts kk) (af ts).length≠[]):∀ (w i:Nat),i+w=(af ts).length→(bH (af ts) (dW os ts kk) i)=[]→Good Tryz.prog (lU (bH (af ts) (dW os ts kk) (af ts).length).length (aL (bH (af ts) (dW os ts kk) (af ts).length))) 1 (vr os ts kk (af ts).length (aL (af ts)) (i:Int)) (vu os ts kk (af ts).length (aL (af ts)) (i:Int)):=by
 have hb:=hf.ok
 have hs:=hb.sz
 have hos:=ho.sz
 have hlen:=iw ts
 intro w
 induction w with
 | zero =>
  intro i hi he
  obtain rfl:i=(af ts).length:=by omega
  exact absurd he hne
 | succ w ih =>
  intro i hi he
  refine bD lV 1000 (b2 os ts kk _ _ (i:Int) (bH (af ts) (dW os ts kk) (af ts).length).length (aL (bH (af ts) (dW os ts kk) (af ts).length)) (fun i'=>i'=((i+1:Nat):Int)∧(bH (af ts) (dW os ts kk) (i+1))=[]) (fun i' k' c'=>i'=((i+1:Nat):Int)∧k'=(bH (af ts) (dW os ts kk) (i+1)).length∧c'=aL (bH (af ts) (dW os ts kk) (i+1)))) ?_ (fun _ _ h=>h) (fun fs m hb'=>IV (fun i' ⟨e1,e2⟩=>by rw [e1];exact ih (i+1) (by omega) e2) (fun i' k' c' ⟨e1,e2,e3⟩=>by rw [e1,e2,e3];exact adj ho hf w (i+1) (by omega)) hb')
  have hi':i<(af ts).length:=by omega
  have d:decide ((i:Int)<((af ts).length:Int))=true:=decide_eq_true (by omega)
  have ei:ah .add .i64 (i:Int) 1=((i+1:Nat):Int):=by rw [dn,cC (by omega) (by omega)];omega
  have g1:aA .u32 (aL (af ts)) i:=bw (fN hi')
  have g2:aa (aL (af ts)) i=(af ts).getD i 0:=bI (fN hi')
  have hx:0≤(af ts).getD i 0∧(af ts).getD i 0<4294967296:=iA hb (.inr (nV hb hi'))
  have y0:0≤(i:Int):=by omega
  have y1:(i:Int)<((af ts).length:Int):=by omega
  rw [rM hi',he]
  generalize (af ts).getD i 0=x at *
  have eP:dW os ts kk x=((aO ts x==x)&&((aW os ts x==3)&&bJ (aR os ts x) kk)):=rfl
  rw [eP]
  cases c1:(aO ts x==x) <;> cases c2:(aW os ts x==3) <;> cases c3:bJ (aR os ts x) kk
  all_goals
   simp only [d,ei,g1,g2,hx,y0,y1,hs,ho,hos,hf,hb,dJ,cF,pW,pZ,rP,List.length_append,List.length_cons,List.length_nil,decide_true,c1,c2,c3,List.nil_append,Bool.and_true,Bool.and_false,Bool.true_and,Bool.false_and,Bool.and_self,if_true,if_false,zL,zM,kU,kV,q7,q6]
theorem adk (ho:aS os) (hf:ay ts) (hne:bH (af ts) (dW os ts kk) (af ts).length=[]):∀ (w i:Nat),i+w=(af ts).length→Good Tryz.prog iZ 1 (vr os ts kk (af ts).length (aL (af ts)) (i:Int)) (vu os ts kk (af ts).length (aL (af ts)) (i:Int)):=by
 have hb:=hf.ok
 have hs:=hb.sz
 have hos:=ho.sz
 have hlen:=iw ts
 intro w
 induction w with
 | zero =>
  intro i hi
  obtain rfl:i=(af ts).length:=by omega
  refine bD lV 1000 (b1 os ts kk _ _ _ (fun _=>False) (fun _ _ _=>False)) ?_ (fun _ _ h=>h) (fun fs m hb=>IV (fun _ h=>h.elim) (fun _ _ _ h=>h.elim) hb)
  have d:decide (((af ts).length:Int)<((af ts).length:Int))=false:=decide_eq_false (by omega)
  simp only [d,q6]
 | succ w ih =>
  intro i hi
  refine bD lV 1000 (b1 os ts kk _ _ (i:Int) (fun i'=>i'=((i+1:Nat):Int)) (fun _ _ _=>False)) ?_ (fun _ _ h=>h) (fun fs m hb'=>IV (fun i' e1=>by rw [e1];exact ih (i+1) (by omega)) (fun _ _ _ h=>h.elim) hb')
  have hi':i<(af ts).length:=by omega
  have d:decide ((i:Int)<((af ts).length:Int))=true:=decide_eq_true (by omega)
  have ei:ah .add .i64 (i:Int) 1=((i+1:Nat):Int):=by rw [dn,cC (by omega) (by omega)];omega
  have g1:aA .u32 (aL (af ts)) i:=bw (fN hi')
  have g2:aa (aL (af ts)) i=(af ts).getD i 0:=bI (fN hi')
  have hx:0≤(af ts).getD i 0∧(af ts).getD i 0<4294967296:=iA hb (.inr (nV hb hi'))
  have y0:0≤(i:Int):=by omega
  have y1:(i:Int)<((af ts).length:Int):=by omega
  have he:=C3 (i:=i+1) (by omega) hne
  have hP:dW os ts kk ((af ts).getD i 0)=false:=by
   rw [rM hi'] at he
   split at he
   ·simp at he
   ·rename_i k;simpa using k
  generalize (af ts).getD i 0=x at *
  have eP:dW os ts kk x=((aO ts x==x)&&((aW os ts x==3)&&bJ (aR os ts x) kk)):=rfl
  rw [eP] at hP
  revert hP
  cases c1:(aO ts x==x) <;> cases c2:(aW os ts x==3) <;> cases c3:bJ (aR os ts x) kk
  all_goals
   simp only [d,ei,g1,g2,hx,y0,y1,hs,ho,hos,hf,hb,dJ,cF,pW,pZ,rP,List.length_append,List.length_cons,List.length_nil,decide_true,c1,c2,c3,Bool.and_true,Bool.and_false,Bool.true_and,Bool.false_and,Bool.and_self,if_true,if_false,implies_true,zL,zM,kU,kV,q7,q6]
theorem adl {m:aj} {i:Nat} {n0:SI} {w0:Bool} (hb0:aH m.bl i=some ⟨.ls [.f (.int .i64 n0)],3,w0⟩):aq E0 41 [cJ os,bB ts,.s (.c (.fn (.func 44) [] [.ptr i (.l 0)]))] m (.need [aS os,ay ts] (lf (bH (af ts) (dW os ts n0.den) (af ts).length) 30 m)):=by
 have hm:∀ q b,aH (mY n0.den).bl q=some b→q<(mY n0.den).next∧b.wr=false∧∃ d,aH m.bl ((fun q=>i) q)=some d∧b.ty=d.ty∧∀ R cs,d.arr.cH R cs→b.arr.cH (pull (fun q=>i) (mY n0.den).next R) cs:=by
  intro q b hb
  obtain ⟨rfl,rfl⟩:=SG hb
  exact ⟨(show 0<1 by decide),rfl,_,hb0,rfl,fun R cs' h=>Ug h⟩
 have hl:∀ R vs,aK (SV.ok R) [cJ os,bB ts,.s (.c (.fn (.func 44) [] [.ptr i (.l 0)]))] vs→aK (SV.ok (pull (fun q=>i) (mY n0.den).next R)) [cJ os,bB ts,bC] vs:=by
  intro R vs ha
  match vs,ha with
  | [u,u',v],ha =>
   obtain ⟨h0,Cu,⟨a,b,e,h1,h2⟩,_⟩:=ha
   refine ⟨h0,Cu,⟨a,b,e,SE h1,?_⟩,trivial⟩
   revert h2
   generalize b.toList=l
   intro h2
   match l,h2 with
   | [c0],⟨q0,_⟩=>exact ⟨(let ⟨g,e1,e2⟩:=q0;⟨g,(by unfold pull;exact e1),e2⟩),trivial⟩
 refine aq.asked fun hq=>?_
 have ho:aS os:=hq _ (by simp)
 have hf:ay ts:=hq _ (by simp)
 have hb:=hf.ok
 have hs:=hb.sz
 have hos:=ho.sz
 refine aq.two (fun hz=>?_) (fun hz=>?_)
 ·have he:bH (af ts) (dW os ts n0.den) (af ts).length=[]:=List.eq_nil_of_length_eq_zero (of_decide_eq_true hz)
  refine aq.mI (q:=[]) aU Gh D1 rfl _ hm hl (A:=iZ) (fun _=>?_) ?_
  ·cases c:decide ((af ts).length=0) with
   | true =>
    refine bA SD 1000 (b0E os ts n0.den) ?_ (fun s m h=>h) fun fs m hb=>hb.elim
    simp only [c,hs,hb,hos,q6]
   | false =>
    refine bA lV 1000 (b0N os ts n0.den (af ts).length (aL (af ts)) (fun i=>i=((0:Nat):Int))) ?_ (fun s m h=>h) fun fs m hb=>Jr (fun i e=>by rw [e];exact adk ho hf he _ 0 (Nat.zero_add _)) hb
    simp only [c,hs,hb,hos,zL,zM,kU,kV,q6]
    rfl
  ·intro s m' R R' v hs hv
   unfold iZ at hs
   split at hs
   ·exact hv
   ·exact hs.elim
 ·have he:bH (af ts) (dW os ts n0.den) (af ts).length≠[]:=fun e=>by
   have:=of_decide_eq_false hz
   rw [e] at this
   exact this rfl
  have oh:(af ts).length≠0:=fun e=>by
   have e0:=List.eq_nil_of_length_eq_zero e
   apply he
   unfold bH
   rw [e0]
   rfl
  have c:decide ((af ts).length=0)=false:=decide_eq_false oh
  refine aq.KS (q:=[]) aU Gh D1 rfl _ hm hl rfl fun _=>(bA lV 1000 (b0F os ts n0.den (af ts).length (aL (af ts)) (bH (af ts) (dW os ts n0.den) (af ts).length).length (aL (bH (af ts) (dW os ts n0.den) (af ts).length)) (fun i=>i=((0:Nat):Int))) ?_ (fun s m h=>h) fun fs m hb=>Jr (A:=lU (bH (af ts) (dW os ts n0.den) (af ts).length).length (aL (bH (af ts) (dW os ts n0.den) (af ts).length))) (fun i e=>by rw [e];exact aew ho hf he _ 0 (Nat.zero_add _) rfl) hb).mono ?_
  ·simp only [c,hs,hb,hos,zL,zM,kU,kV,q6]
   rfl
  ·intro s m' hs
   unfold lU at hs
   split at hs
   ·rename_i id nn
    split at hs
    ·rename_i ds ty hb
     obtain ⟨h1,rfl,rfl,rfl⟩:=hs
     exact ⟨id,Nat.le_of_ble_eq_true h1,rfl,hb⟩
    ·exact hs.elim
   ·exact hs.elim
end
set_option linter.unusedVariables false
noncomputable def Lp (g:FuncId) (l:List SV) (m:aj):Option Tree:=match g,l with
 | 41,[.s (.agg (.op os)),.s (.agg (.op ts)),.s (.c (.fn (.func 42) [] [.ptr i (.l 0)]))]=>(match aH m.bl i with | some ⟨.ls [.f (.int .i64 n0)],3,_⟩=>some (.need [aS os,ay ts] (lf (bH (af ts) (dQ os ts n0.den) (af ts).length) 30 m)) | _=>none)
 | 41,[.s (.agg (.op os)),.s (.agg (.op ts)),.s (.c (.fn (.func 44) [] [.ptr i (.l 0)]))]=>(match aH m.bl i with | some ⟨.ls [.f (.int .i64 n0)],3,_⟩=>some (.need [aS os,ay ts] (lf (bH (af ts) (dW os ts n0.den) (af ts).length) 30 m)) | _=>none)
 | g,l=>uG g l m
noncomputable def Cv:Env:=⟨Tryz.prog,dg,Lp,dy []⟩
set_option maxRecDepth 100000
theorem ra0 (os ts:Array Value) (k:Int):(run Cv 1000 0 [a_ 11 Tryz.f11.ntmps [cJ os,bB ts,i64 (.o k)] (Tryz.f11.body.getD .skip)] aT).vc iS (fun _ _=>False) =
  ((os.size=128∧True)∧(ts.size=448∧True)∧(aS os∧ay ts∧True)∧(decide ((bH (af ts) (dQ os ts k) ((af ts).length)).length=0)=true→True)∧(decide ((bH (af ts) (dQ os ts k) ((af ts).length)).length=0)=false→False)):=by kernel_rfl
theorem ra1 (os ts:Array Value) (k:Int) (kF:Nat) (cj:Array Value):(run Cv 1000 0 [a_ 11 Tryz.f11.ntmps [cJ os,bB ts,i64 (.o k)] (Tryz.f11.body.getD .skip)] aT).vc (dL kF cj 30) (fun _ _=>False) =
  ((os.size=128∧True)∧(ts.size=448∧True)∧(aS os∧ay ts∧True)∧(decide ((bH (af ts) (dQ os ts k) ((af ts).length)).length=0)=true→False)∧(decide ((bH (af ts) (dQ os ts k) ((af ts).length)).length=0)=false→kF=(bH (af ts) (dQ os ts k) ((af ts).length)).length∧30=30∧cj=aL (bH (af ts) (dQ os ts k) ((af ts).length))∧True)):=by kernel_rfl
theorem rb0 (os ts:Array Value) (k:Int):(run Cv 1000 0 [a_ 13 Tryz.f13.ntmps [cJ os,bB ts,i64 (.o k)] (Tryz.f13.body.getD .skip)] aT).vc iS (fun _ _=>False) =
  ((os.size=128∧True)∧(ts.size=448∧True)∧(aS os∧ay ts∧True)∧(decide ((bH (af ts) (dW os ts k) ((af ts).length)).length=0)=true→True)∧(decide ((bH (af ts) (dW os ts k) ((af ts).length)).length=0)=false→False)):=by kernel_rfl
theorem rb1 (os ts:Array Value) (k:Int) (kF:Nat) (cj:Array Value):(run Cv 1000 0 [a_ 13 Tryz.f13.ntmps [cJ os,bB ts,i64 (.o k)] (Tryz.f13.body.getD .skip)] aT).vc (dL kF cj 30) (fun _ _=>False) =
  ((os.size=128∧True)∧(ts.size=448∧True)∧(aS os∧ay ts∧True)∧(decide ((bH (af ts) (dW os ts k) ((af ts).length)).length=0)=true→False)∧(decide ((bH (af ts) (dW os ts k) ((af ts).length)).length=0)=false→kF=(bH (af ts) (dW os ts k) ((af ts).length)).length∧30=30∧cj=aL (bH (af ts) (dW os ts k) ((af ts).length))∧True)):=by kernel_rfl
set_option linter.unusedVariables false
theorem Y0:∀ g l m t,Lp g l m=some t→aq E0 g l m t:=by
 intro g l m t h
 unfold Lp at h
 split at h
 ·rename_i os ts i
  split at h
  ·rename_i n0 w0 h0;cases h
   exact adi h0
  ·cases h
 ·rename_i os ts i
  split at h
  ·rename_i n0 w0 h0;cases h
   exact adl h0
  ·cases h
 ·exact zD _ _ _ _ h
theorem D2:bf Cv:=bf.with aU _ _ Y0
section
variable {os ts:Array Value}
def dB (os ts:Array Value) (k:Int):List Int:=bH (af ts) (dQ os ts k) (af ts).length
def dD (os ts:Array Value) (k:Int):List Int:=bH (af ts) (dW os ts k) (af ts).length
theorem W5 (k:Int) (m:aj):aq E0 11 [cJ os,bB ts,i64 (.o k)] m (.need [aS os,ay ts] (lf (dB os ts k) 30 m)):=by
 refine aq.asked fun hq=>?_
 have ho:aS os:=hq _ (by simp)
 have hf:ay ts:=hq _ (by simp)
 have hs:=hf.ok.sz
 have hos:=ho.sz
 refine aq.two (fun hz=>?_) (fun hz=>?_)
 ·refine (show aq E0 11 [cJ os,bB ts,i64 (.o k)] m (bu [] _) from aq.pure aU (by kernel_rfl:E0.fn 11=some Tryz.f11) (by kernel_rfl:Tryz.f11.body=some (Tryz.f11.body.getD .skip)) (by kernel_rfl) (by kernel_rfl) fun hq=>?_)
  refine (bA D2 1000 (ra0 os ts k) ?_ (fun s m h=>h) fun fs m hm=>hm.elim).mono ?_
  ·have c0:decide ((bH (af ts) (dQ os ts k) (af ts).length).length=0)=true:=hz
   simp only [c0,hs,hos,ho,hf,q6]
  ·intro s m' hs
   unfold iS at hs
   split at hs
   ·rfl
   ·exact hs.elim
 ·refine (show aq E0 11 [cJ os,bB ts,i64 (.o k)] m (bu [] _) from aq.fresh aU (by kernel_rfl:E0.fn 11=some Tryz.f11) (by kernel_rfl:Tryz.f11.body=some (Tryz.f11.body.getD .skip)) (by kernel_rfl) rfl fun _=>?_)
  refine Good.ni ((bA D2 1000 (ra1 os ts k (dB os ts k).length (aL (dB os ts k))) ?_ (fun s m h=>h) fun fs m hm=>hm.elim).mono fun s m h=>?_)
  ·have c0:decide ((bH (af ts) (dQ os ts k) (af ts).length).length=0)=false:=hz
   simp only [c0,hs,hos,ho,hf,q6]
   exact ⟨rfl,rfl⟩
  ·unfold dL at h
   split at h
   ·exact ⟨_,h⟩
   ·exact h.elim
theorem Ym (k:Int) (m:aj):aq E0 13 [cJ os,bB ts,i64 (.o k)] m (.need [aS os,ay ts] (lf (dD os ts k) 30 m)):=by
 refine aq.asked fun hq=>?_
 have ho:aS os:=hq _ (by simp)
 have hf:ay ts:=hq _ (by simp)
 have hs:=hf.ok.sz
 have hos:=ho.sz
 refine aq.two (fun hz=>?_) (fun hz=>?_)
 ·refine (show aq E0 13 [cJ os,bB ts,i64 (.o k)] m (bu [] _) from aq.pure aU (by kernel_rfl:E0.fn 13=some Tryz.f13) (by kernel_rfl:Tryz.f13.body=some (Tryz.f13.body.getD .skip)) (by kernel_rfl) (by kernel_rfl) fun hq=>?_)
  refine (bA D2 1000 (rb0 os ts k) ?_ (fun s m h=>h) fun fs m hm=>hm.elim).mono ?_
  ·have c0:decide ((bH (af ts) (dW os ts k) (af ts).length).length=0)=true:=hz
   simp only [c0,hs,hos,ho,hf,q6]
  ·intro s m' hs
   unfold iS at hs
   split at hs
   ·rfl
   ·exact hs.elim
 ·refine (show aq E0 13 [cJ os,bB ts,i64 (.o k)] m (bu [] _) from aq.fresh aU (by kernel_rfl:E0.fn 13=some Tryz.f13) (by kernel_rfl:Tryz.f13.body=some (Tryz.f13.body.getD .skip)) (by kernel_rfl) rfl fun _=>?_)
  refine Good.ni ((bA D2 1000 (rb1 os ts k (dD os ts k).length (aL (dD os ts k))) ?_ (fun s m h=>h) fun fs m hm=>hm.elim).mono fun s m h=>?_)
  ·have c0:decide ((bH (af ts) (dW os ts k) (af ts).length).length=0)=false:=hz
   simp only [c0,hs,hos,ho,hf,q6]
   exact ⟨rfl,rfl⟩
  ·unfold dL at h
   split at h
   ·exact ⟨_,h⟩
   ·exact h.elim
end
set_option linter.unusedVariables false
def bS (a:Array Value) (r:Int):Nat→Nat→Int
 | 0,_=>-1
 | k+1,i=>if aa a i=r then (i:Int) else bS a r k (i+1)
noncomputable def fM (a b:Array Value):aj:=cD 2 [(0,⟨.pop a,3,false⟩),(1,⟨.pop b,111,false⟩)]
noncomputable def vS (n:Nat):SV:=.s (.agg (.ls [.f (.slice 0 (.l 0) (.o n) .any),.f (.slice 1 (.l 0) (.o n) .any)]))
noncomputable def ff:SV:=.s (.agg (.ls [.f (.lit (.slice none 0 0)),.f (.lit (.slice none 0 0))]))
noncomputable def GQ:Env:=⟨Tryz.prog,dg,nT,dy [79*1000+2]⟩
noncomputable def UW:Env:=⟨Tryz.prog,dg,nT,dy []⟩
noncomputable def tZ:List bh:=cY Tryz.f79 2
noncomputable def EA (n:Nat) (a:Array Value) (b:Array Value) (r:Int) (i:Int):List av:=[dw 79 Tryz.f79 [(1,i64 (.o r)),(2,ptr 2 (.l 0)),(5,i64 (.o i))] tZ]
noncomputable def EB (n:Nat) (a:Array Value) (b:Array Value) (r:Int) (i:Int):aj:=cD 3 [(0,⟨.pop a,3,false⟩),(1,⟨.pop b,111,false⟩),(2,⟨.ls [.f (.slice 0 (.l 0) (.o n) .any),.f (.slice 1 (.l 0) (.o n) .any)],62,true⟩)]
def EC (n:Nat) (a:Array Value) (b:Array Value) (r:Int) (Q:Int→Prop) (fs:List av) (m:aj):Prop:=(match b9 fs 0 with | some f0=>(match dh f0 5 with | some i=>(match aV f0 2 with | some p2=>Q i∧cV 2 [(2,p2)] (EA n a b r i) (EB n a b r i) fs m | none=>False) | none=>False) | none=>False)
theorem OE (r:Nat→Option Nat):ak r tZ tZ:=ak.it (by kernel_rfl)
theorem CZ {A:SV→aj→Prop} {n:Nat} {a:Array Value} {b:Array Value} {r:Int} {Q:Int→Prop} {fs:List av} {m:aj} (H:∀ i,Q i→Good Tryz.prog A 2 (EA n a b r i) (EB n a b r i)) (hb:EC n a b r Q fs m):Good Tryz.prog A 2 fs m:=by
 unfold EC at hb
 iterate 3 (split at hb;rotate_left;exact hb.elim)
 exact Good.c_ hb.2 (H _ hb.1)
set_option maxRecDepth 100000
theorem ja0 (n:Nat) (a b:Array Value) (r o:Int) (Q:Int→Prop):(run GQ 1000 2 [a_ 79 Tryz.f79.ntmps [vS n,i64 (.o r)] (Tryz.f79.body.getD .skip)] (fM a b)).vc (bM 2 [] (i64 (.o o)) (fM a b)) (EC n a b r Q) =
  (Q (0:Int)∧cN∧ak (aD 2 [(2,2)]) tZ tZ∧r=r∧(0:Int)=(0:Int)∧3=3∧a=a∧111=111∧b=b∧62=62∧n=n∧n=n∧True):=by kernel_rfl
theorem Ng (n:Nat) (a b:Array Value) (r i o:Int) (Q:Int→Prop):(stepT GQ.go (run GQ 1000) 2 (EA n a b r i) (EB n a b r i)).vc (bM 2 [] (i64 (.o o)) (fM a b)) (EC n a b r Q) =
  ((decide (i<(↑n:Int))=true→((0≤i∧i<(↑n:Int))∧True)∧(aA .i64 a (0+i.toNat*1)∧True)∧((aa a (0+i.toNat*1)==r)=true→o=i∧3=3∧a=a∧111=111∧b=b∧True)∧((aa a (0+i.toNat*1)==r)=false→Q (ah .add .i64 i 1)∧cN∧ak (aD 2 [(2,2)]) tZ tZ∧r=r∧ah .add .i64 i 1=ah .add .i64 i 1∧3=3∧a=a∧111=111∧b=b∧62=62∧n=n∧n=n∧True))∧(decide (i<(↑n:Int))=false→o=(-1:Int)∧3=3∧a=a∧111=111∧b=b∧True)):=by kernel_rfl
theorem jaZ (r:Int):(run UW 1000 0 [a_ 79 Tryz.f79.ntmps [ff,i64 (.o r)] (Tryz.f79.body.getD .skip)] aT).vc (bM 0 [] (i64 (.l (-1))) aT) (fun _ _=>False) =
  (True):=by kernel_rfl
set_option linter.unusedVariables false
theorem DP:bf GQ:=bf.with aU _ _ oC
theorem abh:bf UW:=bf.with aU _ _ oC
def iT (a:Array Value) (n k:Nat):Prop:=∃ l:List Int,a=aE l∧n=l.length∧k=l.length∧l.length≤200
theorem abi {l:List Int} {b:Array Value} {r:Int} (hl:l.length≤200):∀ (k i:Nat),i+k=l.length→Good Tryz.prog (bM 2 [] (i64 (.o (bS (aE l) r k i))) (fM (aE l) b)) 2 (EA l.length (aE l) b r (i:Int)) (EB l.length (aE l) b r (i:Int)):=by
 intro k
 induction k with
 | zero =>
  intro i hi
  obtain rfl:i=l.length:=by omega
  refine bD DP 1000 (Ng _ _ _ r _ _ (fun _=>False)) ?_ (fun _ _ h=>h) (fun fs m hb=>CZ (fun _ h=>h.elim) hb)
  have d:decide ((l.length:Int)<(l.length:Int))=false:=decide_eq_false (by omega)
  simp only [d,q6]
  rfl
 | succ k ih =>
  intro i hi
  have hi':i<l.length:=by omega
  have d:decide ((i:Int)<(l.length:Int))=true:=decide_eq_true (by omega)
  have ei:ah .add .i64 (i:Int) 1=((i+1:Nat):Int):=by rw [dn,cC (by omega) (by omega)];omega
  have g1:aA .i64 (aE l) i:=bw (fj hi')
  have y0:0≤(i:Int):=by omega
  have y1:(i:Int)<(l.length:Int):=by omega
  have eF:bS (aE l) r (k+1) i=if aa (aE l) i=r then (i:Int) else bS (aE l) r k (i+1):=rfl
  rw [eF]
  cases c:(aa (aE l) i==r) with
  | true =>
   rw [if_pos (beq_iff_eq.1 c)]
   refine bD DP 1000 (Ng _ _ _ r (i:Int) _ (fun _=>False)) ?_ (fun _ _ h=>h) (fun fs m hb=>CZ (fun _ h=>h.elim) hb)
   simp only [d,ei,g1,y0,y1,c,decide_true,q7,q6]
  | false =>
   rw [if_neg (beq_eq_false_iff_ne.1 c)]
   refine bD DP 1000 (Ng _ _ _ r (i:Int) _ (fun i'=>i'=((i+1:Nat):Int))) ?_ (fun _ _ h=>h) (fun fs m hb=>CZ (fun i' e=>by rw [e];exact ih (i+1) (by omega)) hb)
   simp only [d,ei,g1,y0,y1,c,decide_true,OE,q7,q6]
theorem TW:E0.fn 79=some Tryz.f79:=by kernel_rfl
theorem Sb:Tryz.f79.body=some (Tryz.f79.body.getD .skip):=by kernel_rfl
theorem m4 {m:aj} {i j:Nat} {a b:Array Value} {w1 w2:Bool} (dZ:aH m.bl i=some ⟨.pop a,3,w1⟩) (e_:aH m.bl j=some ⟨.pop b,111,w2⟩):∀ q d0,aH (fM a b).bl q=some d0→q<(fM a b).next∧d0.wr=false∧∃ d,aH m.bl ((fun q=>if q=0 then i else j) q)=some d∧d0.ty=d.ty∧∀ R cs,d.arr.cH R cs→d0.arr.cH (pull (fun q=>if q=0 then i else j) (fM a b).next R) cs:=by
 intro q d0 hb
 have hb:aH (((Tr.nil:Tr bN).set 0 (some ⟨.pop a,3,false⟩)).set 1 (some ⟨.pop b,111,false⟩)) q=some d0:=hb
 rw [jv] at hb
 split at hb
 ·rename_i e;cases hb;subst e;exact ⟨(show 1<2 by decide),rfl,_,e_,rfl,fun R cs h=>h⟩
 ·rw [jv] at hb
  split at hb
  ·rename_i e;cases hb;subst e;exact ⟨(show 0<2 by decide),rfl,_,dZ,rfl,fun R cs h=>h⟩
  ·have hb:(Tr.nil:Tr bN).get q=some d0:=hb
   rw [Tr.get_nil] at hb
   cases hb
theorem o9 {R:aX} {v:Value} {i j nx:Nat} {n k:SN} {c1 c2:SK} {N:Nat} (e1:n.den=N) (e2:k.den=N) (hx:nx=2) (h:(SV.s (.agg (.ls [.f (.slice i (.l 0) n c1),.f (.slice j (.l 0) k c2)]))).ok R v):(vS N).ok (pull (fun q=>if q=0 then i else j) nx R) v:=by
 subst hx
 obtain ⟨cs,rfl,hl⟩:=h
 have hl:aK (SC.ok R) _ cs.toList:=hl
 refine ⟨cs,rfl,?_⟩
 show aK (SC.ok _) _ cs.toList
 match hc:cs.toList,hl with
 | [u,v],⟨⟨g,cp,k1,k2,k3,k4⟩,⟨g',nB,th,vO,M8,oq⟩,_⟩ =>
  exact ⟨⟨g,cp,by unfold pull;exact k1,by rw [k2,e1],trivial,by rw [e1] at k4;exact k4⟩,⟨g',nB,by unfold pull;exact th,by rw [vO,e2],trivial,by rw [e2] at oq;exact oq⟩,trivial⟩
theorem Zs (r:Int) (m:aj):aq E0 79 [ff,i64 (.o r)] m (bu [] (.ret (i64 (.l (-1))) m)):=by
 refine aq.pure aU TW Sb (by kernel_rfl) (by kernel_rfl) fun hq=>?_
 exact (Good.ret [] (bA abh 1000 (jaZ r) trivial (fun s m h=>h) fun _ _ h=>h.elim)).mono fun _ _ h=>h.1
theorem Zt {m:aj} {i j:Nat} {n k:SN} {c1 c2:SK} {a b:Array Value} {w1 w2:Bool} (r:Int) (dZ:aH m.bl i=some ⟨.pop a,3,w1⟩) (e_:aH m.bl j=some ⟨.pop b,111,w2⟩):aq E0 79 [.s (.agg (.ls [.f (.slice i (.l 0) n c1),.f (.slice j (.l 0) k c2)])),i64 (.o r)] m (.need [iT a n.den k.den] (.ret (i64 (.o (bS a r n.den 0))) m)):=by
 refine aq.asked fun hq=>?_
 obtain ⟨l,rfl,e1,e2,e3⟩:iT a n.den k.den:=hq _ (by simp)
 rw [e1]
 have hl:∀ R vs,aK (SV.ok R) [.s (.agg (.ls [.f (.slice i (.l 0) n c1),.f (.slice j (.l 0) k c2)])),i64 (.o r)] vs→aK (SV.ok (pull (fun q=>if q=0 then i else j) (fM (aE l) b).next R)) [vS l.length,i64 (.o r)] vs:=by
  intro R vs ha
  match vs,ha with
  | [u,v],ha=>exact ⟨o9 e1 e2 rfl ha.1,ha.2.1,trivial⟩
 refine (show aq E0 79 _ m (bu [] _) from aq.mI aU TW Sb rfl (fun q=>if q=0 then i else j) (m4 dZ e_) hl (A:=fun s m=>s=i64 (.o (bS (aE l) r l.length 0))∧m=fM (aE l) b) (fun _=>?_) (fun s m' R R' v hs hv=>by rw [hs.1] at hv;exact hv))
 refine Good.ret [] (bA DP 1000 (ja0 l.length (aE l) b r (bS (aE l) r l.length 0) (fun i=>i=((0:Nat):Int))) ?_ (fun s m h=>h) fun fs m hb=>CZ (fun i e=>by rw [e];exact abi e3 _ 0 (Nat.zero_add _)) hb)
 simp only [and_true,true_and,OE,lz]
 rfl
set_option linter.unusedVariables false
def Vb:Array Value:=#[.int .i64 0,.int .i64 0,.bool false,.bool false,.bool false,.bool false,.bool false,.bool false,.bool false,.bool false]
noncomputable def KX (ts:Array Value) (g:FuncId) (l:List SV) (m:aj):Option Tree:=match g,l with
 | 79,[.s (.agg (.ls [.f (.slice i (.l 0) n c1),.f (.slice j (.l 0) k c2)])),.s (.c (.f (.int .i64 r)))]=>(match aH m.bl i,aH m.bl j with | some ⟨.pop a,3,_⟩,some ⟨.pop b,111,_⟩=>some (.need [iT a n.den k.den] (.ret (i64 (.o (bS a r.den n.den 0))) m)) | _,_=>none)
 | 79,[.s (.agg (.ls [.f (.lit (.slice none 0 0)),.f (.lit (.slice none 0 0))])),.s (.c (.f (.int .i64 r)))]=>some (.ret (i64 (.l (-1))) m)
 | g,l=>sj ts g l m
noncomputable def yU (ts:Array Value):Env:=⟨Tryz.prog,dg,KX ts,dy []⟩
set_option maxRecDepth 100000
theorem jo0 (ts ws:Array Value) (n:Nat) (a b:Array Value) (h:Int) (o:Array Value):(run (yU ts) 1000 2 [a_ 37 Tryz.f37.ntmps [vS n,bg ws,i64 (.o h)] (Tryz.f37.body.getD .skip)] (fM a b)).vc (bM 2 [] (.s (.agg (.op o))) (fM a b)) (fun _ _=>False) =
  ((ws.size=448∧True)∧(SW ts ws∧ay ts∧True)∧((∃ l,a=aE l∧n=l.length∧n=l.length∧l.length≤200)∧True)∧((decide (bS a (aO ts h) n (0:Nat)<0)==false)=true→(ws.size=448∧True)∧(SW ts ws∧aM ts∧True)∧((!aB ts h)=true→o=#[Value.int .i64 0,Value.int .i64 0,Value.bool false,Value.bool false,Value.bool false,Value.bool false,Value.bool false,Value.bool false,Value.bool false,Value.bool false]∧3=3∧a=a∧111=111∧b=b∧True)∧((!aB ts h)=false→((0≤bS a (aO ts h) n (0:Nat)∧bS a (aO ts h) n (0:Nat)<(↑n:Int))∧True)∧(aA .i64 b (0+(bS a (aO ts h) n (0:Nat)).toNat*10)∧aA .i64 b (0+(bS a (aO ts h) n (0:Nat)).toNat*10+1)∧bY b (0+(bS a (aO ts h) n (0:Nat)).toNat*10+2)∧bY b (0+(bS a (aO ts h) n (0:Nat)).toNat*10+3)∧bY b (0+(bS a (aO ts h) n (0:Nat)).toNat*10+4)∧bY b (0+(bS a (aO ts h) n (0:Nat)).toNat*10+5)∧bY b (0+(bS a (aO ts h) n (0:Nat)).toNat*10+6)∧bY b (0+(bS a (aO ts h) n (0:Nat)).toNat*10+7)∧bY b (0+(bS a (aO ts h) n (0:Nat)).toNat*10+8)∧bY b (0+(bS a (aO ts h) n (0:Nat)).toNat*10+9)∧True)∧o=#[Value.int .i64 (aa b (0+(bS a (aO ts h) n (0:Nat)).toNat*10)),Value.int .i64 (aa b (0+(bS a (aO ts h) n (0:Nat)).toNat*10+1)),Value.bool (bq b (0+(bS a (aO ts h) n (0:Nat)).toNat*10+2)),Value.bool (bq b (0+(bS a (aO ts h) n (0:Nat)).toNat*10+3)),Value.bool (bq b (0+(bS a (aO ts h) n (0:Nat)).toNat*10+4)),Value.bool (bq b (0+(bS a (aO ts h) n (0:Nat)).toNat*10+5)),Value.bool (bq b (0+(bS a (aO ts h) n (0:Nat)).toNat*10+6)),Value.bool (bq b (0+(bS a (aO ts h) n (0:Nat)).toNat*10+7)),Value.bool (bq b (0+(bS a (aO ts h) n (0:Nat)).toNat*10+8)),Value.bool (bq b (0+(bS a (aO ts h) n (0:Nat)).toNat*10+9))]∧3=3∧a=a∧111=111∧b=b∧True))∧((decide (bS a (aO ts h) n (0:Nat)<0)==false)=false→o=#[Value.int .i64 0,Value.int .i64 0,Value.bool false,Value.bool false,Value.bool false,Value.bool false,Value.bool false,Value.bool false,Value.bool false,Value.bool false]∧3=3∧a=a∧111=111∧b=b∧True)):=by kernel_rfl
theorem joZ (ts ws:Array Value) (h:Int) (o:Array Value):(run (yU ts) 1000 0 [a_ 37 Tryz.f37.ntmps [ff,bg ws,i64 (.o h)] (Tryz.f37.body.getD .skip)] aT).vc (bM 0 [] (.s (.agg (.op o))) aT) (fun _ _=>False) =
  ((ws.size=448∧True)∧(SW ts ws∧ay ts∧True)∧o=#[Value.int .i64 0,Value.int .i64 0,Value.bool false,Value.bool false,Value.bool false,Value.bool false,Value.bool false,Value.bool false,Value.bool false,Value.bool false]∧True):=by kernel_rfl
theorem jr0 (ts ws:Array Value) (h:Int) (o:Int):(run (yU ts) 1000 0 [a_ 55 Tryz.f55.ntmps [bg ws,i64 (.o h)] (Tryz.f55.body.getD .skip)] aT).vc (bM 0 [] (i64 (.o o)) aT) (fun _ _=>False) =
  ((ws.size=448∧True)∧(SW ts ws∧aM ts∧True)∧((!aB ts h)=true→o=4∧True)∧((!aB ts h)=false→(ws.size=448∧True)∧(SW ts ws∧ay ts∧True)∧((aO ts h != h)=true→o=12∧True)∧((aO ts h != h)=false→o=0∧True))):=by kernel_rfl
set_option linter.unusedVariables false
theorem Yn (ts:Array Value):∀ g l m t,KX ts g l m=some t→aq E0 g l m t:=by
 intro g l m t h
 unfold KX at h
 split at h
 ·rename_i i n c1 j k c2 r
  split at h
  ·rename_i a w1 b w2 h1 h2;cases h
   refine aq.asked fun hq=>aq.args (l':=[.s (.agg (.ls [.f (.slice i (.l 0) n c1),.f (.slice j (.l 0) k c2)])),i64 (.o r.den)]) (fun R vs ha=>by
    match vs,ha with
    | [v,w],ha=>exact ⟨ha.1,ha.2.1,trivial⟩) ?_
   intro A hs
   exact Zt r.den h1 h2 A ⟨fun p hp=>hq p hp,hs⟩
  ·cases h
 ·rename_i r;cases h
  refine aq.args (l':=[ff,i64 (.o r.den)]) (fun R vs ha=>by
   match vs,ha with
   | [v,w],ha=>exact ⟨ha.1,ha.2.1,trivial⟩) ?_
  exact Zs r.den m
 ·exact wH ts _ _ _ _ h
theorem Aa (ts:Array Value):bf (yU ts):=bf.with aU _ _ (Yn ts)
def bT (k t h:Int):Array Value:=#[.int .i64 k,.int .i64 t,.bool (bJ h 0),.bool (bJ h 1),.bool (bJ h 2),.bool (bJ h 3),.bool (bJ h 4),.bool (bJ h 5),.bool (bJ h 6),.bool (bJ h 7)]
theorem Mb:bT 0 0 0=Vb:=by kernel_rfl
def ot (ts:Array Value) (x:Int):Prop:=x≠0∧(aB ts x=true∨¬ jw (aF ts) x)
theorem C1 {ts:Array Value} {x:Int} (h:aB ts x=true):ot ts x:=by
 refine ⟨fun e=>?_,.inl h⟩
 have h:bF (aF ts) x=true:=h
 unfold bF at h
 rw [Bool.and_eq_true] at h
 have:=h.1
 unfold gV at this
 exact (of_decide_eq_true this).1 e
structure bZ (os ts a b:Array Value) (n k:Nat):Prop where
 l:iT a n k
 sz:b.size=n*10
 ti:∀ p,p<n→aA .i64 b (p*10)∧aA .i64 b (p*10+1)
 tb:∀ p,p<n→∀ q,q<8→bY b (p*10+2+q)
 yes:∀ x,ot ts x→oR os (sl x)=x→∃ p:Nat,p<n∧bS a x n 0=(p:Int)∧∀ c,c<10→b[p*10+c]?=(bT (oK os (sl x)) (oT os (sl x)) (oH os (sl x)))[c]?
 no:∀ x,ot ts x→oR os (sl x)≠x→bS a x n 0=-1
def dP (os ts:Array Value):Prop:=∀ x,ot ts x→oR os (sl x)≠x
section
variable {os ts ws:Array Value}
theorem HR (hf:ay ts) {h:Int} (hg:aB ts h=true):aB ts (aO ts h)=true∧aO ts (aO ts h)=aO ts h:=by
 have hb:=hf.ok
 have hx:=(bU hb).2 hg
 have e:aO ts h=gE (aG ts) h:=if_pos hg
 obtain ⟨m1,m2⟩:=Ju hf.fo h (.inr hx) hx
 have hl:=DB hf.fo h (.inr hx) _ m1
 have gr:=(bU hb).1 hl
 rw [e]
 refine ⟨gr,?_⟩
 have e2:aO ts (gE (aG ts) h)=gE (aG ts) (gE (aG ts) h):=if_pos gr
 rw [e2]
 exact (zP hf.fo hl).2 m2
theorem JU {h:Int} (hg:aB ts h=false):aW os ts h=0∧bt os ts h=0∧aR os ts h=0:=by
 have e:aO ts h=0:=if_neg (by rw [hg];decide)
 have i:oa os ts h=false:=by unfold oa gV;rw [e];rfl
 unfold aW bt aR
 rw [i]
 exact ⟨rfl,rfl,rfl⟩
theorem Tf (hf:ay ts) {h:Int} (hg:aB ts h=true):oa os ts h=(oR os (sl (aO ts h))==aO ts h):=by
 obtain ⟨gr,_⟩:=HR hf hg
 have:gV (aO ts h)=true:=by
  have gr:bF (aF ts) (aO ts h)=true:=gr
  unfold bF at gr
  cases c:gV (aO ts h) with
  | true=>rfl
  | false=>rw [c] at gr;simp at gr
 unfold oa
 rw [this,Bool.true_and]
theorem JG (hf:ay ts) (hn:dP os ts) (h:Int):aW os ts h=0∧bt os ts h=0∧aR os ts h=0:=by
 cases hg:aB ts h with
 | false=>exact JU hg
 | true =>
  obtain ⟨g1,g2⟩:=HR hf hg
  have i:oa os ts h=false:=by rw [Tf hf hg];exact beq_eq_false_iff_ne.2 (hn _ (C1 g1))
  unfold aW bt aR
  rw [i]
  exact ⟨rfl,rfl,rfl⟩
theorem Tg:E0.fn 37=some Tryz.f37:=by kernel_rfl
theorem QX:Tryz.f37.body=some (Tryz.f37.body.getD .skip):=by kernel_rfl
theorem Zk (h:Int) (m:aj):aq E0 37 [ff,bg ws,i64 (.o h)] m (bu [SW ts ws,ay ts,dP os ts] (.ret (.s (.agg (.op (bT (aW os ts h) (bt os ts h) (aR os ts h))))) m)):=by
 refine aq.pure aU Tg QX (by kernel_rfl) (by kernel_rfl) fun hq=>?_
 have w:SW ts ws:=hq _ (by simp)
 have hf:ay ts:=hq _ (by simp)
 have hn:dP os ts:=hq _ (by simp)
 obtain ⟨e1,e2,e3⟩:=JG hf hn h
 have hz:=w.sz
 rw [e1,e2,e3,Mb]
 refine (Good.ret [] (bA (Aa ts) 1000 (joZ ts ws h Vb) ?_ (fun s m h=>h) fun _ _ h=>h.elim)).mono fun _ _ h=>h.1
 simp only [hz,w,hf,and_true,true_and]
 rfl
theorem Zj {m:aj} {i j:Nat} {n k:SN} {c1 c2:SK} {a b:Array Value} {w1 w2:Bool} (h:Int) (dZ:aH m.bl i=some ⟨.pop a,3,w1⟩) (e_:aH m.bl j=some ⟨.pop b,111,w2⟩):aq E0 37 [.s (.agg (.ls [.f (.slice i (.l 0) n c1),.f (.slice j (.l 0) k c2)])),bg ws,i64 (.o h)] m (.need [SW ts ws,ay ts,bZ os ts a b n.den k.den] (.ret (.s (.agg (.op (bT (aW os ts h) (bt os ts h) (aR os ts h))))) m)):=by
 refine aq.asked fun hq=>?_
 have w:SW ts ws:=hq _ (by simp)
 have hf:ay ts:=hq _ (by simp)
 have hr:bZ os ts a b n.den k.den:=hq _ (by simp)
 obtain ⟨L,eL,e1,e2,e3⟩:=hr.l
 have hb:=hf.ok
 have hz:=w.sz
 have hl:∀ R vs,aK (SV.ok R) [.s (.agg (.ls [.f (.slice i (.l 0) n c1),.f (.slice j (.l 0) k c2)])),bg ws,i64 (.o h)] vs→aK (SV.ok (pull (fun q=>if q=0 then i else j) (fM a b).next R)) [vS L.length,bg ws,i64 (.o h)] vs:=by
  intro R vs ha
  match vs,ha with
  | [u,v,z],ha=>exact ⟨o9 e1 e2 rfl ha.1,ha.2.1,ha.2.2.1,trivial⟩
 refine (show aq E0 37 _ m (bu [] _) from aq.mI aU Tg QX rfl (fun q=>if q=0 then i else j) (m4 dZ e_) hl (A:=fun s m=>s=.s (.agg (.op (bT (aW os ts h) (bt os ts h) (aR os ts h))))∧m=fM a b) (fun _=>?_) (fun s m' R R' v hs hv=>by rw [hs.1] at hv;exact hv))
 have hr':bZ os ts a b L.length L.length:=by rw [e1,e2] at hr;exact hr
 have hex:∃ l,a=aE l∧L.length=l.length∧L.length=l.length∧l.length≤200:=⟨L,eL,rfl,rfl,e3⟩
 refine Good.ret [] (bA (Aa ts) 1000 (jo0 ts ws L.length a b h (bT (aW os ts h) (bt os ts h) (aR os ts h))) ?_ (fun s m h=>h) fun fs m hb=>hb.elim)
 cases hg:aB ts h with
 | false =>
  obtain ⟨k1,k2,k3⟩:=JU (os:=os) hg
  rw [k1,k2,k3,Mb]
  cases d:decide (bS a (aO ts h) L.length 0<0) <;> simp only [hz,w,hf,hb,hg,hex,d,cF,Bool.not_true,Bool.not_false,q6] <;> rfl
 | true =>
  obtain ⟨g1,g2⟩:=HR hf hg
  have is:=Tf (os:=os) hf hg
  by_cases c:oR os (sl (aO ts h))=aO ts h
  ·have i:oa os ts h=true:=by rw [is];exact beq_iff_eq.2 c
   obtain ⟨p,p1,p2,p3⟩:=hr'.yes _ (C1 g1) c
   have q1:aW os ts h=oK os (sl (aO ts h)):=if_pos i
   have q2:bt os ts h=oT os (sl (aO ts h)):=if_pos i
   have q3:aR os ts h=oH os (sl (aO ts h)):=if_pos i
   rw [q1,q2,q3]
   have d:decide ((p:Int)<0)=false:=decide_eq_false (by omega)
   have y0:0≤(p:Int):=by omega
   have y1:(p:Int)<(L.length:Int):=by omega
   obtain ⟨t0,t1⟩:=hr'.ti p p1
   have tb:=hr'.tb p p1
   have v0:aa b (p*10)=oK os (sl (aO ts h)):=bI (p3 0 (by decide))
   have v1:aa b (p*10+1)=oT os (sl (aO ts h)):=bI (p3 1 (by decide))
   have vb:∀ q:Nat,q<8→bq b (p*10+2+q)=bJ (oH os (sl (aO ts h))) (q:Int):=fun q hq=>by
    have:=p3 (2+q) (by omega)
    rw [← Nat.add_assoc] at this
    unfold bq
    rw [this]
    match q,hq with
    | 0,_ | 1,_ | 2,_ | 3,_ | 4,_ | 5,_ | 6,_ | 7,_=>rfl
   simp only [hz,w,hf,hb,hg,hex,p2,d,y0,y1,Int.toNat_natCast,Nat.zero_add,t0,t1,v0,v1,cF,Bool.not_true,Bool.not_false,q6]
   refine ⟨⟨tb 0 (by decide),tb 1 (by decide),tb 2 (by decide),tb 3 (by decide),tb 4 (by decide),tb 5 (by decide),tb 6 (by decide),tb 7 (by decide)⟩,?_⟩
   have b0:bq b (p*10+2)=bJ (oH os (sl (aO ts h))) 0:=vb 0 (by decide)
   have b1:bq b (p*10+3)=bJ (oH os (sl (aO ts h))) 1:=vb 1 (by decide)
   have b2:bq b (p*10+4)=bJ (oH os (sl (aO ts h))) 2:=vb 2 (by decide)
   have b3:bq b (p*10+5)=bJ (oH os (sl (aO ts h))) 3:=vb 3 (by decide)
   have b4:bq b (p*10+6)=bJ (oH os (sl (aO ts h))) 4:=vb 4 (by decide)
   have b5:bq b (p*10+7)=bJ (oH os (sl (aO ts h))) 5:=vb 5 (by decide)
   have b6:bq b (p*10+8)=bJ (oH os (sl (aO ts h))) 6:=vb 6 (by decide)
   have b7:bq b (p*10+9)=bJ (oH os (sl (aO ts h))) 7:=vb 7 (by decide)
   unfold bT
   rw [b0,b1,b2,b3,b4,b5,b6,b7]
  ·have i:oa os ts h=false:=by rw [is];exact beq_eq_false_iff_ne.2 c
   have e:=hr'.no _ (C1 g1) c
   have q1:aW os ts h=0:=if_neg (by rw [i];decide)
   have q2:bt os ts h=0:=if_neg (by rw [i];decide)
   have q3:aR os ts h=0:=if_neg (by rw [i];decide)
   rw [q1,q2,q3,Mb]
   have d:decide ((-1:Int)<0)=true:=rfl
   simp only [hz,w,hf,hb,hg,hex,e,d,cF,Bool.not_true,Bool.not_false,q6]
   rfl
theorem WQ (h:Int) (m:aj):aq E0 55 [bg ws,i64 (.o h)] m (bu [SW ts ws,ay ts] (.ret (i64 (.o (aI ts h))) m)):=by
 refine aq.pure aU (by kernel_rfl:E0.fn 55=some Tryz.f55) (by kernel_rfl:Tryz.f55.body=some (Tryz.f55.body.getD .skip)) (by kernel_rfl) (by kernel_rfl) fun hq=>?_
 have w:SW ts ws:=hq _ (by simp)
 have hf:ay ts:=hq _ (by simp)
 have hb:=hf.ok
 have hz:=w.sz
 refine (Good.ret [] (bA (Aa ts) 1000 (jr0 ts ws h (aI ts h)) ?_ (fun s m h=>h) fun _ _ h=>h.elim)).mono fun _ _ h=>h.1
 cases hg:aB ts h with
 | false =>
  have e:aI ts h=4:=if_pos hg
  simp only [hz,w,hf,hb,hg,e,Bool.not_true,Bool.not_false,q6]
 | true =>
  have n1:¬ aB ts h=false:=by rw [hg];decide
  by_cases c:aO ts h=h
  ·have e:aI ts h=0:=by unfold aI;rw [if_neg n1,if_pos c]
   have c1:(aO ts h != h)=false:=by simpa using c
   simp only [hz,w,hf,hb,hg,e,c1,Bool.not_true,Bool.not_false,q6]
  ·have e:aI ts h=12:=by unfold aI;rw [if_neg n1,if_neg c]
   have c1:(aO ts h != h)=true:=bne_iff_ne.2 c
   simp only [hz,w,hf,hb,hg,e,c1,Bool.not_true,Bool.not_false,q6]
end
section
variable {n0:Nat} {F:Nat→Prop} {w0 w:World} {R:aX} {m:aj}
theorem Rel.aea (h:Rel n0 F w0 R m w) {L:Loc} {a:SA} {cs:Array Value} {t:TypeId} {fz:Nat × Nat} (hn:n0≤L.b) (hg:w.heap[L.b]?=some (.cells cs t fz)) (hs:cs.size=L.n)
  (ha:a.ok R cs) (hok:∀ R':aX,Ext R R'→a.ok R' cs→a.cH R' cs) (hz:mQ fz cs.size) (hf:∀ i g,R i=some g→g.b≠L.b):∃ R',Ext R R'∧(∀ i g,R' i=some g→R i=some g∨(i=m.next∧g=L))∧R' m.next=some L∧Rel n0 F w0 R' (m.new a t) w:=by
 have hlt:L.b<w.heap.size:=(Array.getElem?_eq_some_iff.1 hg).1
 have hx:Ext R (fun i=>if i=m.next then some L else R i):=by
  intro i g e
  have:=h.nx i g e
  show (if i=m.next then some L else R i)=some g
  rw [if_neg (by omega)]
  exact e
 have gJ:∀ {i g},(if i=m.next then some L else R i)=some g→(i=m.next∧g=L)∨(i≠m.next∧R i=some g):=by
  intro i g e
  split at e
  ·cases e;rename_i hi;exact .inl ⟨hi,rfl⟩
  ·rename_i hi;exact .inr ⟨hi,e⟩
 have iE:∀ {i b},aH (m.new a t).bl i=some b→(i=m.next∧b=⟨a,t,true⟩)∨(i≠m.next∧aH m.bl i=some b):=by
  intro i b e
  have e:aH (m.bl.set m.next (some ⟨a,t,true⟩)) i=some b:=e
  rw [jv] at e
  split at e
  ·rename_i hi
   cases e
   exact .inl ⟨hi,rfl⟩
  ·rename_i hi
   exact .inr ⟨hi,e⟩
 refine ⟨_,hx,fun i g e=>(gJ e).symm.imp And.right id,by simp,?_⟩
 refine ⟨?_,?_,?_,?_,h.base,h.fr,?_,?_,h.gl⟩
 ·intro i j g k b c hi hj ru pS yX hw
  rcases gJ hi with ⟨h1,rfl⟩ | ⟨h1,h2⟩ <;> rcases gJ hj with ⟨k1,rfl⟩ | ⟨k1,k2⟩
  ·omega
  ·exact absurd ru.symm (hf _ _ k2)
  ·exact absurd ru (hf _ _ h2)
  ·rcases iE pS with ⟨e1,_⟩ | ⟨_,e1⟩
   ·exact (h1 e1).elim
   ·rcases iE yX with ⟨e2,_⟩ | ⟨_,e2⟩
    ·exact (k1 e2).elim
    ·exact h.inj i j g k b c h2 k2 ru e1 e2 hw
 ·intro i g hi
  rcases gJ hi with ⟨_,rfl⟩ | ⟨_,h2⟩
  ·exact hlt
  ·exact h.lt _ _ h2
 ·intro i g hi
  rcases gJ hi with ⟨e,_⟩ | ⟨_,h2⟩
  ·show i<m.next+1
   omega
  ·have:=h.nx _ _ h2
   show i<m.next+1
   omega
 ·intro i b hb
  rcases iE hb with ⟨e,rfl⟩ | ⟨_,e⟩
  ·exact ⟨L,cs,fz,by simp [e],hg,hs,hok _ hx (SA.mono hx ha),fun _=>⟨.inl hn,hz⟩⟩
  ·obtain ⟨g,cs',vV,k1,k2,k3,k4,k5⟩:=h.dS i b e
   exact ⟨g,cs',vV,hx _ _ k1,k2,k3,SA.qG hx k4,k5⟩
 ·intro i x hx'
  obtain ⟨g,o,h1,h2,h3,h4⟩:=h.xo i x hx'
  exact ⟨g,o,hx _ _ h1,h2,XO.mono hx h3,h4⟩
 ·exact h.Nv hx
end
set_option linter.unusedVariables false
def uV:SA→Option (Array Value)
 | .pop a=>some a
 | .pre l=>(iy l).map List.toArray
 | .ls l=>(iy l).map List.toArray
 | _=>none
theorem PR {R R':aX} {x:SA} {a cs:Array Value} (h:uV x=some a) (hx:x.cH R cs):(SA.pop a).cH R' cs:=by
 cases x with
 | pop b=>cases h;exact hx
 | pre l =>
  obtain ⟨vs,e,rfl⟩:=Option.map_eq_some_iff.1 h
  have e1:=jJ e hx.1
  have e2:=aK.len_eq hx.1
  refine ⟨?_,hx.2⟩
  show cs.toList.take vs.length=vs
  have e3:vs.length=l.length:=by rw [← e1];exact e2.symm
  rw [e3]
  exact e1
 | ls l =>
  obtain ⟨vs,e,rfl⟩:=Option.map_eq_some_iff.1 h
  have e1:cs.toList=vs:=jJ e hx
  have e2:∀ v∈cs.toList,v.oneCell'=true:=SA.one (R:=R) (x:=.ls l) hx
  refine ⟨?_,e2⟩
  show cs.toList.take vs.length=vs
  rw [e1]
  exact List.take_length
 | _=>cases h
def AK (f:Nat→Nat→SV→Prop) (n:Nat) (a b:Array Value) (t t':TypeId) (s:SV) (m:aj):Prop:=∃ p q x y,n≤p∧n≤q∧p≠q∧f p q s∧aH m.bl p=some ⟨x,t,true⟩∧aH m.bl q=some ⟨y,t',true⟩∧uV x=some a∧uV y=some b
noncomputable def lp (m:aj) (a b:Array Value) (t t':TypeId):aj:=(m.new (.pop a) t).new (.pop b) t'
theorem aq.uy {E:Env} (hE:bf E) {g:FuncId} {fn:Func} {c:Code} {l l':List SV} {m ms:aj} {q:List Prop} {f:Nat→Nat→SV→Prop} {s0:Nat→Nat→SV} {a b:Array Value} {t t':TypeId} (h1:E.fn g=some fn) (h2:fn.body=some c) (hxs:ms.xs=[]) (ι:Nat→Nat)
  (hm:∀ i b,aH ms.bl i=some b→i<ms.next∧b.wr=false∧∃ d,aH m.bl (ι i)=some d∧b.ty=d.ty∧∀ R cs,d.arr.cH R cs→b.arr.cH (pull ι ms.next R) cs)
  (hl:∀ R vs,aK (SV.ok R) l vs→aK (SV.ok (pull ι ms.next R)) l' vs)
  (hf:∀ (R R':aX) (v:Value) (p q i j:Nat) (g1 g2:Loc) (s:SV),R p=some g1→R q=some g2→R' i=some g1→R' j=some g2→f p q s→s.ok R v→(s0 i j).ok R' v)
  (good:(∀ p∈q,p)→Good E.P (AK f ms.next a b t t') ms.next [a_ g fn.ntmps l' c] ms) :
  aq E g l m (bu q (.ret (s0 m.next (m.next+1)) (lp m a b t t'))):=by
 intro B hB
 obtain ⟨hq,hA⟩:=Tree.nG hB
 refine ⟨fn,h1,by rw [h2];rfl,fun n0 F w0 w R args hal hR=>?_⟩
 refine (rI (hE.fns _ _ h1).1 h2 (good hq) (hl R _ hal) (JD hxs hm hR)).mono ?_
 rintro v w' ⟨s,m',R',⟨p,z,x,y,hp,hz,hne,hs,dZ,e_,px,py⟩,hX,fq,hv⟩
 obtain ⟨gl,cs,fz,e1,e2,e3,e4,e5⟩:=fq.dS p _ dZ
 obtain ⟨e6,ez⟩:=e5 rfl
 have e7:w.heap.size≤gl.b:=e6.resolve_right fun x=>x
 obtain ⟨Ck,cs',vV,u1,u2,u3,u4,u5⟩:=fq.dS z _ e_
 obtain ⟨u6,uz⟩:=u5 rfl
 have u7:w.heap.size≤Ck.b:=u6.resolve_right fun x=>x
 have hd:gl.b≠Ck.b:=fun e=>hne (fq.inj p z gl Ck _ _ e1 u1 e dZ e_ (.inl rfl))
 obtain ⟨R2,k1,k2,k3⟩:=hR.grow fq.fr.to e7 (fq.lt p gl e1) e2 e3 (a:=.pop a) (PR (R':=R) px e4) ez
 have hfr:∀ i g,R2 i=some g→g.b≠Ck.b:=by
  intro i g e
  rcases k1.2.1 i g e with h | ⟨h,hi⟩
  ·have:=hR.lt i g h
   omega
  ·have hn:i<m.next+1:=k3.nx i g e
   obtain rfl:i=m.next:=by omega
   rw [k2] at e
   cases e
   exact hd
 obtain ⟨R3,x1,x2,x3,x4⟩:=k3.aea (a:=.pop b) (t:=t') (Nat.le_trans hR.base u7) u2 u3 (PR (R':=R2) py u4) (fun _ _ h=>h) uz hfr
 refine ⟨_,_,R3,hA,⟨fun i g e=>x1 _ _ (k1.1 _ _ e),fun i g e=>?_,k1.2.2.1,?_⟩,x4,hf R' R3 v p z _ _ gl Ck s e1 u1 (x1 _ _ k2) x3 hs hv⟩
 ·rcases x2 i g e with h | ⟨rfl,rfl⟩
  ·exact k1.2.1 i g h
  ·exact .inr ⟨u7,Nat.le_succ _⟩
 ·show m.next≤m.next+1+1
  omega
def xB (B N:Nat) (a b:Array Value) (x y:SF) (m:aj):Prop:=match x,y with
 | .slice p (.l 0) n _,.slice q (.l 0) k _=>(match aH m.bl p,aH m.bl q with
  | some ⟨x1,t,true⟩,some ⟨y1,t',true⟩=>(match uV x1,uV y1 with
   | some u,some v=>(Nat.ble B p&&Nat.ble B q&&!Nat.beq p q)=true∧n.den=N∧k.den=N∧u=a∧v=b∧t=3∧t'=111
   | _,_=>False)
  | _,_=>False)
 | _,_=>False
def yO (B N:Nat) (a b:Array Value) (s:SV) (m:aj):Prop:=match s with
 | .s (.agg (.ls [.f x,.f y]))=>xB B N a b x y m
 | _=>False
def Ve (N p q:Nat) (s:SV):Prop:=∃ n k c d,s=.s (.agg (.ls [.f (.slice p (.l 0) n c),.f (.slice q (.l 0) k d)]))∧n.den=N∧k.den=N
def Cf (N i j:Nat):SV:=.s (.agg (.ls [.f (.slice i (.l 0) (.o N) .any),.f (.slice j (.l 0) (.o N) .any)]))
theorem C0 {B N:Nat} {a b:Array Value} {x y:SF} {m:aj} (h:xB B N a b x y m):∃ p q n k c d x1 y1,x=.slice p (.l 0) n c∧y=.slice q (.l 0) k d∧n.den=N∧k.den=N∧B≤p∧B≤q∧p≠q∧aH m.bl p=some ⟨x1,3,true⟩∧aH m.bl q=some ⟨y1,111,true⟩∧uV x1=some a∧uV y1=some b:=by
 unfold xB at h
 split at h
 ·rename_i p n c q k d
  split at h
  ·rename_i x1 t y1 t' g1 g2
   split at h
   ·rename_i u v e1 e2
    obtain ⟨h0,h1,h2,rfl,rfl,rfl,rfl⟩:=h
    simp only [Bool.and_eq_true,Bool.not_eq_true',Nat.ble_eq] at h0
    exact ⟨p,q,n,k,c,d,x1,y1,rfl,rfl,h1,h2,h0.1.1,h0.1.2,fun e=>by subst e;simp at h0,g1,g2,e1,e2⟩
   ·exact h.elim
  ·exact h.elim
 ·exact h.elim
theorem Pw {B N:Nat} {a b:Array Value} {s:SV} {m:aj} (h:yO B N a b s m):AK (Ve N) B a b 3 111 s m:=by
 unfold yO at h
 split at h
 ·obtain ⟨p,q,n,k,c,d,x1,y1,rfl,rfl,h1,h2,h3,h4,h5,h6,h7,h8,h9⟩:=C0 h
  exact ⟨p,q,x1,y1,h3,h4,h5,⟨n,k,c,d,rfl,h1,h2⟩,h6,h7,h8,h9⟩
 ·exact h.elim
theorem uA (N:Nat):∀ (R R':aX) (v:Value) (p q i j:Nat) (g1 g2:Loc) (s:SV),R p=some g1→R q=some g2→R' i=some g1→R' j=some g2→Ve N p q s→s.ok R v→(Cf N i j).ok R' v:=by
 rintro R R' v p q i j g1 g2 s r1 r2 s1 s2 ⟨n,k,c,d,rfl,e1,e2⟩ hv
 obtain ⟨cs,rfl,hl⟩:=hv
 have hl:aK (SC.ok R) _ cs.toList:=hl
 refine ⟨cs,rfl,?_⟩
 show aK (SC.ok _) _ cs.toList
 match hc:cs.toList,hl with
 | [u,v],⟨⟨g,cp,k1,k2,k3,k4⟩,⟨g',nB,th,vO,M8,oq⟩,_⟩ =>
  rw [r1] at k1;rw [r2] at th
  cases k1;cases th
  exact ⟨⟨_,cp,s1,by rw [k2,e1],trivial,by rw [e1] at k4;exact k4⟩,⟨_,nB,s2,by rw [vO,e2],trivial,by rw [e2] at oq;exact oq⟩,trivial⟩
set_option maxRecDepth 100000
def qv (x:Array Value):Prop:=aA .i64 x 0∧aA .i64 x 1∧bY x (2:Nat)∧bY x (3:Nat)∧bY x (4:Nat)∧bY x (5:Nat)∧bY x (6:Nat)∧bY x (7:Nat)∧bY x (8:Nat)∧bY x (9:Nat)∧True
noncomputable def AI (x:Array Value):Array Value:=#[Value.int .i64 (aa x 0),Value.int .i64 (aa x 1),Value.bool (bq x (2:Nat)),Value.bool (bq x (3:Nat)),Value.bool (bq x (4:Nat)),Value.bool (bq x (5:Nat)),Value.bool (bq x (6:Nat)),Value.bool (bq x (7:Nat)),Value.bool (bq x (8:Nat)),Value.bool (bq x (9:Nat))]
noncomputable def ED (x:Array Value):List Value:=[Value.int .i64 (aa x 0),Value.int .i64 (aa x 1),Value.bool (bq x (2:Nat)),Value.bool (bq x (3:Nat)),Value.bool (bq x (4:Nat)),Value.bool (bq x (5:Nat)),Value.bool (bq x (6:Nat)),Value.bool (bq x (7:Nat)),Value.bool (bq x (8:Nat)),Value.bool (bq x (9:Nat))]
def AH (n:Nat) (a:Array Value):Prop:=(∃ l,a=aE l∧n=l.length∧n=l.length∧l.length≤200)∧True
noncomputable def xA (n:Nat) (b:Array Value):Array Value:=Array.extract b 0 (0+n*10)
theorem jw0 (ts:Array Value) (n:Nat) (a b:Array Value) (r:Int) (x:Array Value) (N:Nat) (a' b':Array Value):(run (yU ts) 1000 2 [a_ 56 Tryz.f56.ntmps [vS n,i64 (.o r),.s (.agg (.op x))] (Tryz.f56.body.getD .skip)] (fM a b)).vc (yO 2 N a' b') (fun _ _=>False) =
  ((decide (n=(0:Nat))=true→(decide (n=(0:Nat))=true→(AH n a)∧(decide (bS a r n (0:Nat)<0)=true→(qv x)∧true=true∧(1:Nat)=N∧(1:Nat)=N∧#[Value.int .i64 r]=a'∧(AI x)=b'∧(3:Nat)=(3:TypeId)∧(111:Nat)=(111:TypeId))∧(decide (bS a r n (0:Nat)<0)=false→(qv x)∧False))∧(decide (n=(0:Nat))=false→(0+n*10≤b.size∧(0:Nat)<n∧((0+n)*24≤140737488355328∧(0:Nat)+n≤140737488355328)∧True)∧(AH n a)∧(decide (bS a r n (0:Nat)<0)=true→(qv x)∧(((n+1)*24≤140737488355328∧n+1≤140737488355328)∧n*10=(xA n b).size∧True)∧true=true∧(1:Nat)=N∧n+1=N∧#[Value.int .i64 r]=a'∧Array.extract b 0 (0+n*10)++(AI x)=b'∧(3:Nat)=(3:TypeId)∧(111:Nat)=(111:TypeId))∧(decide (bS a r n (0:Nat)<0)=false→(qv x)∧((0≤bS a r n (0:Nat)∧bS a r n (0:Nat)<(↑n:Int))∧True)∧(0+(bS a r n (0:Nat)).toNat*10+(ED x).length≤(xA n b).size∧True)∧False)))∧(decide (n=(0:Nat))=false→(0+n*1≤a.size∧(0:Nat)<n∧((0+n)*8≤140737488355328∧(0:Nat)+n≤140737488355328)∧True)∧(decide (n=(0:Nat))=true→(AH n a)∧(decide (bS a r n (0:Nat)<0)=true→(((n+1)*8≤140737488355328∧n+1≤140737488355328)∧n*1=(Array.extract a 0 (0+n*1)).size∧True)∧(qv x)∧true=true∧n+1=N∧(1:Nat)=N∧Array.extract a 0 (0+n*1)++#[Value.int .i64 r]=a'∧(AI x)=b'∧(3:Nat)=(3:TypeId)∧(111:Nat)=(111:TypeId))∧(decide (bS a r n (0:Nat)<0)=false→(qv x)∧False))∧(decide (n=(0:Nat))=false→(0+n*10≤b.size∧(0:Nat)<n∧((0+n)*24≤140737488355328∧(0:Nat)+n≤140737488355328)∧True)∧(AH n a)∧(decide (bS a r n (0:Nat)<0)=true→(((n+1)*8≤140737488355328∧n+1≤140737488355328)∧n*1=(Array.extract a 0 (0+n*1)).size∧True)∧(qv x)∧(((n+1)*24≤140737488355328∧n+1≤140737488355328)∧n*10=(xA n b).size∧True)∧true=true∧n+1=N∧n+1=N∧Array.extract a 0 (0+n*1)++#[Value.int .i64 r]=a'∧Array.extract b 0 (0+n*10)++(AI x)=b'∧(3:Nat)=(3:TypeId)∧(111:Nat)=(111:TypeId))∧(decide (bS a r n (0:Nat)<0)=false→(qv x)∧((0≤bS a r n (0:Nat)∧bS a r n (0:Nat)<(↑n:Int))∧True)∧(0+(bS a r n (0:Nat)).toNat*10+(ED x).length≤(xA n b).size∧True)∧true=true∧n=N∧n=N∧Array.extract a 0 (0+n*1)=a'∧putAt (xA n b) (0+(bS a r n (0:Nat)).toNat*10) (ED x)=b'∧(3:Nat)=(3:TypeId)∧(111:Nat)=(111:TypeId))))):=by kernel_rfl
theorem jwZ (ts:Array Value) (r:Int) (x:Array Value) (N:Nat) (a' b':Array Value):(run (yU ts) 1000 0 [a_ 56 Tryz.f56.ntmps [ff,i64 (.o r),.s (.agg (.op x))] (Tryz.f56.body.getD .skip)] aT).vc (yO 0 N a' b') (fun _ _=>False) =
  ((aA .i64 x 0∧aA .i64 x 1∧bY x (2:Nat)∧bY x (3:Nat)∧bY x (4:Nat)∧bY x (5:Nat)∧bY x (6:Nat)∧bY x (7:Nat)∧bY x (8:Nat)∧bY x (9:Nat)∧True)∧true=true∧(1:Nat)=N∧(1:Nat)=N∧#[Value.int .i64 r]=a'∧#[Value.int .i64 (aa x 0),Value.int .i64 (aa x 1),Value.bool (bq x (2:Nat)),Value.bool (bq x (3:Nat)),Value.bool (bq x (4:Nat)),Value.bool (bq x (5:Nat)),Value.bool (bq x (6:Nat)),Value.bool (bq x (7:Nat)),Value.bool (bq x (8:Nat)),Value.bool (bq x (9:Nat))]=b'∧(3:Nat)=(3:TypeId)∧(111:Nat)=(111:TypeId)):=by kernel_rfl
structure gM (x:Array Value):Prop where
 i:aA .i64 x 0∧aA .i64 x 1∧bY x 2∧bY x 3∧bY x 4∧bY x 5∧bY x 6∧bY x 7∧bY x 8∧bY x 9
 r:#[Value.int .i64 (aa x 0),.int .i64 (aa x 1),.bool (bq x 2),.bool (bq x 3),.bool (bq x 4),.bool (bq x 5),.bool (bq x 6),.bool (bq x 7),.bool (bq x 8),.bool (bq x 9)]=x
theorem z_ (k t h:Int):gM (bT k t h):=⟨⟨rfl,rfl,rfl,rfl,rfl,rfl,rfl,rfl,rfl,rfl⟩,rfl⟩
theorem JC {a:Array Value} {r:Int}:∀ (k i:Nat),bS a r k i=-1∨((i:Int)≤bS a r k i∧bS a r k i<(i:Int)+k)
 | 0,_=>.inl rfl
 | k+1,i=>by
  unfold bS
  split
  ·exact .inr ⟨Int.le_refl _,by omega⟩
  ·rcases JC (a:=a) (r:=r) k (i+1) with h | ⟨h1,h2⟩
   ·exact .inl h
   ·exact .inr ⟨by omega,by omega⟩
def cz (a:Array Value) (r:Int) (n:Nat):Nat:=if bS a r n 0<0 then n+1 else n
def eC (a:Array Value) (r:Int) (n:Nat):Array Value:=if bS a r n 0<0 then a++#[.int .i64 r] else a
def eD (a b:Array Value) (r:Int) (n:Nat) (x:Array Value):Array Value:=if bS a r n 0<0 then b++x else putAt b ((bS a r n 0).toNat*10) x.toList
theorem Od (l:List Int):(aE l).size=l.length:=by simp [aE]
theorem QG {a:Array Value} {n:Nat} (h:a.size=n):a.extract 0 n=a:=by rw [← h];exact Array.extract_size
theorem aa3 (ts:Array Value) {n:Nat} {a b:Array Value} {r:Int} {x:Array Value} (ha:iT a n n) (hb:b.size=n*10) (hx:gM x) :
  Good Tryz.prog (yO 2 (cz a r n) (eC a r n) (eD a b r n x)) 2 [a_ 56 Tryz.f56.ntmps [vS n,i64 (.o r),.s (.agg (.op x))] (Tryz.f56.body.getD .skip)] (fM a b):=by
 obtain ⟨l,rfl,rfl,_,e3⟩:=ha
 refine bA (Aa ts) 1000 (jw0 ts l.length (aE l) b r x (cz (aE l) r l.length) (eC (aE l) r l.length) (eD (aE l) b r l.length x)) ?_ (fun s m h=>h) fun _ _ h=>h.elim
 unfold xA AH ED AI qv
 have sa:=Od l
 have xa:(aE l).extract 0 l.length=aE l:=QG sa
 have xb:b.extract 0 (l.length*10)=b:=QG hb
 have hex:∃ l',aE l=aE l'∧l.length=l'.length∧l.length=l'.length∧l'.length≤200:=⟨l,rfl,rfl,rfl,e3⟩
 have xr:=hx.r
 have xi:=hx.i
 by_cases c:l.length=0
 ·have hl:l=[]:=List.eq_nil_of_length_eq_zero c
  subst hl
  have hb0:b=#[]:=Array.eq_empty_of_size_eq_zero hb
  subst hb0
  have d:decide (bS (aE []) r ([]:List Int).length 0<0)=true:=rfl
  have w1:cz (aE []) r ([]:List Int).length=1:=rfl
  have w2:eC (aE []) r ([]:List Int).length=#[.int .i64 r]:=rfl
  have w3:eD (aE []) #[] r ([]:List Int).length x=x:=by
   show #[]++x=x
   simp
  have c0:decide (([]:List Int).length=0)=true:=rfl
  rw [w1,w2,w3]
  simp only [c0,d,hex,xi,xr,q6]
 ·have c0:decide (l.length=0)=false:=decide_eq_false c
  have z1:0<l.length:=by omega
  have z2:l.length*24≤140737488355328∧l.length≤140737488355328:=by omega
  have z3:l.length*8≤140737488355328∧l.length≤140737488355328:=by omega
  have z4:(l.length+1)*24≤140737488355328∧l.length+1≤140737488355328:=by omega
  have z5:(l.length+1)*8≤140737488355328∧l.length+1≤140737488355328:=by omega
  have z6:l.length*10≤b.size:=by omega
  have z7:l.length≤(aE l).size:=by omega
  by_cases p:bS (aE l) r l.length 0<0
  ·have d:decide (bS (aE l) r l.length 0<0)=true:=decide_eq_true p
   have w1:cz (aE l) r l.length=l.length+1:=if_pos p
   have w2:eC (aE l) r l.length=aE l++#[.int .i64 r]:=if_pos p
   have w3:eD (aE l) b r l.length x=b++x:=if_pos p
   rw [w1,w2,w3]
   simp only [Nat.zero_add,Nat.mul_one,c0,d,hex,xi,xr,xa,xb,sa,hb,z1,z2,z3,z4,z5,Nat.le_refl,q6]
  ·have d:decide (bS (aE l) r l.length 0<0)=false:=decide_eq_false p
   have w1:cz (aE l) r l.length=l.length:=if_neg p
   have w2:eC (aE l) r l.length=aE l:=if_neg p
   have w3:eD (aE l) b r l.length x=putAt b ((bS (aE l) r l.length 0).toNat*10) x.toList:=if_neg p
   have y:0≤bS (aE l) r l.length 0∧bS (aE l) r l.length 0<(l.length:Int):=by
    rcases JC (a:=aE l) (r:=r) l.length 0 with h | ⟨h1,h2⟩ <;> omega
   have y3:(bS (aE l) r l.length 0).toNat*10+10≤l.length*10:=by omega
   have xt:[Value.int .i64 (aa x 0),.int .i64 (aa x 1),.bool (bq x 2),.bool (bq x 3),.bool (bq x 4),.bool (bq x 5),.bool (bq x 6),.bool (bq x 7),.bool (bq x 8),.bool (bq x 9)]=x.toList:=congrArg Array.toList xr
   have xs:x.toList.length=10:=by rw [← xt];rfl
   rw [w1,w2,w3]
   simp only [xt,xs]
   simp only [Nat.zero_add,Nat.mul_one,c0,d,hex,xi,xa,xb,sa,hb,z1,z2,z3,y,y3,Nat.le_refl,q6]
theorem RZ:E0.fn 56=some Tryz.f56:=by kernel_rfl
theorem Pv:Tryz.f56.body=some (Tryz.f56.body.getD .skip):=by kernel_rfl
theorem WN {m:aj} {i j:Nat} {n k:SN} {c1 c2:SK} {a b:Array Value} {w1 w2:Bool} (r:Int) (x:Array Value) (dZ:aH m.bl i=some ⟨.pop a,3,w1⟩) (e_:aH m.bl j=some ⟨.pop b,111,w2⟩) :
  aq E0 56 [.s (.agg (.ls [.f (.slice i (.l 0) n c1),.f (.slice j (.l 0) k c2)])),i64 (.o r),.s (.agg (.op x))] m (bu [iT a n.den k.den,b.size=n.den*10,gM x] (.ret (Cf (cz a r n.den) m.next (m.next+1)) (lp m (eC a r n.den) (eD a b r n.den x) 3 111))):=by
 refine aq.asked fun hq=>?_
 have ha:iT a n.den k.den:=hq _ (by simp)
 have hb:b.size=n.den*10:=hq _ (by simp)
 have hx:gM x:=hq _ (by simp)
 obtain ⟨l,el,e1,e2,e3⟩:=ha
 have hn:iT a n.den n.den:=⟨l,el,e1,e1,e3⟩
 refine (show aq E0 56 _ m (bu [] _) from aq.uy aU RZ Pv rfl (fun q=>if q=0 then i else j) (m4 dZ e_) (l':=[vS n.den,i64 (.o r),.s (.agg (.op x))]) (fun R vs ha=>?_) (uA (cz a r n.den)) (fun _=>(aa3 #[] hn hb hx).mono fun s m h=>Pw h))
 match vs,ha with
 | [u,v,z],ha=>exact ⟨o9 rfl (e2.trans e1.symm) rfl ha.1,ha.2.1,ha.2.2.1,trivial⟩
theorem WO (r:Int) (x:Array Value) (m:aj):aq E0 56 [ff,i64 (.o r),.s (.agg (.op x))] m (bu [gM x] (.ret (Cf 1 m.next (m.next+1)) (lp m #[.int .i64 r] x 3 111))):=by
 refine aq.uy aU RZ Pv rfl (fun q=>q) (ms:=aT) (fun i b hb=>?_) (l':=[ff,i64 (.o r),.s (.agg (.op x))]) (fun R vs ha=>?_) (uA 1) fun hq=>?_
 ·have hb:(Tr.nil:Tr bN).get i=some b:=hb
  rw [Tr.get_nil] at hb
  cases hb
 ·exact mw rfl ha
 ·have hx:gM x:=hq _ (by simp)
  refine (bA (Aa #[]) 1000 (jwZ #[] r x 1 #[.int .i64 r] x) ?_ (fun s m h=>h) fun _ _ h=>h.elim:Good Tryz.prog (yO 0 1 #[.int .i64 r] x) 0 _ aT).mono fun s m h=>Pw h
  simp only [hx.i,hx.r,and_true,true_and]
set_option linter.unusedVariables false
def KN:SA→Option (Array Value)
 | .op x=>some x
 | .ls l=>(iy l).map List.toArray
 | _=>none
theorem Px {R:aX} {x:SA} {a:Array Value} {v:Value} (h:KN x=some a) (hv:(SV.s (.agg x)).ok R v):(SV.s (.agg (.op a))).ok R v:=by
 cases x with
 | op b=>cases h;exact hv
 | ls l =>
  obtain ⟨vs,e,rfl⟩:=Option.map_eq_some_iff.1 h
  obtain ⟨cs,rfl,hx⟩:=hv
  have e1:cs.toList=vs:=jJ e hx
  have e2:∀ v∈cs.toList,v.oneCell'=true:=SA.one (R:=R) (x:=.ls l) hx
  exact ⟨cs,rfl,by rw [← e1],e2⟩
 | _=>cases h
noncomputable def AJ (os ts:Array Value) (g:FuncId) (l:List SV) (m:aj):Option Tree:=match g,l with
 | 56,[.s (.agg (.ls [.f (.slice i (.l 0) n c1),.f (.slice j (.l 0) k c2)])),.s (.c (.f (.int .i64 r))),.s (.agg y)]=>(match aH m.bl i,aH m.bl j,KN y with
  | some ⟨.pop a,3,_⟩,some ⟨.pop b,111,_⟩,some x=>some (bu [iT a n.den k.den,b.size=n.den*10,gM x] (.ret (Cf (cz a r.den n.den) m.next (m.next+1)) (lp m (eC a r.den n.den) (eD a b r.den n.den x) 3 111)))
  | _,_,_=>none)
 | 56,[.s (.agg (.ls [.f (.lit (.slice none 0 0)),.f (.lit (.slice none 0 0))])),.s (.c (.f (.int .i64 r))),.s (.agg y)]=>(match KN y with
  | some x=>some (bu [gM x] (.ret (Cf 1 m.next (m.next+1)) (lp m #[.int .i64 r.den] x 3 111)))
  | none=>none)
 | 55,[.s (.agg (.op ws)),.s (.c (.f (.int .i64 h)))]=>some (bu [SW ts ws,ay ts] (.ret (i64 (.o (aI ts h.den))) m))
 | 37,[.s (.agg (.ls [.f (.slice i (.l 0) n c1),.f (.slice j (.l 0) k c2)])),.s (.agg (.op ws)),.s (.c (.f (.int .i64 h)))]=>(match aH m.bl i,aH m.bl j with
  | some ⟨.pop a,3,_⟩,some ⟨.pop b,111,_⟩=>some (.need [SW ts ws,ay ts,bZ os ts a b n.den k.den] (.ret (.s (.agg (.op (bT (aW os ts h.den) (bt os ts h.den) (aR os ts h.den))))) m))
  | _,_=>none)
 | 37,[.s (.agg (.ls [.f (.lit (.slice none 0 0)),.f (.lit (.slice none 0 0))])),.s (.agg (.op ws)),.s (.c (.f (.int .i64 h)))]=>some (bu [SW ts ws,ay ts,dP os ts] (.ret (.s (.agg (.op (bT (aW os ts h.den) (bt os ts h.den) (aR os ts h.den))))) m))
 | _,_=>none
noncomputable def Cg (os ts:Array Value):Env:=⟨Tryz.prog,dg,AJ os ts,dy []⟩
theorem Ip (os ts:Array Value):∀ g l m t,AJ os ts g l m=some t→aq E0 g l m t:=by
 intro g l m t h
 unfold AJ at h
 split at h
 ·rename_i i n c1 j k c2 r y
  split at h
  ·rename_i a w1 b w2 x h1 h2 h3;cases h
   refine aq.args (l':=[.s (.agg (.ls [.f (.slice i (.l 0) n c1),.f (.slice j (.l 0) k c2)])),i64 (.o r.den),.s (.agg (.op x))]) (fun R vs ha=>by
    match vs,ha with
    | [u,v,w],ha=>exact ⟨ha.1,ha.2.1,Px h3 ha.2.2.1,trivial⟩) ?_
   exact WN r.den x h1 h2
  ·cases h
 ·rename_i r y
  split at h
  ·rename_i x h3;cases h
   refine aq.args (l':=[ff,i64 (.o r.den),.s (.agg (.op x))]) (fun R vs ha=>by
    match vs,ha with
    | [u,v,w],ha=>exact ⟨ha.1,ha.2.1,Px h3 ha.2.2.1,trivial⟩) ?_
   exact WO r.den x m
  ·cases h
 ·rename_i ws x;cases h
  exact aq.n1 (WQ x.den m)
 ·rename_i i n c1 j k c2 ws x
  split at h
  ·rename_i a w1 b w2 h1 h2;cases h
   refine aq.args (l':=[.s (.agg (.ls [.f (.slice i (.l 0) n c1),.f (.slice j (.l 0) k c2)])),bg ws,i64 (.o x.den)]) (fun R vs ha=>by
    match vs,ha with
    | [u,v,w],ha=>exact ⟨ha.1,ha.2.1,ha.2.2.1,trivial⟩) ?_
   exact Zj x.den h1 h2
  ·cases h
 ·rename_i ws x;cases h
  refine aq.args (l':=[ff,bg ws,i64 (.o x.den)]) (fun R vs ha=>by
   match vs,ha with
   | [u,v,w],ha=>exact ⟨ha.1,ha.2.1,ha.2.2.1,trivial⟩) ?_
  exact Zk x.den m
 ·cases h
theorem DL (os ts:Array Value):bf (Cg os ts):=bf.with aU _ _ (Ip os ts)
set_option linter.unusedVariables false
def yP (B N:Nat) (a' b':Array Value) (s:SV) (m:aj):Prop:=match s with
 | .bW [.agg (.ls [.f x,.f y]),.c (.f (.int .i64 e))]=>xB B N a' b' x y m∧e.den=0
 | _=>False
def Nc (n:Nat) (e0:Int) (s:SV) (m:aj):Prop:=match s with
 | .bW [.agg (.ls [.f (.slice 0 (.l 0) k _),.f (.slice 1 (.l 0) k' _)]),.c (.f (.int .i64 e))]=>k.den=n∧k'.den=n∧e.den=e0
 | _=>False
def GR (e0:Int) (s:SV) (m:aj):Prop:=match s with
 | .bW [.agg (.ls [.f (.lit (.slice none 0 0)),.f (.lit (.slice none 0 0))]),.c (.f (.int .i64 e))]=>e.den=e0
 | _=>False
def iV (k t:Int):Array Value:=#[.int .i64 k,.int .i64 t,.bool false,.bool false,.bool false,.bool false,.bool false,.bool false,.bool false,.bool false]
def gU (k t u:Int):Array Value:=(iV k t).setIfInBounds (2+u.toNat*1) (.bool true)
def jF (x:Array Value):Array Value:=#[.int .i64 (aa x 0),.int .i64 (aa x 1),.bool (bq x 2),.bool (bq x 3),.bool (bq x 4),.bool (bq x 5),.bool (bq x 6),.bool (bq x 7),.bool (bq x 8),.bool (bq x 9)]
def qS (x:Array Value):Prop:=aA .i64 x 0∧aA .i64 x 1∧bY x 2∧bY x 3∧bY x 4∧bY x 5∧bY x 6∧bY x 7∧bY x 8∧bY x 9∧True
set_option maxRecDepth 100000
def EE (ts:Array Value) (a:Array Value) (b:Array Value) (n:Nat) (h:Int) (t:Int) (k:Int) (N:Nat) (a':Array Value) (b':Array Value):Prop:=(aI ts h != 0)=false→((k==1)=true→((k==3)=true→((0≤t∧t<8)∧True)∧(2+t.toNat*1<(10:Nat)∧True)∧(qS (gU k t t))∧((∃ l,a=aE l∧n=l.length∧n=l.length∧l.length≤200)∧b.size=n*10∧gM (jF (gU k t t))∧True)∧(true=true∧cz a h n=N∧cz a h n=N∧eC a h n=a'∧eD a b h n (jF (gU k t t))=b'∧3=3∧111=111)∧(0:Int)=(0:Int))∧((k==3)=false→((∃ l,a=aE l∧n=l.length∧n=l.length∧l.length≤200)∧b.size=n*10∧gM (iV k t)∧True)∧(true=true∧cz a h n=N∧cz a h n=N∧eC a h n=a'∧eD a b h n (iV k t)=b'∧3=3∧111=111)∧(0:Int)=(0:Int)))∧((k==1)=false→((k==3)=true→((0≤t∧t<8)∧True)∧(2+t.toNat*1<(10:Nat)∧True)∧(qS (gU k (0:Int) t))∧((∃ l,a=aE l∧n=l.length∧n=l.length∧l.length≤200)∧b.size=n*10∧gM (jF (gU k (0:Int) t))∧True)∧(true=true∧cz a h n=N∧cz a h n=N∧eC a h n=a'∧eD a b h n (jF (gU k (0:Int) t))=b'∧3=3∧111=111)∧(0:Int)=(0:Int))∧((k==3)=false→((∃ l,a=aE l∧n=l.length∧n=l.length∧l.length≤200)∧b.size=n*10∧gM (iV k (0:Int))∧True)∧(true=true∧cz a h n=N∧cz a h n=N∧eC a h n=a'∧eD a b h n (iV k (0:Int))=b'∧3=3∧111=111)∧(0:Int)=(0:Int)))
theorem js0 (os ts ws a b:Array Value) (n:Nat) (h t k:Int) (N:Nat) (a' b':Array Value):(run (Cg os ts) 1000 2 [a_ 20 Tryz.f20.ntmps [vS n,bg ws,i64 (.o h),i64 (.o t),i64 (.o k)] (Tryz.f20.body.getD .skip)] (fM a b)).vc (yP 2 N a' b') (fun _ _=>False) =
  ((ws.size=448∧True)∧(SW ts ws∧ay ts∧True)∧(((aI ts h==0)==true)=true→(((k != 2)==true)=true→((decide (t<0)==false)=true→(decide (t>7)=true→False∧(2:Int)=(0:Int))∧(decide (t>7)=false→((aI ts h != 0)=true→False∧aI ts h=0)∧(EE ts a b n h t k N a' b')))∧((decide (t<0)==false)=false→False∧(2:Int)=(0:Int)))∧(((k != 2)==true)=false→((aI ts h != 0)=true→False∧aI ts h=0)∧(EE ts a b n h t k N a' b')))∧(((aI ts h==0)==true)=false→((aI ts h != 0)=true→False∧aI ts h=0)∧(EE ts a b n h t k N a' b'))):=by kernel_rfl
def EF (ts:Array Value) (a:Array Value) (b:Array Value) (n:Nat) (h:Int) (t:Int) (k:Int):Prop:=(aI ts h != 0)=false→((k==1)=true→((k==3)=true→((0≤t∧t<8)∧True)∧(2+t.toNat*1<(10:Nat)∧True)∧(qS (gU k t t))∧((∃ l,a=aE l∧n=l.length∧n=l.length∧l.length≤200)∧b.size=n*10∧gM (jF (gU k t t))∧True)∧False)∧((k==3)=false→((∃ l,a=aE l∧n=l.length∧n=l.length∧l.length≤200)∧b.size=n*10∧gM (iV k t)∧True)∧False))∧((k==1)=false→((k==3)=true→((0≤t∧t<8)∧True)∧(2+t.toNat*1<(10:Nat)∧True)∧(qS (gU k (0:Int) t))∧((∃ l,a=aE l∧n=l.length∧n=l.length∧l.length≤200)∧b.size=n*10∧gM (jF (gU k (0:Int) t))∧True)∧False)∧((k==3)=false→((∃ l,a=aE l∧n=l.length∧n=l.length∧l.length≤200)∧b.size=n*10∧gM (iV k (0:Int))∧True)∧False))
theorem js1 (os ts ws a b:Array Value) (n:Nat) (h t k:Int) (e:Int):(run (Cg os ts) 1000 2 [a_ 20 Tryz.f20.ntmps [vS n,bg ws,i64 (.o h),i64 (.o t),i64 (.o k)] (Tryz.f20.body.getD .skip)] (fM a b)).vc (Nc n e) (fun _ _=>False) =
  ((ws.size=448∧True)∧(SW ts ws∧ay ts∧True)∧(((aI ts h==0)==true)=true→(((k != 2)==true)=true→((decide (t<0)==false)=true→(decide (t>7)=true→n=n∧n=n∧(2:Int)=e)∧(decide (t>7)=false→((aI ts h != 0)=true→n=n∧n=n∧aI ts h=e)∧(EF ts a b n h t k)))∧((decide (t<0)==false)=false→n=n∧n=n∧(2:Int)=e))∧(((k != 2)==true)=false→((aI ts h != 0)=true→n=n∧n=n∧aI ts h=e)∧(EF ts a b n h t k)))∧(((aI ts h==0)==true)=false→((aI ts h != 0)=true→n=n∧n=n∧aI ts h=e)∧(EF ts a b n h t k))):=by kernel_rfl
def EG (ts:Array Value) (h:Int) (t:Int) (k:Int) (a':Array Value) (b':Array Value):Prop:=(aI ts h != 0)=false→((k==1)=true→((k==3)=true→((0≤t∧t<8)∧True)∧(2+t.toNat*1<(10:Nat)∧True)∧(qS (gU k t t))∧(gM (jF (gU k t t))∧True)∧(true=true∧(1:Nat)=1∧(1:Nat)=1∧#[Value.int .i64 h]=a'∧(jF (gU k t t))=b'∧3=3∧111=111)∧(0:Int)=(0:Int))∧((k==3)=false→(gM (iV k t)∧True)∧(true=true∧(1:Nat)=1∧(1:Nat)=1∧#[Value.int .i64 h]=a'∧(iV k t)=b'∧3=3∧111=111)∧(0:Int)=(0:Int)))∧((k==1)=false→((k==3)=true→((0≤t∧t<8)∧True)∧(2+t.toNat*1<(10:Nat)∧True)∧(qS (gU k (0:Int) t))∧(gM (jF (gU k (0:Int) t))∧True)∧(true=true∧(1:Nat)=1∧(1:Nat)=1∧#[Value.int .i64 h]=a'∧(jF (gU k (0:Int) t))=b'∧3=3∧111=111)∧(0:Int)=(0:Int))∧((k==3)=false→(gM (iV k (0:Int))∧True)∧(true=true∧(1:Nat)=1∧(1:Nat)=1∧#[Value.int .i64 h]=a'∧(iV k (0:Int))=b'∧3=3∧111=111)∧(0:Int)=(0:Int)))
theorem jz0 (os ts ws:Array Value) (h t k:Int) (a' b':Array Value):(run (Cg os ts) 1000 0 [a_ 20 Tryz.f20.ntmps [ff,bg ws,i64 (.o h),i64 (.o t),i64 (.o k)] (Tryz.f20.body.getD .skip)] aT).vc (yP 0 1 a' b') (fun _ _=>False) =
  ((ws.size=448∧True)∧(SW ts ws∧ay ts∧True)∧(((aI ts h==0)==true)=true→(((k != 2)==true)=true→((decide (t<0)==false)=true→(decide (t>7)=true→False∧(2:Int)=(0:Int))∧(decide (t>7)=false→((aI ts h != 0)=true→False∧aI ts h=0)∧(EG ts h t k a' b')))∧((decide (t<0)==false)=false→False∧(2:Int)=(0:Int)))∧(((k != 2)==true)=false→((aI ts h != 0)=true→False∧aI ts h=0)∧(EG ts h t k a' b')))∧(((aI ts h==0)==true)=false→((aI ts h != 0)=true→False∧aI ts h=0)∧(EG ts h t k a' b'))):=by kernel_rfl
def EI (ts:Array Value) (h:Int) (t:Int) (k:Int):Prop:=(aI ts h != 0)=false→((k==1)=true→((k==3)=true→((0≤t∧t<8)∧True)∧(2+t.toNat*1<(10:Nat)∧True)∧(qS (gU k t t))∧(gM (jF (gU k t t))∧True)∧False)∧((k==3)=false→(gM (iV k t)∧True)∧False))∧((k==1)=false→((k==3)=true→((0≤t∧t<8)∧True)∧(2+t.toNat*1<(10:Nat)∧True)∧(qS (gU k (0:Int) t))∧(gM (jF (gU k (0:Int) t))∧True)∧False)∧((k==3)=false→(gM (iV k (0:Int))∧True)∧False))
theorem jz1 (os ts ws:Array Value) (h t k:Int) (e:Int):(run (Cg os ts) 1000 0 [a_ 20 Tryz.f20.ntmps [ff,bg ws,i64 (.o h),i64 (.o t),i64 (.o k)] (Tryz.f20.body.getD .skip)] aT).vc (GR e) (fun _ _=>False) =
  ((ws.size=448∧True)∧(SW ts ws∧ay ts∧True)∧(((aI ts h==0)==true)=true→(((k != 2)==true)=true→((decide (t<0)==false)=true→(decide (t>7)=true→(2:Int)=e)∧(decide (t>7)=false→((aI ts h != 0)=true→aI ts h=e)∧(EI ts h t k)))∧((decide (t<0)==false)=false→(2:Int)=e))∧(((k != 2)==true)=false→((aI ts h != 0)=true→aI ts h=e)∧(EI ts h t k)))∧(((aI ts h==0)==true)=false→((aI ts h != 0)=true→aI ts h=e)∧(EI ts h t k))):=by kernel_rfl
set_option linter.unusedVariables false
def gB (k t:Int):Array Value:=if k=3 then jF (gU k 0 t) else if k=1 then iV k t else iV k 0
theorem EJ (k t:Int):iV k t=bT k t 0:=by kernel_rfl
theorem KO (k:Int) {t:Int} (h0:0≤t) (h1:t<8):jF (gU k 0 t)=bT k 0 (2 ^ t.toNat):=by
 rcases (by omega:t=0∨t=1∨t=2∨t=3∨t=4∨t=5∨t=6∨t=7) with rfl | rfl | rfl | rfl | rfl | rfl | rfl | rfl <;> kernel_rfl
theorem S8 (k:Int) {t:Int} (h0:0≤t) (h1:t<8):qS (gU k 0 t):=by
 rcases (by omega:t=0∨t=1∨t=2∨t=3∨t=4∨t=5∨t=6∨t=7) with rfl | rfl | rfl | rfl | rfl | rfl | rfl | rfl <;> exact ⟨rfl,rfl,rfl,rfl,rfl,rfl,rfl,rfl,rfl,rfl,trivial⟩
section
variable {ts ws a b:Array Value} {n:Nat} {h t k:Int}
theorem Zl (w:SW ts ws) (hf:ay ts) (ha:iT a n n) (hb:b.size=n*10) (hk:k=1∨k=2∨k=3) (he:aI ts h=0) (ht:k≠2→0≤t∧t<8) :
  Good Tryz.prog (yP 2 (cz a h n) (eC a h n) (eD a b h n (gB k t))) 2 [a_ 20 Tryz.f20.ntmps [vS n,bg ws,i64 (.o h),i64 (.o t),i64 (.o k)] (Tryz.f20.body.getD .skip)] (fM a b):=by
 refine bA (DL #[] ts) 1000 (js0 #[] ts ws a b n h t k (cz a h n) (eC a h n) (eD a b h n (gB k t))) ?_ (fun s m h=>h) fun _ _ h=>h.elim
 unfold EE
 have hz:=w.sz
 have hex:∃ l,a=aE l∧n=l.length∧n=l.length∧l.length≤200:=ha
 have x0:∀ k t,gM (iV k t):=fun k t=>by rw [EJ];exact z_ _ _ _
 rcases hk with rfl | rfl | rfl
 ·obtain ⟨t0,t1⟩:=ht (by decide)
  have d1:decide (t<0)=false:=decide_eq_false (by omega)
  have d2:decide (t>7)=false:=decide_eq_false (by omega)
  have e:gB 1 t=iV 1 t:=rfl
  have c1:((1:Int) != 2)=true:=rfl
  have c2:((1:Int)==1)=true:=rfl
  have c3:((1:Int)==3)=false:=rfl
  have c4:((0:Int)==0)=true:=rfl
  have c5:((0:Int) != 0)=false:=rfl
  rw [e]
  simp only [hz,w,hf,hex,hb,he,d1,d2,x0,c1,c2,c3,c4,c5,beq_self_eq_true,BEq.rfl,q6]
 ·have e:gB 2 t=iV 2 0:=rfl
  have c1:((2:Int) != 2)=false:=rfl
  have c2:((2:Int)==1)=false:=rfl
  have c3:((2:Int)==3)=false:=rfl
  have c4:((0:Int)==0)=true:=rfl
  have c5:((0:Int) != 0)=false:=rfl
  have c6:(false==true)=false:=rfl
  rw [e]
  simp only [hz,w,hf,hex,hb,he,x0,c1,c2,c3,c4,c5,c6,beq_self_eq_true,BEq.rfl,q6]
 ·obtain ⟨t0,t1⟩:=ht (by decide)
  have d1:decide (t<0)=false:=decide_eq_false (by omega)
  have d2:decide (t>7)=false:=decide_eq_false (by omega)
  have e:gB 3 t=jF (gU 3 0 t):=rfl
  have c1:((3:Int) != 2)=true:=rfl
  have c2:((3:Int)==1)=false:=rfl
  have c3:((3:Int)==3)=true:=rfl
  have c4:((0:Int)==0)=true:=rfl
  have c5:((0:Int) != 0)=false:=rfl
  have x1:gM (jF (gU 3 0 t)):=by rw [KO 3 t0 t1];exact z_ _ _ _
  have x2:=S8 3 t0 t1
  have x3:2+t.toNat*1<10:=by omega
  rw [e]
  simp only [hz,w,hf,hex,hb,he,d1,d2,x0,x1,x2,x3,t0,t1,c1,c2,c3,c4,c5,beq_self_eq_true,BEq.rfl,q6]
theorem Zm (w:SW ts ws) (hf:ay ts) (hk:k=1∨k=2∨k=3) (he:aI ts h=0) (ht:k≠2→0≤t∧t<8) :
  Good Tryz.prog (yP 0 1 #[.int .i64 h] (gB k t)) 0 [a_ 20 Tryz.f20.ntmps [ff,bg ws,i64 (.o h),i64 (.o t),i64 (.o k)] (Tryz.f20.body.getD .skip)] aT:=by
 refine bA (DL #[] ts) 1000 (jz0 #[] ts ws h t k #[.int .i64 h] (gB k t)) ?_ (fun s m h=>h) fun _ _ h=>h.elim
 unfold EG
 have hz:=w.sz
 have x0:∀ k t,gM (iV k t):=fun k t=>by rw [EJ];exact z_ _ _ _
 rcases hk with rfl | rfl | rfl
 ·obtain ⟨t0,t1⟩:=ht (by decide)
  have d1:decide (t<0)=false:=decide_eq_false (by omega)
  have d2:decide (t>7)=false:=decide_eq_false (by omega)
  have e:gB 1 t=iV 1 t:=rfl
  have c1:((1:Int) != 2)=true:=rfl
  have c2:((1:Int)==1)=true:=rfl
  have c3:((1:Int)==3)=false:=rfl
  have c4:((0:Int)==0)=true:=rfl
  have c5:((0:Int) != 0)=false:=rfl
  rw [e]
  simp only [hz,w,hf,he,d1,d2,x0,c1,c2,c3,c4,c5,beq_self_eq_true,BEq.rfl,q6]
 ·have e:gB 2 t=iV 2 0:=rfl
  have c1:((2:Int) != 2)=false:=rfl
  have c2:((2:Int)==1)=false:=rfl
  have c3:((2:Int)==3)=false:=rfl
  have c4:((0:Int)==0)=true:=rfl
  have c5:((0:Int) != 0)=false:=rfl
  have c6:(false==true)=false:=rfl
  rw [e]
  simp only [hz,w,hf,he,x0,c1,c2,c3,c4,c5,c6,beq_self_eq_true,BEq.rfl,q6]
 ·obtain ⟨t0,t1⟩:=ht (by decide)
  have d1:decide (t<0)=false:=decide_eq_false (by omega)
  have d2:decide (t>7)=false:=decide_eq_false (by omega)
  have e:gB 3 t=jF (gU 3 0 t):=rfl
  have c1:((3:Int) != 2)=true:=rfl
  have c2:((3:Int)==1)=false:=rfl
  have c3:((3:Int)==3)=true:=rfl
  have c4:((0:Int)==0)=true:=rfl
  have c5:((0:Int) != 0)=false:=rfl
  have x1:gM (jF (gU 3 0 t)):=by rw [KO 3 t0 t1];exact z_ _ _ _
  have x2:=S8 3 t0 t1
  have x3:2+t.toNat*1<10:=by omega
  rw [e]
  simp only [hz,w,hf,he,d1,d2,x0,x1,x2,x3,t0,t1,c1,c2,c3,c4,c5,beq_self_eq_true,BEq.rfl,q6]
def bQ (ts:Array Value) (h t k:Int):Int:=if aI ts h=0 then (if k≠2∧(t<0∨7<t) then 2 else 0) else aI ts h
theorem Zn (w:SW ts ws) (hf:ay ts) (he:bQ ts h t k≠0) :
  Good Tryz.prog (Nc n (bQ ts h t k)) 2 [a_ 20 Tryz.f20.ntmps [vS n,bg ws,i64 (.o h),i64 (.o t),i64 (.o k)] (Tryz.f20.body.getD .skip)] (fM a b):=by
 refine bA (DL #[] ts) 1000 (js1 #[] ts ws a b n h t k (bQ ts h t k)) ?_ (fun s m h=>h) fun _ _ h=>h.elim
 unfold EF
 have hz:=w.sz
 by_cases c:aI ts h=0
 ·have e:bQ ts h t k=if k≠2∧(t<0∨7<t) then 2 else 0:=if_pos c
  by_cases d:k≠2∧(t<0∨7<t)
  ·have e2:bQ ts h t k=2:=e.trans (if_pos d)
   have d0:(k != 2)=true:=bne_iff_ne.2 d.1
   have c4:((0:Int)==0)=true:=rfl
   rw [e2]
   by_cases d1:t<0
   ·have nD:decide (t<0)=true:=decide_eq_true d1
    have c6:(true==false)=false:=rfl
    simp only [hz,w,hf,c,c4,d0,nD,c6,beq_self_eq_true,q6]
   ·have nD:decide (t<0)=false:=decide_eq_false d1
    have d2:decide (t>7)=true:=decide_eq_true (by omega)
    simp only [hz,w,hf,c,c4,d0,nD,d2,beq_self_eq_true,q6]
  ·exact absurd (e.trans (if_neg d)) he
 ·have e:bQ ts h t k=aI ts h:=if_neg c
  rw [e]
  have c4:(aI ts h==0)=false:=beq_eq_false_iff_ne.2 c
  have c5:(aI ts h != 0)=true:=bne_iff_ne.2 c
  have c6:(false==true)=false:=rfl
  simp only [hz,w,hf,c4,c5,c6,beq_self_eq_true,q6]
theorem Zo (w:SW ts ws) (hf:ay ts) (he:bQ ts h t k≠0) :
  Good Tryz.prog (GR (bQ ts h t k)) 0 [a_ 20 Tryz.f20.ntmps [ff,bg ws,i64 (.o h),i64 (.o t),i64 (.o k)] (Tryz.f20.body.getD .skip)] aT:=by
 refine bA (DL #[] ts) 1000 (jz1 #[] ts ws h t k (bQ ts h t k)) ?_ (fun s m h=>h) fun _ _ h=>h.elim
 unfold EI
 have hz:=w.sz
 by_cases c:aI ts h=0
 ·have e:bQ ts h t k=if k≠2∧(t<0∨7<t) then 2 else 0:=if_pos c
  by_cases d:k≠2∧(t<0∨7<t)
  ·have e2:bQ ts h t k=2:=e.trans (if_pos d)
   have d0:(k != 2)=true:=bne_iff_ne.2 d.1
   have c4:((0:Int)==0)=true:=rfl
   rw [e2]
   by_cases d1:t<0
   ·have nD:decide (t<0)=true:=decide_eq_true d1
    have c6:(true==false)=false:=rfl
    simp only [hz,w,hf,c,c4,d0,nD,c6,beq_self_eq_true,q6]
   ·have nD:decide (t<0)=false:=decide_eq_false d1
    have d2:decide (t>7)=true:=decide_eq_true (by omega)
    simp only [hz,w,hf,c,c4,d0,nD,d2,beq_self_eq_true,q6]
  ·exact absurd (e.trans (if_neg d)) he
 ·have e:bQ ts h t k=aI ts h:=if_neg c
  rw [e]
  have c4:(aI ts h==0)=false:=beq_eq_false_iff_ne.2 c
  have c5:(aI ts h != 0)=true:=bne_iff_ne.2 c
  have c6:(false==true)=false:=rfl
  simp only [hz,w,hf,c4,c5,c6,beq_self_eq_true,q6]
end
set_option linter.unusedVariables false
def UX (N p q:Nat) (s:SV):Prop:=∃ n k c d e,s=.bW [.agg (.ls [.f (.slice p (.l 0) n c),.f (.slice q (.l 0) k d)]),.c (.f (.int .i64 e))]∧n.den=N∧k.den=N∧e.den=0
def Ch (N i j:Nat):SV:=.bW [.agg (.ls [.f (.slice i (.l 0) (.o N) .any),.f (.slice j (.l 0) (.o N) .any)]),.c (.f (.int .i64 (.l 0)))]
theorem Py {B N:Nat} {a b:Array Value} {s:SV} {m:aj} (h:yP B N a b s m):AK (UX N) B a b 3 111 s m:=by
 unfold yP at h
 split at h
 ·rename_i e
  obtain ⟨h,he⟩:=h
  obtain ⟨p,q,n,k,c,d,x1,y1,rfl,rfl,h1,h2,h3,h4,h5,h6,h7,h8,h9⟩:=C0 h
  exact ⟨p,q,x1,y1,h3,h4,h5,⟨n,k,c,d,e,rfl,h1,h2,he⟩,h6,h7,h8,h9⟩
 ·exact h.elim
theorem S9 (N:Nat):∀ (R R':aX) (v:Value) (p q i j:Nat) (g1 g2:Loc) (s:SV),R p=some g1→R q=some g2→R' i=some g1→R' j=some g2→UX N p q s→s.ok R v→(Ch N i j).ok R' v:=by
 rintro R R' v p q i j g1 g2 s r1 r2 s1 s2 ⟨n,k,c,d,e,rfl,e1,e2,e3⟩ hv
 obtain ⟨vs,rfl,hl⟩:=hv
 match hc:vs.toList,hl with
 | [u,z],⟨hu,hz,_⟩ =>
  refine ⟨vs,rfl,?_⟩
  rw [hc]
  refine ⟨uA N R R' u p q i j g1 g2 _ r1 r2 s1 s2 ⟨n,k,c,d,rfl,e1,e2⟩ hu,?_,trivial⟩
  have hz:z=.int .i64 e.den:=hz
  rw [e3] at hz
  exact hz
theorem EK:E0.fn 20=some Tryz.f20:=by kernel_rfl
theorem Dp:Tryz.f20.body=some (Tryz.f20.body.getD .skip):=by kernel_rfl
section
variable {ts ws a b:Array Value} {h t k:Int}
def BJ (ts:Array Value) (h t k:Int):Prop:=(k=1∨k=2∨k=3)∧aI ts h=0∧(k≠2→0≤t∧t<8)
theorem X6 {m:aj} {i j:Nat} {n k':SN} {c1 c2:SK} {w1 w2:Bool} (dZ:aH m.bl i=some ⟨.pop a,3,w1⟩) (e_:aH m.bl j=some ⟨.pop b,111,w2⟩) :
  aq E0 20 [.s (.agg (.ls [.f (.slice i (.l 0) n c1),.f (.slice j (.l 0) k' c2)])),bg ws,i64 (.o h),i64 (.o t),i64 (.o k)] m (bu [SW ts ws,ay ts,iT a n.den k'.den,b.size=n.den*10,BJ ts h t k] (.ret (Ch (cz a h n.den) m.next (m.next+1)) (lp m (eC a h n.den) (eD a b h n.den (gB k t)) 3 111))):=by
 refine aq.asked fun hq=>?_
 have w:SW ts ws:=hq _ (by simp)
 have hf:ay ts:=hq _ (by simp)
 have ha:iT a n.den k'.den:=hq _ (by simp)
 have hb:b.size=n.den*10:=hq _ (by simp)
 obtain ⟨p1,p2,p3⟩:BJ ts h t k:=hq _ (by simp)
 obtain ⟨l,el,e1,e2,e3⟩:=ha
 have hn:iT a n.den n.den:=⟨l,el,e1,e1,e3⟩
 refine (show aq E0 20 _ m (bu [] _) from aq.uy aU EK Dp rfl (fun q=>if q=0 then i else j) (m4 dZ e_) (l':=[vS n.den,bg ws,i64 (.o h),i64 (.o t),i64 (.o k)]) (fun R vs ha=>?_) (S9 (cz a h n.den)) (fun _=>(Zl w hf hn hb p1 p2 p3).mono fun s m h=>Py h))
 match vs,ha with
 | [u,v,x,y,z],ha=>exact ⟨o9 rfl (e2.trans e1.symm) rfl ha.1,ha.2.1,ha.2.2.1,ha.2.2.2.1,ha.2.2.2.2.1,trivial⟩
theorem X7 (m:aj):aq E0 20 [ff,bg ws,i64 (.o h),i64 (.o t),i64 (.o k)] m (bu [SW ts ws,ay ts,BJ ts h t k] (.ret (Ch 1 m.next (m.next+1)) (lp m #[.int .i64 h] (gB k t) 3 111))):=by
 refine aq.uy aU EK Dp rfl (fun q=>q) (ms:=aT) (fun i b hb=>?_) (l':=[ff,bg ws,i64 (.o h),i64 (.o t),i64 (.o k)]) (fun R vs ha=>?_) (S9 1) fun hq=>?_
 ·have hb:(Tr.nil:Tr bN).get i=some b:=hb
  rw [Tr.get_nil] at hb
  cases hb
 ·exact mw rfl ha
 ·have w:SW ts ws:=hq _ (by simp)
  have hf:ay ts:=hq _ (by simp)
  obtain ⟨p1,p2,p3⟩:BJ ts h t k:=hq _ (by simp)
  exact (Zm w hf p1 p2 p3).mono fun s m h=>Py h
end
set_option linter.unusedVariables false
theorem aq.xC {E:Env} (hE:bf E) {g:FuncId} {fn:Func} {c:Code} {l l':List SV} {m ms:aj} {q:List Prop} {s0:SV} {A:SV→aj→Prop} (h1:E.fn g=some fn) (h2:fn.body=some c) (hxs:ms.xs=[]) (ι:Nat→Nat)
  (hm:∀ i b,aH ms.bl i=some b→i<ms.next∧b.wr=false∧∃ d,aH m.bl (ι i)=some d∧b.ty=d.ty∧∀ R cs,d.arr.cH R cs→b.arr.cH (pull ι ms.next R) cs)
  (hl:∀ R vs,aK (SV.ok R) l vs→aK (SV.ok (pull ι ms.next R)) l' vs) (good:(∀ p∈q,p)→Good E.P A ms.next [a_ g fn.ntmps l' c] ms)
  (hs:∀ s m' R R' v,A s m'→Ext (pull ι ms.next R) R'→(∀ q b,aH m.bl q=some b→∃ g,R q=some g)→s.ok R' v→s0.ok R v):aq E g l m (bu q (.ret s0 m)):=by
 intro B hB
 obtain ⟨hq,hA⟩:=Tree.nG hB
 refine ⟨fn,h1,by rw [h2];rfl,fun n0 F w0 w R args ha hR=>?_⟩
 refine (rI (hE.fns _ _ h1).1 h2 (good hq) (hl R _ ha) (JD hxs hm hR)).mono ?_
 rintro v w' ⟨s,m',R',k3,hX,fq,k4⟩
 exact ⟨s0,m,R,hA,⟨fun _ _ h=>h,fun _ _ h=>.inl h,hX.2.2.1,Nat.le_refl _⟩,hR.step fq.fr.to,hs s m' R R' v k3 hX.1 (fun q b hb=>(hR.dS q b hb).imp fun g h=>h.choose_spec.choose_spec.1) k4⟩
section
variable {ts ws a b:Array Value} {h t k:Int}
theorem X8 {m:aj} {i j:Nat} {n k':SN} {c1 c2:SK} {w1 w2:Bool} (dZ:aH m.bl i=some ⟨.pop a,3,w1⟩) (e_:aH m.bl j=some ⟨.pop b,111,w2⟩) :
  aq E0 20 [.s (.agg (.ls [.f (.slice i (.l 0) n c1),.f (.slice j (.l 0) k' c2)])),bg ws,i64 (.o h),i64 (.o t),i64 (.o k)] m (bu [SW ts ws,ay ts,n.den=k'.den,bQ ts h t k≠0] (.ret (.bW [.agg (.ls [.f (.slice i (.l 0) (.o n.den) .any),.f (.slice j (.l 0) (.o n.den) .any)]),.c (.f (.int .i64 (.o (bQ ts h t k))))]) m)):=by
 refine aq.asked fun hq=>?_
 have w:SW ts ws:=hq _ (by simp)
 have hf:ay ts:=hq _ (by simp)
 have hn:n.den=k'.den:=hq _ (by simp)
 have he:bQ ts h t k≠0:=hq _ (by simp)
 refine (show aq E0 20 _ m (bu [] _) from aq.xC aU EK Dp rfl (fun q=>if q=0 then i else j) (m4 dZ e_) (l':=[vS n.den,bg ws,i64 (.o h),i64 (.o t),i64 (.o k)]) (fun R vs ha=>?_) (fun _=>Zn w hf he) fun s m' R R' v hs hx hg hv=>?_)
 ·match vs,ha with
  | [u,v,x,y,z],ha=>exact ⟨o9 rfl hn.symm rfl ha.1,ha.2.1,ha.2.2.1,ha.2.2.2.1,ha.2.2.2.2.1,trivial⟩
 ·obtain ⟨g1,r1⟩:=hg _ _ dZ
  obtain ⟨g2,r2⟩:=hg _ _ e_
  have s1:R' 0=some g1:=hx 0 g1 r1
  have s2:R' 1=some g2:=hx 1 g2 r2
  unfold Nc at hs
  split at hs
  ·obtain ⟨e1,e2,e3⟩:=hs
   obtain ⟨vs,rfl,hl⟩:=hv
   match hc:vs.toList,hl with
   | [u,z],⟨hu,hz,_⟩ =>
    refine ⟨vs,rfl,?_⟩
    rw [hc]
    refine ⟨uA n.den R' R u 0 1 i j g1 g2 _ s1 s2 r1 r2 ⟨_,_,_,_,rfl,e1,e2⟩ hu,?_,trivial⟩
    show z=.int .i64 (bQ ts h t k)
    rw [← e3]
    exact hz
  ·exact hs.elim
theorem X9 (m:aj):aq E0 20 [ff,bg ws,i64 (.o h),i64 (.o t),i64 (.o k)] m (bu [SW ts ws,ay ts,bQ ts h t k≠0] (.ret (.bW [.agg (.ls [.f (.lit (.slice none 0 0)),.f (.lit (.slice none 0 0))]),.c (.f (.int .i64 (.o (bQ ts h t k))))]) m)):=by
 refine aq.xC aU EK Dp rfl (fun q=>q) (ms:=aT) (fun i b hb=>?_) (l':=[ff,bg ws,i64 (.o h),i64 (.o t),i64 (.o k)]) (fun R vs ha=>?_) (fun hq=>?_) (fun s m' R R' v hs hx hg hv=>?_) (A:=GR (bQ ts h t k))
 ·have hb:(Tr.nil:Tr bN).get i=some b:=hb
  rw [Tr.get_nil] at hb
  cases hb
 ·exact mw rfl ha
 ·exact Zo (hq _ (by simp)) (hq _ (by simp)) (hq _ (by simp))
 ·unfold GR at hs
  split at hs
  ·obtain ⟨vs,rfl,hl⟩:=hv
   match hc:vs.toList,hl with
   | [u,z],⟨hu,hz,_⟩ =>
    refine ⟨vs,rfl,?_⟩
    rw [hc]
    refine ⟨(wX (s:=ff) rfl hu:ff.ok R u),?_,trivial⟩
    show z=.int .i64 (bQ ts h t k)
    rw [← hs]
    exact hz
  ·exact hs.elim
end
set_option linter.unusedVariables false
theorem QH {a c:Array Value} {r:Int}:∀ (k i:Nat),i+k≤a.size→bS (a++c) r k i=bS a r k i
 | 0,_,_=>rfl
 | k+1,i,h=>by
  have e:aa (a++c) i=aa a i:=by unfold aa;rw [Array.getElem?_append_left (by omega)]
  unfold bS
  rw [e,QH k (i+1) (by omega)]
theorem Pz {a:Array Value} {r:Int}:∀ (k i:Nat),bS a r (k+1) i=if bS a r k i<0 then (if aa a (i+k)=r then ((i+k:Nat):Int) else -1) else bS a r k i
 | 0,i=>by
  show (if aa a i=r then (i:Int) else -1)=(if (-1:Int)<0 then (if aa a (i+0)=r then ((i+0:Nat):Int) else -1) else -1)
  rw [if_pos (show (-1:Int)<0 by decide)]
  rfl
 | k+1,i=>by
  have e:bS a r (k+1+1) i=if aa a i=r then (i:Int) else bS a r (k+1) (i+1):=rfl
  have e2:bS a r (k+1) i=if aa a i=r then (i:Int) else bS a r k (i+1):=rfl
  rw [e,e2,Pz k (i+1)]
  by_cases c:aa a i=r
  ·rw [if_pos c,if_pos c,if_neg (by omega)]
  ·rw [if_neg c,if_neg c,show i+1+k=i+(k+1) by omega]
theorem JE {a:Array Value} {r:Int}:∀ (k i:Nat),0≤bS a r k i→aa a (bS a r k i).toNat=r
 | 0,i,h=>absurd h (by show ¬ (0:Int)≤-1;decide)
 | k+1,i,h=>by
  unfold bS at h ⊢
  split
  ·rename_i c;rw [Int.toNat_natCast];exact c
  ·rename_i c
   rw [if_neg c] at h
   exact JE k (i+1) h
section
variable {os ts us a b:Array Value} {n k:Nat}
theorem bZ.keep (w:bZ os ts a b n k) (h:∀ x,ot us x→ot ts x):bZ os us a b n k:=⟨w.l,w.sz,w.ti,w.tb,fun x hx=>w.yes x (h x hx),fun x hx=>w.no x (h x hx)⟩
theorem dP.keep (w:dP os ts) (h:∀ x,ot us x→ot ts x):dP os us:=fun x hx=>w x (h x hx)
def OU (os ts:Array Value):Prop:=∀ s,s<32→oR os s=0∨jw (aF ts) (oR os s)
theorem u9 (x:Int):sl x<32:=by
 unfold sl aP
 split
 ·rename_i h
  unfold gV at h
  have:=(of_decide_eq_true h).2.1
  have h0:=Int.emod_nonneg (x - 1) (show (256:Int)≠0 by decide)
  omega
 ·decide
theorem DM (ho:aS os) {r:Int} (hr:aN r) {kd t h:Int} {s j:Nat} (hs:s<32) (hj:j<4):(bX os r kd t h)[s*4+j]?=if s=sl r then ([.int .u32 r,.int .u8 kd,.int .u8 t,.int .u8 h]:List Value)[j]? else os[s*4+j]?:=by
 have gS:=S_ hr
 have hz:=ho.sz
 have hl:sl r*4+([.int .u32 r,.int .u8 kd,.int .u8 t,.int .u8 h]:List Value).length≤os.size:=by
  rw [hz];simp only [List.length_cons,List.length_nil];omega
 have el:([.int .u32 r,.int .u8 kd,.int .u8 t,.int .u8 h]:List Value).length=4:=rfl
 unfold bX
 split
 ·rename_i e
  rw [nH hl (by omega) (by rw [el];omega)]
  congr 1
  omega
 ·rename_i e
  exact kS hl (by rw [el];omega)
theorem JF (ho:aS os) {r:Int} (hr:aN r) {kd t h:Int} (hk:0≤kd∧kd≤255) (ht:0≤t∧t≤255) (hh:0≤h∧h≤255):aS (bX os r kd t h)∧∀ s,s<32→oR (bX os r kd t h) s=(if s=sl r then r else oR os s)∧oK (bX os r kd t h) s=(if s=sl r then kd else oK os s)∧oT (bX os r kd t h) s=(if s=sl r then t else oT os s)∧oH (bX os r kd t h) s=(if s=sl r then h else oH os s):=by
 have key:∀ s,s<32→LX (bX os r kd t h) (s*4)∧oR (bX os r kd t h) s=(if s=sl r then r else oR os s)∧oK (bX os r kd t h) s=(if s=sl r then kd else oK os s)∧oT (bX os r kd t h) s=(if s=sl r then t else oT os s)∧oH (bX os r kd t h) s=(if s=sl r then h else oH os s):=by
  intro s hs
  have a0:=DM ho hr (kd:=kd) (t:=t) (h:=h) hs (show 0<4 by decide)
  have a1:=DM ho hr (kd:=kd) (t:=t) (h:=h) hs (show 1<4 by decide)
  have a2:=DM ho hr (kd:=kd) (t:=t) (h:=h) hs (show 2<4 by decide)
  have a3:=DM ho hr (kd:=kd) (t:=t) (h:=h) hs (show 3<4 by decide)
  rw [Nat.add_zero] at a0
  by_cases e:s=sl r
  ·rw [if_pos e] at a0 a1 a2 a3
   have b0:(bX os r kd t h)[s*4]?=some (.int .u32 r):=a0
   have b1:(bX os r kd t h)[s*4+1]?=some (.int .u8 kd):=a1
   have b2:(bX os r kd t h)[s*4+2]?=some (.int .u8 t):=a2
   have b3:(bX os r kd t h)[s*4+3]?=some (.int .u8 h):=a3
   simp only [if_pos e]
   refine ⟨⟨bw b0,bw b1,bw b2,bw b3,?_,?_,?_,?_⟩,bI b0,bI b1,bI b2,bI b3⟩
   ·rw [bI b0];exact hr
   ·rw [bI b1];exact hk
   ·rw [bI b2];exact ht
   ·rw [bI b3];exact hh
  ·rw [if_neg e] at a0 a1 a2 a3
   have c:=ho.c s hs
   have i0:aa (bX os r kd t h) (s*4)=aa os (s*4):=by unfold aa;rw [a0]
   have i1:aa (bX os r kd t h) (s*4+1)=aa os (s*4+1):=by unfold aa;rw [a1]
   have i2:aa (bX os r kd t h) (s*4+2)=aa os (s*4+2):=by unfold aa;rw [a2]
   have i3:aa (bX os r kd t h) (s*4+3)=aa os (s*4+3):=by unfold aa;rw [a3]
   simp only [if_neg e]
   refine ⟨⟨?_,?_,?_,?_,?_,?_,?_,?_⟩,i0,i1,i2,i3⟩
   ·have:=c.r;unfold aA at *;rw [i0,a0];exact this
   ·have:=c.k;unfold aA at *;rw [i1,a1];exact this
   ·have:=c.t;unfold aA at *;rw [i2,a2];exact this
   ·have:=c.h;unfold aA at *;rw [i3,a3];exact this
   ·rw [i0];exact c.hr
   ·rw [i1];exact c.hk
   ·rw [i2];exact c.ht
   ·rw [i3];exact c.hh
 exact ⟨⟨wY ho hr kd t h,fun i hi=>(key i hi).1⟩,fun s hs=>(key s hs).2⟩
theorem OU.yQ (u:OU os ts) (ho:aS os) (hf:ay ts) {r:Int} (hg:aB ts r=true) {kd t h:Int} (hk:0≤kd∧kd≤255) (ht:0≤t∧t≤255) (hh:0≤h∧h≤255):OU (bX os r kd t h) ts:=by
 intro s hs
 rw [((JF ho (wE hf.ok.bk hg).1 hk ht hh).2 s hs).1]
 split
 ·exact .inr (HI hf.ok hg)
 ·exact u s hs
theorem R4 (u:OU os ts) (hf:ay ts) {r x:Int} (hg:aB ts r=true) (hx:ot ts x) (hne:x≠r) (hs:sl x=sl r):oR os (sl x)≠x:=by
 intro e
 rcases hx.2 with g | g
 ·exact hne (z8 hf.ok g hg hs)
 ·rcases u _ (u9 x) with c | c
  ·exact hx.1 (e.symm.trans c)
  ·rw [e] at c;exact g c
theorem Zp (kd t h:Int):(bT kd t h).size=10∧aA .i64 (bT kd t h) 0∧aA .i64 (bT kd t h) 1∧∀ q,q<8→bY (bT kd t h) (2+q):=by
 refine ⟨rfl,rfl,rfl,fun q hq=>?_⟩
 match q,hq with
 | 0,_ | 1,_ | 2,_ | 3,_ | 4,_ | 5,_ | 6,_ | 7,_=>rfl
theorem rW {a b:Array Value} {p q:Nat} {k:IntKind} (h:a[p]?=b[q]?) (hb:aA k b q):aA k a p:=by
 unfold aA aa at *;rw [h];exact hb
theorem DN {a b:Array Value} {p q:Nat} (h:a[p]?=b[q]?) (hb:bY b q):bY a p:=by
 unfold bY bq at *;rw [h];exact hb
theorem bZ.yQ (w:bZ os ts a b n n) (u:OU os ts) (ho:aS os) (hf:ay ts) {r:Int} (hg:aB ts r=true) {kd t h:Int} (hk:0≤kd∧kd≤255) (ht:0≤t∧t≤255) (hh:0≤h∧h≤255) (hn:n<200):bZ (bX os r kd t h) ts (eC a r n) (eD a b r n (bT kd t h)) (cz a r n) (cz a r n):=by
 have hr:=(wE hf.ok.bk hg).1
 have hr0:r≠0:=(C1 hg).1
 obtain ⟨s1,s2⟩:=JF ho hr hk ht hh
 obtain ⟨l,rfl,e1,_,e3⟩:=w.l
 subst e1
 have sa:=Od l
 have sz:=w.sz
 obtain ⟨xz,x0,x1,xb⟩:=Zp kd t h
 by_cases p:bS (aE l) r l.length 0<0
 ·have w1:cz (aE l) r l.length=l.length+1:=if_pos p
  have w2:eC (aE l) r l.length=aE l++#[.int .i64 r]:=if_pos p
  have w3:eD (aE l) b r l.length (bT kd t h)=b++bT kd t h:=if_pos p
  rw [w1,w2,w3]
  have hl:∀ q c,q<l.length→c<10→(b++bT kd t h)[q*10+c]?=b[q*10+c]?:=fun q c hq hc=>Array.getElem?_append_left (by omega)
  have rm:∀ c,(b++bT kd t h)[l.length*10+c]?=(bT kd t h)[c]?:=fun c=>by
   rw [Array.getElem?_append_right (by omega),sz,Nat.add_sub_cancel_left]
  have hi:aa (aE l++#[.int .i64 r]) (0+l.length)=r:=by
   unfold aa
   rw [Array.getElem?_append_right (by omega),sa,Nat.zero_add,Nat.sub_self]
   rfl
  have ha:∀ x,bS (aE l++#[.int .i64 r]) x (l.length+1) 0=if bS (aE l) x l.length 0<0 then (if r=x then ((0+l.length:Nat):Int) else -1) else bS (aE l) x l.length 0:=fun x=>by
   rw [Pz,QH _ _ (by omega),hi]
  refine ⟨⟨l++[r],by unfold aE;simp,by simp,by simp,by simp;omega⟩,by rw [Array.size_append,sz,xz];omega,fun q hq=>?_,fun q hq c hc=>?_,fun x hx e=>?_,fun x hx e=>?_⟩
  ·by_cases c:q<l.length
   ·exact ⟨rW (hl q 0 c (by decide)) (w.ti q c).1,rW (hl q 1 c (by decide)) (w.ti q c).2⟩
   ·obtain rfl:q=l.length:=by omega
    exact ⟨rW (rm 0) x0,rW (rm 1) x1⟩
  ·by_cases d:q<l.length
   ·rw [Nat.add_assoc]
    exact DN (hl q (2+c) d (by omega)) (by rw [← Nat.add_assoc];exact w.tb q d c hc)
   ·obtain rfl:q=l.length:=by omega
    rw [Nat.add_assoc]
    exact DN (rm (2+c)) (xb c hc)
  ·obtain ⟨t0,t1,t2,t3⟩:=s2 (sl x) (u9 x)
   by_cases d:x=r
   ·subst d
    rw [if_pos rfl] at t1 t2 t3
    refine ⟨l.length,by omega,?_,fun c hc=>?_⟩
    ·rw [ha,if_pos p,if_pos rfl,Nat.zero_add]
    ·rw [rm,t1,t2,t3]
   ·have ds:sl x≠sl r:=fun k=>by
     rw [t0,if_pos k] at e;exact d e.symm
    rw [if_neg ds] at t0 t1 t2 t3
    rw [t0] at e
    obtain ⟨q,q1,q2,q3⟩:=w.yes x hx e
    refine ⟨q,by omega,?_,fun c hc=>?_⟩
    ·rw [ha,if_neg (by omega)];exact q2
    ·rw [hl q c q1 hc,t1,t2,t3];exact q3 c hc
  ·obtain ⟨t0,_⟩:=s2 (sl x) (u9 x)
   have d:x≠r:=fun k=>by
    subst k
    rw [if_pos rfl] at t0
    exact e t0
   have e':oR os (sl x)≠x:=by
    by_cases ds:sl x=sl r
    ·exact R4 u hf hg hx d ds
    ·rw [if_neg ds] at t0;rw [← t0];exact e
   have:=w.no x hx e'
   rw [ha,this,if_pos (by decide),if_neg (fun k=>d k.symm)]
 ·have w1:cz (aE l) r l.length=l.length:=if_neg p
  have w2:eC (aE l) r l.length=aE l:=if_neg p
  have w3:eD (aE l) b r l.length (bT kd t h)=putAt b ((bS (aE l) r l.length 0).toNat*10) (bT kd t h).toList:=if_neg p
  rw [w1,w2,w3]
  have y:0≤bS (aE l) r l.length 0∧bS (aE l) r l.length 0<(l.length:Int):=by
   rcases JC (a:=aE l) (r:=r) l.length 0 with h | ⟨h1,h2⟩ <;> omega
  have yr:=JE (a:=aE l) (r:=r) l.length 0 y.1
  obtain ⟨j,ej⟩:∃ j:Nat,bS (aE l) r l.length 0=(j:Int):=⟨(bS (aE l) r l.length 0).toNat,by omega⟩
  rw [ej] at y yr ⊢
  rw [Int.toNat_natCast] at yr ⊢
  have xl:(bT kd t h).toList.length=10:=rfl
  have hlen:j*10+(bT kd t h).toList.length≤b.size:=by rw [xl,sz];omega
  have hl:∀ q c,q≠j→c<10→(putAt b (j*10) (bT kd t h).toList)[q*10+c]?=b[q*10+c]?:=fun q c hq hc=>kS hlen (by rw [xl];omega)
  have rm:∀ c,c<10→(putAt b (j*10) (bT kd t h).toList)[j*10+c]?=(bT kd t h)[c]?:=fun c hc=>by
   rw [nH hlen (by omega) (by rw [xl];omega),Nat.add_sub_cancel_left]
   exact Array.getElem?_toList
  refine ⟨⟨l,rfl,rfl,rfl,e3⟩,by rw [kR hlen];exact sz,fun q hq=>?_,fun q hq c hc=>?_,fun x hx e=>?_,fun x hx e=>?_⟩
  ·by_cases c:q=j
   ·subst c
    exact ⟨rW (rm 0 (by decide)) x0,rW (rm 1 (by decide)) x1⟩
   ·exact ⟨rW (hl q 0 c (by decide)) (w.ti q hq).1,rW (hl q 1 c (by decide)) (w.ti q hq).2⟩
  ·rw [Nat.add_assoc]
   by_cases d:q=j
   ·subst d
    exact DN (rm (2+c) (by omega)) (xb c hc)
   ·exact DN (hl q (2+c) d (by omega)) (by rw [← Nat.add_assoc];exact w.tb q hq c hc)
  ·obtain ⟨t0,t1,t2,t3⟩:=s2 (sl x) (u9 x)
   by_cases d:x=r
   ·subst d
    rw [if_pos rfl] at t1 t2 t3
    refine ⟨j,by omega,ej,fun c hc=>?_⟩
    rw [rm c hc,t1,t2,t3]
   ·have ds:sl x≠sl r:=fun k=>by
     rw [t0,if_pos k] at e;exact d e.symm
    rw [if_neg ds] at t0 t1 t2 t3
    rw [t0] at e
    obtain ⟨q,q1,q2,q3⟩:=w.yes x hx e
    have qj:q≠j:=fun k=>by
     subst k
     have:=JE (a:=aE l) (r:=x) l.length 0 (by omega)
     rw [q2,Int.toNat_natCast] at this
     exact d (this.symm.trans yr)
    refine ⟨q,q1,q2,fun c hc=>?_⟩
    rw [hl q c qj hc,t1,t2,t3];exact q3 c hc
  ·obtain ⟨t0,_⟩:=s2 (sl x) (u9 x)
   have d:x≠r:=fun k=>by
    subst k
    rw [if_pos rfl] at t0
    exact e t0
   have e':oR os (sl x)≠x:=by
    by_cases ds:sl x=sl r
    ·exact R4 u hf hg hx d ds
    ·rw [if_neg ds] at t0;rw [← t0];exact e
   exact w.no x hx e'
theorem dP.yQ (w:dP os ts) (u:OU os ts) (ho:aS os) (hf:ay ts) {r:Int} (hg:aB ts r=true) {kd t h:Int} (hk:0≤kd∧kd≤255) (ht:0≤t∧t≤255) (hh:0≤h∧h≤255):bZ (bX os r kd t h) ts #[.int .i64 r] (bT kd t h) 1 1:=by
 have z:bZ os ts (aE []) #[] 0 0:=⟨⟨[],rfl,rfl,rfl,by decide⟩,rfl,fun p hp=>absurd hp (by omega),fun p hp=>absurd hp (by omega),fun x hx e=>absurd e (w x hx),fun x hx e=>rfl⟩
 have:=z.yQ u ho hf hg hk ht hh (by decide)
 have e1:cz (aE []) r 0=1:=rfl
 have e2:eC (aE []) r 0=#[.int .i64 r]:=rfl
 have e3:eD (aE []) #[] r 0 (bT kd t h)=bT kd t h:=by
  show #[]++bT kd t h=_
  simp
 rw [e1,e2,e3] at this
 exact this
end
end Go.Proofs.YtldoopjnjlpbpaaGreatDoor
