/- Of cells: CellPlays: its runs end with true. No condition. -/
import Derived.Test.YtdopckcockgefaaDoorMD
set_option linter.unusedVariables false
set_option linter.unusedSimpArgs false
namespace Go.Proofs.YtdopckcockgefaaDoor
set_option maxRecDepth 100000
set_option linter.unusedSimpArgs false
set_option linter.unusedVariables false
theorem conCl_ok (ts:Array Value):∀ g l m t,conCl ts g l m=some t→Con E0 g l m t:=by
 intro g l m t h
 unfold conCl at h
 split at h
 ·cases h;exact wakes_con m
 ·rename_i us r c to fi;cases h
  refine Con.asked fun hq=>Con.args (l':=[tbS us,u32 r.den,i64 (.o c.den),u32 to.den,sB (.o fi.den)]) (fun R vs ha=>by
   match vs,ha with
   | [v,w,x,y,z],ha=>exact ⟨ha.1,ha.2.1,ha.2.2.1,ha.2.2.2.1,ha.2.2.2.2.1,trivial⟩) ?_
  intro A hs
  exact ref_con r.den c.den to.den fi.den m A ⟨fun p hp=>hq p hp,hs⟩
 ·rename_i us r c;cases h
  exact Con.n2 (der_con r.den c.den m)
 ·rename_i ws r c to fi;cases h
  refine Con.asked fun hq=>Con.args (l':=[wtS ws,i64 (.o r.den),i64 (.o c.den),i64 (.o to.den),sB (.o fi.den)]) (fun R vs ha=>by
   match vs,ha with
   | [v,w,x,y,z],ha=>exact ⟨ha.1,ha.2.1,ha.2.2.1,ha.2.2.2.1,ha.2.2.2.2.1,trivial⟩) ?_
  intro A hs
  exact rref_con r.den c.den to.den fi.den m A ⟨fun p hp=>hq p hp,hs⟩
 ·rename_i ws r c;cases h
  exact Con.n2 (rder_con r.den c.den m)
 ·rename_i ws n;cases h
  exact Con.n1 (nm7_con n.den m)
 ·rename_i us ws;cases h
  refine Con.asked fun hq=>Con.args (l':=[tbS us,wtS ws]) (fun R vs ha=>by
   match vs,ha with
   | [v,w],ha=>exact ⟨ha.1,ha.2.1,trivial⟩) ?_
  intro A hs
  exact same_con m A ⟨fun p hp=>hq p hp,hs⟩
 ·rename_i us ws d a b c q;cases h
  refine Con.asked fun hq=>Con.args (l':=[tbS us,wtS ws,acV d.den a.den b.den c.den q.den]) (fun R vs ha=>by
   match vs,ha with
   | [v,w,z],ha=>exact ⟨ha.1,ha.2.1,ac_ok ha.2.2.1,trivial⟩) ?_
  intro A hs
  exact do_con d.den a.den b.den c.den q.den m A ⟨fun p hp=>hq p hp,hs⟩
 ·exact conDo_ok ts _ _ _ _ h
theorem EPl_ok (ts:Array Value):EnvOk (EPl ts):=EnvOk.with E0_ok _ _ (conCl_ok ts)
theorem EPz_ok (ts:Array Value):EnvOk (EPz ts):=EnvOk.with E0_ok _ _ (conCl_ok ts)
theorem EPn_ok (ts:Array Value):EnvOk (EPn ts):=EnvOk.with E0_ok _ _ (conCl_ok ts)
theorem zW_book:∀ i,i<64→vEq (zW[i]?) (some (.int .i64 0))=true:=by decide +kernel
theorem zW_rg:∀ i,i<32→∀ k,k<12→vEq (zW[64+i*12+k]?) ((rwA 0 0 fun _=>0)[k]?)=true:=by decide +kernel
theorem SW_zero:SW zT zW:=by
 refine ⟨zW_sz,fun i hi=>?_,fun i hi=>?_,fun i hi hk=>?_,fun i hi _ j hj=>vEq_ok (zW_rg i hi j hj)⟩
 ·rw [z_age hi];exact vEq_ok (zW_book i (by omega))
 ·rw [z_kind hi];exact vEq_ok (zW_book (32+i) (by omega))
 ·rw [z_kind hi] at hk;exact absurd hk (by decide)
def ActOk (cs:Array Value) (p:Nat):Prop:=IsInt .u8 cs p∧IsInt .u32 cs (p+1)∧IsInt .u32 cs (p+2)∧IsInt .u32 cs (p+3)∧IsInt .i64 cs (p+4)∧(0≤intAt cs p∧intAt cs p≤255)∧inH (intAt cs (p+1))∧inH (intAt cs (p+2))∧inH (intAt cs (p+3))
def ActsOk (cs:Array Value) (off n:Nat):Prop:=∀ i,i<n→ActOk cs (off+i*5)
section
variable {ts ws:Array Value} {cs:Array Value} {off n:Nat} {ty:TypeId} {a b:Int}
theorem plX_good {A:SV→SMem→Prop} {QL:Int→Array Value→Array Value→Prop} {QE:Array Value→Array Value→Prop} {fs:List SFr} {m:SMem} (hL:∀ i ts ws,QL i ts ws→Good Tryd.prog A 1 (plL_F off n cs ty a b i ts ws) (plL_M off n cs ty a b i ts ws)) (hE:∀ ts ws,QE ts ws→Good Tryd.prog A 1 (plE_F a b ts ws) (plE_M a b ts ws)) (hb:plX off n cs ty a b QL QE fs m):Good Tryd.prog A 1 fs m:=by
 unfold plX at hb
 split at hb
 ·exact plL_good hL hb
 ·exact plE_good hE hb
theorem der_in (hb:TbOk ts) (r c:Int):inH (derT ts r c):=by
 unfold derT
 split
 ·rename_i h
  unfold derE at h
  split at h
  ·exact absurd h (by decide)
  split at h
  rotate_left
  ·exact absurd h (by decide)
  split at h
  ·exact absurd h (by decide)
  split at h
  ·rename_i g;exact (good_f hb g).2.2.2.2.2.1
  ·exact absurd h (by decide)
 ·exact ⟨by decide,by decide⟩
theorem plE_ok (w:SW ts ws) (hv:FV ts) (ha:inH a):Good Tryd.prog (isB true) 1 (plE_F a b ts ws) (plE_M a b ts ws):=by
 have hf:=hv.f
 have ht:=hf.ok
 have hs:=ht.sz
 have hw:=w.sz
 have hx:=nm_in ht ha
 have ha':0≤a∧a<4294967296:=ha
 have hx':0≤nmA ts a∧nmA ts a<4294967296:=hx
 have ex:=wr32 hx
 have er:=wr64 (der_in ht (nmA ts a) b)
 refine past_vc (EPn_ok ts) 1000 (plE ts ws a b) ?_ (fun _ _ h=>h) fun _ _ h=>h.elim
 simp only [ex,er,hs,hw,w,ht,ha',hx',beq_self_eq_true,decide_true,q6]
theorem plL_ok (ha:inH a) (hn:n≤100) (hA:ActsOk cs off n):∀ (r i:Nat),i+r=n→∀ ts ws,SW ts ws→FV ts→Good Tryd.prog (isB true) 1 (plL_F off n cs ty a b (i:Int) ts ws) (plL_M off n cs ty a b (i:Int) ts ws):=by
 intro r
 induction r with
 | zero =>
  intro i hi ts ws w hv
  obtain rfl:i=n:=by omega
  refine past_vc (EPl_ok ts) 1000 (pl1 ts off i cs ty a b _ ws (fun _ _ _=>False) (fun us vs=>us=ts∧vs=ws)) ?_ (fun _ _ h=>h) (fun fs m hm=>plX_good (fun _ _ _ h=>h.elim) (fun us vs ⟨e1,e2⟩=>by rw [e1,e2];exact plE_ok w hv ha) hm)
  unfold pl1_6 pl1_5 pl1_4 pl1_3 pl1_2 pl1_1 pl1_0
  have d:decide ((i:Int)<(i:Int))=false:=decide_eq_false (by omega)
  simp only [d,plE_d0_ok,q6]
 | succ r ih =>
  intro i hi ts ws w hv
  have hi':i<n:=by omega
  obtain ⟨i0,i1,i2,i3,i4,_,r1,r2,r3⟩:=hA i hi'
  have r1':0≤intAt cs (off+i*5+1)∧intAt cs (off+i*5+1)<4294967296:=r1
  have r2':0≤intAt cs (off+i*5+2)∧intAt cs (off+i*5+2)<4294967296:=r2
  have r3':0≤intAt cs (off+i*5+3)∧intAt cs (off+i*5+3)<4294967296:=r3
  have hf:=hv.f
  have ht:=hf.ok
  have hs:=ht.sz
  have hw:=w.sz
  have d:decide ((i:Int)<(n:Int))=true:=decide_eq_true (by omega)
  have ei:ari .add .i64 (i:Int) 1=((i+1:Nat):Int):=by rw [ari_add,i64_in' (by omega) (by omega)];omega
  have y0:0≤(i:Int):=by omega
  have y1:(i:Int)<(n:Int):=by omega
  refine past_vc (EPl_ok ts) 1000 (pl1 ts off n cs ty a b (i:Int) ws (fun i' us vs=>i'=((i+1:Nat):Int)∧SW us vs∧FV us) (fun _ _=>False)) ?_ (fun _ _ h=>h) (fun fs m hm=>plX_good (fun i' us vs ⟨e1,e2,e3⟩=>by rw [e1];exact ih (i+1) (by omega) us vs e2 e3) (fun _ _ h=>h.elim) hm)
  unfold pl1_6 pl1_5 pl1_4 pl1_3 pl1_2 pl1_1 pl1_0
  cases d3:(intAt cs (off+i*5)==3) with
  | true =>
   have hx:=nm_in ht r1
   have hz:=nm_in ht r3
   have hx':0≤nmA ts (intAt cs (off+i*5+1))∧nmA ts (intAt cs (off+i*5+1))<4294967296:=hx
   have hz':0≤nmA ts (intAt cs (off+i*5+3))∧nmA ts (intAt cs (off+i*5+3))<4294967296:=hz
   have ex:=wr32 hx
   have ez:=wr32 hz
   obtain ⟨v1,w1⟩:=w.ref hv (r:=nmA ts (intAt cs (off+i*5+1))) (c:=intAt cs (off+i*5+4)) hz (intAt cs (off+i*5+2)==1)
   have s1:=v1.f.ok.sz
   have s2:=w1.sz
   have t1:=v1.f.ok
   simp only [Int.toNat_natCast,d,ei,y0,y1,i0,i1,i2,i3,i4,d3,r1',r2',r3',ex,ez,hx',hz',v1,w1,s1,s2,t1,hs,hw,w,hf,ht,beq_self_eq_true,Bool.not_true,beqT,beqF,decide_true,plL_d0_ok,q6]
  | false =>
   obtain ⟨v1,w1⟩:=ac_f w hv r1 r2 r3 (d:=intAt cs (off+i*5)) (q:=intAt cs (off+i*5+4))
   have s1:=v1.f.ok.sz
   have s2:=w1.sz
   have t1:=v1.f.ok
   simp only [Int.toNat_natCast,d,ei,y0,y1,i0,i1,i2,i3,i4,d3,r1',r2',r3',v1,w1,s1,s2,t1,hs,hw,w,hv,decide_true,plL_d0_ok,q6]
theorem plays_run (ha:inH a) (hA:ActsOk cs off n):Good Tryd.prog (isB true) 1 [callFr 3 Tryd.f3.ntmps [acS off n,u32v a,i64 (.o b)] (Tryd.f3.body.getD .skip)] (mkM 1 [(0,⟨.raw cs,ty,false⟩)]):=by
 refine run_vc (EPl_ok zT) 1000 (pl0 zT off n cs ty a b (fun i us vs=>i=((0:Nat):Int)∧us=zT∧vs=zW∧n≤100)) ?_ (fun s m h=>h) fun fs m hm=>plL_good (fun i us vs ⟨e1,e2,e3,e4⟩=>by rw [e1,e2,e3];exact plL_ok ha e4 hA n 0 (Nat.zero_add _) _ _ SW_zero FV_zero) hm
 by_cases c:n≤100
 ·have d:decide ((n:Int)>100)=false:=decide_eq_false (by omega)
  simp only [d,c,plL_d0_ok,q6]
  rfl
 ·have d:decide ((n:Int)>100)=true:=decide_eq_true (by omega)
  simp only [d,q6]
theorem plays_nil (ha:inH a):Good Tryd.prog (isB true) 1 [callFr 3 Tryd.f3.ntmps [eS,u32v a,i64 (.o b)] (Tryd.f3.body.getD .skip)] (mkM 1 []):=by
 refine run_vc (EPz_ok zT) 1000 (plZ zT a b (fun us vs=>us=zT∧vs=zW)) ?_ (fun s m h=>h) fun fs m hm=>plE_good (fun us vs ⟨e1,e2⟩=>by rw [e1,e2];exact plE_ok SW_zero FV_zero ha) hm
 simp only [and_true,true_and,plE_d0_ok,cNt]
end
end Go.Proofs.YtdopckcockgefaaDoor
