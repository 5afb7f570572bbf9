/- The symbolic machine's steps are the machine's. No condition. -/
import Derived.Test.YtldoopjnjlpbpaaGreatDoorK8
import Derived.AtR
set_option linter.unusedVariables false
set_option linter.unusedSimpArgs false
namespace Go.Proofs.YtldoopjnjlpbpaaGreatDoor
def Tree.sat (A:SV→aj→Prop) (B:List av→aj→Prop):Tree→Prop
 | .ret v m=>A v m
 | .br b t e=>(b=true→t.sat A B)∧(b=false→e.sat A B)
 | .need q t=>(∀ p∈q,p)∧t.sat A B
 | .stop f m=>B f m
 | .fail _=>False
structure bf (E:Env):Prop where
 fns:∀ f g,E.fn f=some g→E.P.funcs[f]?=some g∧(g.name=="runtime.NumGoroutine")=false
 mh:∀ f l m t A,E.mh f l m=some t→t.sat A (fun _ _=>False)→∃ g,E.fn f=some g∧g.body.isSome=true∧∀ (n0:Nat) (F:Nat→Prop) (w0 w:World) (R:aX) (args:Array Value),aK (SV.ok R) l args.toList→Rel n0 F w0 R m w →
  lT E.P f args w fun u w'=>∃ s m' R',A s m'∧b_ w w' m.next m'.next R R'∧Rel n0 F w0 R' m' w'∧s.ok R' u
 mixed:E.P.follows .mixedOrders=true
theorem Tree.CS {A:SV→aj→Prop} {B:List av→aj→Prop} {k:SV→aj→Tree}:∀ {t:Tree},(t.oY k).sat A B→t.sat (fun v m=>(k v m).sat A B) (fun _ _=>False)
 | .ret _ _,h=>h
 | .br _ _ _,h=>⟨fun e=>Tree.CS (h.1 e),fun e=>Tree.CS (h.2 e)⟩
 | .need _ _,h=>⟨h.1,Tree.CS h.2⟩
 | .stop _ _,h=>h.elim
 | .fail _,h=>h.elim
theorem Tree.nG {A:SV→aj→Prop} {B:List av→aj→Prop} {q:List Prop} {t:Tree} (h:(bu q t).sat A B):(∀ p∈q,p)∧t.sat A B:=by
 cases q with
 | nil=>exact ⟨fun _ hp=>(by cases hp),h⟩
 | cons p q=>exact h
theorem Tree.Jf {A:SV→aj→Prop} {B:List av→aj→Prop} {b:SB} {t e:Tree} (h:(F_ b t e).sat A B):(b.den=true→t.sat A B)∧(b.den=false→e.sat A B):=by
 cases b with
 | l b=>cases b <;> exact ⟨fun x=>(by first | exact h | cases x),fun x=>(by first | exact h | cases x)⟩
 | o b=>exact h
section
variable {P:Program} {n0:Nat} {F:Nat→Prop} {w0 w:World} {R:aX} {m:aj} {T:Tm} {a:Act}
theorem IA {o:Oper} {g:FuncId} {l:List SV} {fn:Func} (h:xO T o.op=some (g,l)) (hT:dY R T a) (hf:P.funcs[g]?=some fn) (hn:(fn.name=="runtime.NumGoroutine")=false) (hb:fn.body.isSome=true) :
  ∃ args:Array Value,aK (SV.ok R) l args.toList∧(execOp a.eval o).run P w=.ok (.enter g args) w:=by
 generalize ho:o.op=op at h
 unfold xO at h
 split at h
 ·rename_i f args ts
  split at h
  ·rename_i g' x y l' hf' hl
   cases h
   obtain ⟨fx,fy,e,h1,h2⟩:=eJ hT hf'
   have h3:=oX hT hl
   refine ⟨fx++args.map a.eval++fy,?_,?_⟩
   ·simp only [Array.toList_append,Array.toList_map]
    exact aK.append (aK.append (aK.map h1) h3) (aK.map h2)
   ·obtain ⟨c,hc⟩:=Option.isSome_iff_exists.1 hb
    have hn':fn.name≠"runtime.NumGoroutine":=by simpa using hn
    simp [execOp,ho,resolve,e,Deferred.ofValue,invoke,callFunc,hf,hc,hn',program,Sem.run]
  ·cases h
 ·cases h
theorem tO {ops:Array Oper} {o:Oper} {b:SB} (h:lY T ops.toList o=some b) (hT:dY R T a):Region.wanted o (yielded ops a.tmps)=b.den:=by
 unfold lY at h
 unfold Region.wanted
 split at h
 ·rename_i hg
  cases h
  simp [hg,SB.den]
 ·rename_i j want hg
  simp only [hg]
  split at h
  ·rename_i p hp
   rw [m5,Array.getElem?_toList] at hp
   split at h
   ·rename_i d hd
    have hy:yielded ops a.tmps j=match a.tmps[d]? with | some (.bool b)=>some b | _=>none:=by
     unfold yielded
     rw [hp]
     simp only [Option.bind_some,hd]
     rfl
    rw [hy]
    split at h
    ·rename_i c hc
     cases h
     obtain ⟨v,hv,hr⟩:=hT.get hc
     have e:v=.bool c.den:=hr
     rw [hv,e,Dy]
     cases hc:c.den <;> cases want <;> simp [SB.den]
    ·rename_i l hc
     cases h
     obtain ⟨v,hv,hr⟩:=hT.get hc
     obtain ⟨vs,e,_⟩:=hr
     rw [hv,e]
     simp [SB.den]
    ·cases h
   ·rename_i hd
    cases h
    have hy:yielded ops a.tmps j=none:=by simp [yielded,hp,hd]
    rw [hy];simp [SB.den]
  ·rename_i hp
   cases h
   rw [m5,Array.getElem?_toList] at hp
   have hy:yielded ops a.tmps j=none:=by simp [yielded,hp]
   rw [hy];simp [SB.den]
def yz (tmps:Array Value):ResultVar→Sem Value
 | .tmp t=>pure (tmps.getD t undef)
 | .cell a t=>do loadVar t (← asAddr (tmps.getD a undef))
theorem Jm (hT:dY R T a) (hR:Rel n0 F w0 R m w):∀ {l:List ResultVar} {q:List Prop} {s:List S1},sQ P T m l=some (q,s)→(∀ p∈q,p) →
  ∃ vs:List Value,aK (S1.ok R) s vs∧(l.mapM (yz a.tmps)).run P w=.ok vs w
 | [],q,s,h,_=>by
  simp only [sQ,Option.some.injEq,Prod.mk.injEq] at h
  obtain ⟨rfl,rfl⟩:=h
  exact ⟨[],trivial,by simp⟩
 | .tmp t :: l,q,s,h,hq=>by
  simp only [sQ] at h
  split at h
  ·rename_i x q' l' hx hl
   cases h
   obtain ⟨vs,h1,h2⟩:=Jm hT hR hl hq
   obtain ⟨v,hv,hr⟩:=hT.get hx
   refine ⟨v :: vs,⟨hr,h1⟩,?_⟩
   have e:(yz a.tmps (.tmp t)).run P w=.ok v w:=by simp [yz,hv]
   simp [List.mapM_cons,e,h2]
  ·cases h
 | .cell x t :: l,q,s,h,hq=>by
  simp only [sQ] at h
  split at h
  ·rename_i y q' l' hx hl
   split at h
   ·rename_i q1 z m1 hld
    cases h
    obtain ⟨vs,h1,h2⟩:=Jm hT hR hl fun p hp=>hq p (List.mem_append_right _ hp)
    obtain ⟨v,hv,hr⟩:=hT.get hx
    obtain ⟨_,u,k1,_,g,k,k3,k4⟩:=Qf hld (fun p hp=>hq p (List.mem_append_left _ hp)) hr hR
    refine ⟨u :: vs,⟨k1,h1⟩,?_⟩
    have e:(yz a.tmps (.cell x t)).run P w=.ok u w:=by simp [yz,hv,k3,asAddr,k4]
    simp [List.mapM_cons,e,h2]
   ·cases h
  ·cases h
theorem Wz {fn:Func} (hT:dY R T a) (hR:Rel n0 F w0 R m w) {q:List Prop} {s:List S1} (h:sQ P T m fn.results.toList=some (q,s)) (hq:∀ p∈q,p) :
  ∃ v,(oneOf s).ok R v∧(results fn a.tmps).run P w=.ok v w:=by
 obtain ⟨vs,h1,h2⟩:=Jm hT hR h hq
 have hr:(results fn a.tmps).run P w=.ok (if h:vs.toArray.size=1 then vs.toArray[0] else .tuple vs.toArray) w:=by
  have e:results fn a.tmps=(do
    let vs ← fn.results.mapM (yz a.tmps)
    pure (if h:vs.size=1 then vs[0] else .tuple vs)):=by
   unfold results
   congr 2
  rw [e,Array.mapM_eq_mapM_toList]
  simp [h2]
 refine ⟨_,?_,hr⟩
 match s,vs,h1 with
 | [x],[v],h1=>exact h1.1
 | [],[],_=>exact ⟨#[],by simp,trivial⟩
 | x :: y :: l,u :: v :: vs,h1=>exact ⟨(u :: v :: vs).toArray,by simp,h1⟩
 | [],_ :: _,h1=>exact h1.elim
 | _ :: _,[],h1=>exact h1.elim
 | [_],_ :: _ :: _,h1=>exact h1.2.elim
 | _ :: _ :: _,[_],h1=>exact h1.2.elim
theorem Wp (a:Act) (d:Option Tmp) (v:Value):(a.put d v).defers=a.defers:=by cases d <;> rfl
end
theorem Ro {R:aX} {T:Tm} {a:Act} {d:Nat} {b:Bool} (hT:dY R T a) (h:∀ c,T.get d=some (.s (.c (.f (.bool c))))→c.den=b):dY R (kY T d b) a:=by
 unfold kY
 split
 ·rename_i c hc
  obtain ⟨v,hv,hr⟩:=hT.get hc
  have e:v=.bool c:=hr
  have e2:c=b:=h (.o c) hc
  refine ⟨by rw [Tm.Fi];exact hT.1,fun i s hs=>?_⟩
  rw [Tm.lS] at hs
  split at hs
  ·rename_i e3
   cases hs
   rw [e3.1]
   exact ⟨v,hv,by rw [e,e2];rfl⟩
  ·exact hT.get hs
 ·exact hT
theorem Qi {R:aX} {T:Tm} {a:Act} {ops:List Oper} {o:Oper} {b:SB} {yes:Bool} (hT:dY R T a) (hw:lY T ops o=some b) (h:b.den=yes):dY R (qJ T ops o yes) a:=by
 unfold qJ
 unfold lY at hw
 split
 ·exact hT
 ·rename_i j want hg
  rw [hg] at hw
  dsimp only at hw
  split
  ·rename_i p hp
   rw [hp] at hw
   dsimp only at hw
   split
   ·rename_i d hd
    rw [hd] at hw
    dsimp only at hw
    refine Ro hT fun c hc=>?_
    rw [hc] at hw
    simp only [Option.some.injEq] at hw
    rw [← h,← hw,Dy]
    cases want <;> cases hcd:c.den <;> simp [SB.den]
   ·exact hT
  ·exact hT
theorem Qj {R:aX} {T:Tm} {a:Act} {c:Operand} {t:SB} {b:Bool} (hT:dY R T a) (hc:ev T c=some (.s (.c (.f (.bool t))))) (h:t.den=b):dY R (Ft T c b) a:=by
 unfold Ft
 split
 ·rename_i d
  refine Ro hT fun c' jg=>?_
  have hc:T.get d=_:=hc
  rw [jg] at hc
  simp only [Option.some.injEq,SV.s.injEq,S1.c.injEq,SC.f.injEq,SF.bool.injEq] at hc
  rw [hc];exact h
 ·exact hT
theorem lM {f f':av} (h:f'.fn=f.fn):∀ cs,jk (f' :: cs)=jk (f :: cs)
 | []=>h
 | _ :: _=>rfl
theorem O6 {R:aX} {f f':av} {fr:Frame} {v:SV} {u:Value} (h:f.finish v=some f') (hf:eA R f fr) (hv:v.ok R u):eA R f' (fr.finish u)∧f'.fn=f.fn:=by
 obtain ⟨fn,tmps,todo,ds,mode,kind,ro⟩:=fr
 obtain ⟨h1,h2,h3,h4,h5,h6,h7⟩:=hf
 unfold av.finish at h
 split at h
 ·rename_i ops i rest k rC
  rw [rC] at h3
  split at h
  ·rename_i o ho
   cases h
   cases todo with
   | nil=>exact h3.elim
   | cons y ys =>
    obtain ⟨k1,k2⟩:=h3
    obtain rfl:y=_:=k1
    rw [m5,Array.getElem?_toList] at ho
    have hT:dY R f.tm ⟨tmps,ds⟩:=h2
    refine ⟨⟨h1,?_,⟨rfl,k2⟩,h4,h5,h6,h7⟩,rfl⟩
    have:=dY.put hT o.dst hv
    unfold dY at this
    cases hd:o.dst with
    | none=>rw [hd] at this;simpa [Frame.finish,ho,hd,Act.put] using this
    | some d=>rw [hd] at this;simpa [Frame.finish,ho,hd,Act.put] using this
  ·cases h
 ·rename_i l k rC
  cases h
  rw [rC] at h3
  cases todo with
  | nil=>exact h3.elim
  | cons y ys =>
   obtain ⟨⟨g,k0,k1⟩,k2⟩:=h3
   subst k1
   exact ⟨⟨h1,h2,⟨⟨g,k0,rfl⟩,k2⟩,h4,h5,h6,h7⟩,rfl⟩
 ·cases h
theorem Qk {R:aX} {id:Nat}:∀ {k:List bh} {l:List Item},aK (jA R) k l→match Bt id k with | some k'=>∃ l',exitTo id l=some l'∧aK (jA R) k' l' | none=>exitTo id l=none
 | [],[],_=>rfl
 | [],_ :: _,h=>h.elim
 | _ :: _,[],h=>h.elim
 | x :: k,y :: l,h=>by
  obtain ⟨h1,h2⟩:=h
  have ih:=Qk (id:=id) h2
  cases x with
  | fD i=>obtain ⟨g,_,rfl⟩:=h1;exact ih
  | qV i=>obtain ⟨g,_,rfl⟩:=h1;exact ih
  | it x =>
   obtain rfl:y=x:=h1
   cases y with
   | inBlock id' =>
    simp only [Bt,exitTo]
    by_cases e:(id'==id)=true
    ·rw [if_pos e,if_pos e]
     exact ⟨l,rfl,h2⟩
    ·rw [if_neg e,if_neg e]
     exact ih
   | _=>exact ih
theorem Ql {R:aX}:∀ {ps:List Tmp} {l:List SV} {T T':Tm} {args:List Value} {tmps:Array Value},Bs T ps l=some T'→gO R T tmps→aK (SV.ok R) l args →
  args.length=ps.length∧gO R T' ((ps.zip args).foldl (fun (tm:Array Value) (p:Tmp × Value)=>tm.setIfInBounds p.1 p.2) tmps)
 | [],[],T,T',[],tmps,h,hT,_=>by
  simp only [Bs,Option.some.injEq] at h
  subst h
  exact ⟨rfl,hT⟩
 | [],[],_,_,_ :: _,_,_,_,h=>h.elim
 | [],_ :: _,_,_,_,_,h,_,_=>by cases h
 | _ :: _,[],_,_,_,_,h,_,_=>by cases h
 | _ :: _,_ :: _,_,_,[],_,_,_,h=>h.elim
 | p :: ps,v :: l,T,T',u :: args,tmps,h,hT,hl=>by
  simp only [Bs] at h
  have hT2:gO R (T.set p (some v)) (tmps.setIfInBounds p u):=gO.set hT p hl.1
  obtain ⟨h1,h2⟩:=Ql h hT2 hl.2
  exact ⟨by simp [h1],by simpa using h2⟩
theorem Xr {ps:Array Tmp} {args tmps:Array Value}:((ps.zip args).foldl (fun tm (x:Tmp × Value)=>match x with | (t,a)=>tm.setIfInBounds t a) tmps)=(ps.toList.zip args.toList).foldl (fun (tm:Array Value) (p:Tmp × Value)=>tm.setIfInBounds p.1 p.2) tmps:=by
 rw [← Array.foldl_toList,Array.toList_zip]
theorem YS {P:Program} {w:World} {R:aX} {T:Tm} {a:Act} {o:Oper} {id:Nat} {l:List SV} (h:Lc T o.op=some (id,l)) (hT:dY R T a) :
  ∃ (g:Loc) (args:Array Value),R id=some g∧aK (SV.ok R) l args.toList∧(execOp a.eval o).run P w=(Instr.yield g.b args).run P w:=by
 generalize ho:o.op=op at h
 unfold Lc at h
 split at h
 ·rename_i f args ts
  split at h
  ·rename_i id' l' hf hl
   cases h
   obtain ⟨g,hg,e⟩:=eJ hT hf
   refine ⟨g,args.map a.eval,hg,by simpa using oX hT hl,?_⟩
   simp [execOp,ho,resolve,e,Deferred.ofValue,invoke]
  ·cases h
 ·cases h
def xP (E:Env) (r:Nat→List av→aj→Tree):Prop :=
 ∀ (base:Nat) (fs:List av) (m:aj) (n0:Nat) (F:Nat→Prop) (w0 ws w:World) (Rs R:aX) (fr:Frame) (dm:List Frame) (A:SV→aj→Prop) (B:List av→aj→Prop) (Φ:Value→World→Prop),
  (r base fs m).sat A B→aK (eA R) fs (fr :: dm)→Rel n0 F w0 R m w→b_ ws w base m.next Rs R→(∀ i g,Rs i=some g→i<base) →
  (∀ s m' R' w' v,A s m'→b_ ws w' base m'.next Rs R'→Rel n0 F w0 R' m' w'→s.ok R' v→Φ v w') →
  (∀ fs' m' R' w' fr' kJ,B fs' m'→jk fs'=jk fs→b_ ws w' base m'.next Rs R'→Rel n0 F w0 R' m' w'→aK (eA R') fs' (fr' :: kJ)→ig E.P (jk fs) fr' kJ w' Φ) →
  ig E.P (jk fs) fr dm w Φ
section
variable {E:Env} (hE:bf E) {r:Nat→List av→aj→Tree} (hr:xP E r)
include hE hr
theorem OK {g:FuncId} {fn:Func} {c:Code} {l:List SV} {args:Array Value} {m:aj} {n0:Nat} {F:Nat→Prop} {w0 w:World} {R:aX} {A:SV→aj→Prop} (hg:E.fn g=some fn) (hc:fn.body=some c)
  (hl:aK (SV.ok R) l args.toList) (hR:Rel n0 F w0 R m w) (h:(r m.next [a_ g fn.ntmps l c] m).sat A (fun _ _=>False)) :
  lT E.P g args w fun u w'=>∃ s m' R',A s m'∧b_ w w' m.next m'.next R R'∧Rel n0 F w0 R' m' w'∧s.ok R' u :=
 lT.P1 (hE.fns _ _ hg).1 hc (hr m.next [a_ g fn.ntmps l c] m n0 F w0 w w R R _ [] A (fun _ _=>False) _ h
  ⟨⟨rfl,dY.pad fn.ntmps hl,⟨rfl,trivial⟩,trivial,rfl,rfl,rfl⟩,trivial⟩ hR (b_.refl _ _ _) hR.nx
  (fun s m' R' w' v h1 h2 h3 h4=>⟨s,m',R',h1,h2,h3,h4⟩) (fun _ _ _ _ _ _ h=>h.elim))
end
def JV (E:Env) (r:Nat→List av→aj→Tree):Prop :=
 ∀ (id tag base:Nat) (ops:Array Oper) (T:Tm) (m:aj) (n0:Nat) (F:Nat→Prop) (w0 w:World) (R:aX) (a:Act) (next:Tm→aj→Tree) (A:SV→aj→Prop) (B:List av→aj→Prop),
  (K3 E r tag base ops T m next).sat A B→dY R T a→Rel n0 F w0 R m w →
  ∃ T' m',(next T' m').sat A B∧∀ (b:Frame),(b.roundOf=none∨Dv ops.toList=true)→∀ (k:List Item) (cs:List Frame),∃ a' w' R',(Ud base w w' m.next R R'∧m.next≤m'.next)∧dY R' T' a'∧a'.defers=a.defers∧Rel n0 F w0 R' m' w' ∧
   Steps E.P (lone (b.atR a (.code (.region id ops true) :: k)) cs w) (lone (b.atR a' k) cs w')
end Go.Proofs.YtldoopjnjlpbpaaGreatDoor
