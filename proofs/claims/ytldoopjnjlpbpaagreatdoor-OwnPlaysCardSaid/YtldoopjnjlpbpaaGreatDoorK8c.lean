/- The symbolic machine's steps are the machine's: the proof. No condition. -/
import Derived.Test.YtldoopjnjlpbpaaGreatDoorK8m
set_option linter.unusedVariables false
set_option linter.unusedSimpArgs false
namespace Go.Proofs.YtldoopjnjlpbpaaGreatDoor
theorem V2 {P:Program} {T:Tm} {m m':aj} {o:Op} {q:List Prop} {v:SV} (h:yp P T m o=.ok q v m'):oL o=true:=by
 cases o with
 | defer c=>cases h
 | _=>rfl
theorem V3 {o:Op} (h:isApp o=true):oL o=true:=by
 cases o with
 | defer c=>cases h
 | _=>rfl
theorem VW {o:Op} (h:J9 o=true):oL o=true:=by
 cases o with
 | defer c=>cases h
 | _=>rfl
def On (E:Env) (r:List av→aj→Tree) (A:SV→aj→Prop) (B:List av→aj→Prop) (n0:Nat) (F:Nat→Prop) (w0 ws:World) (Rs:aX) (base:Nat) (f0:FuncId) (Φ:Value→World→Prop):Prop :=
 ∀ {fs':List av} {m':aj} {w':World} {R':aX} {fr':Frame} {kJ:List Frame},(r fs' m').sat A B→jk fs'=f0→aK (eA R') fs' (fr' :: kJ)→Rel n0 F w0 R' m' w'→b_ ws w' base m'.next Rs R'→ig E.P f0 fr' kJ w' Φ
section
variable {E:Env} (hE:bf E) {r:List av→aj→Tree} {A:SV→aj→Prop} {B:List av→aj→Prop} {n0:Nat} {F:Nat→Prop} {w0 ws:World} {Rs:aX} {base:Nat} {f0:FuncId} {Φ:Value→World→Prop}
theorem On.finish (on:On E r A B n0 F w0 ws Rs base f0 Φ) {f:av} {cs:List av} {v:SV} {u:Value} {m':aj} {w':World} {R':aX} {fc:Frame} {tv:List Frame} (h:(tr r (f.finish v) cs m').sat A B) (hl:jk (f :: cs)=f0) (hf:eA R' f fc) (hcs:aK (eA R') cs tv) (hv:v.ok R' u)
  (fq:Rel n0 F w0 R' m' w') (mU:b_ ws w' base m'.next Rs R'):ig E.P f0 (fc.finish u) tv w' Φ:=by
 unfold tr at h
 split at h
 ·rename_i f' hf'
  obtain ⟨k1,k2⟩:=O6 hf' hf hv
  exact on h (by rw [lM k2,hl]) ⟨k1,hcs⟩ fq mU
 ·exact h.elim
include hE in
theorem On.enter (on:On E r A B n0 F w0 ws Rs base f0 Φ) {g:FuncId} {l:List SV} {c:av} {cs:List av} {m1:aj} {w1:World} {R1:aX} {fc:Frame} {tv:List Frame} (h:(Ap E r g l c cs m1).sat A B) (hl:jk (c :: cs)=f0) (hc:eA R1 c fc) (hcs:aK (eA R1) cs tv)
  (G9:Rel n0 F w0 R1 m1 w1) (Vu:b_ ws w1 base m1.next Rs R1) :
  ∃ fn,E.fn g=some fn∧fn.body.isSome=true∧∀ args:Array Value,aK (SV.ok R1) l args.toList→ig E.P f0 (Frame.enter E.P g args .normal) (fc :: tv) w1 Φ:=by
 unfold Ap at h
 split at h
 ·rename_i t BM
  obtain ⟨fn,hfn,hbd,BN⟩:=hE.mh _ _ _ _ _ BM (Tree.CS h)
  refine ⟨fn,hfn,hbd,fun args hargs ds=>?_⟩
  obtain ⟨e,w2,Vv,⟨u,rfl,s,m2,R2,k1,k2,k3,k4⟩,k5,_,k6⟩:=BN n0 F w0 w1 R1 args hargs G9 (fc :: tv++ds)
  obtain ⟨v',w3,e3,j1,j2,j3⟩:=on.finish k1 hl (eA.mono k2.1 hc) (xU.mono k2.1 hcs) k4 k3 (Vu.trans k2) ds
  exact ⟨v',w3,e3,j1,(Steps.trans k5 (.one (step_leave_returned k6))).trans j2,j3⟩
 ·split at h
  ·rename_i fn hfn
   split at h
   ·rename_i b hb
    refine ⟨fn,hfn,by rw [hb];rfl,fun args hargs=>?_⟩
    rw [Qg (hE.fns _ _ hfn).1 hb]
    exact on h hl ⟨⟨rfl,dY.pad fn.ntmps hargs,⟨rfl,trivial⟩,trivial,rfl,rfl,rfl⟩,hc,hcs⟩ G9 Vu
   ·exact h.elim
  ·exact h.elim
variable {f:av} {cs:List av} {m:aj} {w:World} {R:aX} {fn:FuncId} {tmps:Array Value} {ds:List Deferred} {kind:CallKind} {ro:Option Nat} {dm:List Frame} {ys:List Item}
include hE in
set_option maxHeartbeats 1000000 in
theorem abN (on:On E r A B n0 F w0 ws Rs base f0 Φ) (hs:∀ i g,Rs i=some g→i<base) {ops:Array Oper} {i:Nat} {rest:List Nat} {o:Oper} {tag:Nat} (mm:f.md=.run) (hf:eA R f ⟨fn,tmps,.inRegion ops (i :: rest) :: ys,ds,.run,kind,ro⟩) (hcs:aK (eA R) cs dm) (hl:jk (f :: cs)=f0)
  (hR:Rel n0 F w0 R m w) (hX:b_ ws w base m.next Rs R) (ho:ops[i]?=some o) (hw:Region.wanted o (yielded ops tmps)=true) (h:(NM E r base tag f cs o.op m).sat A B):ig E.P f0 ⟨fn,tmps,.inRegion ops (i :: rest) :: ys,ds,.run,kind,ro⟩ dm w Φ:=by
 have hT:dY R f.tm ⟨tmps,ds⟩:=hf.tm
 have Ue:∀ {f1:av} {v:SV} {u:Value} {m1:aj} {w1:World} {R1:aX} {Vw:List Deferred},(tr r (f1.finish v) cs m1).sat A B→f1.fn=f.fn→eA R1 f1 ⟨fn,tmps,.inRegion ops (i :: rest) :: ys,Vw,.run,kind,ro⟩→aK (eA R1) cs dm→v.ok R1 u→Rel n0 F w0 R1 m1 w1→b_ ws w1 base m1.next Rs R1 →
   ig E.P f0 (Frame.finish ⟨fn,tmps,.inRegion ops (i :: rest) :: ys,Vw,.run,kind,ro⟩ u) dm w1 Φ :=
  fun h hfn hf hcs hv hR hX=>on.finish h (by rw [lM hfn,hl]) hf hcs hv hR hX
 generalize hop:o.op=op at h
 unfold NM at h
 split at h
 ·rename_i ac6
  have hnd:ro=none∨oL o.op=true:=.inr (by rw [hop];exact VW ac6)
  split at h
  ·rename_i id l hy'
   obtain ⟨g,args,hg,hargs,hrun⟩:=YS (P:=E.P) (w:=w) (o:=o) (by rw [hop];exact hy') hT
   unfold St at h
   split at h
   ·rename_i y_ tm ps as bd dl hx
    obtain ⟨g',ob,k1,k2,⟨za,gd,k3,k4,rfl⟩,_⟩:=hR.xo id _ hx
    rw [hg] at k1
    cases k1
    split at h
    ·rename_i T' hps
     obtain ⟨q1,q2⟩:=Ql hps k4 hargs
     have NQ:=run_yield (P:=E.P) (args:=args) k2 (by simpa using q1)
     rw [← hrun] at NQ
     rw [Xr] at NQ
     exact (on (fr':=⟨y_,_,[.code as,.beginRound,.code bd],[],.run,.normal,some g.b⟩) (kJ:=⟨fn,tmps,.inRegion ops (i :: rest) :: ys,ds,.run,kind,ro⟩ :: dm) h hl ⟨⟨rfl,q2,⟨rfl,rfl,rfl,trivial⟩,trivial,rfl,rfl,⟨g,hg,rfl⟩⟩,hf,hcs⟩ hR hX).one fun dd=>YR ho hw hnd NQ
    ·exact h.elim
   ·exact h.elim
  ·split at h
   ·rename_i g l jG
    obtain ⟨gf,G_,hbd,lH⟩:=On.enter hE on h hl hf hcs hR hX
    obtain ⟨args,mj,tq⟩:=IA (w:=w) (o:=o) (by rw [hop];exact jG) hT (hE.fns _ _ G_).1 (hE.fns _ _ G_).2 hbd
    exact (lH args mj).one fun dd=>YQ ho hw hnd tq
   ·exact h.elim
 ·split at h
  ·rename_i aep
   have hnd:ro=none∨oL o.op=true:=.inr (by rw [hop];exact V3 aep)
   obtain ⟨T0,ry,h⟩:=Oe h
   replace hf:eA R { f with tm:=T0 } _:=⟨hf.fn,ry.ok hf.tm,hf.todo,hf.gN,hf.md,hf.kind,hf.kj⟩
   replace hT:=ry.ok hT
   split at h
   ·rename_i q s m' hx
    obtain ⟨hq,h⟩:=Tree.nG h
    obtain ⟨R',w',v,k1,k2,k3,k4,k5⟩:=Q3 (o:=o) (by rw [hop];exact hx) hq hT hR
    replace k1:=k1.toA
    have mU:b_ ws w' base m'.next Rs R':=by
     refine ⟨hX.1.trans k1.1,fun i g hi=>?_,Nat.le_trans hX.2.2.1 k1.2.2,by rw [k2];have:=hX.2.2.2;omega⟩
     rcases k1.2.1 i g hi with h1 | ⟨h1,h2 | ⟨j,h2,h3⟩⟩
     ·exact hX.2.1 i g h1
     ·exact .inr ⟨Nat.le_trans hX.2.2.1 h2,Nat.le_trans hX.2.2.2 h1⟩
     ·rcases hX.2.1 j g h3 with h4 | ⟨h4,_⟩
      ·have:=hs j g h4;omega
      ·exact .inr ⟨h4,Nat.le_trans hX.2.2.2 h1⟩
    exact (Ue (u:=v) h rfl (eA.mono k1.1 hf) (xU.mono k1.1 hcs) k4 k3 mU).one fun dd=>Qh ho hw hnd k5
   ·exact h.elim
  ·split at h
   ·rename_i q s m' hx
    have hnd:ro=none∨oL o.op=true:=.inr (by rw [hop];exact V2 hx)
    obtain ⟨hq,h⟩:=Tree.nG h
    obtain ⟨R',w',v,k1,k2,k3,k4⟩:=Q0 (o:=o) (by rw [hop];exact hx) hq hT hR
    exact (Ue (u:=v) h rfl (eA.mono k1.1 hf) (xU.mono k1.1 hcs) k3 k2 (hX.trans k1)).one fun dd=>Qh ho hw hnd k4
   ·exact h.elim
end
end Go.Proofs.YtldoopjnjlpbpaaGreatDoor
