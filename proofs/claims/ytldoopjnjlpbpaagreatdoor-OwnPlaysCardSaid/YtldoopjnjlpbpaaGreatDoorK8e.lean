/- An item is met; the machine's steps. No condition. -/
import Derived.Test.YtldoopjnjlpbpaaGreatDoorK8d
set_option linter.unusedVariables false
set_option linter.unusedSimpArgs false
namespace Go.Proofs.YtldoopjnjlpbpaaGreatDoor
section
variable {E:Env} (hE:bf E) {r:Nat→List av→aj→Tree} (hd:JV E r) {A:SV→aj→Prop} {B:List av→aj→Prop} {n0:Nat} {F:Nat→Prop} {w0 ws:World} {Rs:aX} {base:Nat} {f0:FuncId} {Φ:Value→World→Prop}
variable {f:av} {cs:List av} {m:aj} {w:World} {R:aX} {fn:FuncId} {tmps:Array Value} {ds:List Deferred} {kind:CallKind} {ro:Option Nat} {dm:List Frame} {ys:List Item}
include hE in
set_option maxHeartbeats 1000000 in
theorem Xt {r:List av→aj→Tree} (on:On E r A B n0 F w0 ws Rs base f0 Φ) {g:Operand} {ps:Array Tmp} {as bd:Code} {k:List bh} (hf:eA R f ⟨fn,tmps,.code (.rangeFunc g ps as bd) :: ys,ds,.run,kind,ro⟩) (hys:aK (jA R) k ys) (hcs:aK (eA R) cs dm) (hl:jk (f :: cs)=f0) (hR:Rel n0 F w0 R m w)
  (hX:b_ ws w base m.next Rs R) (mm:f.md=.run) (h:(J' E r f k cs m g ps as bd).sat A B):ig E.P f0 ⟨fn,tmps,.code (.rangeFunc g ps as bd) :: ys,ds,.run,kind,ro⟩ dm w Φ:=by
 have h1:fn=f.fn:=hf.fn
 have h2:gO R f.tm tmps:=hf.tm
 have h4:aK (l9 R) f.gN ds:=hf.gN
 have h5:nr R f.md .run:=hf.md
 have h6:kind=f.kind:=hf.kind
 have h7:sF R f.kj ro:=hf.kj
 have hT:dY R f.tm ⟨tmps,ds⟩:=h2
 unfold J' at h
 split at h
 ·rename_i hfn a b hev
  obtain ⟨xa,yb,e,ha,hb⟩:=eJ hT hev
  split at h
  ·rename_i hrnd
   rw [hrnd] at h7
   obtain rfl:ro=_:=h7
   obtain ⟨R1,x1,r1,aer⟩:=hR.newX (x:=.gZ) (o:=.deferred (some [])) rfl
   have hsz:(w.alloc (.deferred (some []))).heap.size=w.heap.size+1:=by simp
   have hst:=fun dd=>YP (P:=E.P) (fn:=fn) (tmps:=tmps) (k:=ys) (ds:=ds) (kind:=kind) (cs:=dm++dd) (w:=w) (ps:=ps) (as:=as) (bd:=bd) (hf:=(E.fn hfn).getD default) e
   generalize hW1:w.alloc (.deferred (some []))=W1 at *
   obtain ⟨R2,x2,r2,MI⟩:=aer.newX (x:=.loop .ready none f.fn f.tm ps as bd m.next) (o:=.loop { state:=.ready,pending:=none,fn:=fn,tmps:=tmps,params:=ps,assign:=as,body:=bd,defers:=w.heap.size })
    ⟨tmps,_,r1,gO.mono x1.1 h2,by rw [h1]⟩
   generalize hW2:W1.alloc (.loop { state:=.ready,pending:=none,fn:=fn,tmps:=tmps,params:=ps,assign:=as,body:=bd,defers:=w.heap.size })=W2 at *
   have ext:b_ w W2 m.next (m.next+2) R R2:=x1.trans x2
   have pR:R2 (m.next+1)=some ⟨w.heap.size+1,0⟩:=by rw [← hsz];exact r2
   have rq:R2 m.next=some ⟨w.heap.size,0⟩:=x2.1 _ _ r1
   have NR:eA R2 { f with todo:=.fD (m.next+1) :: k,gN:=.col m.next :: f.gN } ⟨fn,tmps,.inRangeFunc (w.heap.size+1) :: ys,{ target:=.collected w.heap.size,args:=#[] } :: ds,.run,kind,none⟩ :=
    ⟨h1,gO.mono ext.1 h2,⟨⟨_,pR,rfl⟩,hys.mono fun _ _=>jA.mono ext.1⟩,⟨⟨_,rq,rfl⟩,h4.mono fun _ _=>l9.mono ext.1⟩,nr.mono ext.1 h5,h6,by rw [hrnd];rfl⟩
   have NS:b_ ws W2 base (m.next+2) Rs R2:=hX.trans ext
   obtain ⟨hfd,og,MJ,lH⟩:=On.enter hE on h (by rw [← hl];exact lM (by rfl) cs) NR (xU.mono ext.1 hcs) MI NS
   have hargs:aK (SV.ok R2) (a.map (fun x=>SV.s (.c (.f x)))++[.s (.c (.yl (m.next+1)))]++b.map fun x=>SV.s (.c (.f x))) (xa++#[Value.func (.yield (w.heap.size+1)) #[] #[]]++yb).toList:=by
    simp only [Array.toList_append]
    exact aK.append (aK.append (aK.map (ha.mono fun _ _=>SF.mono ext.1)) ⟨⟨_,pR,rfl⟩,trivial⟩) (aK.map (hb.mono fun _ _=>SF.mono ext.1))
   refine (lH _ hargs).one fun dd=>?_
   refine hst dd ?_ ?_ ?_
   ·rw [og];exact (hE.fns _ _ og).1
   ·rw [og];exact (hE.fns _ _ og).2
   ·rw [og];exact MJ
  ·rename_i l0 hrnd
   rw [hrnd] at h7
   obtain ⟨g0,He,rfl⟩:=h7
   split at h
   ·rename_i dl hx
    obtain ⟨g',o,k1,k2,⟨za,gd,k3,k4,rfl⟩,_⟩:=hR.xo l0 _ hx
    rw [He] at k1
    cases k1
    have hst:=fun dd=>Wy (P:=E.P) (fn:=fn) (tmps:=tmps) (k:=ys) (ds:=ds) (kind:=kind) (cs:=dm++dd) (w:=w) (ps:=ps) (as:=as) (bd:=bd) (hf:=(E.fn hfn).getD default) k2 e
    obtain ⟨R2,x2,r2,MI⟩:=hR.newX (x:=.loop .ready none f.fn f.tm ps as bd dl) (o:=.loop { state:=.ready,pending:=none,fn:=fn,tmps:=tmps,params:=ps,assign:=as,body:=bd,defers:=gd.b })
     ⟨tmps,_,k3,h2,by rw [h1]⟩
    dsimp only at hst
    generalize hW2:w.alloc (.loop { state:=.ready,pending:=none,fn:=fn,tmps:=tmps,params:=ps,assign:=as,body:=bd,defers:=gd.b })=W2 at *
    have NR:eA R2 { f with todo:=.fD m.next :: k } ⟨fn,tmps,.inRangeFunc w.heap.size :: ys,ds,.run,kind,some g0.b⟩ :=
     ⟨h1,gO.mono x2.1 h2,⟨⟨_,r2,rfl⟩,hys.mono fun _ _=>jA.mono x2.1⟩,h4.mono fun _ _=>l9.mono x2.1,nr.mono x2.1 h5,h6,by rw [hrnd];exact ⟨g0,x2.1 _ _ He,rfl⟩⟩
    have NS:b_ ws W2 base (m.next+1) Rs R2:=hX.trans x2
    obtain ⟨hfd,og,MJ,lH⟩:=On.enter hE on h (by rw [← hl];exact lM (by rfl) cs) NR (xU.mono x2.1 hcs) MI NS
    have hargs:aK (SV.ok R2) (a.map (fun x=>SV.s (.c (.f x)))++[.s (.c (.yl m.next))]++b.map fun x=>SV.s (.c (.f x))) (xa++#[Value.func (.yield w.heap.size) #[] #[]]++yb).toList:=by
     simp only [Array.toList_append]
     exact aK.append (aK.append (aK.map (ha.mono fun _ _=>SF.mono x2.1)) ⟨⟨_,r2,rfl⟩,trivial⟩) (aK.map (hb.mono fun _ _=>SF.mono x2.1))
    refine (lH _ hargs).one fun dd=>?_
    refine hst dd ?_ ?_ ?_
    ·rw [og];exact (hE.fns _ _ og).1
    ·rw [og];exact (hE.fns _ _ og).2
    ·rw [og];exact MJ
   ·exact h.elim
 ·exact h.elim
include hE hd in
set_option maxHeartbeats 1000000 in
theorem YT (on:On E (r base) A B n0 F w0 ws Rs base f0 Φ) (hs:∀ i g,Rs i=some g→i<base) {x:Item} {k:List bh} (mm:f.md=.run) (rC:f.todo=.it x :: k) (hf:eA R f ⟨fn,tmps,x :: ys,ds,.run,kind,ro⟩) (hys:aK (jA R) k ys) (hcs:aK (eA R) cs dm) (hl:jk (f :: cs)=f0) (hR:Rel n0 F w0 R m w) (hX:b_ ws w base m.next Rs R)
  (h:(Ld E r base f k cs m x).sat A B):ig E.P f0 ⟨fn,tmps,x :: ys,ds,.run,kind,ro⟩ dm w Φ:=by
 have h1:fn=f.fn:=hf.fn
 have h2:gO R f.tm tmps:=hf.tm
 have h4:aK (l9 R) f.gN ds:=hf.gN
 have h5:nr R f.md .run:=hf.md
 have h6:kind=f.kind:=hf.kind
 have h7:sF R f.kj ro:=hf.kj
 have to:∀ {k':List bh} {ys':List Item},(r base ({ f with todo:=k' } :: cs) m).sat A B→aK (jA R) k' ys'→ig E.P f0 ⟨fn,tmps,ys',ds,.run,kind,ro⟩ dm w Φ:=fun h hk =>
  on h (by rw [← hl];exact lM (by rfl) cs) ⟨⟨h1,h2,hk,h4,h5,h6,h7⟩,hcs⟩ hR hX
 have hT:dY R f.tm ⟨tmps,ds⟩:=h2
 unfold Ld at h
 dsimp only [P5,P6,P7,P8,P9,OQ,OR,OS,OT,OV] at h
 split at h
 ·exact IQ on hf hcs hl hR hX h (.inr (.inl ⟨ys,rfl,rfl,rfl⟩))
 ·exact (to h hys).one fun dd=>ZT
 ·exact (to h hys).one fun dd=>YK
 ·exact (to h hys).one fun dd=>Wv
 ·exact (to h hys).one fun dd=>Ww
 ·rename_i a b
  exact (to (ys':=.code a :: .code b :: ys) h ⟨rfl,rfl,hys⟩).one fun dd=>abK
 ·rename_i c x y
  split at h
  ·rename_i t ht
   have hc:Act.eval ⟨tmps,ds⟩ c=.bool t.den:=eJ hT ht
   obtain ⟨e1,e2⟩:=Tree.Jf h
   cases e:t.den with
   | true=>exact (on (fr':=⟨fn,tmps,.code x :: ys,ds,.run,kind,ro⟩) (e1 e) (by rw [← hl];exact lM (by rfl) cs) ⟨⟨h1,Qj hT ht e,⟨rfl,hys⟩,h4,h5,h6,h7⟩,hcs⟩ hR hX).one fun dd=>Rn (t:=true) (by rw [hc,e])
   | false=>exact (on (fr':=⟨fn,tmps,.code y :: ys,ds,.run,kind,ro⟩) (e2 e) (by rw [← hl];exact lM (by rfl) cs) ⟨⟨h1,Qj hT ht e,⟨rfl,hys⟩,h4,h5,h6,h7⟩,hcs⟩ hR hX).one fun dd=>Rn (t:=false) (by rw [hc,e])
  ·exact h.elim
 ·rename_i id b
  exact (to (ys':=.code b :: .inBlock id :: ys) h ⟨rfl,rfl,hys⟩).one fun dd=>YL
 ·rename_i b
  exact (to (ys':=.code b :: .inLoop b :: ys) h ⟨rfl,rfl,hys⟩).one fun dd=>ZU
 ·rename_i b
  exact (to (ys':=.code b :: .inLoop b :: ys) h ⟨rfl,rfl,hys⟩).one fun dd=>Xp
 ·rename_i b
  exact (to (ys':=.code b :: .inScope b :: ys) h ⟨rfl,rfl,hys⟩).one fun dd=>YM
 ·rename_i id
  have hex:=Qk (id:=id) hys
  split at h
  ·rename_i k' hk'
   rw [hk'] at hex
   obtain ⟨l',e1,e2⟩:=hex
   exact (to h e2).one fun dd=>ZV e1
  ·rename_i hk'
   rw [hk'] at hex
   exact IQ on hf hcs hl hR hX h (.inr (.inr ⟨id,ys,rfl,hex,rfl,rfl⟩))
 ·rename_i id ops
  exact (to (ys':=.inRegion ops (List.range ops.size) :: ys) h ⟨rfl,hys⟩).one fun dd=>Xq
 ·rename_i id ops
  split at h
  ·rename_i hnd
   have hro:ro=none∨Dv ops.toList=true:=by
    cases hrnd:f.kj with
    | none =>
     rw [hrnd] at h7
     exact .inl h7
    | some l =>
     rw [hrnd] at hnd
     exact .inr hnd
   obtain ⟨T',m',k1,k2⟩:=hd id _ base ops f.tm m n0 F w0 w R ⟨tmps,ds⟩ _ A B h hT hR
   intro dd
   obtain ⟨a',w',R',⟨e1,e1n⟩,e2,e3,e4,e5⟩:=k2 ⟨fn,#[],[],[],.run,kind,ro⟩ hro ys (dm++dd)
   have mU:b_ ws w' base m'.next Rs R':=by
    refine ⟨hX.1.trans e1.1,fun i g hi=>?_,Nat.le_trans hX.2.2.1 e1.2.2,Nat.le_trans hX.2.2.2 e1n⟩
    rcases e1.2.1 i g hi with h1 | ⟨h1,h2 | ⟨j,h2,h3⟩⟩
    ·exact hX.2.1 i g h1
    ·exact .inr ⟨Nat.le_trans hX.2.2.1 h2,Nat.le_trans hX.2.2.2 h1⟩
    ·rcases hX.2.1 j g h3 with h4 | ⟨h4,_⟩
     ·have:=hs j g h4;omega
     ·exact .inr ⟨h4,Nat.le_trans hX.2.2.2 h1⟩
   obtain ⟨ND,ds'⟩:=a'
   have e3:ds'=ds:=e3
   subst e3
   obtain ⟨v,w2,e,j1,j2,j3⟩:=on (fr':=⟨fn,ND,ys,ds',.run,kind,ro⟩) k1 (by rw [← hl];exact lM (by rfl) cs) ⟨⟨h1,e2,hys.mono fun _ _=>jA.mono e1.1,h4.mono fun _ _=>l9.mono e1.1,nr.mono e1.1 h5,h6,sF.mono e1.1 h7⟩,xU.mono e1.1 hcs⟩ e4 mU dd
   exact ⟨v,w2,e,j1,Steps.trans e5 j2,j3⟩
  ·exact h.elim
 ·rename_i g ps as bd
  exact Xt hE on hf hys hcs hl hR hX mm h
 ·unfold Su at h
  split at h
  ·rename_i l hrnd
   rw [hrnd] at h7
   obtain ⟨g,hg,rfl⟩:=h7
   split at h
   ·rename_i j9 y_ tm ps as bd dl hx
    obtain ⟨g',o,k1,k2,⟨za,gd,k3,k4,rfl⟩,MH,_⟩:=hR.Ge hx rfl
    rw [hg] at k1
    cases k1
    exact (on (fr':=⟨fn,tmps,ys,ds,.run,kind,some g.b⟩) h (by rw [← hl];exact lM (by rfl) cs) ⟨⟨h1,h2,hys,h4,h5,h6,by rw [hrnd];exact ⟨g,hg,rfl⟩⟩,hcs⟩ (MH (.loop .busy j9 y_ tm ps as bd dl) _ ⟨za,gd,k3,k4,rfl⟩) (hX.trans (b_.same _ R (by simp)))).one fun dd=>YO k2 rfl
   ·exact h.elim
  ·exact h.elim
 ·rename_i ops l
  split at h
  ·exact (to h hys).one fun dd=>VV
  ·rename_i i rest
   split at h
   ·exact h.elim
   ·rename_i o ho
    rw [m5,Array.getElem?_toList] at ho
    split at h
    ·exact h.elim
    ·rename_i b hb
     have hw:=tO hb hT
     obtain ⟨e1,e2⟩:=Tree.Jf h
     clear h
     cases e:b.den with
     | false =>
      have NT:=Qi hT hb e
      have mo:eA R { f with tm:=qJ f.tm ops.toList o false,todo:=.it (.inRegion ops (i :: rest)) :: k } ⟨fn,tmps,.inRegion ops (i :: rest) :: ys,ds,.run,kind,ro⟩:=⟨h1,NT,⟨rfl,hys⟩,h4,h5,h6,h7⟩
      have yx:av.finish { f with tm:=qJ f.tm ops.toList o false,todo:=.it (.inRegion ops (i :: rest)) :: k } (.bW [])=some { f with tm:=nk (qJ f.tm ops.toList o false) o.dst (.bW []),todo:=.it (.inRegion ops rest) :: k }:=by
       simp only [av.finish,m5,Array.getElem?_toList,ho]
      obtain ⟨q1,q2⟩:=O6 (u:=undef) yx mo ⟨#[],rfl,trivial⟩
      exact (on (e2 e) (by rw [← hl];exact lM (by rfl) cs) ⟨q1,hcs⟩ hR hX).one fun dd=>ZW ho (by rw [hw,e])
     | true =>
      have hw':Region.wanted o (yielded ops tmps)=true:=by rw [hw,e]
      have NT:dY R (qJ f.tm ops.toList o true) ⟨tmps,ds⟩:=Qi hT hb e
      exact abN hE on hs (f:={ f with tm:=qJ f.tm ops.toList o true,todo:=.it (.inRegion ops (i :: rest)) :: k }) mm ⟨h1,NT,⟨rfl,hys⟩,h4,h5,h6,h7⟩ hcs (by rw [← hl];exact lM (by rfl) cs) hR hX ho hw' (e1 e)
 ·exact h.elim
end
theorem P0 {E:Env} (hE:bf E) {r:Nat→List av→aj→Tree} (hr:xP E r) (hd:JV E r):xP E (stepT E r):=by
 intro base fs m n0 F w0 ws w Rs R fr dm A B Φ h hfs hR hX hs hA hB
 have on:On E (r base) A B n0 F w0 ws Rs base (jk fs) Φ:=by
  intro fs' m' w' R' fr' kJ h hl hf fq mU
  have:=hr base fs' m' n0 F w0 ws w' Rs R' fr' kJ A B Φ h hf fq mU hs hA (fun fs2 m2 R2 w2 Vv aes h1 h2 h3 h4 h5=>by
   rw [hl] at h2 ⊢
   exact hB fs2 m2 R2 w2 Vv aes h1 h2 h3 h4 h5)
  rw [hl] at this
  exact this
 cases fs with
 | nil=>exact hfs.elim
 | cons f cs =>
  obtain ⟨hf,hcs⟩:=hfs
  obtain ⟨fn,tmps,todo,ds,mode,kind,ro⟩:=fr
  simp only [stepT] at h
  split at h
  ·rename_i mm
   have h5:=hf.md
   rw [mm] at h5
   obtain rfl:mode=_:=h5
   have h3:aK (jA R) f.todo todo:=hf.todo
   split at h
   ·rename_i rC
    rw [rC] at h3
    cases todo with
    | cons _ _=>exact h3.elim
    | nil=>exact IQ on hf hcs rfl hR hX h (.inl ⟨rfl,rfl,rfl⟩)
   ·rename_i x k rC
    have oy:f.Fu=f:=by
     unfold av.Fu
     rw [← mm]
    rw [oy] at h
    split at h
    ·exact hB _ m R w _ _ h rfl hX hR ⟨hf,hcs⟩
    ·rw [rC] at h3
     cases todo with
     | nil=>exact h3.elim
     | cons y ys =>
      obtain ⟨hy,hys⟩:=h3
      cases x with
      | qV l =>
       obtain ⟨g,hg,rfl⟩:=hy
       exact ZZ on hf hys hg hcs rfl hR hX h
      | fD _=>exact h.elim
      | it x =>
       obtain rfl:y=x:=hy
       exact YT hE hd on hs mm rC hf hys hcs rfl hR hX h
  ·rename_i mm
   exact Xs hE on hA hf mm hcs rfl hR hX h
end Go.Proofs.YtldoopjnjlpbpaaGreatDoor
