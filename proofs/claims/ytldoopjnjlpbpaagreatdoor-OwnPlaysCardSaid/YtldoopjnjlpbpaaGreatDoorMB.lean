/- Of forests: what becomes of ways upwards when less is above, when one is put below another one, when there is one more. No condition. -/
import Derived.Test.YtldoopjnjlpbpaaGreatDoorMA
import Derived.Test.YtldoopjnjlpbpaaGreatDoorK27
set_option linter.unusedVariables false
set_option linter.unusedSimpArgs false
namespace Go.Proofs.YtldoopjnjlpbpaaGreatDoor
set_option linter.unusedVariables false
section
variable {L L':List Int} {up up':Int→Int}
theorem Jv (h:fA L up) (hn:L'.Nodup) (hs:∀ x∈L',x∈L) (hu:∀ x∈L',up' x=up x∨up' x=0) (hc:∀ x∈L',up' x=0∨up' x∈L'):fA L' up'∧∀ x∈L',dx up' x≤dx up x:=by
 have key:∀ (n:Nat) (x:Int),x=0∨x∈L'→(ko up' n x).length≤(ko up n x).length:=by
  intro n
  induction n with
  | zero=>intro x _;exact Nat.le_refl _
  | succ n ih =>
   intro x hx
   rcases hx with rfl | hx
   ·rw [tL];exact Nat.zero_le _
   ·have h0:=h.nz x (hs x hx)
    rw [qa h0,qa h0,List.length_cons,List.length_cons]
    rcases hu x hx with e | e
    ·have:=ih (up' x) (hc x hx)
     rw [e] at this ⊢
     omega
    ·rw [e,tL]
     exact Nat.succ_le_succ (Nat.zero_le _)
 exact ⟨⟨hn,fun x hx=>h.nz x (hs x hx),hc,fun x hx=>Nat.le_trans (key 14 x (.inr hx)) (h.dp x (hs x hx))⟩,fun x hx=>key 14 x (.inr hx)⟩
theorem Qt (h:fA L up) (hu:∀ x∈L,up' x=up x):fA L up'∧∀ x,x=0∨x∈L→cm up' x=cm up x:=by
 obtain ⟨h',_⟩:=Jv (L':=L) h h.nd (fun _ hx=>hx) (fun x hx=>.inl (hu x hx)) (fun x hx=>by rw [hu x hx];exact h.cl x hx)
 refine ⟨h',?_⟩
 refine jj h (by rw [fZ,fZ]) fun x hx ih=>?_
 rw [fO h' hx,fO h hx,hu x hx,ih]
theorem abT (h:fA L up) {c:Int} (hc:c∈L) (h0:up' c=0) (hu:∀ x∈L,x≠c→up' x=up x):fA L up'∧(∀ x∈L,dx up' x≤dx up x)∧(∀ x,x=0∨x∈L→(c∈cm up' x↔c∈cm up x))∧(∀ x,x=0∨x∈L→c∈cm up x→gE up' x=c):=by
 obtain ⟨h',hd⟩:=Jv (L':=L) (up':=up') h h.nd (fun _ hx=>hx) (fun x hx=>by
  by_cases e:x=c
  ·rw [e];exact .inr h0
  ·exact .inl (hu x hx e)) (fun x hx=>by
  by_cases e:x=c
  ·rw [e];exact .inl h0
  ·rw [hu x hx e];exact h.cl x hx)
 refine ⟨h',hd,?_,?_⟩
 ·refine jj h (by rw [fZ,fZ]) fun x hx ih=>?_
  rw [fO h' hx,fO h hx,List.mem_cons,List.mem_cons]
  by_cases e:x=c
  ·simp [e]
  ·rw [hu x hx e,ih]
 ·refine jj h (fun k=>by rw [fZ] at k;cases k) fun x hx ih k=>?_
  rw [rT h' hx]
  by_cases e:x=c
  ·rw [e,if_pos h0]
  ·rw [hu x hx e]
   rw [fO h hx,List.mem_cons] at k
   have k:=k.resolve_left fun k=>e k.symm
   have hz:up x≠0:=fun z=>by rw [z,fZ] at k;cases k
   rw [if_neg hz]
   exact ih k
theorem Pe (h:fA L up) {c u:Int} (hc:c∈L) (hr:up c=0) (hu:u∈L) (hn:c∉cm up u) (h0:up' c=u) (hs:∀ x∈L,x≠c→up' x=up x) (G3:∀ x∈L,c∈cm up x→dx up x+dx up u≤13):fA L up'∧(∀ x,x=0∨x∈L→c∉cm up x→cm up' x=cm up x)∧(∀ x,x=0∨x∈L→c∈cm up x→cm up' x=cm up x++cm up u):=by
 have same:∀ x,x=0∨x∈L→c∉cm up x→∀ n,dx up x≤n→ko up' n x=cm up x:=by
  refine jj h (fun _ n _=>by rw [fZ,tL]) fun x hx ih hcx n hle=>?_
  have hd:=kr h hx
  rw [fO h hx] at hcx ⊢
  rw [List.mem_cons,not_or] at hcx
  obtain ⟨m,rfl⟩:∃ m,n=m+1:=⟨n - 1,by omega⟩
  rw [qa (h.nz x hx),hs x hx (fun e=>hcx.1 e.symm),ih hcx.2 m (by omega)]
 have under:∀ x,x=0∨x∈L→c∈cm up x→∀ n,dx up x+dx up u≤n→ko up' n x=cm up x++cm up u:=by
  refine jj h (fun k=>by rw [fZ] at k;cases k) fun x hx ih hcx n hle=>?_
  have hd:=kr h hx
  rw [fO h hx] at hcx ⊢
  obtain ⟨m,rfl⟩:∃ m,n=m+1:=⟨n - 1,by omega⟩
  rw [qa (h.nz x hx)]
  by_cases e:x=c
  ·subst e
   rw [h0,hr,fZ]
   rw [hr,wD] at hd
   rw [same u (.inr hu) hn m (by omega)]
   rfl
  ·have k:=(List.mem_cons.1 hcx).resolve_left fun k=>e k.symm
   rw [hs x hx e,ih k m (by omega)]
   rfl
 have dle:∀ x∈L,dx up x≤13:=fun x hx=>(qk h hx).2
 refine ⟨⟨h.nd,h.nz,fun x hx=>?_,fun x hx=>?_⟩,fun x hx k=>?_,fun x hx k=>?_⟩
 ·by_cases e:x=c
  ·rw [e,h0];exact .inr hu
  ·rw [hs x hx e];exact h.cl x hx
 ·by_cases k:c∈cm up x
  ·rw [under x (.inr hx) k 14 (by have:=G3 x hx k;omega),List.length_append]
   exact G3 x hx k
  ·rw [same x (.inr hx) k 14 (by have:=dle x hx;omega)]
   exact dle x hx
 ·rcases hx with rfl | hx
  ·rw [fZ,fZ]
  ·exact same x (.inr hx) k 14 (by have:=dle x hx;omega)
 ·rcases hx with rfl | hx
  ·rw [fZ] at k;cases k
  ·exact under x (.inr hx) k 14 (by have:=G3 x hx k;omega)
theorem XK (h:fA L up) (h':fA L up') {c u:Int} (hc:c∈L) (hu:u∈L) (hn:c∉cm up u) (h0:up' c=u) (hs:∀ x∈L,x≠c→up' x=up x):gE up' c=gE up u:=by
 have key:∀ x,x=0∨x∈L→c∉cm up x→gE up' x=gE up x:=by
  refine jj h (fun _=>by rw [Rv,Rv]) fun x hx ih hcx=>?_
  rw [fO h hx,List.mem_cons,not_or] at hcx
  rw [rT h' hx,rT h hx,hs x hx (fun e=>hcx.1 e.symm)]
  split
  ·rfl
  ·exact ih hcx.2
 rw [rT h' hc,h0,if_neg (h.nz u hu)]
 exact key u (.inr hu) hn
theorem aaz (h:fA L up) {c u:Int} (hn:L'.Nodup) (hm:∀ x,x∈L'↔x∈L∨x=c) (hc:c∉L) (hz:c≠0) (hu:u=0∨u∈L) (h0:up' c=u) (hs:∀ x∈L,up' x=up x) (hd:dx up u≤12):fA L' up'∧(∀ x,x=0∨x∈L→cm up' x=cm up x)∧dx up' c=dx up u+1:=by
 have same:∀ x,x=0∨x∈L→∀ n,dx up x≤n→ko up' n x=cm up x:=by
  refine jj h (fun n _=>by rw [fZ,tL]) fun x hx ih n hle=>?_
  have hd:=kr h hx
  rw [fO h hx]
  obtain ⟨m,rfl⟩:∃ m,n=m+1:=⟨n - 1,by omega⟩
  rw [qa (h.nz x hx),hs x hx,ih m (by omega)]
 have dle:∀ x,x=0∨x∈L→dx up x≤13:=fun x hx=>by
  rcases hx with rfl | hx
  ·rw [wD];omega
  ·exact (qk h hx).2
 have ec:∀ n,dx up u≤n→ko up' (n+1) c=c :: cm up u:=fun n hn=>by
  rw [qa hz,h0,same u hu n hn]
 refine ⟨⟨hn,fun x hx=>?_,fun x hx=>?_,fun x hx=>?_⟩,fun x hx=>same x hx 14 (by have:=dle x hx;omega),?_⟩
 ·rcases (hm x).1 hx with k | k
  ·exact h.nz x k
  ·rw [k];exact hz
 ·rcases (hm x).1 hx with k | k
  ·rw [hs x k]
   exact (h.cl x k).imp id fun k=>(hm _).2 (.inl k)
  ·rw [k,h0]
   exact hu.imp id fun k=>(hm _).2 (.inl k)
 ·rcases (hm x).1 hx with k | k
  ·rw [same x (.inr k) 14 (by have:=dle x (.inr k);omega)]
   exact dle x (.inr k)
  ·rw [k,ec 13 (by omega),List.length_cons]
   have:(cm up u).length=dx up u:=rfl
   omega
 ·show (ko up' 14 c).length=_
  rw [ec 13 (by omega),List.length_cons]
  rfl
end
set_option maxRecDepth 100000
section
variable {ts:Array Value} {h:Int}
theorem Lh (hb:aM ts) {x y:Int} (hx:aB ts x=true) (hy:aB ts y=true) (hne:x≠y):sl x≠sl y:=fun e=>by
 have h1:=(dX hb hx).2.2.2.2.1
 have h2:=(dX hb hy).2.2.2.2.1
 rw [e] at h1
 exact hne (h1.trans h2.symm)
theorem Sz (us:Array Value) (x:Int) (k:Nat):bL us x k=aa us (64+sl x*12+(4+k)):=by unfold bL pl;rw [Nat.add_assoc]
theorem adb {us:Array Value} {x:Int} (hc:∀ j,j<12→us[64+sl x*12+j]?=ts[64+sl x*12+j]?):cg us x=cg ts x∧dc us x=dc ts x∧∀ k,k<8→bL us x k=bL ts x k:=by
 refine ⟨?_,?_,fun k hk=>?_⟩
 ·have:=hc 0 (by decide)
  unfold cg aa pl
  rw [Nat.add_zero] at this
  rw [this]
 ·have:=hc 1 (by decide)
  unfold dc aa pl
  rw [this]
 ·have:=hc (4+k) (by omega)
  rw [Sz,Sz]
  unfold aa
  rw [this]
theorem Kc (hb:aM ts) {us:Array Value} {q:Nat} {u n:Int} {c:Nat→Int} (hs:us.size=448) (cQ:bP (aF us)) (hq:q<32) (hu:aN u) (hn:0≤n∧n≤64) (hcc:∀ k,k<8→aN (c k)) (hc:∀ i j,i<32→j<12→us[64+i*12+j]?=if i=q then (gT u n 0 c)[j]? else ts[64+i*12+j]?):aM us∧(∀ x,sl x=q→cg us x=u∧dc us x=n∧∀ k,k<8→bL us x k=c k)∧(∀ x,sl x<32→sl x≠q→cg us x=cg ts x∧dc us x=dc ts x∧∀ k,k<8→bL us x k=bL ts x k):=by
 have key:=DD (us:=us) (p:=64+q*12) (u:=u) (q:=n) (c:=c) (fun k hk=>by rw [hc q k hq hk,if_pos rfl]) hu hn hcc
 refine ⟨⟨hs,cQ,fun i hi=>?_⟩,fun x hx=>?_,fun x hx hne=>adb fun j hj=>by rw [hc _ j hx hj,if_neg hne]⟩
 ·by_cases e:i=q
  ·rw [e];exact key.1
  ·exact Rw (hb.rg i hi) fun k hk=>by rw [hc i k hi hk,if_neg e]
 ·unfold cg dc bL pl
  rw [hx]
  exact key.2
theorem ade (hb:aM ts) (hg:aB ts h=true):aF (gF ts h)=gH (aF ts) h∧∀ i j,i<32→j<12→(gF ts h)[64+i*12+j]?=if i=sl h then (gT 0 0 0 fun _=>0)[j]? else ts[64+i*12+j]?:=by
 have hv:=(Dk hb.bk h).sz
 obtain ⟨p1,p2,p3⟩:=w_ (bs:=gH (aF ts) h) hb.sz hv
 obtain ⟨q1,q2,q3⟩:=xd (ts:=putAt ts 0 (gH (aF ts) h).toList) (l:=Hg) p1 (dX hb hg).2.2.1 rfl
 refine ⟨q2.trans p2,fun i j hi hj=>?_⟩
 have:=q3 i j hi hj
 rw [show gF ts h=putAt (putAt ts 0 (gH (aF ts) h).toList) (64+sl h*12) Hg from rfl,this]
 split
 ·unfold Hg;rw [Array.getElem?_toList]
 ·exact p3 _ (by omega)
theorem wR (hb:aM ts) (hg:aB ts h=true):aM (gF ts h)∧aF (gF ts h)=gH (aF ts) h∧(∀ x,aB (gF ts h) x=(aB ts x&&!decide (x=h)))∧(∀ x,aB ts x=true→x≠h→cg (gF ts h) x=cg ts x∧dc (gF ts h) x=dc ts x∧∀ k,k<8→bL (gF ts h) x k=bL ts x k):=by
 obtain ⟨h1,h2⟩:=ade hb hg
 obtain ⟨r1,r2,r3⟩:=Kc hb (u:=0) (n:=0) (c:=fun _=>0) (Rx hb hg) (by rw [h1];exact Dk hb.bk h) (dX hb hg).2.2.1 ⟨by decide,by decide⟩ ⟨by decide,by decide⟩ (fun _ _=>⟨by decide,by decide⟩) h2
 refine ⟨r1,h1,fun x=>?_,fun x hx hne=>r3 x (dX hb hx).2.2.1 (Lh hb hx hg hne)⟩
 unfold aB
 rw [h1]
 exact WH hb.bk h x
theorem Qv (hb:aM ts) (hg:aB ts h=true) {x:Int} (hx:aB ts x=true) (hne:x≠h):aG (gF ts h) x=if aG ts x=h then 0 else aG ts x:=by
 obtain ⟨_,_,r3,r4⟩:=wR hb hg
 have h1:=(dX hb hg).2.2.2.2.2.2
 have e:=(r4 x hx hne).1
 have g:aB (gF ts h) x=true:=by rw [r3,hx,decide_eq_false hne];rfl
 unfold aG
 rw [g,hx,if_pos rfl,if_pos rfl,e,r3]
 cases c:aB ts (cg ts x) with
 | false =>
  simp only [Bool.false_and,Bool.false_eq_true,if_false]
  rw [if_neg (by omega)]
 | true =>
  by_cases d:cg ts x=h
  ·simp [d]
  ·simp [d]
def mq (ts:Array Value) (h u q:Int) (c:Nat→Int):Array Value:=putAt ts (pl h) (gT u q 0 c).toList
theorem Li (hb:aM ts) (hg:aB ts h=true) {u q:Int} {c:Nat→Int} (hu:aN u) (hq:0≤q∧q≤64) (hc:∀ k,k<8→aN (c k)):aM (mq ts h u q c)∧aF (mq ts h u q c)=aF ts∧(cg (mq ts h u q c) h=u∧dc (mq ts h u q c) h=q∧∀ k,k<8→bL (mq ts h u q c) h k=c k)∧(∀ x,aB ts x=true→x≠h→cg (mq ts h u q c) x=cg ts x∧dc (mq ts h u q c) x=dc ts x∧∀ k,k<8→bL (mq ts h u q c) x k=bL ts x k):=by
 obtain ⟨q1,q2,q3⟩:=xd (ts:=ts) (l:=(gT u q 0 c).toList) hb.sz (dX hb hg).2.2.1 rfl
 have q2:aF (mq ts h u q c)=aF ts:=q2
 obtain ⟨r1,r2,r3⟩:=Kc (us:=mq ts h u q c) hb (u:=u) (n:=q) (c:=c) q1 (by rw [q2];exact hb.bk) (dX hb hg).2.2.1 hu hq hc fun i j hi hj=>by
  have:=q3 i j hi hj
  rw [show mq ts h u q c=putAt ts (64+sl h*12) (gT u q 0 c).toList from rfl,this]
  split
  ·rw [Array.getElem?_toList]
  ·rfl
 exact ⟨r1,q2,r2 h rfl,fun x hx hne=>r3 x (dX hb hx).2.2.1 (Lh hb hx hg hne)⟩
theorem iJ {us:Array Value} (e:aF us=aF ts) (x:Int):aB us x=aB ts x:=by unfold aB;rw [e]
theorem qn {us:Array Value} (e:aF us=aF ts):af us=af ts:=by unfold af;rw [e]
theorem r9 {us:Array Value} (e:aF us=aF ts) {x:Int} (hx:cg us x=cg ts x):aG us x=aG ts x:=by unfold aG;rw [iJ e,iJ e,hx]
theorem sk (hb:aM ts) (hg:aB ts h=true):aN (cg ts h)∧(0≤dc ts h∧dc ts h≤64)∧∀ k,k<8→aN (bL ts h k):=by
 have r:=hb.rg _ (dX hb hg).2.2.1
 exact ⟨r.hu,r.hq,r.hc⟩
theorem Km (hb:aM ts) (hg:aB ts h=true) {rr:Array Value} (hr:lg rr 0):aM (gq ts h rr)∧aF (gq ts h rr)=aF ts∧(∀ x,aB ts x=true→cg (gq ts h rr) x=cg ts x)∧(dc (gq ts h rr) h=aa rr 1∧∀ k,k<8→bL (gq ts h rr) h k=aa rr (4+k))∧(∀ x,aB ts x=true→x≠h→dc (gq ts h rr) x=dc ts x∧∀ k,k<8→bL (gq ts h rr) x k=bL ts x k):=by
 have e:gq ts h rr=mq ts h (cg ts h) (aa rr 1) (fun k=>aa rr (4+k)):=by unfold gq;rw [if_pos hg];rfl
 obtain ⟨r1,r2,⟨r3,r4,r5⟩,r6⟩:=Li (u:=cg ts h) (q:=aa rr 1) (c:=fun k=>aa rr (4+k)) hb hg (sk hb hg).1 hr.hq (fun k hk=>by have:=hr.hc k hk;rw [Nat.zero_add] at this;exact this)
 rw [e]
 exact ⟨r1,r2,fun x hx=>if c:x=h then by rw [c];exact r3 else (r6 x hx c).1,⟨r4,r5⟩,fun x hx hne=>(r6 x hx hne).2⟩
theorem r8 (hb:aM ts) (hg:aB ts h=true) {u:Int} (hu:aN u):aM (bz ts h u)∧aF (bz ts h u)=aF ts∧cg (bz ts h u) h=u∧(∀ x,aB ts x=true→x≠h→cg (bz ts h u) x=cg ts x)∧(∀ x,dc (bz ts h u) x=dc ts x∧∀ k,k<8→bL (bz ts h u) x k=bL ts x k):=by
 have hs:=hb.sz
 have h3:=(dX hb hg).2.2.1
 have hp:pl h<448:=by unfold pl;omega
 have sz:(bz ts h u).size=448:=by unfold bz;rw [pY];exact hs
 have out:∀ k,k≠pl h→(bz ts h u)[k]?=ts[k]?:=fun k hk=>by unfold bz;exact mz hk
 have hin:(bz ts h u)[pl h]?=some (.int .u32 u):=by unfold bz;exact wT (by omega)
 have bk:aF (bz ts h u)=aF ts:=by
  apply Array.ext_getElem?
  intro j
  unfold aF
  by_cases c:j<64
  ·rw [ext_get (by omega) (by omega),ext_get (by omega) (by omega)]
   exact out _ (by unfold pl;omega)
  ·rw [Array.getElem?_eq_none (by rw [rN (by omega)];omega),Array.getElem?_eq_none (by rw [rN (by omega)];omega)]
 have rest:∀ x,dc (bz ts h u) x=dc ts x∧∀ k,k<8→bL (bz ts h u) x k=bL ts x k:=fun x=>by
  refine ⟨?_,fun k hk=>?_⟩
  ·unfold dc aa
   rw [out _ (by unfold pl;omega)]
  ·unfold bL aa
   rw [out _ (by unfold pl;omega)]
 refine ⟨⟨sz,by rw [bk];exact hb.bk,fun i hi=>?_⟩,bk,bI hin,fun x hx hne=>?_,rest⟩
 ·by_cases e:i=sl h
  ·have r:=hb.rg _ h3
   have ep:64+sl h*12=pl h:=rfl
   rw [e]
   have o:∀ j,j≠0→(bz ts h u)[64+sl h*12+j]?=ts[64+sl h*12+j]?:=fun j hj=>out _ (by rw [← ep];omega)
   have oi:∀ j,j≠0→aa (bz ts h u) (64+sl h*12+j)=aa ts (64+sl h*12+j):=fun j hj=>by unfold aa;rw [o j hj]
   have ok:∀ j,j≠0→∀ k,aA k ts (64+sl h*12+j)→aA k (bz ts h u) (64+sl h*12+j):=fun j hj k hk=>by
    unfold aA at *
    rw [oi j hj,o j hj];exact hk
   refine ⟨bw hin,ok 1 (by decide) _ r.q,?_,ok 3 (by decide) _ r.l,fun k hk=>?_,by rw [ep,bI hin];exact hu,by rw [oi 1 (by decide)];exact r.hq,by rw [oi 3 (by decide)];exact r.hl,fun k hk=>?_⟩
   ·have:=r.r
    unfold Bn at *
    rw [o 2 (by decide)];exact this
   ·have:=r.c k hk
    rw [Nat.add_assoc] at *
    exact ok (4+k) (by omega) _ this
   ·have:=r.hc k hk
    rw [Nat.add_assoc] at *
    rw [oi (4+k) (by omega)];exact this
  ·exact Rw (hb.rg i hi) fun k hk=>out _ (by unfold pl;omega)
 ·have:=Lh hb hx hg hne
  unfold cg aa
  rw [out _ (by unfold pl;omega)]
theorem adf (hb:aM ts) {u q:Int}:aF (fL ts u q)=fE (aF ts)∧∀ i j,i<32→j<12→(fL ts u q)[64+i*12+j]?=if i=sl (ct (aF ts)) then (gT u q 0 fun _=>0)[j]? else ts[64+i*12+j]?:=by
 have hv:=(CX hb.bk).sz
 obtain ⟨p1,p2,p3⟩:=w_ (bs:=fE (aF ts)) hb.sz hv
 obtain ⟨q1,q2,q3⟩:=xd (ts:=putAt ts 0 (fE (aF ts)).toList) (l:=(gT u q 0 fun _=>0).toList) p1 (AG hb).2.2.2 rfl
 refine ⟨q2.trans p2,fun i j hi hj=>?_⟩
 have:=q3 i j hi hj
 rw [show fL ts u q=putAt (putAt ts 0 (fE (aF ts)).toList) (64+sl (ct (aF ts))*12) (gT u q 0 fun _=>0).toList from rfl,this]
 split
 ·rw [Array.getElem?_toList]
 ·exact p3 _ (by omega)
theorem I8 (hb:aM ts) (ho:ir (aF ts)=true):aB ts (ct (aF ts))=false∧ct (aF ts)≠0∧∀ x,aB ts x=true→sl x≠sl (ct (aF ts)):=by
 rcases rJ (bs:=aF ts) with ⟨_,_,_,e⟩ | ⟨i,h1,h2,e1,e2,e3,_⟩
 ·rw [ho] at e;cases e
 ·have hr:=hb.bk.ra i h1
  have es:sl (ct (aF ts))=i:=by rw [e2];exact rK h1 hr
  have hk:∀ x,aB ts x=true→sl x≠sl (ct (aF ts)):=fun x hx e=>by
   have:=(dX hb hx).2.2.2.1
   rw [e,es,h2] at this
   exact absurd this (by decide)
  refine ⟨?_,by rw [e2];unfold cW;omega,hk⟩
  cases c:aB ts (ct (aF ts)) with
  | false=>rfl
  | true=>exact absurd rfl (hk _ c)
theorem FC (hb:aM ts) (ho:ir (aF ts)=true) {u q:Int} (hu:aN u) (hq:0≤q∧q≤64):aM (fL ts u q)∧aF (fL ts u q)=fE (aF ts)∧(∀ x,aB (fL ts u q) x=(aB ts x||decide (x=ct (aF ts))))∧(cg (fL ts u q) (ct (aF ts))=u∧dc (fL ts u q) (ct (aF ts))=q∧∀ k,k<8→bL (fL ts u q) (ct (aF ts)) k=0)∧(∀ x,aB ts x=true→cg (fL ts u q) x=cg ts x∧dc (fL ts u q) x=dc ts x∧∀ k,k<8→bL (fL ts u q) x k=bL ts x k):=by
 obtain ⟨h1,h2⟩:=adf hb (u:=u) (q:=q)
 obtain ⟨r1,r2,r3⟩:=Kc hb (u:=u) (n:=q) (c:=fun _=>0) (I5 hb) (by rw [h1];exact CX hb.bk) (AG hb).2.2.2 hu hq (fun _ _=>⟨by decide,by decide⟩) h2
 refine ⟨r1,h1,fun x=>?_,r2 _ rfl,fun x hx=>r3 x (dX hb hx).2.2.1 ((I8 hb ho).2.2 x hx)⟩
 unfold aB
 rw [h1,Wj hb.bk x,ho,Bool.true_and]
end
set_option linter.unusedVariables false
noncomputable def mV (a0 a1 a3 c0 c1 c2 c3 c4 c5 c6 c7:Int):Array Value:=#[.int .u32 a0,.int .i64 a1,.slice none 0 0,.int .i64 a3,.int .u32 c0,.int .u32 c1,.int .u32 c2,.int .u32 c3,.int .u32 c4,.int .u32 c5,.int .u32 c6,.int .u32 c7]
noncomputable def Fy (g:FuncId) (l:List SV) (m:aj):Option Tree:=match g,l with
 | 58,[.s (.agg (.op ts)),.s (.c (.f (.int .u32 h)))]=>some (.need [ay ts,aN h.den] (lf (aJ ts h.den) 30 m))
 | 33,[.s (.agg (.op ts)),.s (.c (.f (.int .u32 h))),.s (.agg (.ls [.f (.int .u32 a0),.f (.int .i64 a1),.f (.lit (.slice none 0 0)),.f (.int .i64 a3),.f (.int .u32 c0),.f (.int .u32 c1),.f (.int .u32 c2),.f (.int .u32 c3),.f (.int .u32 c4),.f (.int .u32 c5),.f (.int .u32 c6),.f (.int .u32 c7)]))]=>some (.need [aM ts,aN h.den,lg (mV a0.den a1.den a3.den c0.den c1.den c2.den c3.den c4.den c5.den c6.den c7.den) 0] (.ret (fu (gq ts h.den (mV a0.den a1.den a3.den c0.den c1.den c2.den c3.den c4.den c5.den c6.den c7.den)) (dR ts h.den)) m))
 | g,l=>By g l m
noncomputable def MN:SV:=.s (.c (.fn (.func 63) [] [.ptr 0 (.l 0),.ptr 1 (.l 0)]))
noncomputable def Hp:Env:=⟨Tryz.prog,dg,Fy,dy [66*1000+3]⟩
noncomputable def oz (ts:Array Value) (h:Int):aj:=cD 2 [(0,⟨.ls [.f (.int .u32 (.o h))],30,false⟩),(1,⟨.op ts,39,false⟩)]
noncomputable def n6:List bh:=cY Tryz.f66 3
noncomputable def vB (us:Array Value) (ts:Array Value) (h:Int) (x:Int) (i:Int) (rr:Array Value) (zz:Array Value) (cs:Array Value):List av:=[dw 66 Tryz.f66 [(1,.s (.c (.f (.int .u32 (.o x))))),(2,MN),(3,ptr 2 (.l 0)),(6,ptr 3 (.l 0)),(7,ptr 4 (.l 0)),(20,agg cs),(21,i64 (.o i))] n6]
noncomputable def vC (us:Array Value) (ts:Array Value) (h:Int) (x:Int) (i:Int) (rr:Array Value) (zz:Array Value) (cs:Array Value):aj:=cD 5 [(0,⟨.ls [.f (.int .u32 (.o h))],30,false⟩),(1,⟨.op ts,39,false⟩),(2,⟨.op us,39,true⟩),(3,⟨.op zz,39,true⟩),(4,⟨.op rr,36,true⟩)]
def Gw (us:Array Value) (ts:Array Value) (h:Int) (x:Int) (Q:Int→Array Value→Array Value→Array Value→Prop) (fs:List av) (m:aj):Prop:=(match b9 fs 0 with | some f0=>(match dh f0 21 with | some i=>(match aV f0 3 with | some p2=>(match aV f0 6 with | some p3=>(match aV f0 7 with | some p4=>(match cO m p3 with | some zz=>(match cO m p4 with | some rr=>(match rdV f0 20 with | some cs=>Q i rr zz cs∧cV 2 [(2,p2),(3,p3),(4,p4)] (vB us ts h x i rr zz cs) (vC us ts h x i rr zz cs) fs m | none=>False) | none=>False) | none=>False) | none=>False) | none=>False) | none=>False) | none=>False) | none=>False)
noncomputable def aeK (us:Array Value) (ts:Array Value) (h:Int) (x:Int):Tree:=run Hp 1000 2 [a_ 66 Tryz.f66.ntmps [bB us,u32 x,MN] (Tryz.f66.body.getD .skip)] (oz ts h)
def MO (us:Array Value) (ts:Array Value) (h:Int) (x:Int) (rH:Int→Array Value→Array Value→Array Value→Prop) (fs:List av) (m:aj):Prop:=Gw us ts h x rH fs m
noncomputable def aeL (us:Array Value) (ts:Array Value) (h:Int) (x:Int) (i:Int) (rr:Array Value) (zz:Array Value) (cs:Array Value):Tree:=stepT Hp.go (run Hp 1000) 2 (vB us ts h x i rr zz cs) (vC us ts h x i rr zz cs)
def MP (us:Array Value) (ts:Array Value) (h:Int) (x:Int) (i:Int) (rr:Array Value) (zz:Array Value) (cs:Array Value) (rH:Int→Array Value→Array Value→Array Value→Prop) (fs:List av) (m:aj):Prop:=Gw us ts h x rH fs m
theorem De (r:Nat→Option Nat):ak r n6 n6:=ak.it (by kernel_rfl)
theorem RG {A:SV→aj→Prop} {us:Array Value} {ts:Array Value} {h:Int} {x:Int} {Q:Int→Array Value→Array Value→Array Value→Prop} {fs:List av} {m:aj} (H:∀ i rr zz cs,Q i rr zz cs→Good Tryz.prog A 2 (vB us ts h x i rr zz cs) (vC us ts h x i rr zz cs)) (hb:Gw us ts h x Q fs m):Good Tryz.prog A 2 fs m:=by
 unfold Gw at hb
 iterate 8 (split at hb;rotate_left;exact hb.elim)
 exact Good.c_ hb.2 (H _ _ _ _ hb.1)
theorem adD {A:SV→aj→Prop} {us:Array Value} {ts:Array Value} {h:Int} {x:Int} {rH:Int→Array Value→Array Value→Array Value→Prop} {fs:List av} {m:aj} (N0:∀ i' wm fB cs',rH i' wm fB cs'→Good Tryz.prog A 2 (vB us ts h x i' wm fB cs') (vC us ts h x i' wm fB cs')) (hb:MO us ts h x rH fs m):Good Tryz.prog A 2 fs m:=by
 unfold MO at hb
 exact RG N0 hb
theorem Tz {A:SV→aj→Prop} {us:Array Value} {ts:Array Value} {h:Int} {x:Int} {i:Int} {rr:Array Value} {zz:Array Value} {cs:Array Value} {rH:Int→Array Value→Array Value→Array Value→Prop} {fs:List av} {m:aj} (N0:∀ i' wm fB cs',rH i' wm fB cs'→Good Tryz.prog A 2 (vB us ts h x i' wm fB cs') (vC us ts h x i' wm fB cs')) (hb:MP us ts h x i rr zz cs rH fs m):Good Tryz.prog A 2 fs m:=by
 unfold MP at hb
 exact RG N0 hb
set_option maxRecDepth 100000
theorem aeM (us ts:Array Value) (h x:Int) (o:Array Value) (Q:Int→Array Value→Array Value→Array Value→Prop):(aeK us ts h x).vc (bM 2 [] (bB o) (oz ts h)) (MO us ts h x Q) =
  ((us.size=448∧True)∧(aM us∧(0≤x∧x<4294967296)∧True)∧((dO us x).size=12∧(dO us x).size=12∧True)∧(12≤(dO us x).size∧True)∧Q (0:Int) (dO us x) zT (Array.extract (dO us x) 4 (12:Nat))∧cN∧ak (aD 2 [(2,2),(3,3),(4,4)]) n6 n6∧x=x∧(0:Int)=(0:Int)∧Fn.func 63=Fn.func 63∧Array.extract (dO us x) 4 (12:Nat)=Array.extract (dO us x) 4 (12:Nat)∧30=30∧h=h∧39=39∧ts=ts∧39=39∧zT=zT∧39=39∧us=us∧36=36∧dO us x=dO us x∧True):=by kernel_rfl
noncomputable def sH (us:Array Value) (x:Int) (rr:Array Value):Array Value:=gq us x (mV (aa rr 0) (aa rr 1) (aa rr 3) (aa rr 4) (aa rr 5) (aa rr 6) (aa rr 7) (aa rr 8) (aa rr 9) (aa rr 10) (aa rr 11))
theorem VL (us ts:Array Value) (h x i:Int) (rr zz cs o:Array Value) (Q:Int→Array Value→Array Value→Array Value→Prop):(aeL us ts h x i rr zz cs).vc (bM 2 [] (bB o) (oz ts h)) (MP us ts h x i rr zz cs Q) =
  ((decide (i<8)=true→((0≤i∧i<8)∧aA .u32 cs (i.toNat*1)∧True)∧(((aa cs (i.toNat*1) != h)==true)=true→(ts.size=448∧True)∧(ay ts∧(0≤h∧h<4294967296)∧True)∧(fm ts (aa cs (i.toNat*1)) h=true→((0≤i∧i<8)∧True)∧(4+i.toNat*1<rr.size∧True)∧Q (ah .add .i64 i 1) (Array.setIfInBounds rr (4+i.toNat*1) (Value.int .u32 0)) zz cs∧cN∧ak (aD 2 [(2,2),(3,3),(4,4)]) n6 n6∧x=x∧ah .add .i64 i 1=ah .add .i64 i 1∧Fn.func 63=Fn.func 63∧cs=cs∧30=30∧h=h∧39=39∧ts=ts∧39=39∧zz=zz∧39=39∧us=us∧36=36∧Array.setIfInBounds rr (4+i.toNat*1) (Value.int .u32 0)=Array.setIfInBounds rr (4+i.toNat*1) (Value.int .u32 0)∧True)∧(fm ts (aa cs (i.toNat*1)) h=false→Q (ah .add .i64 i 1) rr zz cs∧cN∧ak (aD 2 [(2,2),(3,3),(4,4)]) n6 n6∧x=x∧ah .add .i64 i 1=ah .add .i64 i 1∧Fn.func 63=Fn.func 63∧cs=cs∧30=30∧h=h∧39=39∧ts=ts∧39=39∧zz=zz∧39=39∧us=us∧36=36∧rr=rr∧True))∧(((aa cs (i.toNat*1) != h)==true)=false→Q (ah .add .i64 i 1) rr zz cs∧cN∧ak (aD 2 [(2,2),(3,3),(4,4)]) n6 n6∧x=x∧ah .add .i64 i 1=ah .add .i64 i 1∧Fn.func 63=Fn.func 63∧cs=cs∧30=30∧h=h∧39=39∧ts=ts∧39=39∧zz=zz∧39=39∧us=us∧36=36∧rr=rr∧True))∧(decide (i<8)=false→(us.size=448∧True)∧(aA .u32 rr 0∧aA .i64 rr 1∧rr[(2:Nat)]?=some (Value.slice none 0 0)∧aA .i64 rr 3∧aA .u32 rr 4∧aA .u32 rr 5∧aA .u32 rr 6∧aA .u32 rr 7∧aA .u32 rr 8∧aA .u32 rr 9∧aA .u32 rr 10∧aA .u32 rr 11∧True)∧(aM us∧(0≤x∧x<4294967296)∧lg (mV (aa rr 0) (aa rr 1) (aa rr 3) (aa rr 4) (aa rr 5) (aa rr 6) (aa rr 7) (aa rr 8) (aa rr 9) (aa rr 10) (aa rr 11)) (0:Nat)∧True)∧((sH us x rr).size=448∧(sH us x rr).size=448∧True)∧((sH us x rr).size=448∧True)∧((sH us x rr).size=448∧(sH us x rr).size=zz.size∧True)∧((sH us x rr).size=448∧True)∧o=gq us x (mV (aa rr 0) (aa rr 1) (aa rr 3) (aa rr 4) (aa rr 5) (aa rr 6) (aa rr 7) (aa rr 8) (aa rr 9) (aa rr 10) (aa rr 11))∧30=30∧h=h∧39=39∧ts=ts∧True)):=by kernel_rfl
set_option linter.unusedSimpArgs false
set_option linter.unusedVariables false
theorem adE {R:aX} {v:Value} {a0 a1 a3 c0 c1 c2 c3 c4 c5 c6 c7:SI} (h:(SV.s (.agg (.ls [.f (.int .u32 a0),.f (.int .i64 a1),.f (.lit (.slice none 0 0)),.f (.int .i64 a3),.f (.int .u32 c0),.f (.int .u32 c1),.f (.int .u32 c2),.f (.int .u32 c3),.f (.int .u32 c4),.f (.int .u32 c5),.f (.int .u32 c6),.f (.int .u32 c7)]))).ok R v):(bB (mV a0.den a1.den a3.den c0.den c1.den c2.den c3.den c4.den c5.den c6.den c7.den)).ok R v:=by
 obtain ⟨cs,rfl,hl⟩:=h
 have hl:aK (SC.ok R) _ cs.toList:=hl
 have key:cs=mV a0.den a1.den a3.den c0.den c1.den c2.den c3.den c4.den c5.den c6.den c7.den:=by
  apply Array.ext'
  match hc:cs.toList,hl with
 | [v0,v1,v2,v3,v4,v5,v6,v7,v8,v9,v10,v11],⟨h0,h1,h2,h3,h4,h5,h6,h7,h8,h9,h10,h11,_⟩ =>
  have e0:v0=.int .u32 a0.den:=h0
  have e1:v1=.int .i64 a1.den:=h1
  have e2:v2=.slice none 0 0:=h2.1
  have e3:v3=.int .i64 a3.den:=h3
  have e4:v4=.int .u32 c0.den:=h4
  have e5:v5=.int .u32 c1.den:=h5
  have e6:v6=.int .u32 c2.den:=h6
  have e7:v7=.int .u32 c3.den:=h7
  have e8:v8=.int .u32 c4.den:=h8
  have e9:v9=.int .u32 c5.den:=h9
  have M_:v10=.int .u32 c6.den:=h10
  have Na:v11=.int .u32 c7.den:=h11
  rw [e0,e1,e2,e3,e4,e5,e6,e7,e8,e9,M_,Na]
  rfl
 refine ⟨cs,rfl,key,fun v hv=>?_⟩
 rw [key] at hv
 simp only [mV,List.mem_cons,List.not_mem_nil,or_false] at hv
 rcases hv with rfl | rfl | rfl | rfl | rfl | rfl | rfl | rfl | rfl | rfl | rfl | rfl <;> rfl
theorem Qq:∀ g l m t,Fy g l m=some t→aq E0 g l m t:=by
 intro g l m t h
 unfold Fy at h
 split at h
 ·rename_i ts x;cases h
  exact aq.n1 (XE x.den m)
 ·rename_i ts x a0 a1 a3 c0 c1 c2 c3 c4 c5 c6 c7;cases h
  refine aq.asked fun hq=>aq.args (l':=[bB ts,u32 x.den,bB (mV a0.den a1.den a3.den c0.den c1.den c2.den c3.den c4.den c5.den c6.den c7.den)]) (fun R vs ha=>by
   match vs,ha with
   | [v,w,z],ha=>exact ⟨ha.1,ha.2.1,adE ha.2.2.1,trivial⟩) ?_
  intro A hs
  refine Ry x.den m A ⟨fun p hp=>?_,hs⟩
  simp only [List.mem_cons,List.not_mem_nil,or_false] at hp
  rcases hp with rfl | rfl | rfl | rfl
  ·exact hq _ (by simp)
  ·exact hq _ (by simp)
  ·rfl
  ·exact hq _ (by simp)
 ·exact I1 _ _ _ _ h
theorem Kh:bf Hp:=bf.with aU _ _ Qq
section
variable {us ts:Array Value} {h x:Int}
def gu (ts:Array Value) (h c:Int):Int:=if c≠h∧fm ts c h=true then 0 else c
def cU (us ts:Array Value) (h x:Int):Array Value:=mq us x (cg us x) (dc us x) fun k=>gu ts h (bL us x k)
structure RI (us ts:Array Value) (h x:Int) (i:Nat) (rr:Array Value):Prop where
 sz:rr.size=12
 c:∀ k,k<8→rr[4+k]?=some (.int .u32 (if k<i then gu ts h (bL us x k) else bL us x k))
 r:∀ k,k<4→rr[k]?=(dO us x)[k]?
theorem LK {c:Int} (hc:aN c):aN (gu ts h c):=by
 unfold gu
 split
 ·exact ⟨by decide,by decide⟩
 ·exact hc
theorem abZ (hb:aM us) (hg:aB us x=true) {rr:Array Value} (hr:RI us ts h x 8 rr):lg (mV (aa rr 0) (aa rr 1) (aa rr 3) (aa rr 4) (aa rr 5) (aa rr 6) (aa rr 7) (aa rr 8) (aa rr 9) (aa rr 10) (aa rr 11)) 0∧gq us x (mV (aa rr 0) (aa rr 1) (aa rr 3) (aa rr 4) (aa rr 5) (aa rr 6) (aa rr 7) (aa rr 8) (aa rr 9) (aa rr 10) (aa rr 11))=cU us ts h x:=by
 obtain ⟨i1,i2,i3⟩:=sk hb hg
 have ga:dO us x=gT (aG us x) (dc us x) 0 (bL us x):=by unfold dO;rw [if_pos hg]
 have r0:rr[0]?=some (.int .u32 (aG us x)):=by rw [hr.r 0 (by decide),ga];rfl
 have r1:rr[1]?=some (.int .i64 (dc us x)):=by rw [hr.r 1 (by decide),ga];rfl
 have r3:rr[3]?=some (.int .i64 0):=by rw [hr.r 3 (by decide),ga];rfl
 have c:∀ k,k<8→aa rr (4+k)=gu ts h (bL us x k):=fun k hk=>by
  have:=hr.c k hk
  rw [if_pos hk] at this
  exact bI this
 have e0:aa rr 0=aG us x:=bI r0
 have e1:aa rr 1=dc us x:=bI r1
 have e3:aa rr 3=0:=bI r3
 have hu:aN (aG us x):=by
  unfold aG
  rw [if_pos hg]
  split
  ·exact i1
  ·exact ⟨by decide,by decide⟩
 rw [e0,e1,e3,c 0 (by decide),c 1 (by decide),c 2 (by decide),c 3 (by decide),c 4 (by decide),c 5 (by decide),c 6 (by decide),c 7 (by decide)]
 refine ⟨?_,?_⟩
 ·have key:=DD (us:=mV (aG us x) (dc us x) 0 (gu ts h (bL us x 0)) (gu ts h (bL us x 1)) (gu ts h (bL us x 2)) (gu ts h (bL us x 3)) (gu ts h (bL us x 4)) (gu ts h (bL us x 5)) (gu ts h (bL us x 6)) (gu ts h (bL us x 7))) (p:=0) (u:=aG us x) (q:=dc us x) (c:=fun k=>gu ts h (bL us x k)) (fun k hk=>by rw [Nat.zero_add];rfl) hu i2 (fun k hk=>LK (i3 k hk))
  exact key.1
 ·unfold gq
  rw [if_pos hg]
  unfold cU mq
  congr 2
theorem adF (hf:ay ts) (hh:aN h) (hb:aM us) (hx:aB us x=true) (zz:Array Value) (hz:zz.size=448):∀ (n i:Nat) (rr:Array Value),i+n=8→RI us ts h x i rr→Good Tryz.prog (bM 2 [] (bB (cU us ts h x)) (oz ts h)) 2 (vB us ts h x (i:Int) rr zz ((dO us x).extract 4 12)) (vC us ts h x (i:Int) rr zz ((dO us x).extract 4 12)):=by
 have hs:=hb.sz
 have hts:=hf.ok.sz
 have bG:0≤h∧h<4294967296:=hh
 have hx':0≤x∧x<4294967296:=(dX hb hx).2.2.2.2.2.1
 have ga:dO us x=gT (aG us x) (dc us x) 0 (bL us x):=by unfold dO;rw [if_pos hx]
 have cc:∀ k,k<8→((dO us x).extract 4 12)[k]?=some (.int .u32 (bL us x k)):=fun k hk=>by
  rw [ga]
  match k,hk with
  | 0,_ | 1,_ | 2,_ | 3,_ | 4,_ | 5,_ | 6,_ | 7,_=>rfl
 intro n
 induction n with
 | zero =>
  intro i rr hi hr
  obtain rfl:i=8:=by omega
  refine bD Kh 1000 (VL us ts h x _ rr zz _ (cU us ts h x) (fun _ _ _ _=>False)) ?_ (fun _ _ h=>h) (fun fs m hb=>Tz (fun _ _ _ _ h=>h.elim) hb)
  unfold sH
  have d:decide (((8:Nat):Int)<8)=false:=decide_eq_false (by omega)
  obtain ⟨e1,e2⟩:=abZ hb hx hr
  have sz:(cU us ts h x).size=448:=(Li hb hx (sk hb hx).1 (sk hb hx).2.1 (fun k hk=>LK ((sk hb hx).2.2 k hk))).1.sz
  have g0:aA .u32 rr 0:=by have:=hr.r 0 (by decide);rw [ga] at this;exact bw this
  have g1:aA .i64 rr 1:=by have:=hr.r 1 (by decide);rw [ga] at this;exact bw this
  have g2:rr[2]?=some (.slice none 0 0):=by have:=hr.r 2 (by decide);rw [ga] at this;exact this
  have g3:aA .i64 rr 3:=by have:=hr.r 3 (by decide);rw [ga] at this;exact bw this
  have g4:=bw (hr.c 0 (by decide))
  have g5:=bw (hr.c 1 (by decide))
  have g6:=bw (hr.c 2 (by decide))
  have g7:=bw (hr.c 3 (by decide))
  have g8:=bw (hr.c 4 (by decide))
  have g9:=bw (hr.c 5 (by decide))
  have g10:=bw (hr.c 6 (by decide))
  have g11:=bw (hr.c 7 (by decide))
  simp only [d,e1,e2,sz,hs,hz,hb,hx',g0,g1,g2,g3,g4,g5,g6,g7,g8,g9,g10,g11,q6]
 | succ n ih =>
  intro i rr hi hr
  have hi':i<8:=by omega
  have nx:∀ r,RI us ts h x (i+1) r→Good Tryz.prog (bM 2 [] (bB (cU us ts h x)) (oz ts h)) 2 (vB us ts h x ((i+1:Nat):Int) r zz ((dO us x).extract 4 12)) (vC us ts h x ((i+1:Nat):Int) r zz ((dO us x).extract 4 12)):=fun r hr=>ih (i+1) r (by omega) hr
  refine bD Kh 1000 (VL us ts h x _ rr zz _ (cU us ts h x) (fun i' r' z' c'=>i'=((i+1:Nat):Int)∧z'=zz∧c'=(dO us x).extract 4 12∧RI us ts h x (i+1) r')) ?_ (fun _ _ h=>h) (fun fs m hb=>Tz (fun i' r' z' c' ⟨e1,e2,e3,e4⟩=>by rw [e1,e2,e3];exact nx r' e4) hb)
  unfold sH
  have d:decide ((i:Int)<8)=true:=decide_eq_true (by omega)
  have ei:ah .add .i64 (i:Int) 1=((i+1:Nat):Int):=by rw [dn,cC (by omega) (by omega)];omega
  have g1:aA .u32 ((dO us x).extract 4 12) i:=bw (cc i hi')
  have g2:aa ((dO us x).extract 4 12) i=bL us x i:=bI (cc i hi')
  have y0:0≤(i:Int):=by omega
  have y1:(i:Int)<8:=by omega
  have y2:4+i<12:=by omega
  have sz:=hr.sz
  have keep:gu ts h (bL us x i)=bL us x i→RI us ts h x (i+1) rr:=fun e=>by
   refine ⟨sz,fun k hk=>?_,hr.r⟩
   rw [hr.c k hk]
   by_cases c:k=i
   ·rw [c,if_neg (by omega),if_pos (by omega),e]
   ·by_cases c2:k<i
    ·rw [if_pos c2,if_pos (by omega)]
    ·rw [if_neg c2,if_neg (by omega)]
  have put:gu ts h (bL us x i)=0→RI us ts h x (i+1) (rr.setIfInBounds (4+i) (.int .u32 0)):=fun e=>by
   refine ⟨by rw [pY];exact sz,fun k hk=>?_,fun k hk=>by rw [mz (by omega)];exact hr.r k hk⟩
   by_cases c:k=i
   ·rw [c,wT (by omega),if_pos (by omega),e]
   ·rw [mz (by omega),hr.c k hk]
    by_cases c2:k<i
    ·rw [if_pos c2,if_pos (by omega)]
    ·rw [if_neg c2,if_neg (by omega)]
  cases c1:(bL us x i != h) with
  | false =>
   have e:bL us x i=h:=by simpa using c1
   have k:=keep (by unfold gu;rw [if_neg (fun k=>k.1 e)])
   simp only [d,ei,g1,g2,y0,y1,y2,hts,hf,bG,sz,c1,k,Bool.false_beq,Bool.true_beq,decide_true,De,q7,q8,q6]
  | true =>
   have e:bL us x i≠h:=by simpa using c1
   cases c2:fm ts (bL us x i) h with
   | false =>
    have k:=keep (by unfold gu;rw [if_neg (fun k=>by rw [c2] at k;exact absurd k.2 (by decide))])
    simp only [d,ei,g1,g2,y0,y1,y2,hts,hf,bG,sz,c1,c2,k,dJ,cF,decide_true,De,q7,q6]
   | true =>
    have k:=put (by unfold gu;rw [if_pos ⟨e,c2⟩])
    simp only [d,ei,g1,g2,y0,y1,y2,hts,hf,bG,sz,c1,c2,k,dJ,cF,decide_true,De,q7,q6]
theorem aeN:E0.fn 66=some Tryz.f66:=by kernel_rfl
theorem ab1:Tryz.f66.body=some (Tryz.f66.body.getD .skip):=by kernel_rfl
theorem adG {R R':aX} {k:IntKind} {n:SI} {cs:Array Value} (h:(SA.ls [.f (.int k n)]).cH R cs):(SA.ls [.f (.int k (.o n.den))]).cH R' cs:=by
 have h:aK (SC.ok R) [.f (.int k n)] cs.toList:=h
 show aK (SC.ok R') [.f (.int k (.o n.den))] cs.toList
 revert h
 generalize cs.toList=l
 intro h
 match l,h with
 | [v],h=>exact ⟨h.1,trivial⟩
theorem any_nil {R R':aX} {l:List Value} (h:aK (SF.ok R) [] l):aK (SF.ok R') [] l:=by
 match l,h with
 | [],_=>trivial
theorem aaf {q:Nat} {b:bN} (hb:aH (oz ts h).bl q=some b):(q=0∧b=⟨.ls [.f (.int .u32 (.o h))],30,false⟩)∨(q=1∧b=⟨.op ts,39,false⟩):=by
 have hb:aH (((Tr.nil:Tr bN).set 0 (some ⟨.ls [.f (.int .u32 (.o h))],30,false⟩)).set 1 (some ⟨.op ts,39,false⟩)) q=some b:=hb
 rw [jv] at hb
 split at hb
 ·rename_i e;cases hb;exact .inr ⟨e,rfl⟩
 ·rw [jv] at hb
  split at hb
  ·rename_i e;cases hb;exact .inl ⟨e,rfl⟩
  ·have hb:(Tr.nil:Tr bN).get q=some b:=hb
   rw [Tr.get_nil] at hb
   cases hb
theorem ab2 {m:aj} {i j:Nat} {n0:SI} {w0 w1:Bool} (hb0:aH m.bl i=some ⟨.ls [.f (.int .u32 n0)],30,w0⟩) (dZ:aH m.bl j=some ⟨.op ts,39,w1⟩):aq E0 66 [bB us,u32 x,.s (.c (.fn (.func 63) [] [.ptr i (.l 0),.ptr j (.l 0)]))] m (bu [aM us,aB us x=true,ay ts,aN n0.den] (.ret (bB (cU us ts n0.den x)) m)):=by
 have hm:∀ q b,aH (oz ts n0.den).bl q=some b→q<(oz ts n0.den).next∧b.wr=false∧∃ d,aH m.bl ((fun q=>if q=0 then i else j) q)=some d∧b.ty=d.ty∧∀ R cs,d.arr.cH R cs→b.arr.cH (pull (fun q=>if q=0 then i else j) (oz ts n0.den).next R) cs:=by
  intro q b hb
  rcases aaf hb with ⟨rfl,rfl⟩ | ⟨rfl,rfl⟩
  ·exact ⟨(show 0<2 by decide),rfl,_,hb0,rfl,fun R cs' h=>adG h⟩
  ·exact ⟨(show 1<2 by decide),rfl,_,dZ,rfl,fun R cs' h=>h⟩
 have hl:∀ R vs,aK (SV.ok R) [bB us,u32 x,.s (.c (.fn (.func 63) [] [.ptr i (.l 0),.ptr j (.l 0)]))] vs→aK (SV.ok (pull (fun q=>if q=0 then i else j) (oz ts n0.den).next R)) [bB us,u32 x,MN] vs:=by
  intro R vs ha
  match vs,ha with
  | [u,u',v],ha =>
   obtain ⟨h0,Cu,⟨a,b,e,h1,h2⟩,_⟩:=ha
   refine ⟨h0,Cu,⟨a,b,e,any_nil h1,?_⟩,trivial⟩
   revert h2
   generalize b.toList=l
   intro h2
   match l,h2 with
   | [c0,c1],⟨q0,q1,_⟩=>exact ⟨(let ⟨g,e1,e2⟩:=q0;⟨g,(by unfold pull;exact e1),e2⟩),(let ⟨g,e1,e2⟩:=q1;⟨g,(by unfold pull;exact e1),e2⟩),trivial⟩
 refine aq.mI aU aeN ab1 rfl _ hm hl (A:=fun s m=>s=bB (cU us ts n0.den x)∧m=oz ts n0.den) (fun hq=>?_) (fun s m' R R' v hs hv=>by rw [hs.1] at hv;exact hv)
 have hb:aM us:=hq _ (by simp)
 have hx:aB us x=true:=hq _ (by simp)
 have hf:ay ts:=hq _ (by simp)
 have hh:aN n0.den:=hq _ (by simp)
 have hs:=hb.sz
 have hx':0≤x∧x<4294967296:=(dX hb hx).2.2.2.2.2.1
 refine Good.ret [] (bA Kh 1000 (aeM us ts n0.den x (cU us ts n0.den x) (fun i r z c=>i=((0:Nat):Int)∧z=zT∧c=(dO us x).extract 4 12∧r=dO us x)) ?_ (fun s m h=>h) fun fs m hm=>adD (fun i r z c ⟨e1,e2,e3,e4⟩=>by
  rw [e1,e2,e3,e4]
  refine adF hf hh hb hx zT uk 8 0 (dO us x) (by omega) ⟨(CD us x).1,fun k hk=>?_,fun k hk=>rfl⟩
  have ga:dO us x=gT (aG us x) (dc us x) 0 (bL us x):=by unfold dO;rw [if_pos hx]
  rw [ga,if_neg (by omega)]
  match k,hk with
  | 0,_ | 1,_ | 2,_ | 3,_ | 4,_ | 5,_ | 6,_ | 7,_=>rfl) hm)
 have g12:=(CD us x).1
 have y:(12:Nat)≤12:=by decide
 simp only [hs,hb,hx',g12,y,and_true,true_and,De,lz]
 rfl
end
set_option linter.unusedVariables false
noncomputable def r7 (g:FuncId) (l:List SV) (m:aj):Option Tree:=match g,l with
 | 66,[.s (.agg (.op us)),.s (.c (.f (.int .u32 x))),.s (.c (.fn (.func 63) [] [.ptr i (.l 0),.ptr j (.l 0)]))]=>(match aH m.bl i,aH m.bl j with | some ⟨.ls [.f (.int .u32 n0)],30,_⟩,some ⟨.op ts,39,_⟩=>some (.need [aM us,aB us x.den=true,ay ts,aN n0.den] (.ret (bB (cU us ts n0.den x.den)) m)) | _,_=>none)
 | g,l=>Fy g l m
theorem wB:∀ g l m t,r7 g l m=some t→aq E0 g l m t:=by
 intro g l m t h
 unfold r7 at h
 split at h
 ·rename_i us x i j
  split at h
  ·rename_i n0 w0 ts w1 h0 h1;cases h
   refine aq.args (l':=[bB us,u32 x.den,.s (.c (.fn (.func 63) [] [.ptr i (.l 0),.ptr j (.l 0)]))]) (fun R vs ha=>by
    match vs,ha with
    | [v,w,z],ha=>exact ⟨ha.1,ha.2.1,ha.2.2.1,trivial⟩) ?_
   exact ab2 h0 h1
  ·cases h
 ·exact Qq _ _ _ _ h
noncomputable def kP:pD:=vZ Tryz.f27 0 27
noncomputable def VM:Env:=⟨Tryz.prog,dg,r7,dy [97*1000+3]⟩
noncomputable def wo:Env:=⟨Tryz.prog,dg,r7,dy [97*1000+3,86*1000+3]⟩
noncomputable def n7:List bh:=cY Tryz.f86 3
noncomputable def fQ:List bh:=.fD 8 :: jX Tryz.f27 0
noncomputable def vD (j:Nat) (ts:Array Value) (h:Int) (u0:Array Value) (us:Array Value) (zz:Array Value) (n:Nat) (cs:Array Value):List av:=[xS 86 Tryz.f86 [(0,iH 8),(1,ptr 5 (.l 0)),(4,ptr 10 (.l 0))] n7 (vm (j)),lq 27 Tryz.f27 [(2,ptr 0 (.l 0)),(3,ptr 1 (.l 0)),(4,ptr 2 (.l 0)),(6,ptr 3 (.l 0)),(8,ptr 4 (.l 0))] fQ 7]
noncomputable def vE (j:Nat) (ts:Array Value) (h:Int) (u0:Array Value) (us:Array Value) (zz:Array Value) (n:Nat) (cs:Array Value):aj:=yy (vn (j)) (nu 60 [(0,⟨.op ts,39,true⟩),(1,⟨.ls [.f (.int .u32 (.o h))],30,true⟩),(2,⟨.op zz,39,true⟩),(3,⟨.op us,39,true⟩),(4,⟨.ls [.fn (.func 63) [] [.ptr 1 (.l 0),.ptr 0 (.l 0)]],129,true⟩),(5,⟨.op u0,39,true⟩),(9,⟨.pop cs,30,true⟩),(10,⟨.ls [zd 9 n],73,true⟩)] [(7,.gZ),(8,jR Tryz.f27 0 27 (i_ Tryz.f27.ntmps [(2,ptr 0 (.l 0)),(3,ptr 1 (.l 0)),(4,ptr 2 (.l 0)),(6,ptr 3 (.l 0)),(8,ptr 4 (.l 0))]) 7)])
def MQ (j:Nat) (ts:Array Value) (h:Int) (u0:Array Value) (Q:Array Value→Array Value→Nat→Array Value→Prop) (fs:List av) (m:aj):Prop:=(match b9 fs 0 with | some f0=>(match b9 fs 1 with | some f1=>(match aV f1 2 with | some p0=>(match aV f1 3 with | some p1=>(match aV f1 4 with | some p2=>(match aV f1 6 with | some p3=>(match aV f1 8 with | some p4=>(match aV f0 1 with | some p5=>(match jS f0 0 with | some p8=>(match lu m p8 with | some p7=>(match aV f0 4 with | some kL=>(match iL m kL 0 with | some p9=>(match cO m p3 with | some us=>(match cO m p2 with | some zz=>(match pJ m kL 0 with | some n=>(match cO m p9 with | some cs=>Q us zz n cs∧cV 0 ([(0,p0),(1,p1),(2,p2),(3,p3),(4,p4),(5,p5),(7,p7),(8,p8),(9,p9),(10,kL)]++vo (j) f0.gN) (vD j ts h u0 us zz n cs) (vE j ts h u0 us zz n cs) fs m | none=>False) | none=>False) | none=>False) | none=>False) | none=>False) | none=>False) | none=>False) | none=>False) | none=>False) | none=>False) | none=>False) | none=>False) | none=>False) | none=>False) | none=>False) | none=>False)
noncomputable def n8:List bh:=cY Tryz.f97 3
noncomputable def k_:List bh:=.fD 63 :: jX Tryz.f86 0
noncomputable def LL:List bh:=.fD 8 :: jX Tryz.f27 0
noncomputable def B2 (j:Nat) (ts:Array Value) (h:Int) (u0:Array Value) (r:Nat) (ks:Array Value) (i:Int) (us:Array Value) (zz:Array Value) (n:Nat) (cs:Array Value):List av:=[dw 97 Tryz.f97 [(0,iH 63),(1,ptr 61 (.l 0)),(3,i64 (.o i))] n8,xS 86 Tryz.f86 [(0,iH 8),(1,ptr 5 (.l 0)),(4,ptr 10 (.l 0))] k_ (vm (j+1)),lq 27 Tryz.f27 [(2,ptr 0 (.l 0)),(3,ptr 1 (.l 0)),(4,ptr 2 (.l 0)),(6,ptr 3 (.l 0)),(8,ptr 4 (.l 0))] LL 7]
noncomputable def B3 (j:Nat) (ts:Array Value) (h:Int) (u0:Array Value) (r:Nat) (ks:Array Value) (i:Int) (us:Array Value) (zz:Array Value) (n:Nat) (cs:Array Value):aj:=yy (vn (j+1)) (nu 64 [(0,⟨.op ts,39,true⟩),(1,⟨.ls [.f (.int .u32 (.o h))],30,true⟩),(2,⟨.op zz,39,true⟩),(3,⟨.op us,39,true⟩),(4,⟨.ls [.fn (.func 63) [] [.ptr 1 (.l 0),.ptr 0 (.l 0)]],129,true⟩),(5,⟨.op u0,39,true⟩),(9,⟨.pop cs,30,true⟩),(10,⟨.ls [zd 9 n],73,true⟩),(60,⟨.pop ks,30,true⟩),(61,⟨.ls [tC 60 r],73,true⟩)] [(7,.gZ),(8,jR Tryz.f27 0 27 (i_ Tryz.f27.ntmps [(2,ptr 0 (.l 0)),(3,ptr 1 (.l 0)),(4,ptr 2 (.l 0)),(6,ptr 3 (.l 0)),(8,ptr 4 (.l 0))]) 7),(63,jR Tryz.f86 0 86 (i_ Tryz.f86.ntmps [(0,iH 8),(1,ptr 5 (.l 0)),(4,ptr 10 (.l 0))]) (20+j))])
def MR (j:Nat) (ts:Array Value) (h:Int) (u0:Array Value) (r:Nat) (ks:Array Value) (Q:Int→Array Value→Array Value→Nat→Array Value→Prop) (fs:List av) (m:aj):Prop:=(match b9 fs 0 with | some f0=>(match b9 fs 1 with | some f1=>(match b9 fs 2 with | some f2=>(match dh f0 3 with | some i=>(match aV f2 2 with | some p0=>(match aV f2 3 with | some p1=>(match aV f2 4 with | some p2=>(match aV f2 6 with | some p3=>(match aV f2 8 with | some p4=>(match aV f1 1 with | some p5=>(match jS f1 0 with | some p8=>(match lu m p8 with | some p7=>(match aV f1 4 with | some kL=>(match iL m kL 0 with | some p9=>(match aV f0 1 with | some tD=>(match iL m tD 0 with | some N1=>(match jS f0 0 with | some ze=>(match cO m p3 with | some us=>(match cO m p2 with | some zz=>(match pJ m kL 0 with | some n=>(match cO m p9 with | some cs=>Q i us zz n cs∧cV 0 ([(0,p0),(1,p1),(2,p2),(3,p3),(4,p4),(5,p5),(7,p7),(8,p8),(9,p9),(10,kL),(60,N1),(61,tD),(63,ze)]++vo (j+1) f1.gN) (B2 j ts h u0 r ks i us zz n cs) (B3 j ts h u0 r ks i us zz n cs) fs m | none=>False) | none=>False) | none=>False) | none=>False) | none=>False) | none=>False) | none=>False) | none=>False) | none=>False) | none=>False) | none=>False) | none=>False) | none=>False) | none=>False) | none=>False) | none=>False) | none=>False) | none=>False) | none=>False) | none=>False) | none=>False)
noncomputable def LM:List bh:=cY Tryz.f97 3
noncomputable def qO:List bh:=.fD 14 :: jX Tryz.f86 0
noncomputable def LN:List bh:=.fD 8 :: jX Tryz.f27 0
noncomputable def Gx (ts:Array Value) (h:Int) (u0:Array Value) (r:Nat) (ks:Array Value) (i:Int) (us:Array Value) (zz:Array Value):List av:=[dw 97 Tryz.f97 [(0,iH 14),(1,ptr 12 (.l 0)),(3,i64 (.o i))] LM,lq 86 Tryz.f86 [(0,iH 8),(1,ptr 5 (.l 0)),(4,ptr 10 (.l 0))] qO 13,lq 27 Tryz.f27 [(2,ptr 0 (.l 0)),(3,ptr 1 (.l 0)),(4,ptr 2 (.l 0)),(6,ptr 3 (.l 0)),(8,ptr 4 (.l 0))] LN 7]
noncomputable def Gy (ts:Array Value) (h:Int) (u0:Array Value) (r:Nat) (ks:Array Value) (i:Int) (us:Array Value) (zz:Array Value):aj:=nu 15 [(0,⟨.op ts,39,true⟩),(1,⟨.ls [.f (.int .u32 (.o h))],30,true⟩),(2,⟨.op zz,39,true⟩),(3,⟨.op us,39,true⟩),(4,⟨.ls [.fn (.func 63) [] [.ptr 1 (.l 0),.ptr 0 (.l 0)]],129,true⟩),(5,⟨.op u0,39,true⟩),(9,⟨.ls [.f (.int .u32 (.o h))],30,true⟩),(10,⟨.ls [.f (.slice 9 (.l 0) (.l 0) (.n (.l 1)))],73,true⟩),(11,⟨.pop ks,30,true⟩),(12,⟨.ls [tC 11 r],73,true⟩)] [(7,.gZ),(8,jR Tryz.f27 0 27 (i_ Tryz.f27.ntmps [(2,ptr 0 (.l 0)),(3,ptr 1 (.l 0)),(4,ptr 2 (.l 0)),(6,ptr 3 (.l 0)),(8,ptr 4 (.l 0))]) 7),(13,.gZ),(14,jR Tryz.f86 0 86 (i_ Tryz.f86.ntmps [(0,iH 8),(1,ptr 5 (.l 0)),(4,ptr 10 (.l 0))]) 13)]
def MS (ts:Array Value) (h:Int) (u0:Array Value) (r:Nat) (ks:Array Value) (Q:Int→Array Value→Array Value→Prop) (fs:List av) (m:aj):Prop:=(match b9 fs 0 with | some f0=>(match b9 fs 1 with | some f1=>(match b9 fs 2 with | some f2=>(match dh f0 3 with | some i=>(match aV f2 2 with | some p0=>(match aV f2 3 with | some p1=>(match aV f2 4 with | some p2=>(match aV f2 6 with | some p3=>(match aV f2 8 with | some p4=>(match aV f1 1 with | some p5=>(match jS f1 0 with | some p8=>(match lu m p8 with | some p7=>(match aV f1 4 with | some kL=>(match iL m kL 0 with | some p9=>(match aV f0 1 with | some zf=>(match iL m zf 0 with | some q_=>(match jS f0 0 with | some VN=>(match lu m VN with | some wk=>(match cO m p3 with | some us=>(match cO m p2 with | some zz=>Q i us zz∧cV 0 [(0,p0),(1,p1),(2,p2),(3,p3),(4,p4),(5,p5),(7,p7),(8,p8),(9,p9),(10,kL),(11,q_),(12,zf),(13,wk),(14,VN)] (Gx ts h u0 r ks i us zz) (Gy ts h u0 r ks i us zz) fs m | none=>False) | none=>False) | none=>False) | none=>False) | none=>False) | none=>False) | none=>False) | none=>False) | none=>False) | none=>False) | none=>False) | none=>False) | none=>False) | none=>False) | none=>False) | none=>False) | none=>False) | none=>False) | none=>False) | none=>False)
noncomputable def cT0 (ts:Array Value) (h:Int):Tree:=run VM 1000 0 [a_ 27 Tryz.f27.ntmps [bB ts,u32 h] (Tryz.f27.body.getD .skip)] aT
def Cy (j:Nat) (ts:Array Value) (h:Int) (u0:Array Value) (r:Nat) (ks:Array Value) (QA:Array Value→Array Value→Nat→Array Value→Prop) (QB:Int→Array Value→Array Value→Nat→Array Value→Prop) (fs:List av) (m:aj):Prop:=match Nat.beq (atR fs) (86*1000+3) with | true=>MQ (j+1) ts h u0 QA fs m | false=>MR j ts h u0 r ks QB fs m
theorem I3 (r:Nat→Option Nat):ak r n7 n7:=ak.it (by kernel_rfl)
theorem afe {l:List (Nat × Nat)}:ak (aD 0 ([(0,0),(1,1),(2,2),(3,3),(4,4),(5,5),(7,7),(8,8),(9,9),(10,10)]++l)) fQ fQ:=ak.rf rfl (by kernel_rfl)
theorem XF:ak (aD 0 [(0,0),(1,1),(2,2),(3,3),(4,4),(5,5),(7,7),(8,8),(9,9),(10,10)]) fQ fQ:=ak.rf rfl (by kernel_rfl)
theorem Df (r:Nat→Option Nat):ak r n8 n8:=ak.it (by kernel_rfl)
theorem aff {l:List (Nat × Nat)}:ak (aD 0 ([(0,0),(1,1),(2,2),(3,3),(4,4),(5,5),(7,7),(8,8),(9,9),(10,10),(60,60),(61,61),(63,63)]++l)) k_ k_:=ak.rf rfl (by kernel_rfl)
theorem ae2:ak (aD 0 [(0,0),(1,1),(2,2),(3,3),(4,4),(5,5),(7,7),(8,8),(9,9),(10,10),(60,60),(61,61),(63,63)]) k_ k_:=ak.rf rfl (by kernel_rfl)
theorem afg {l:List (Nat × Nat)}:ak (aD 0 ([(0,0),(1,1),(2,2),(3,3),(4,4),(5,5),(7,7),(8,8),(9,9),(10,10),(60,60),(61,61),(63,63)]++l)) LL LL:=ak.rf rfl (by kernel_rfl)
theorem afh (r:Nat→Option Nat):ak r LM LM:=ak.it (by kernel_rfl)
theorem afi {l:List (Nat × Nat)}:ak (aD 0 ([(0,0),(1,1),(2,2),(3,3),(4,4),(5,5),(7,7),(8,8),(9,9),(10,10),(11,11),(12,12),(13,13),(14,14)]++l)) qO qO:=ak.rf rfl (by kernel_rfl)
theorem XG:ak (aD 0 [(0,0),(1,1),(2,2),(3,3),(4,4),(5,5),(7,7),(8,8),(9,9),(10,10),(11,11),(12,12),(13,13),(14,14)]) qO qO:=ak.rf rfl (by kernel_rfl)
theorem afj {l:List (Nat × Nat)}:ak (aD 0 ([(0,0),(1,1),(2,2),(3,3),(4,4),(5,5),(7,7),(8,8),(9,9),(10,10),(11,11),(12,12),(13,13),(14,14)]++l)) LN LN:=ak.rf rfl (by kernel_rfl)
theorem aag {A:SV→aj→Prop} {j:Nat} {ts:Array Value} {h:Int} {u0:Array Value} {Q:Array Value→Array Value→Nat→Array Value→Prop} {fs:List av} {m:aj} (H:∀ us zz n cs,Q us zz n cs→Good Tryz.prog A 0 (vD j ts h u0 us zz n cs) (vE j ts h u0 us zz n cs)) (hb:MQ j ts h u0 Q fs m):Good Tryz.prog A 0 fs m:=by
 unfold MQ at hb
 iterate 16 (split at hb;rotate_left;exact hb.elim)
 exact Good.c_ hb.2 (H _ _ _ _ hb.1)
theorem aah {A:SV→aj→Prop} {j:Nat} {ts:Array Value} {h:Int} {u0:Array Value} {r:Nat} {ks:Array Value} {Q:Int→Array Value→Array Value→Nat→Array Value→Prop} {fs:List av} {m:aj} (H:∀ i us zz n cs,Q i us zz n cs→Good Tryz.prog A 0 (B2 j ts h u0 r ks i us zz n cs) (B3 j ts h u0 r ks i us zz n cs)) (hb:MR j ts h u0 r ks Q fs m):Good Tryz.prog A 0 fs m:=by
 unfold MR at hb
 iterate 21 (split at hb;rotate_left;exact hb.elim)
 exact Good.c_ hb.2 (H _ _ _ _ _ hb.1)
theorem aai {A:SV→aj→Prop} {ts:Array Value} {h:Int} {u0:Array Value} {r:Nat} {ks:Array Value} {Q:Int→Array Value→Array Value→Prop} {fs:List av} {m:aj} (H:∀ i us zz,Q i us zz→Good Tryz.prog A 0 (Gx ts h u0 r ks i us zz) (Gy ts h u0 r ks i us zz)) (hb:MS ts h u0 r ks Q fs m):Good Tryz.prog A 0 fs m:=by
 unfold MS at hb
 iterate 20 (split at hb;rotate_left;exact hb.elim)
 exact Good.c_ hb.2 (H _ _ _ hb.1)
set_option linter.unusedVariables false
noncomputable def kQ:pD:=vZ Tryz.f29 0 29
noncomputable def VP:Env:=⟨Tryz.prog,dg,r7,dy [97*1000+3]⟩
noncomputable def wq:Env:=⟨Tryz.prog,dg,r7,dy [97*1000+3,86*1000+3]⟩
noncomputable def n9:List bh:=cY Tryz.f86 3
noncomputable def fR:List bh:=.fD 7 :: jX Tryz.f29 0
noncomputable def vF (j:Nat) (ts:Array Value) (h:Int) (up:Int) (zz:Array Value) (n:Nat) (cs:Array Value):List av:=[xS 86 Tryz.f86 [(0,iH 7),(1,ptr 4 (.l 0)),(4,ptr 9 (.l 0))] n9 (vm (j)),lq 29 Tryz.f29 [(1,.s (.c (.f (.int .u32 (.o h))))),(3,ptr 0 (.l 0)),(5,ptr 1 (.l 0)),(6,ptr 2 (.l 0)),(7,ptr 3 (.l 0))] fR 6]
noncomputable def vG (j:Nat) (ts:Array Value) (h:Int) (up:Int) (zz:Array Value) (n:Nat) (cs:Array Value):aj:=yy (vn (j)) (nu 60 [(0,⟨.op ts,39,true⟩),(1,⟨.ls [.f (.int .u32 (.o up))],30,true⟩),(2,⟨.op zz,39,true⟩),(3,⟨.ls [.f (.int .i64 (.l 0))],77,true⟩),(4,⟨.op ts,39,true⟩),(8,⟨.pop cs,30,true⟩),(9,⟨.ls [zd 8 n],73,true⟩)] [(6,.gZ),(7,jR Tryz.f29 0 29 (i_ Tryz.f29.ntmps [(1,u32 h),(3,ptr 0 (.l 0)),(5,ptr 1 (.l 0)),(6,ptr 2 (.l 0)),(7,ptr 3 (.l 0))]) 6)])
def MU (j:Nat) (ts:Array Value) (h:Int) (up:Int) (Q:Array Value→Nat→Array Value→Prop) (fs:List av) (m:aj):Prop:=(match b9 fs 0 with | some f0=>(match b9 fs 1 with | some f1=>(match aV f1 3 with | some p0=>(match aV f1 5 with | some p1=>(match aV f1 6 with | some p2=>(match aV f1 7 with | some p3=>(match aV f0 1 with | some p4=>(match jS f0 0 with | some p7=>(match lu m p7 with | some p6=>(match aV f0 4 with | some p9=>(match iL m p9 0 with | some p8=>(match cO m p2 with | some zz=>(match pJ m p9 0 with | some n=>(match cO m p8 with | some cs=>Q zz n cs∧cV 0 ([(0,p0),(1,p1),(2,p2),(3,p3),(4,p4),(6,p6),(7,p7),(8,p8),(9,p9)]++vo (j) f0.gN) (vF j ts h up zz n cs) (vG j ts h up zz n cs) fs m | none=>False) | none=>False) | none=>False) | none=>False) | none=>False) | none=>False) | none=>False) | none=>False) | none=>False) | none=>False) | none=>False) | none=>False) | none=>False) | none=>False)
noncomputable def n_:List bh:=cY Tryz.f97 3
noncomputable def ld:List bh:=.fD 63 :: jX Tryz.f86 0
noncomputable def LQ:List bh:=.fD 7 :: jX Tryz.f29 0
noncomputable def B4 (j:Nat) (ts:Array Value) (h:Int) (up:Int) (r:Nat) (ks:Array Value) (i:Int) (zz:Array Value) (n:Nat) (cs:Array Value):List av:=[dw 97 Tryz.f97 [(0,iH 63),(1,ptr 61 (.l 0)),(3,i64 (.o i))] n_,xS 86 Tryz.f86 [(0,iH 7),(1,ptr 4 (.l 0)),(4,ptr 9 (.l 0))] ld (vm (j+1)),lq 29 Tryz.f29 [(1,.s (.c (.f (.int .u32 (.o h))))),(3,ptr 0 (.l 0)),(5,ptr 1 (.l 0)),(6,ptr 2 (.l 0)),(7,ptr 3 (.l 0))] LQ 6]
noncomputable def B5 (j:Nat) (ts:Array Value) (h:Int) (up:Int) (r:Nat) (ks:Array Value) (i:Int) (zz:Array Value) (n:Nat) (cs:Array Value):aj:=yy (vn (j+1)) (nu 64 [(0,⟨.op ts,39,true⟩),(1,⟨.ls [.f (.int .u32 (.o up))],30,true⟩),(2,⟨.op zz,39,true⟩),(3,⟨.ls [.f (.int .i64 (.l 0))],77,true⟩),(4,⟨.op ts,39,true⟩),(8,⟨.pop cs,30,true⟩),(9,⟨.ls [zd 8 n],73,true⟩),(60,⟨.pop ks,30,true⟩),(61,⟨.ls [tC 60 r],73,true⟩)] [(6,.gZ),(7,jR Tryz.f29 0 29 (i_ Tryz.f29.ntmps [(1,u32 h),(3,ptr 0 (.l 0)),(5,ptr 1 (.l 0)),(6,ptr 2 (.l 0)),(7,ptr 3 (.l 0))]) 6),(63,jR Tryz.f86 0 86 (i_ Tryz.f86.ntmps [(0,iH 7),(1,ptr 4 (.l 0)),(4,ptr 9 (.l 0))]) (20+j))])
def MV (j:Nat) (ts:Array Value) (h:Int) (up:Int) (r:Nat) (ks:Array Value) (Q:Int→Array Value→Nat→Array Value→Prop) (fs:List av) (m:aj):Prop:=(match b9 fs 0 with | some f0=>(match b9 fs 1 with | some f1=>(match b9 fs 2 with | some f2=>(match dh f0 3 with | some i=>(match aV f2 3 with | some p0=>(match aV f2 5 with | some p1=>(match aV f2 6 with | some p2=>(match aV f2 7 with | some p3=>(match aV f1 1 with | some p4=>(match jS f1 0 with | some p7=>(match lu m p7 with | some p6=>(match aV f1 4 with | some p9=>(match iL m p9 0 with | some p8=>(match aV f0 1 with | some tD=>(match iL m tD 0 with | some N1=>(match jS f0 0 with | some ze=>(match cO m p2 with | some zz=>(match pJ m p9 0 with | some n=>(match cO m p8 with | some cs=>Q i zz n cs∧cV 0 ([(0,p0),(1,p1),(2,p2),(3,p3),(4,p4),(6,p6),(7,p7),(8,p8),(9,p9),(60,N1),(61,tD),(63,ze)]++vo (j+1) f1.gN) (B4 j ts h up r ks i zz n cs) (B5 j ts h up r ks i zz n cs) fs m | none=>False) | none=>False) | none=>False) | none=>False) | none=>False) | none=>False) | none=>False) | none=>False) | none=>False) | none=>False) | none=>False) | none=>False) | none=>False) | none=>False) | none=>False) | none=>False) | none=>False) | none=>False) | none=>False)
noncomputable def LR:List bh:=cY Tryz.f97 3
noncomputable def qP:List bh:=.fD 13 :: jX Tryz.f86 0
noncomputable def LS:List bh:=.fD 7 :: jX Tryz.f29 0
noncomputable def Gz (ts:Array Value) (h:Int) (up:Int) (r:Nat) (ks:Array Value) (i:Int) (zz:Array Value):List av:=[dw 97 Tryz.f97 [(0,iH 13),(1,ptr 11 (.l 0)),(3,i64 (.o i))] LR,lq 86 Tryz.f86 [(0,iH 7),(1,ptr 4 (.l 0)),(4,ptr 9 (.l 0))] qP 12,lq 29 Tryz.f29 [(1,.s (.c (.f (.int .u32 (.o h))))),(3,ptr 0 (.l 0)),(5,ptr 1 (.l 0)),(6,ptr 2 (.l 0)),(7,ptr 3 (.l 0))] LS 6]
noncomputable def GA (ts:Array Value) (h:Int) (up:Int) (r:Nat) (ks:Array Value) (i:Int) (zz:Array Value):aj:=nu 14 [(0,⟨.op ts,39,true⟩),(1,⟨.ls [.f (.int .u32 (.o up))],30,true⟩),(2,⟨.op zz,39,true⟩),(3,⟨.ls [.f (.int .i64 (.l 0))],77,true⟩),(4,⟨.op ts,39,true⟩),(8,⟨.ls [.f (.int .u32 (.o h))],30,true⟩),(9,⟨.ls [.f (.slice 8 (.l 0) (.l 0) (.n (.l 1)))],73,true⟩),(10,⟨.pop ks,30,true⟩),(11,⟨.ls [tC 10 r],73,true⟩)] [(6,.gZ),(7,jR Tryz.f29 0 29 (i_ Tryz.f29.ntmps [(1,u32 h),(3,ptr 0 (.l 0)),(5,ptr 1 (.l 0)),(6,ptr 2 (.l 0)),(7,ptr 3 (.l 0))]) 6),(12,.gZ),(13,jR Tryz.f86 0 86 (i_ Tryz.f86.ntmps [(0,iH 7),(1,ptr 4 (.l 0)),(4,ptr 9 (.l 0))]) 12)]
def MW (ts:Array Value) (h:Int) (up:Int) (r:Nat) (ks:Array Value) (Q:Int→Array Value→Prop) (fs:List av) (m:aj):Prop:=(match b9 fs 0 with | some f0=>(match b9 fs 1 with | some f1=>(match b9 fs 2 with | some f2=>(match dh f0 3 with | some i=>(match aV f2 3 with | some p0=>(match aV f2 5 with | some p1=>(match aV f2 6 with | some p2=>(match aV f2 7 with | some p3=>(match aV f1 1 with | some p4=>(match jS f1 0 with | some p7=>(match lu m p7 with | some p6=>(match aV f1 4 with | some p9=>(match iL m p9 0 with | some p8=>(match aV f0 1 with | some q_=>(match iL m q_ 0 with | some kL=>(match jS f0 0 with | some wk=>(match lu m wk with | some zf=>(match cO m p2 with | some zz=>Q i zz∧cV 0 [(0,p0),(1,p1),(2,p2),(3,p3),(4,p4),(6,p6),(7,p7),(8,p8),(9,p9),(10,kL),(11,q_),(12,zf),(13,wk)] (Gz ts h up r ks i zz) (GA ts h up r ks i zz) fs m | none=>False) | none=>False) | none=>False) | none=>False) | none=>False) | none=>False) | none=>False) | none=>False) | none=>False) | none=>False) | none=>False) | none=>False) | none=>False) | none=>False) | none=>False) | none=>False) | none=>False) | none=>False)
noncomputable def gT0 (ts:Array Value) (h:Int) (up:Int):Tree:=run VP 1000 0 [a_ 29 Tryz.f29.ntmps [bB ts,u32 h,u32 up] (Tryz.f29.body.getD .skip)] aT
def Cz (j:Nat) (ts:Array Value) (h:Int) (up:Int) (r:Nat) (ks:Array Value) (QA:Array Value→Nat→Array Value→Prop) (QB:Int→Array Value→Nat→Array Value→Prop) (fs:List av) (m:aj):Prop:=match Nat.beq (atR fs) (86*1000+3) with | true=>MU (j+1) ts h up QA fs m | false=>MV j ts h up r ks QB fs m
theorem I4 (r:Nat→Option Nat):ak r n9 n9:=ak.it (by kernel_rfl)
theorem afk {l:List (Nat × Nat)}:ak (aD 0 ([(0,0),(1,1),(2,2),(3,3),(4,4),(6,6),(7,7),(8,8),(9,9)]++l)) fR fR:=ak.rf rfl (by kernel_rfl)
theorem XH:ak (aD 0 [(0,0),(1,1),(2,2),(3,3),(4,4),(6,6),(7,7),(8,8),(9,9)]) fR fR:=ak.rf rfl (by kernel_rfl)
theorem Dh (r:Nat→Option Nat):ak r n_ n_:=ak.it (by kernel_rfl)
theorem afl {l:List (Nat × Nat)}:ak (aD 0 ([(0,0),(1,1),(2,2),(3,3),(4,4),(6,6),(7,7),(8,8),(9,9),(60,60),(61,61),(63,63)]++l)) ld ld:=ak.rf rfl (by kernel_rfl)
theorem ae3:ak (aD 0 [(0,0),(1,1),(2,2),(3,3),(4,4),(6,6),(7,7),(8,8),(9,9),(60,60),(61,61),(63,63)]) ld ld:=ak.rf rfl (by kernel_rfl)
theorem afm {l:List (Nat × Nat)}:ak (aD 0 ([(0,0),(1,1),(2,2),(3,3),(4,4),(6,6),(7,7),(8,8),(9,9),(60,60),(61,61),(63,63)]++l)) LQ LQ:=ak.rf rfl (by kernel_rfl)
theorem afn (r:Nat→Option Nat):ak r LR LR:=ak.it (by kernel_rfl)
theorem afo {l:List (Nat × Nat)}:ak (aD 0 ([(0,0),(1,1),(2,2),(3,3),(4,4),(6,6),(7,7),(8,8),(9,9),(10,10),(11,11),(12,12),(13,13)]++l)) qP qP:=ak.rf rfl (by kernel_rfl)
theorem XI:ak (aD 0 [(0,0),(1,1),(2,2),(3,3),(4,4),(6,6),(7,7),(8,8),(9,9),(10,10),(11,11),(12,12),(13,13)]) qP qP:=ak.rf rfl (by kernel_rfl)
theorem afp {l:List (Nat × Nat)}:ak (aD 0 ([(0,0),(1,1),(2,2),(3,3),(4,4),(6,6),(7,7),(8,8),(9,9),(10,10),(11,11),(12,12),(13,13)]++l)) LS LS:=ak.rf rfl (by kernel_rfl)
theorem aam {A:SV→aj→Prop} {j:Nat} {ts:Array Value} {h:Int} {up:Int} {Q:Array Value→Nat→Array Value→Prop} {fs:List av} {m:aj} (H:∀ zz n cs,Q zz n cs→Good Tryz.prog A 0 (vF j ts h up zz n cs) (vG j ts h up zz n cs)) (hb:MU j ts h up Q fs m):Good Tryz.prog A 0 fs m:=by
 unfold MU at hb
 iterate 14 (split at hb;rotate_left;exact hb.elim)
 exact Good.c_ hb.2 (H _ _ _ hb.1)
theorem aan {A:SV→aj→Prop} {j:Nat} {ts:Array Value} {h:Int} {up:Int} {r:Nat} {ks:Array Value} {Q:Int→Array Value→Nat→Array Value→Prop} {fs:List av} {m:aj} (H:∀ i zz n cs,Q i zz n cs→Good Tryz.prog A 0 (B4 j ts h up r ks i zz n cs) (B5 j ts h up r ks i zz n cs)) (hb:MV j ts h up r ks Q fs m):Good Tryz.prog A 0 fs m:=by
 unfold MV at hb
 iterate 19 (split at hb;rotate_left;exact hb.elim)
 exact Good.c_ hb.2 (H _ _ _ _ hb.1)
theorem aao {A:SV→aj→Prop} {ts:Array Value} {h:Int} {up:Int} {r:Nat} {ks:Array Value} {Q:Int→Array Value→Prop} {fs:List av} {m:aj} (H:∀ i zz,Q i zz→Good Tryz.prog A 0 (Gz ts h up r ks i zz) (GA ts h up r ks i zz)) (hb:MW ts h up r ks Q fs m):Good Tryz.prog A 0 fs m:=by
 unfold MW at hb
 iterate 18 (split at hb;rotate_left;exact hb.elim)
 exact Good.c_ hb.2 (H _ _ hb.1)
set_option maxRecDepth 100000
noncomputable def pH (ts:Array Value):Array Value:=Array.extract ts 0 64
def xX (ts:Array Value):Prop:=ts.size=448∧ts.size=448∧True
def qQ (h:Int):Prop:=0≤h∧h<4294967296
theorem gV0 (ts:Array Value) (h:Int) (up:Int) (r:Nat) (ks o:Array Value) (e:Int) (Q:Int→Array Value→Prop):(gT0 ts h up).vc (bM 0 [] (fu o e) aT) (MW ts h up r ks Q) =
  ((64≤ts.size∧True)∧(bP (pH ts)∧(qQ h)∧True)∧(((!bF (pH ts) h)==false)=true→(64≤ts.size∧True)∧(bP (pH ts)∧(0≤up∧up<4294967296)∧True)∧((!bF (pH ts) up)=true→(ts.size=448∧True)∧(xX ts)∧(ts.size=448∧True)∧o=ts∧e=4∧True)∧((!bF (pH ts) up)=false→(ts.size=448∧True)∧(ay ts∧(qQ h)∧True)∧(((aO ts h != h)==false)=true→(ts.size=448∧True)∧(ay ts∧(0≤up∧up<4294967296)∧True)∧(fm ts h up=true→(ts.size=448∧True)∧(xX ts)∧(ts.size=448∧True)∧o=ts∧e=12∧True)∧(fm ts h up=false→(ts.size=448∧True)∧(64≤ts.size∧True)∧(bP (pH ts)∧(qQ h)∧True)∧((!bF (pH ts) h)=true→(ts.size=448∧True)∧(ay ts∧(qQ h)∧(0≤up∧up<4294967296)∧True)∧((bO ts h up).size=448∧(bO ts h up).size=448∧True)∧((bO ts h up).size=448∧True)∧o=bO ts h up∧e=dz ts h up∧True)∧((!bF (pH ts) h)=false→(ts.size=448∧True)∧(ay ts∧(qQ h)∧True)∧(ts.size=448∧True)∧(ay ts∧(0≤up∧up<4294967296)∧True)∧(decide (ah .add .i64 (↑(aY ts h):Int) (↑(aY ts up):Int)>6)=true→(ts.size=448∧True)∧(xX ts)∧(ts.size=448∧True)∧o=ts∧e=8∧True)∧(decide (ah .add .i64 (↑(aY ts h):Int) (↑(aY ts up):Int)>6)=false→(ts.size=448∧True)∧(aM ts∧(qQ h)∧True)∧(decide ((az ts h).length=0)=true→(ts.size=448∧True)∧(ay ts∧(qQ h)∧(0≤up∧up<4294967296)∧True)∧((bO ts h up).size=448∧(bO ts h up).size=448∧True)∧((bO ts h up).size=448∧True)∧o=bO ts h up∧e=dz ts h up∧True)∧(decide ((az ts h).length=0)=false→(decide (ah .sub .i64 (↑((az ts h).length):Int) (1:Int)≥0)=true→Q (ah .sub .i64 (↑((az ts h).length):Int) (1:Int)) zT∧cN∧ak (aD 0 [(0,0),(1,1),(2,2),(3,3),(4,4),(6,6),(7,7),(8,8),(9,9),(10,10),(11,11),(12,12),(13,13)]) n_ n_∧ah .sub .i64 (↑((az ts h).length):Int) (1:Int)=ah .sub .i64 (↑((az ts h).length):Int) (1:Int)∧cN∧ak (aD 0 [(0,0),(1,1),(2,2),(3,3),(4,4),(6,6),(7,7),(8,8),(9,9),(10,10),(11,11),(12,12),(13,13)]) qP qP∧cN∧ak (aD 0 [(0,0),(1,1),(2,2),(3,3),(4,4),(6,6),(7,7),(8,8),(9,9),(10,10),(11,11),(12,12),(13,13)]) fR fR∧h=h∧39=39∧ts=ts∧30=30∧up=up∧77=77∧73=73∧r=(az ts h).length∧73=73∧39=39∧zT=zT∧39=39∧ts=ts∧30=30∧h=h∧30=30∧ks=aL (az ts h)∧dN kQ kQ∧h=h∧dN g_ g_∧True)∧(decide (ah .sub .i64 (↑((az ts h).length):Int) (1:Int)≥0)=false→(ts.size=448∧True)∧(ay ts∧(qQ h)∧(0≤up∧up<4294967296)∧True)∧((bO ts h up).size=448∧(bO ts h up).size=448∧True)∧((bO ts h up).size=448∧True)∧o=bO ts h up∧e=dz ts h up∧True))))))∧(((aO ts h != h)==false)=false→(ts.size=448∧True)∧(xX ts)∧(ts.size=448∧True)∧o=ts∧e=12∧True)))∧(((!bF (pH ts) h)==false)=false→(ts.size=448∧True)∧(xX ts)∧(ts.size=448∧True)∧o=ts∧e=4∧True)):=by kernel_rfl
theorem gVI (ts:Array Value) (h:Int) (up:Int) (r:Nat) (ks:Array Value) (i:Int) (zz:Array Value) (o:Array Value) (e:Int) (QA:Array Value→Nat→Array Value→Prop) (QB:Int→Array Value→Nat→Array Value→Prop):(stepT wq.go (run wq 1000) 0 (Gz ts h up r ks i zz) (GA ts h up r ks i zz)).vc (bM 0 [] (fu o e) aT) (Cz 0 ts h up r ks QA QB) =
  (((0≤i∧i<(↑r:Int))∧True)∧(aA .u32 ks (0+i.toNat*1)∧True)∧(decide (ah .sub .i64 i 1≥0)=true→QB (ah .sub .i64 i 1) zz (1:Nat) #[Value.int .u32 (aa ks (0+i.toNat*1))]∧cN∧ak (aD 0 [(0,0),(1,1),(2,2),(3,3),(4,4),(6,6),(7,7),(8,15),(9,9),(60,10),(61,11),(63,13),(20,12)]) n_ n_∧ah .sub .i64 i 1=ah .sub .i64 i 1∧cN∧ak (aD 0 [(0,0),(1,1),(2,2),(3,3),(4,4),(6,6),(7,7),(8,15),(9,9),(60,10),(61,11),(63,13),(20,12)]) ld qP∧cN∧ak (aD 0 [(0,0),(1,1),(2,2),(3,3),(4,4),(6,6),(7,7),(8,15),(9,9),(60,10),(61,11),(63,13),(20,12)]) fR fR∧h=h∧39=39∧ts=ts∧30=30∧up=up∧77=77∧73=73∧(1:Nat)=1∧73=73∧r=r∧39=39∧zz=zz∧39=39∧ts=ts∧30=30∧#[Value.int .u32 (aa ks (0+i.toNat*1))]=#[Value.int .u32 (aa ks (0+i.toNat*1))]∧30=30∧ks=ks∧dN kQ kQ∧h=h∧dN g_ g_∧True)∧(decide (ah .sub .i64 i 1≥0)=false→QA zz (1:Nat) #[Value.int .u32 (aa ks (0+i.toNat*1))]∧cN∧ak (aD 0 [(0,0),(1,1),(2,2),(3,3),(4,4),(6,6),(7,7),(8,15),(9,9),(20,12)]) n9 n9∧cN∧ak (aD 0 [(0,0),(1,1),(2,2),(3,3),(4,4),(6,6),(7,7),(8,15),(9,9),(20,12)]) fR fR∧h=h∧39=39∧ts=ts∧30=30∧up=up∧77=77∧73=73∧(1:Nat)=1∧39=39∧zz=zz∧39=39∧ts=ts∧30=30∧#[Value.int .u32 (aa ks (0+i.toNat*1))]=#[Value.int .u32 (aa ks (0+i.toNat*1))]∧dN kQ kQ∧h=h∧True)):=by kernel_rfl
set_option linter.unusedVariables false
def LU (j:Nat) (ts:Array Value) (h:Int) (up:Int) (r:Nat) (ks:Array Value) (zz:Array Value) (n:Nat) (cs:Array Value) (o:Array Value) (e:Int) (QA:Array Value→Nat→Array Value→Prop) (QB:Int→Array Value→Nat→Array Value→Prop):Prop :=
 (((0≤ah .sub .i64 (↑n) 1∧ah .sub .i64 (↑n) 1<(↑n:Int))∧True)∧(aA .u32 cs (0+Int.toNat (ah .sub .i64 (↑n) 1)*1)∧True)∧(0≤ah .sub .i64 (↑n) 1∧Int.toNat (ah .sub .i64 (↑n) 1)≤n∧True)∧(Array.size ts=448∧True)∧(ay ts∧(0≤aa cs (0+Int.toNat (ah .sub .i64 (↑n) 1)*1)∧aa cs (0+Int.toNat (ah .sub .i64 (↑n) 1)*1)<4294967296)∧True)∧(Array.size ts=448∧True)∧(ay ts∧(0≤up∧up<4294967296)∧True)∧(decide (ah .add .i64 (↑(aY ts (aa cs (0+Int.toNat (ah .sub .i64 (↑n) 1)*1))):Int) (↑(aY ts up):Int)>6)=true→(Array.size ts=448∧True)∧(Array.size ts=448∧Array.size ts=Array.size zz∧True)∧(Array.size ts=448∧True)∧o=ts∧e=8∧True)∧(decide (ah .add .i64 (↑(aY ts (aa cs (0+Int.toNat (ah .sub .i64 (↑n) 1)*1))):Int) (↑(aY ts up):Int)>6)=false→(Array.size ts=448∧True)∧(aM ts∧(0≤aa cs (0+Int.toNat (ah .sub .i64 (↑n) 1)*1)∧aa cs (0+Int.toNat (ah .sub .i64 (↑n) 1)*1)<4294967296)∧True)∧(decide (List.length (az ts (aa cs (0+Int.toNat (ah .sub .i64 (↑n) 1)*1)))=0)=true→(decide ((↑(Int.toNat (ah .sub .i64 (↑n) 1)):Int)>0)=true→QA zz (Int.toNat (ah .sub .i64 (↑n) 1)) cs∧cN∧ak (aD 0 ([(0,0),(1,1),(2,2),(3,3),(4,4),(6,6),(7,7),(8,8),(9,9)]++(20+j,61) :: dj j)) n9 n9∧cN∧ak (aD 0 ([(0,0),(1,1),(2,2),(3,3),(4,4),(6,6),(7,7),(8,8),(9,9)]++(20+j,61) :: dj j)) fR fR∧h=h∧39=39∧ts=ts∧30=30∧up=up∧77=77∧73=73∧Int.toNat (ah .sub .i64 (↑n) 1)=Int.toNat (ah .sub .i64 (↑n) 1)∧39=39∧zz=zz∧39=39∧ts=ts∧30=30∧cs=cs∧dN kQ kQ∧h=h∧True)∧(decide ((↑(Int.toNat (ah .sub .i64 (↑n) 1)):Int)>0)=false→(Array.size ts=448∧True)∧(ay ts∧(0≤h∧h<4294967296)∧(0≤up∧up<4294967296)∧True)∧(Array.size (bO ts h up)=448∧Array.size (bO ts h up)=Array.size zz∧True)∧(Array.size (bO ts h up)=448∧True)∧o=bO ts h up∧e=dz ts h up∧True))∧(decide (List.length (az ts (aa cs (0+Int.toNat (ah .sub .i64 (↑n) 1)*1)))=0)=false→(decide (ah .sub .i64 (↑(List.length (az ts (aa cs (0+Int.toNat (ah .sub .i64 (↑n) 1)*1)))):Int) (1:Int)≥0)=true→QB (ah .sub .i64 (↑(List.length (az ts (aa cs (0+Int.toNat (ah .sub .i64 (↑n) 1)*1)))):Int) (1:Int)) zz (Int.toNat (ah .sub .i64 (↑n) 1)) cs∧cN∧ak (aD 0 ([(0,0),(1,1),(2,2),(3,3),(4,4),(6,6),(7,7),(8,8),(9,9),(60,60),(61,61),(63,63)]++(20+j,62) :: dj j)) n_ n_∧ah .sub .i64 (↑(List.length (az ts (aa cs (0+Int.toNat (ah .sub .i64 (↑n) 1)*1)))):Int) (1:Int)=ah .sub .i64 (↑(List.length (az ts (aa cs (0+Int.toNat (ah .sub .i64 (↑n) 1)*1)))):Int) (1:Int)∧cN∧ak (aD 0 ([(0,0),(1,1),(2,2),(3,3),(4,4),(6,6),(7,7),(8,8),(9,9),(60,60),(61,61),(63,63)]++(20+j,62) :: dj j)) ld ld∧cN∧ak (aD 0 ([(0,0),(1,1),(2,2),(3,3),(4,4),(6,6),(7,7),(8,8),(9,9),(60,60),(61,61),(63,63)]++(20+j,62) :: dj j)) fR fR∧h=h∧39=39∧ts=ts∧30=30∧up=up∧77=77∧73=73∧Int.toNat (ah .sub .i64 (↑n) 1)=Int.toNat (ah .sub .i64 (↑n) 1)∧73=73∧r=List.length (az ts (aa cs (0+Int.toNat (ah .sub .i64 (↑n) 1)*1)))∧39=39∧zz=zz∧39=39∧ts=ts∧30=30∧cs=cs∧30=30∧ks=aL (az ts (aa cs (0+Int.toNat (ah .sub .i64 (↑n) 1)*1)))∧dN kQ kQ∧h=h∧dN g_ g_∧True)∧(decide (ah .sub .i64 (↑(List.length (az ts (aa cs (0+Int.toNat (ah .sub .i64 (↑n) 1)*1)))):Int) (1:Int)≥0)=false→(decide ((↑(Int.toNat (ah .sub .i64 (↑n) 1)):Int)>0)=true→QA zz (Int.toNat (ah .sub .i64 (↑n) 1)) cs∧cN∧ak (aD 0 ([(0,0),(1,1),(2,2),(3,3),(4,4),(6,6),(7,7),(8,8),(9,9)]++(20+j,62) :: dj j)) n9 n9∧cN∧ak (aD 0 ([(0,0),(1,1),(2,2),(3,3),(4,4),(6,6),(7,7),(8,8),(9,9)]++(20+j,62) :: dj j)) fR fR∧h=h∧39=39∧ts=ts∧30=30∧up=up∧77=77∧73=73∧Int.toNat (ah .sub .i64 (↑n) 1)=Int.toNat (ah .sub .i64 (↑n) 1)∧39=39∧zz=zz∧39=39∧ts=ts∧30=30∧cs=cs∧dN kQ kQ∧h=h∧True)∧(decide ((↑(Int.toNat (ah .sub .i64 (↑n) 1)):Int)>0)=false→(Array.size ts=448∧True)∧(ay ts∧(0≤h∧h<4294967296)∧(0≤up∧up<4294967296)∧True)∧(Array.size (bO ts h up)=448∧Array.size (bO ts h up)=Array.size zz∧True)∧(Array.size (bO ts h up)=448∧True)∧o=bO ts h up∧e=dz ts h up∧True)))))
theorem aap:∀ j,j<33→∀ (ts:Array Value) (h:Int) (up:Int) (r:Nat) (ks:Array Value) (zz:Array Value) (n:Nat) (cs:Array Value) (o:Array Value) (e:Int) (QA:Array Value→Nat→Array Value→Prop) (QB:Int→Array Value→Nat→Array Value→Prop),(stepT wq.go (run wq 1000) 0 (vF j ts h up zz n cs) (vG j ts h up zz n cs)).vc (bM 0 [] (fu o e) aT) (Cz j ts h up r ks QA QB)=LU j ts h up r ks zz n cs o e QA QB
 | 0,_ | 1,_ | 2,_ | 3,_ | 4,_ | 5,_ | 6,_ | 7,_ | 8,_ | 9,_ | 10,_ | 11,_ | 12,_ | 13,_ | 14,_ | 15,_ | 16,_ | 17,_ | 18,_ | 19,_ | 20,_ | 21,_ | 22,_ | 23,_ | 24,_ | 25,_ | 26,_ | 27,_ | 28,_ | 29,_ | 30,_ | 31,_ | 32,_=>fun ts h up r ks zz n cs o e QA QB=>by kernel_rfl
 | n+33,h=>by omega
def LV (j:Nat) (ts:Array Value) (h:Int) (up:Int) (r:Nat) (ks:Array Value) (i:Int) (zz:Array Value) (n:Nat) (cs:Array Value) (o:Array Value) (e:Int) (QA:Array Value→Nat→Array Value→Prop) (QB:Int→Array Value→Nat→Array Value→Prop):Prop :=
 (((0≤i∧i<(↑r:Int))∧True)∧(aA .u32 ks (0+Int.toNat i*1)∧True)∧(((n+1)*4≤140737488355328∧n+1≤140737488355328)∧n*1≤Array.size cs∧True)∧(decide (ah .sub .i64 i 1≥0)=true→QB (ah .sub .i64 i 1) zz (n+1) (Array.extract cs 0 (n*1)++#[Value.int .u32 (aa ks (0+Int.toNat i*1))])∧cN∧ak (aD 0 ([(0,0),(1,1),(2,2),(3,3),(4,4),(6,6),(7,7),(8,65),(9,9),(60,60),(61,61),(63,63)]++dj (j+1))) n_ n_∧ah .sub .i64 i 1=ah .sub .i64 i 1∧cN∧ak (aD 0 ([(0,0),(1,1),(2,2),(3,3),(4,4),(6,6),(7,7),(8,65),(9,9),(60,60),(61,61),(63,63)]++dj (j+1))) ld ld∧cN∧ak (aD 0 ([(0,0),(1,1),(2,2),(3,3),(4,4),(6,6),(7,7),(8,65),(9,9),(60,60),(61,61),(63,63)]++dj (j+1))) fR fR∧h=h∧39=39∧ts=ts∧30=30∧up=up∧77=77∧73=73∧n+1=n+1∧73=73∧r=r∧39=39∧zz=zz∧39=39∧ts=ts∧30=30∧Array.extract cs 0 (n*1)++#[Value.int .u32 (aa ks (0+Int.toNat i*1))]=Array.extract cs 0 (n*1)++#[Value.int .u32 (aa ks (0+Int.toNat i*1))]∧30=30∧ks=ks∧dN kQ kQ∧h=h∧dN g_ g_∧True)∧(decide (ah .sub .i64 i 1≥0)=false→(decide ((↑(n+1):Int)>0)=true→QA zz (n+1) (Array.extract cs 0 (n*1)++#[Value.int .u32 (aa ks (0+Int.toNat i*1))])∧cN∧ak (aD 0 ([(0,0),(1,1),(2,2),(3,3),(4,4),(6,6),(7,7),(8,65),(9,9)]++dj (j+1))) n9 n9∧cN∧ak (aD 0 ([(0,0),(1,1),(2,2),(3,3),(4,4),(6,6),(7,7),(8,65),(9,9)]++dj (j+1))) fR fR∧h=h∧39=39∧ts=ts∧30=30∧up=up∧77=77∧73=73∧n+1=n+1∧39=39∧zz=zz∧39=39∧ts=ts∧30=30∧Array.extract cs 0 (n*1)++#[Value.int .u32 (aa ks (0+Int.toNat i*1))]=Array.extract cs 0 (n*1)++#[Value.int .u32 (aa ks (0+Int.toNat i*1))]∧dN kQ kQ∧h=h∧True)∧(decide ((↑(n+1):Int)>0)=false→(Array.size ts=448∧True)∧(ay ts∧(0≤h∧h<4294967296)∧(0≤up∧up<4294967296)∧True)∧(Array.size (bO ts h up)=448∧Array.size (bO ts h up)=Array.size zz∧True)∧(Array.size (bO ts h up)=448∧True)∧o=bO ts h up∧e=dz ts h up∧True)))
theorem RJ:∀ j,j<33→∀ (ts:Array Value) (h:Int) (up:Int) (r:Nat) (ks:Array Value) (i:Int) (zz:Array Value) (n:Nat) (cs:Array Value) (o:Array Value) (e:Int) (QA:Array Value→Nat→Array Value→Prop) (QB:Int→Array Value→Nat→Array Value→Prop),(stepT wq.go (run wq 1000) 0 (B4 j ts h up r ks i zz n cs) (B5 j ts h up r ks i zz n cs)).vc (bM 0 [] (fu o e) aT) (Cz j ts h up r ks QA QB)=LV j ts h up r ks i zz n cs o e QA QB
 | 0,_ | 1,_ | 2,_ | 3,_ | 4,_ | 5,_ | 6,_ | 7,_ | 8,_ | 9,_ | 10,_ | 11,_ | 12,_ | 13,_ | 14,_ | 15,_ | 16,_ | 17,_ | 18,_ | 19,_ | 20,_ | 21,_ | 22,_ | 23,_ | 24,_ | 25,_ | 26,_ | 27,_ | 28,_ | 29,_ | 30,_ | 31,_ | 32,_=>fun ts h up r ks i zz n cs o e QA QB=>by kernel_rfl
 | n+33,h=>by omega
set_option maxRecDepth 100000
theorem cV0 (ts:Array Value) (h:Int) (u0:Array Value) (r:Nat) (ks o:Array Value) (e:Int) (Q:Int→Array Value→Array Value→Prop):(cT0 ts h).vc (bM 0 [] (fu o e) aT) (MS ts h u0 r ks Q) =
  ((ts.size=448∧True)∧(ay ts∧(0≤h∧h<4294967296)∧((0:Int)≤0∧(0:Int)<4294967296)∧True)∧((bO ts h 0).size=448∧(bO ts h 0).size=448∧True)∧((dz ts h (0:Int) != 0)=true→(ts.size=448∧True)∧(ts.size=448∧ts.size=448∧True)∧(ts.size=448∧True)∧o=ts∧e=dz ts h (0:Int)∧True)∧((dz ts h (0:Int) != 0)=false→((bO ts h 0).size=448∧True)∧(64≤(bO ts h 0).size∧True)∧(bP (Array.extract (bO ts h 0) 0 (64:Nat))∧(0≤h∧h<4294967296)∧True)∧((!bF (Array.extract (bO ts h 0) 0 (64:Nat)) h)=true→((bO ts h 0).size=448∧True)∧((bO ts h 0).size=448∧(bO ts h 0).size=448∧True)∧((bO ts h 0).size=448∧True)∧o=bO ts h 0∧e=0∧True)∧((!bF (Array.extract (bO ts h 0) 0 (64:Nat)) h)=false→((bO ts h 0).size=448∧True)∧(aM (bO ts h 0)∧aB (bO ts h 0) h=true∧ay ts∧(0≤h∧h<4294967296)∧True)∧((cU (bO ts h 0) ts h h).size=448∧(cU (bO ts h 0) ts h h).size=(bO ts h 0).size∧True)∧((bO ts h 0).size=448∧True)∧(aM (bO ts h 0)∧(0≤h∧h<4294967296)∧True)∧(decide ((az (bO ts h 0) h).length=0)=true→((cU (bO ts h 0) ts h h).size=448∧True)∧((cU (bO ts h 0) ts h h).size=448∧(cU (bO ts h 0) ts h h).size=448∧True)∧((cU (bO ts h 0) ts h h).size=448∧True)∧o=cU (bO ts h 0) ts h h∧e=0∧True)∧(decide ((az (bO ts h 0) h).length=0)=false→(decide (ah .sub .i64 (↑((az (bO ts h 0) h).length):Int) (1:Int)≥0)=true→Q (ah .sub .i64 (↑((az (bO ts h 0) h).length):Int) (1:Int)) (cU (bO ts h 0) ts h h) zT∧cN∧ak (aD 0 [(0,0),(1,1),(2,2),(3,3),(4,4),(5,5),(7,7),(8,8),(9,9),(10,10),(11,11),(12,12),(13,13),(14,14)]) n8 n8∧ah .sub .i64 (↑((az (bO ts h 0) h).length):Int) (1:Int)=ah .sub .i64 (↑((az (bO ts h 0) h).length):Int) (1:Int)∧cN∧ak (aD 0 [(0,0),(1,1),(2,2),(3,3),(4,4),(5,5),(7,7),(8,8),(9,9),(10,10),(11,11),(12,12),(13,13),(14,14)]) qO qO∧cN∧ak (aD 0 [(0,0),(1,1),(2,2),(3,3),(4,4),(5,5),(7,7),(8,8),(9,9),(10,10),(11,11),(12,12),(13,13),(14,14)]) fQ fQ∧39=39∧ts=ts∧30=30∧h=h∧39=39∧cU (bO ts h 0) ts h h=cU (bO ts h 0) ts h h∧30=30∧ks=aL (az (bO ts h 0) h)∧39=39∧u0=bO ts h 0∧30=30∧h=h∧39=39∧zT=zT∧129=129∧Fn.func 63=Fn.func 63∧73=73∧r=(az (bO ts h 0) h).length∧73=73∧dN kP kP∧dN g_ g_∧True)∧(decide (ah .sub .i64 (↑((az (bO ts h 0) h).length):Int) (1:Int)≥0)=false→((cU (bO ts h 0) ts h h).size=448∧True)∧((cU (bO ts h 0) ts h h).size=448∧(cU (bO ts h 0) ts h h).size=448∧True)∧((cU (bO ts h 0) ts h h).size=448∧True)∧o=cU (bO ts h 0) ts h h∧e=0∧True))))):=by kernel_rfl
theorem cVI (ts:Array Value) (h:Int) (u0:Array Value) (r:Nat) (ks:Array Value) (i:Int) (us:Array Value) (zz:Array Value) (o:Array Value) (e:Int) (QA:Array Value→Array Value→Nat→Array Value→Prop) (QB:Int→Array Value→Array Value→Nat→Array Value→Prop):(stepT wo.go (run wo 1000) 0 (Gx ts h u0 r ks i us zz) (Gy ts h u0 r ks i us zz)).vc (bM 0 [] (fu o e) aT) (Cy 0 ts h u0 r ks QA QB) =
  (((0≤i∧i<(↑r:Int))∧True)∧(aA .u32 ks (0+i.toNat*1)∧True)∧(decide (ah .sub .i64 i 1≥0)=true→QB (ah .sub .i64 i 1) us zz (1:Nat) #[Value.int .u32 (aa ks (0+i.toNat*1))]∧cN∧ak (aD 0 [(0,0),(1,1),(2,2),(3,3),(4,4),(5,5),(7,7),(8,8),(9,16),(10,10),(60,11),(61,12),(63,14),(20,13)]) n8 n8∧ah .sub .i64 i 1=ah .sub .i64 i 1∧cN∧ak (aD 0 [(0,0),(1,1),(2,2),(3,3),(4,4),(5,5),(7,7),(8,8),(9,16),(10,10),(60,11),(61,12),(63,14),(20,13)]) k_ qO∧cN∧ak (aD 0 [(0,0),(1,1),(2,2),(3,3),(4,4),(5,5),(7,7),(8,8),(9,16),(10,10),(60,11),(61,12),(63,14),(20,13)]) fQ fQ∧39=39∧ts=ts∧30=30∧h=h∧39=39∧us=us∧39=39∧u0=u0∧30=30∧#[Value.int .u32 (aa ks (0+i.toNat*1))]=#[Value.int .u32 (aa ks (0+i.toNat*1))]∧73=73∧r=r∧39=39∧zz=zz∧129=129∧Fn.func 63=Fn.func 63∧30=30∧ks=ks∧73=73∧(1:Nat)=1∧dN kP kP∧dN g_ g_∧True)∧(decide (ah .sub .i64 i 1≥0)=false→QA us zz (1:Nat) #[Value.int .u32 (aa ks (0+i.toNat*1))]∧cN∧ak (aD 0 [(0,0),(1,1),(2,2),(3,3),(4,4),(5,5),(7,7),(8,8),(9,16),(10,10),(20,13)]) n7 n7∧cN∧ak (aD 0 [(0,0),(1,1),(2,2),(3,3),(4,4),(5,5),(7,7),(8,8),(9,16),(10,10),(20,13)]) fQ fQ∧39=39∧ts=ts∧30=30∧h=h∧39=39∧us=us∧39=39∧u0=u0∧30=30∧#[Value.int .u32 (aa ks (0+i.toNat*1))]=#[Value.int .u32 (aa ks (0+i.toNat*1))]∧39=39∧zz=zz∧129=129∧Fn.func 63=Fn.func 63∧73=73∧(1:Nat)=1∧dN kP kP∧True)):=by kernel_rfl
set_option linter.unusedVariables false
def LO (j:Nat) (ts:Array Value) (h:Int) (u0:Array Value) (r:Nat) (ks:Array Value) (us:Array Value) (zz:Array Value) (n:Nat) (cs:Array Value) (o:Array Value) (e:Int) (QA:Array Value→Array Value→Nat→Array Value→Prop) (QB:Int→Array Value→Array Value→Nat→Array Value→Prop):Prop :=
 (((0≤ah .sub .i64 (↑n) 1∧ah .sub .i64 (↑n) 1<(↑n:Int))∧True)∧(aA .u32 cs (0+Int.toNat (ah .sub .i64 (↑n) 1)*1)∧True)∧(0≤ah .sub .i64 (↑n) 1∧Int.toNat (ah .sub .i64 (↑n) 1)≤n∧True)∧(Array.size us=448∧True)∧(aM us∧aB us (aa cs (0+Int.toNat (ah .sub .i64 (↑n) 1)*1))=true∧ay ts∧(0≤h∧h<4294967296)∧True)∧(Array.size (cU us ts h (aa cs (0+Int.toNat (ah .sub .i64 (↑n) 1)*1)))=448∧Array.size (cU us ts h (aa cs (0+Int.toNat (ah .sub .i64 (↑n) 1)*1)))=Array.size us∧True)∧(Array.size u0=448∧True)∧(aM u0∧(0≤aa cs (0+Int.toNat (ah .sub .i64 (↑n) 1)*1)∧aa cs (0+Int.toNat (ah .sub .i64 (↑n) 1)*1)<4294967296)∧True)∧(decide (List.length (az u0 (aa cs (0+Int.toNat (ah .sub .i64 (↑n) 1)*1)))=0)=true→(decide ((↑(Int.toNat (ah .sub .i64 (↑n) 1)):Int)>0)=true→QA (cU us ts h (aa cs (0+Int.toNat (ah .sub .i64 (↑n) 1)*1))) zz (Int.toNat (ah .sub .i64 (↑n) 1)) cs∧cN∧ak (aD 0 ([(0,0),(1,1),(2,2),(3,3),(4,4),(5,5),(7,7),(8,8),(9,9),(10,10)]++(20+j,61) :: dj j)) n7 n7∧cN∧ak (aD 0 ([(0,0),(1,1),(2,2),(3,3),(4,4),(5,5),(7,7),(8,8),(9,9),(10,10)]++(20+j,61) :: dj j)) fQ fQ∧39=39∧ts=ts∧30=30∧h=h∧39=39∧cU us ts h (aa cs (0+Int.toNat (ah .sub .i64 (↑n) 1)*1))=cU us ts h (aa cs (0+Int.toNat (ah .sub .i64 (↑n) 1)*1))∧39=39∧u0=u0∧30=30∧cs=cs∧39=39∧zz=zz∧129=129∧Fn.func 63=Fn.func 63∧73=73∧Int.toNat (ah .sub .i64 (↑n) 1)=Int.toNat (ah .sub .i64 (↑n) 1)∧dN kP kP∧True)∧(decide ((↑(Int.toNat (ah .sub .i64 (↑n) 1)):Int)>0)=false→(Array.size (cU us ts h (aa cs (0+Int.toNat (ah .sub .i64 (↑n) 1)*1)))=448∧True)∧(Array.size (cU us ts h (aa cs (0+Int.toNat (ah .sub .i64 (↑n) 1)*1)))=448∧Array.size (cU us ts h (aa cs (0+Int.toNat (ah .sub .i64 (↑n) 1)*1)))=Array.size zz∧True)∧(Array.size (cU us ts h (aa cs (0+Int.toNat (ah .sub .i64 (↑n) 1)*1)))=448∧True)∧o=cU us ts h (aa cs (0+Int.toNat (ah .sub .i64 (↑n) 1)*1))∧e=0∧True))∧(decide (List.length (az u0 (aa cs (0+Int.toNat (ah .sub .i64 (↑n) 1)*1)))=0)=false→(decide (ah .sub .i64 (↑(List.length (az u0 (aa cs (0+Int.toNat (ah .sub .i64 (↑n) 1)*1)))):Int) (1:Int)≥0)=true→QB (ah .sub .i64 (↑(List.length (az u0 (aa cs (0+Int.toNat (ah .sub .i64 (↑n) 1)*1)))):Int) (1:Int)) (cU us ts h (aa cs (0+Int.toNat (ah .sub .i64 (↑n) 1)*1))) zz (Int.toNat (ah .sub .i64 (↑n) 1)) cs∧cN∧ak (aD 0 ([(0,0),(1,1),(2,2),(3,3),(4,4),(5,5),(7,7),(8,8),(9,9),(10,10),(60,60),(61,61),(63,63)]++(20+j,62) :: dj j)) n8 n8∧ah .sub .i64 (↑(List.length (az u0 (aa cs (0+Int.toNat (ah .sub .i64 (↑n) 1)*1)))):Int) (1:Int)=ah .sub .i64 (↑(List.length (az u0 (aa cs (0+Int.toNat (ah .sub .i64 (↑n) 1)*1)))):Int) (1:Int)∧cN∧ak (aD 0 ([(0,0),(1,1),(2,2),(3,3),(4,4),(5,5),(7,7),(8,8),(9,9),(10,10),(60,60),(61,61),(63,63)]++(20+j,62) :: dj j)) k_ k_∧cN∧ak (aD 0 ([(0,0),(1,1),(2,2),(3,3),(4,4),(5,5),(7,7),(8,8),(9,9),(10,10),(60,60),(61,61),(63,63)]++(20+j,62) :: dj j)) fQ fQ∧39=39∧ts=ts∧30=30∧h=h∧39=39∧cU us ts h (aa cs (0+Int.toNat (ah .sub .i64 (↑n) 1)*1))=cU us ts h (aa cs (0+Int.toNat (ah .sub .i64 (↑n) 1)*1))∧39=39∧u0=u0∧30=30∧cs=cs∧73=73∧r=List.length (az u0 (aa cs (0+Int.toNat (ah .sub .i64 (↑n) 1)*1)))∧39=39∧zz=zz∧129=129∧Fn.func 63=Fn.func 63∧30=30∧ks=aL (az u0 (aa cs (0+Int.toNat (ah .sub .i64 (↑n) 1)*1)))∧73=73∧Int.toNat (ah .sub .i64 (↑n) 1)=Int.toNat (ah .sub .i64 (↑n) 1)∧dN kP kP∧dN g_ g_∧True)∧(decide (ah .sub .i64 (↑(List.length (az u0 (aa cs (0+Int.toNat (ah .sub .i64 (↑n) 1)*1)))):Int) (1:Int)≥0)=false→(decide ((↑(Int.toNat (ah .sub .i64 (↑n) 1)):Int)>0)=true→QA (cU us ts h (aa cs (0+Int.toNat (ah .sub .i64 (↑n) 1)*1))) zz (Int.toNat (ah .sub .i64 (↑n) 1)) cs∧cN∧ak (aD 0 ([(0,0),(1,1),(2,2),(3,3),(4,4),(5,5),(7,7),(8,8),(9,9),(10,10)]++(20+j,62) :: dj j)) n7 n7∧cN∧ak (aD 0 ([(0,0),(1,1),(2,2),(3,3),(4,4),(5,5),(7,7),(8,8),(9,9),(10,10)]++(20+j,62) :: dj j)) fQ fQ∧39=39∧ts=ts∧30=30∧h=h∧39=39∧cU us ts h (aa cs (0+Int.toNat (ah .sub .i64 (↑n) 1)*1))=cU us ts h (aa cs (0+Int.toNat (ah .sub .i64 (↑n) 1)*1))∧39=39∧u0=u0∧30=30∧cs=cs∧39=39∧zz=zz∧129=129∧Fn.func 63=Fn.func 63∧73=73∧Int.toNat (ah .sub .i64 (↑n) 1)=Int.toNat (ah .sub .i64 (↑n) 1)∧dN kP kP∧True)∧(decide ((↑(Int.toNat (ah .sub .i64 (↑n) 1)):Int)>0)=false→(Array.size (cU us ts h (aa cs (0+Int.toNat (ah .sub .i64 (↑n) 1)*1)))=448∧True)∧(Array.size (cU us ts h (aa cs (0+Int.toNat (ah .sub .i64 (↑n) 1)*1)))=448∧Array.size (cU us ts h (aa cs (0+Int.toNat (ah .sub .i64 (↑n) 1)*1)))=Array.size zz∧True)∧(Array.size (cU us ts h (aa cs (0+Int.toNat (ah .sub .i64 (↑n) 1)*1)))=448∧True)∧o=cU us ts h (aa cs (0+Int.toNat (ah .sub .i64 (↑n) 1)*1))∧e=0∧True))))
theorem aaj:∀ j,j<33→∀ (ts:Array Value) (h:Int) (u0:Array Value) (r:Nat) (ks:Array Value) (us:Array Value) (zz:Array Value) (n:Nat) (cs:Array Value) (o:Array Value) (e:Int) (QA:Array Value→Array Value→Nat→Array Value→Prop) (QB:Int→Array Value→Array Value→Nat→Array Value→Prop),(stepT wo.go (run wo 1000) 0 (vD j ts h u0 us zz n cs) (vE j ts h u0 us zz n cs)).vc (bM 0 [] (fu o e) aT) (Cy j ts h u0 r ks QA QB)=LO j ts h u0 r ks us zz n cs o e QA QB
 | 0,_ | 1,_ | 2,_ | 3,_ | 4,_ | 5,_ | 6,_ | 7,_ | 8,_ | 9,_ | 10,_ | 11,_ | 12,_ | 13,_ | 14,_ | 15,_ | 16,_ | 17,_ | 18,_ | 19,_ | 20,_ | 21,_ | 22,_ | 23,_ | 24,_ | 25,_ | 26,_ | 27,_ | 28,_ | 29,_ | 30,_ | 31,_ | 32,_=>fun ts h u0 r ks us zz n cs o e QA QB=>by kernel_rfl
 | n+33,h=>by omega
def LP (j:Nat) (ts:Array Value) (h:Int) (u0:Array Value) (r:Nat) (ks:Array Value) (i:Int) (us:Array Value) (zz:Array Value) (n:Nat) (cs:Array Value) (o:Array Value) (e:Int) (QA:Array Value→Array Value→Nat→Array Value→Prop) (QB:Int→Array Value→Array Value→Nat→Array Value→Prop):Prop :=
 (((0≤i∧i<(↑r:Int))∧True)∧(aA .u32 ks (0+Int.toNat i*1)∧True)∧(((n+1)*4≤140737488355328∧n+1≤140737488355328)∧n*1≤Array.size cs∧True)∧(decide (ah .sub .i64 i 1≥0)=true→QB (ah .sub .i64 i 1) us zz (n+1) (Array.extract cs 0 (n*1)++#[Value.int .u32 (aa ks (0+Int.toNat i*1))])∧cN∧ak (aD 0 ([(0,0),(1,1),(2,2),(3,3),(4,4),(5,5),(7,7),(8,8),(9,65),(10,10),(60,60),(61,61),(63,63)]++dj (j+1))) n8 n8∧ah .sub .i64 i 1=ah .sub .i64 i 1∧cN∧ak (aD 0 ([(0,0),(1,1),(2,2),(3,3),(4,4),(5,5),(7,7),(8,8),(9,65),(10,10),(60,60),(61,61),(63,63)]++dj (j+1))) k_ k_∧cN∧ak (aD 0 ([(0,0),(1,1),(2,2),(3,3),(4,4),(5,5),(7,7),(8,8),(9,65),(10,10),(60,60),(61,61),(63,63)]++dj (j+1))) fQ fQ∧39=39∧ts=ts∧30=30∧h=h∧39=39∧us=us∧39=39∧u0=u0∧30=30∧Array.extract cs 0 (n*1)++#[Value.int .u32 (aa ks (0+Int.toNat i*1))]=Array.extract cs 0 (n*1)++#[Value.int .u32 (aa ks (0+Int.toNat i*1))]∧73=73∧r=r∧39=39∧zz=zz∧129=129∧Fn.func 63=Fn.func 63∧30=30∧ks=ks∧73=73∧n+1=n+1∧dN kP kP∧dN g_ g_∧True)∧(decide (ah .sub .i64 i 1≥0)=false→(decide ((↑(n+1):Int)>0)=true→QA us zz (n+1) (Array.extract cs 0 (n*1)++#[Value.int .u32 (aa ks (0+Int.toNat i*1))])∧cN∧ak (aD 0 ([(0,0),(1,1),(2,2),(3,3),(4,4),(5,5),(7,7),(8,8),(9,65),(10,10)]++dj (j+1))) n7 n7∧cN∧ak (aD 0 ([(0,0),(1,1),(2,2),(3,3),(4,4),(5,5),(7,7),(8,8),(9,65),(10,10)]++dj (j+1))) fQ fQ∧39=39∧ts=ts∧30=30∧h=h∧39=39∧us=us∧39=39∧u0=u0∧30=30∧Array.extract cs 0 (n*1)++#[Value.int .u32 (aa ks (0+Int.toNat i*1))]=Array.extract cs 0 (n*1)++#[Value.int .u32 (aa ks (0+Int.toNat i*1))]∧39=39∧zz=zz∧129=129∧Fn.func 63=Fn.func 63∧73=73∧n+1=n+1∧dN kP kP∧True)∧(decide ((↑(n+1):Int)>0)=false→(Array.size us=448∧True)∧(Array.size us=448∧Array.size us=Array.size zz∧True)∧(Array.size us=448∧True)∧o=us∧e=0∧True)))
theorem RH:∀ j,j<33→∀ (ts:Array Value) (h:Int) (u0:Array Value) (r:Nat) (ks:Array Value) (i:Int) (us:Array Value) (zz:Array Value) (n:Nat) (cs:Array Value) (o:Array Value) (e:Int) (QA:Array Value→Array Value→Nat→Array Value→Prop) (QB:Int→Array Value→Array Value→Nat→Array Value→Prop),(stepT wo.go (run wo 1000) 0 (B2 j ts h u0 r ks i us zz n cs) (B3 j ts h u0 r ks i us zz n cs)).vc (bM 0 [] (fu o e) aT) (Cy j ts h u0 r ks QA QB)=LP j ts h u0 r ks i us zz n cs o e QA QB
 | 0,_ | 1,_ | 2,_ | 3,_ | 4,_ | 5,_ | 6,_ | 7,_ | 8,_ | 9,_ | 10,_ | 11,_ | 12,_ | 13,_ | 14,_ | 15,_ | 16,_ | 17,_ | 18,_ | 19,_ | 20,_ | 21,_ | 22,_ | 23,_ | 24,_ | 25,_ | 26,_ | 27,_ | 28,_ | 29,_ | 30,_ | 31,_ | 32,_=>fun ts h u0 r ks i us zz n cs o e QA QB=>by kernel_rfl
 | n+33,h=>by omega
set_option linter.unusedVariables false
theorem ab3:bf VM:=bf.with aU _ _ wB
theorem D5:bf wo:=bf.with aU _ _ wB
section
variable {ts u0:Array Value} {h:Int}
def dU (ts:Array Value) (h:Int) (u:Array Value) (o:List Int):Array Value:=o.foldl (fun us x=>cU us ts h x) u
theorem aak (u:Array Value) (o:List Int) (x:Int):dU ts h u (o++[x])=cU (dU ts h u o) ts h x:=by unfold dU;rw [List.foldl_append];rfl
theorem MT {u:Array Value} (hb:aM u) {x:Int} (hx:aB u x=true):aM (cU u ts h x)∧aF (cU u ts h x)=aF u∧∀ y,aB u y=true→cg (cU u ts h x) y=cg u y∧dc (cU u ts h x) y=dc u y∧∀ k,k<8→bL (cU u ts h x) y k=if y=x then gu ts h (bL u y k) else bL u y k:=by
 obtain ⟨i1,i2,i3⟩:=sk hb hx
 obtain ⟨r1,r2,r3,r4⟩:=Li (u:=cg u x) (q:=dc u x) (c:=fun k=>gu ts h (bL u x k)) hb hx i1 i2 (fun k hk=>LK (i3 k hk))
 refine ⟨r1,r2,fun y hy=>?_⟩
 by_cases e:y=x
 ·rw [e]
  exact ⟨r3.1,r3.2.1,fun k hk=>by rw [if_pos rfl];exact r3.2.2 k hk⟩
 ·obtain ⟨a,b,c⟩:=r4 y hy e
  exact ⟨a,b,fun k hk=>by rw [if_neg e];exact c k hk⟩
theorem adH (c:Int):gu ts h (gu ts h c)=gu ts h c:=by
 by_cases k:c≠h∧fm ts c h=true
 ·have e:gu ts h c=0:=if_pos k
  rw [e]
  unfold gu
  split <;> rfl
 ·have e:gu ts h c=c:=if_neg k
  rw [e,e]
theorem FB:∀ (o:List Int) {u:Array Value},aM u→(∀ x∈o,aB u x=true)→aM (dU ts h u o)∧aF (dU ts h u o)=aF u∧∀ y,aB u y=true→cg (dU ts h u o) y=cg u y∧dc (dU ts h u o) y=dc u y∧∀ k,k<8→bL (dU ts h u o) y k=if y∈o then gu ts h (bL u y k) else bL u y k
 | [],u,hb,_=>⟨hb,rfl,fun y _=>⟨rfl,rfl,fun k _=>by simp [dU]⟩⟩
 | x :: o,u,hb,hg=>by
  obtain ⟨h1,h2,h3⟩:=MT (ts:=ts) (h:=h) hb (hg x (List.mem_cons_self ..))
  obtain ⟨k1,k2,k3⟩:=FB o h1 (fun y hy=>by rw [iJ h2];exact hg y (List.mem_cons_of_mem _ hy))
  refine ⟨k1,k2.trans h2,fun y hy=>?_⟩
  obtain ⟨a1,a2,a3⟩:=h3 y hy
  obtain ⟨b1,b2,b3⟩:=k3 y (by rw [iJ h2];exact hy)
  refine ⟨b1.trans a1,b2.trans a2,fun k hk=>?_⟩
  show bL (dU ts h (cU u ts h x) o) y k=_
  rw [b3 k hk,a3 k hk]
  by_cases e:y=x
  ·by_cases m:y∈o
   ·rw [if_pos m,if_pos e,adH,if_pos (List.mem_cons.2 (.inl e))]
   ·rw [if_neg m,if_pos e,if_pos (List.mem_cons.2 (.inl e))]
  ·by_cases m:y∈o
   ·rw [if_pos m,if_neg e,if_pos (List.mem_cons_of_mem _ m)]
   ·rw [if_neg m,if_neg e,if_neg (fun k=>(List.mem_cons.1 k).elim e m)]
theorem Dg {j r:Nat} {ks:Array Value} {A:SV→aj→Prop} {QA:Array Value→Array Value→Nat→Array Value→Prop} {QB:Int→Array Value→Array Value→Nat→Array Value→Prop} {fs:List av} {m:aj} (hA:∀ us zz n cs,QA us zz n cs→Good Tryz.prog A 0 (vD (j+1) ts h u0 us zz n cs) (vE (j+1) ts h u0 us zz n cs)) (hB:∀ i us zz n cs,QB i us zz n cs→Good Tryz.prog A 0 (B2 j ts h u0 r ks i us zz n cs) (B3 j ts h u0 r ks i us zz n cs)) (hb:Cy j ts h u0 r ks QA QB fs m):Good Tryz.prog A 0 fs m:=by
 unfold Cy at hb
 split at hb
 ·exact aag hA hb
 ·exact aah hB hb
theorem Um {j r:Nat} {ks:Array Value} {i:Int} {us zz:Array Value} {n:Nat} {cs o:Array Value} {e:Int} {QA:Array Value→Array Value→Nat→Array Value→Prop} {QB:Int→Array Value→Array Value→Nat→Array Value→Prop} (hr:r≤1000) (hn:n≤1000)
  (h1:0≤i∧i<(r:Int)) (h2:aA .u32 ks i.toNat) (h4:n≤cs.size) (hB:1≤i→QB (i - 1) us zz (n+1) (cs.extract 0 n++#[.int .u32 (aa ks i.toNat)])) (hA:¬ 1≤i→QA us zz (n+1) (cs.extract 0 n++#[.int .u32 (aa ks i.toNat)])):LP j ts h u0 r ks i us zz n cs o e QA QB:=by
 have e:=kW (i:=i) ⟨h1.1,by omega⟩
 have d2:decide (((n+1:Nat):Int)>0)=true:=decide_eq_true (by omega)
 have je:((n+1)*4≤140737488355328∧n+1≤140737488355328):=⟨by omega,by omega⟩
 have t1:ak (aD 0 ([(0,0),(1,1),(2,2),(3,3),(4,4),(5,5),(7,7),(8,8),(9,65),(10,10),(60,60),(61,61),(63,63)]++dj (j+1))) k_ k_:=ak.rf rfl (by kernel_rfl)
 have t2:ak (aD 0 ([(0,0),(1,1),(2,2),(3,3),(4,4),(5,5),(7,7),(8,8),(9,65),(10,10),(60,60),(61,61),(63,63)]++dj (j+1))) fQ fQ:=ak.rf rfl (by kernel_rfl)
 have t3:ak (aD 0 ([(0,0),(1,1),(2,2),(3,3),(4,4),(5,5),(7,7),(8,8),(9,65),(10,10)]++dj (j+1))) fQ fQ:=ak.rf rfl (by kernel_rfl)
 unfold LP
 simp only [e,d2,je,h1,h2,h4,t1,t2,t3,jK,Nat.mul_one,Nat.zero_add,I3,Df,q6]
 refine ⟨fun k=>hB (by have:=of_decide_eq_true k;omega),fun k=>hA (by have:=of_decide_eq_false k;omega)⟩
section
variable {O:Array Value} {X:Int}
theorem TA {j:Nat} {us zz:Array Value} {bE K:List Int} (hj:j<32) (hK:K.length≤32) (hst:bE.length≤64)
  (hA:∀ cs,gX cs (bE++K.reverse)→Good Tryz.prog (bM 0 [] (fu O X) aT) 0 (vD (j+1) ts h u0 us zz (bE++K.reverse).length cs) (vE (j+1) ts h u0 us zz (bE++K.reverse).length cs)) :
  ∀ (i:Nat) (cs:Array Value),i<K.length→gX cs (bE++(K.drop (i+1)).reverse)→Good Tryz.prog (bM 0 [] (fu O X) aT) 0 (B2 j ts h u0 K.length (aL K) (i:Int) us zz (bE++(K.drop (i+1)).reverse).length cs) (B3 j ts h u0 K.length (aL K) (i:Int) us zz (bE++(K.drop (i+1)).reverse).length cs):=by
 intro i
 induction i with
 | zero =>
  intro cs hi hs
  have j7:=hs.push (x:=K.getD 0 0)
  have e0:(bE++(K.drop (0+1)).reverse)++[K.getD 0 0]=bE++K.reverse:=by
   rw [List.append_assoc]
   congr 1
   cases K with
   | nil=>exact absurd hi (by simp)
   | cons a l=>simp
  rw [e0] at j7
  have el:(bE++(K.drop (0+1)).reverse).length+1=(bE++K.reverse).length:=by
   have:=congrArg List.length e0
   simp only [List.length_append,List.length_cons,List.length_nil] at this ⊢
   omega
  have hk:=fN hi
  have hl:(bE++(K.drop (0+1)).reverse).length≤96:=by rw [List.length_append,List.length_reverse,List.length_drop];omega
  refine bD D5 1000 (RH j (by omega) ts h u0 _ _ _ _ _ _ _ O X (fun u z n c=>u=us∧z=zz∧n=(bE++K.reverse).length∧gX c (bE++K.reverse)) (fun _ _ _ _ _=>False)) ?_ (fun _ _ h=>h) (fun fs m hb=>Dg (fun u z n c ⟨e1,e2,e3,e4⟩=>by rw [e1,e2,e3];exact hA c e4) (fun _ _ _ _ _ h=>h.elim) hb)
  refine Um (by omega) (by omega) ⟨by omega,by omega⟩ (bw hk) hs.1 (fun k=>absurd k (by decide)) (fun _=>⟨rfl,rfl,el,?_⟩)
  rw [show (((0:Nat):Int)).toNat=0 from rfl,bI hk]
  exact j7
 | succ i ih =>
  intro cs hi hs
  have j7:=hs.push (x:=K.getD (i+1) 0)
  have e0:(bE++(K.drop (i+1+1)).reverse)++[K.getD (i+1) 0]=bE++(K.drop (i+1)).reverse:=by
   rw [List.append_assoc]
   congr 1
   rw [List.drop_eq_getElem_cons hi,List.reverse_cons,List.getD_eq_getElem?_getD,List.getElem?_eq_getElem hi]
   rfl
  rw [e0] at j7
  have el:(bE++(K.drop (i+1+1)).reverse).length+1=(bE++(K.drop (i+1)).reverse).length:=by
   have:=congrArg List.length e0
   simp only [List.length_append,List.length_cons,List.length_nil] at this ⊢
   omega
  have hk:=fN hi
  have hl:(bE++(K.drop (i+1+1)).reverse).length≤96:=by rw [List.length_append,List.length_reverse,List.length_drop];omega
  refine bD D5 1000 (RH j (by omega) ts h u0 _ _ _ _ _ _ _ O X (fun _ _ _ _=>False) (fun i' u z n c=>i'=(i:Int)∧u=us∧z=zz∧n=(bE++(K.drop (i+1)).reverse).length∧gX c (bE++(K.drop (i+1)).reverse))) ?_ (fun _ _ h=>h) (fun fs m hb=>Dg (fun _ _ _ _ h=>h.elim) (fun i' u z n c ⟨e0,e1,e2,e3,e4⟩=>by rw [e0,e1,e2,e3];exact ih c (by omega) e4) hb)
  refine Um (by omega) (by omega) ⟨by omega,by omega⟩ (by rw [Int.toNat_natCast];exact bw hk) hs.1 (fun _=>⟨by omega,rfl,rfl,el,?_⟩) (fun k=>absurd (show (1:Int)≤((i+1:Nat):Int) by omega) k)
  rw [Int.toNat_natCast,bI hk]
  exact j7
end
theorem aeO {j r:Nat} {ks us zz:Array Value} {n':Nat} {cs o:Array Value} {x e:Int} {QA:Array Value→Array Value→Nat→Array Value→Prop} {QB:Int→Array Value→Array Value→Nat→Array Value→Prop} (hb:aM u0) (hf:ay ts) (hh:aN h) (N2:aM us) (tA:aB us x=true) (hz:zz.size=448) (hx:cs[n']?=some (.int .u32 x)) (tw:aN x) (hn:n'≤1000)
  (h0:az u0 x=[]→(n'≠0→QA (cU us ts h x) zz n' cs)∧(n'=0→o=cU us ts h x∧e=0))
  (h1:az u0 x≠[]→QB (((az u0 x).length - 1:Nat):Int) (cU us ts h x) zz n' cs∧r=(az u0 x).length∧ks=aL (az u0 x)):LO j ts h u0 r ks us zz (n'+1) cs o e QA QB:=by
 have e:ah .sub .i64 (((n'+1:Nat):Int)) 1=(n':Int):=by rw [kW ⟨by omega,by omega⟩];omega
 have g1:aA .u32 cs n':=bw hx
 have g2:aa cs n'=x:=bI hx
 have yI:0≤x∧x<4294967296:=tw
 have bG:0≤h∧h<4294967296:=hh
 have hs:=hb.sz
 have vI:=N2.sz
 have Hq:=(MT (ts:=ts) (h:=h) N2 tA).1.sz
 have y0:0≤(n':Int):=by omega
 have y1:(n':Int)<((n'+1:Nat):Int):=by omega
 have y2:n'≤n'+1:=by omega
 have kq:=mB u0 x
 have t1:∀ k,ak (aD 0 ([(0,0),(1,1),(2,2),(3,3),(4,4),(5,5),(7,7),(8,8),(9,9),(10,10)]++(20+j,k) :: dj j)) fQ fQ:=fun k=>ak.rf rfl (by kernel_rfl)
 have t2:∀ k,ak (aD 0 ([(0,0),(1,1),(2,2),(3,3),(4,4),(5,5),(7,7),(8,8),(9,9),(10,10),(60,60),(61,61),(63,63)]++(20+j,k) :: dj j)) k_ k_:=fun k=>ak.rf rfl (by kernel_rfl)
 have t3:∀ k,ak (aD 0 ([(0,0),(1,1),(2,2),(3,3),(4,4),(5,5),(7,7),(8,8),(9,9),(10,10),(60,60),(61,61),(63,63)]++(20+j,k) :: dj j)) fQ fQ:=fun k=>ak.rf rfl (by kernel_rfl)
 unfold LO
 simp only [e,g1,g2,yI,bG,hs,vI,Hq,hz,hb,hf,N2,tA,y0,y1,y2,t1,t2,t3,jK,I3,Df,q7,q6]
 constructor
 ·intro k
  obtain ⟨a,b⟩:=h0 (List.eq_nil_of_length_eq_zero (of_decide_eq_true k))
  exact ⟨fun c=>a (by have:=of_decide_eq_true c;omega),fun c=>b (by have:=of_decide_eq_false c;omega)⟩
 ·intro k
  have hne:az u0 x≠[]:=fun e=>of_decide_eq_false k (by rw [e];rfl)
  have hp:=List.length_pos_iff.2 hne
  obtain ⟨a,b,c⟩:=h1 hne
  have e2:ah .sub .i64 ((az u0 x).length:Int) 1=(((az u0 x).length - 1:Nat):Int):=by rw [kW ⟨by omega,by omega⟩];omega
  have d:decide ((((az u0 x).length - 1:Nat):Int)≥0)=true:=decide_eq_true (by omega)
  simp only [e2,d,true_implies,Bool.true_eq_false,false_implies,and_true]
  exact ⟨a,b,c⟩
theorem adI (mo:ay u0) (hf:ay ts) (hhi:aN h) {c:Int} (hc:c∈af u0) {zz:Array Value} (hz:zz.size=448):∀ (rem:Nat) (o st:List Int) (cs:Array Value),(bn u0 c).length - o.length<rem→st≠[]→gX cs st→(∀ y∈st,y∈af u0)→(∀ y∈o,y∈af u0)→o++st.reverse.flatMap (bn u0)=bn u0 c→Good Tryz.prog (bM 0 [] (fu (dU ts h u0 (bn u0 c)) 0) aT) 0 (vD o.length ts h u0 (dU ts h u0 o) zz st.length cs) (vE o.length ts h u0 (dU ts h u0 o) zz st.length cs):=by
 have hU:(bn u0 c).length≤32:=mD mo hc
 have hb:=mo.ok
 intro rem
 induction rem with
 | zero=>intro o st cs hr;omega
 | succ rem ih =>
  intro o st cs hr hne hs hsub yJ hsum
  obtain ⟨bE,x,rfl⟩:=HH hne
  have hx:x∈af u0:=hsub x (by simp)
  obtain ⟨hs0,jo⟩:=hs.pop
  have ij:(o++[x])++((l8 (af u0) (aG u0) x).flatMap (bn u0)++bE.reverse.flatMap (bn u0))=bn u0 c:=by
   rw [← hsum,List.reverse_append,List.reverse_cons,List.reverse_nil,List.nil_append,List.cons_append,List.nil_append,List.flatMap_cons,iX mo hx]
   simp only [List.append_assoc,List.cons_append,List.nil_append]
  have ho:o.length<(bn u0 c).length:=by
   have:=congrArg List.length ij
   simp only [List.length_append,List.length_cons,List.length_nil] at this
   omega
  have VO:x∈bn u0 c:=by rw [← ij];simp
  have wh:(bE++[x]).length=bE.length+1:=by rw [List.length_append];rfl
  have B1:bE.length≤64:=by
   have h1:=Dc (f:=bn u0) (l:=bE.reverse) fun y hy=>by
    rw [iX mo (hsub y (List.mem_append_left _ (List.mem_reverse.1 hy)))]
    exact Nat.le_add_left 1 _
   rw [List.length_reverse] at h1
   have h2:=congrArg List.length ij
   simp only [List.length_append,List.length_cons,List.length_nil] at h2
   omega
  have kd:=nK mo hx
  have kq:=mB u0 x
  rw [wh]
  have eo:(o++[x]).length=o.length+1:=by rw [List.length_append];rfl
  have Uk:o.length<32:=by omega
  have lH:∀ y∈o,aB u0 y=true:=fun y hy=>(bU hb).1 (yJ y hy)
  have aeP:=(bU hb).1 hx
  obtain ⟨cu1,cu2,_⟩:=FB (ts:=ts) (h:=h) o hb lH
  have tA:aB (dU ts h u0 o) x=true:=by rw [iJ cu2];exact aeP
  have N3:=(aak (ts:=ts) (h:=h) u0 o x).symm
  have xW:∀ y∈o++[x],y∈af u0:=fun y hy=>(List.mem_append.1 hy).elim (yJ y) fun k=>by rw [List.mem_singleton.1 k];exact hx
  refine bD D5 1000 (aaj o.length (by omega) ts h u0 (az u0 x).length (aL (az u0 x)) _ _ _ _ (dU ts h u0 (bn u0 c)) 0
   (fun u z n c'=>(u=dU ts h u0 (o++[x])∧z=zz)∧n=bE.length∧c'=cs∧bE≠[]∧az u0 x=[])
   (fun i u z n c'=>i=(((az u0 x).length - 1:Nat):Int)∧(u=dU ts h u0 (o++[x])∧z=zz)∧n=bE.length∧c'=cs∧az u0 x≠[])) ?_ (fun _ _ h=>h)
   (fun fs m hg=>Dg (fun u z n c' ⟨⟨e1,e2⟩,e3,e4,e5,e6⟩=>?_) (fun i u z n c' ⟨e0,⟨e1,e2⟩,e3,e4,e5⟩=>?_) hg)
  ·refine aeO hb hf hhi cu1 tA hz jo (iA hb (.inr hx)) (by omega) (fun k=>⟨fun k2=>⟨⟨N3,rfl⟩,rfl,rfl,fun e=>k2 (by rw [e];rfl),k⟩,fun k2=>?_⟩) (fun k=>⟨⟨rfl,⟨N3,rfl⟩,rfl,rfl,k⟩,rfl,rfl⟩)
   have e0:bE=[]:=List.eq_nil_of_length_eq_zero k2
   rw [kd] at k
   rw [k,e0] at ij
   have e3:bn u0 c=o++[x]:=by
    rw [← ij]
    simp
   rw [e3]
   exact ⟨N3.symm,rfl⟩
  ·rw [e1,e2,e3,e4,← eo]
   rw [kd] at e6
   rw [e6] at ij
   refine ih (o++[x]) bE cs (by rw [eo];omega) e5 hs0 (fun y hy=>hsub y (List.mem_append_left _ hy)) xW ?_
   simpa using ij
  ·rw [e0,e1,e2,e3,e4]
   have hp:=List.length_pos_iff.2 e5
   have pF:(az u0 x).drop ((az u0 x).length - 1+1)=[]:=List.drop_eq_nil_of_le (by omega)
   have:=TA (ts:=ts) (h:=h) (u0:=u0) (O:=(dU ts h u0 (bn u0 c))) (X:=0) (j:=o.length) (us:=dU ts h u0 (o++[x])) (zz:=zz) (bE:=bE) (K:=az u0 x) (by omega) kq B1 (fun c' jg=>?_) ((az u0 x).length - 1) cs (by omega) (by rw [pF];simpa using hs0)
   ·rw [pF] at this
    simpa using this
   ·rw [← eo]
    have Bz:∀ y∈bE++(az u0 x).reverse,y∈af u0:=fun y hy=>by
     rcases List.mem_append.1 hy with k | k
     ·exact hsub y (List.mem_append_left _ k)
     ·rw [kd] at k
      exact (lO.1 (List.mem_reverse.1 k)).1
    refine ih (o++[x]) (bE++(az u0 x).reverse) c' (by rw [eo];omega) (fun e=>e5 (by simpa using (List.append_eq_nil_iff.1 e).2)) jg Bz xW ?_
    ·rw [List.reverse_append,List.reverse_reverse,List.flatMap_append,kd]
     exact ij
end
set_option linter.unusedVariables false
theorem ab4:bf VP:=bf.with aU _ _ wB
theorem D7:bf wq:=bf.with aU _ _ wB
section
variable {ts:Array Value} {h up:Int}
theorem tR (hf:ay ts) (x:Int):aY ts x≤13:=by
 unfold aY
 split
 ·rename_i k;exact (qk hf.fo ((bU hf.ok).2 k)).2
 ·exact Nat.zero_le _
theorem Di {j r:Nat} {ks:Array Value} {A:SV→aj→Prop} {QA:Array Value→Nat→Array Value→Prop} {QB:Int→Array Value→Nat→Array Value→Prop} {fs:List av} {m:aj} (hA:∀ zz n cs,QA zz n cs→Good Tryz.prog A 0 (vF (j+1) ts h up zz n cs) (vG (j+1) ts h up zz n cs)) (hB:∀ i zz n cs,QB i zz n cs→Good Tryz.prog A 0 (B4 j ts h up r ks i zz n cs) (B5 j ts h up r ks i zz n cs)) (hb:Cz j ts h up r ks QA QB fs m):Good Tryz.prog A 0 fs m:=by
 unfold Cz at hb
 split at hb
 ·exact aam hA hb
 ·exact aan hB hb
theorem Un {j r:Nat} {ks:Array Value} {i:Int} {zz:Array Value} {n:Nat} {cs o:Array Value} {e:Int} {QA:Array Value→Nat→Array Value→Prop} {QB:Int→Array Value→Nat→Array Value→Prop} (hr:r≤1000) (hn:n≤1000)
  (h1:0≤i∧i<(r:Int)) (h2:aA .u32 ks i.toNat) (h4:n≤cs.size) (hB:1≤i→QB (i - 1) zz (n+1) (cs.extract 0 n++#[.int .u32 (aa ks i.toNat)])) (hA:¬ 1≤i→QA zz (n+1) (cs.extract 0 n++#[.int .u32 (aa ks i.toNat)])):LV j ts h up r ks i zz n cs o e QA QB:=by
 have e:=kW (i:=i) ⟨h1.1,by omega⟩
 have d2:decide (((n+1:Nat):Int)>0)=true:=decide_eq_true (by omega)
 have je:((n+1)*4≤140737488355328∧n+1≤140737488355328):=⟨by omega,by omega⟩
 have t1:ak (aD 0 ([(0,0),(1,1),(2,2),(3,3),(4,4),(6,6),(7,7),(8,65),(9,9),(60,60),(61,61),(63,63)]++dj (j+1))) ld ld:=ak.rf rfl (by kernel_rfl)
 have t2:ak (aD 0 ([(0,0),(1,1),(2,2),(3,3),(4,4),(6,6),(7,7),(8,65),(9,9),(60,60),(61,61),(63,63)]++dj (j+1))) fR fR:=ak.rf rfl (by kernel_rfl)
 have t3:ak (aD 0 ([(0,0),(1,1),(2,2),(3,3),(4,4),(6,6),(7,7),(8,65),(9,9)]++dj (j+1))) fR fR:=ak.rf rfl (by kernel_rfl)
 unfold LV
 simp only [e,d2,je,h1,h2,h4,t1,t2,t3,jK,Nat.mul_one,Nat.zero_add,I4,Dh,q6]
 refine ⟨fun k=>hB (by have:=of_decide_eq_true k;omega),fun k=>hA (by have:=of_decide_eq_false k;omega)⟩
section
variable {O:Array Value} {X:Int}
theorem TB {j:Nat} {zz:Array Value} {bE K:List Int} (hj:j<32) (hK:K.length≤32) (hst:bE.length≤64)
  (hA:∀ cs,gX cs (bE++K.reverse)→Good Tryz.prog (bM 0 [] (fu O X) aT) 0 (vF (j+1) ts h up zz (bE++K.reverse).length cs) (vG (j+1) ts h up zz (bE++K.reverse).length cs)) :
  ∀ (i:Nat) (cs:Array Value),i<K.length→gX cs (bE++(K.drop (i+1)).reverse)→Good Tryz.prog (bM 0 [] (fu O X) aT) 0 (B4 j ts h up K.length (aL K) (i:Int) zz (bE++(K.drop (i+1)).reverse).length cs) (B5 j ts h up K.length (aL K) (i:Int) zz (bE++(K.drop (i+1)).reverse).length cs):=by
 intro i
 induction i with
 | zero =>
  intro cs hi hs
  have j7:=hs.push (x:=K.getD 0 0)
  have e0:(bE++(K.drop (0+1)).reverse)++[K.getD 0 0]=bE++K.reverse:=by
   rw [List.append_assoc]
   congr 1
   cases K with
   | nil=>exact absurd hi (by simp)
   | cons a l=>simp
  rw [e0] at j7
  have el:(bE++(K.drop (0+1)).reverse).length+1=(bE++K.reverse).length:=by
   have:=congrArg List.length e0
   simp only [List.length_append,List.length_cons,List.length_nil] at this ⊢
   omega
  have hk:=fN hi
  have hl:(bE++(K.drop (0+1)).reverse).length≤96:=by rw [List.length_append,List.length_reverse,List.length_drop];omega
  refine bD D7 1000 (RJ j (by omega) ts h up _ _ _ _ _ _ O X (fun z n c=>z=zz∧n=(bE++K.reverse).length∧gX c (bE++K.reverse)) (fun _ _ _ _=>False)) ?_ (fun _ _ h=>h) (fun fs m hb=>Di (fun z n c ⟨e2,e3,e4⟩=>by rw [e2,e3];exact hA c e4) (fun _ _ _ _ h=>h.elim) hb)
  refine Un (by omega) (by omega) ⟨by omega,by omega⟩ (bw hk) hs.1 (fun k=>absurd k (by decide)) (fun _=>⟨rfl,el,?_⟩)
  rw [show (((0:Nat):Int)).toNat=0 from rfl,bI hk]
  exact j7
 | succ i ih =>
  intro cs hi hs
  have j7:=hs.push (x:=K.getD (i+1) 0)
  have e0:(bE++(K.drop (i+1+1)).reverse)++[K.getD (i+1) 0]=bE++(K.drop (i+1)).reverse:=by
   rw [List.append_assoc]
   congr 1
   rw [List.drop_eq_getElem_cons hi,List.reverse_cons,List.getD_eq_getElem?_getD,List.getElem?_eq_getElem hi]
   rfl
  rw [e0] at j7
  have el:(bE++(K.drop (i+1+1)).reverse).length+1=(bE++(K.drop (i+1)).reverse).length:=by
   have:=congrArg List.length e0
   simp only [List.length_append,List.length_cons,List.length_nil] at this ⊢
   omega
  have hk:=fN hi
  have hl:(bE++(K.drop (i+1+1)).reverse).length≤96:=by rw [List.length_append,List.length_reverse,List.length_drop];omega
  refine bD D7 1000 (RJ j (by omega) ts h up _ _ _ _ _ _ O X (fun _ _ _=>False) (fun i' z n c=>i'=(i:Int)∧z=zz∧n=(bE++(K.drop (i+1)).reverse).length∧gX c (bE++(K.drop (i+1)).reverse))) ?_ (fun _ _ h=>h) (fun fs m hb=>Di (fun _ _ _ h=>h.elim) (fun i' z n c ⟨e0,e2,e3,e4⟩=>by rw [e0,e2,e3];exact ih c (by omega) e4) hb)
  refine Un (by omega) (by omega) ⟨by omega,by omega⟩ (by rw [Int.toNat_natCast];exact bw hk) hs.1 (fun _=>⟨by omega,rfl,el,?_⟩) (fun k=>absurd (show (1:Int)≤((i+1:Nat):Int) by omega) k)
  rw [Int.toNat_natCast,bI hk]
  exact j7
end
theorem aeQ {j r:Nat} {ks zz:Array Value} {n':Nat} {cs o:Array Value} {x e:Int} {QA:Array Value→Nat→Array Value→Prop} {QB:Int→Array Value→Nat→Array Value→Prop} (hf:ay ts) (hh:aN h) (hu:aN up) (hz:zz.size=448) (zg:(bO ts h up).size=448) (hx:cs[n']?=some (.int .u32 x)) (tw:aN x) (hn:n'≤1000) (MZ:aY ts x≤13∧aY ts up≤13) (B6:¬ aY ts x+aY ts up≤6→o=ts∧e=8)
  (h0:aY ts x+aY ts up≤6→az ts x=[]→(n'≠0→QA zz n' cs)∧(n'=0→o=bO ts h up∧e=dz ts h up))
  (h1:aY ts x+aY ts up≤6→az ts x≠[]→QB (((az ts x).length - 1:Nat):Int) zz n' cs∧r=(az ts x).length∧ks=aL (az ts x)):LU j ts h up r ks zz (n'+1) cs o e QA QB:=by
 have hb:=hf.ok
 have e:ah .sub .i64 (((n'+1:Nat):Int)) 1=(n':Int):=by rw [kW ⟨by omega,by omega⟩];omega
 have g1:aA .u32 cs n':=bw hx
 have g2:aa cs n'=x:=bI hx
 have yI:0≤x∧x<4294967296:=tw
 have bG:0≤h∧h<4294967296:=hh
 have iO:0≤up∧up<4294967296:=hu
 have hs:=hb.sz
 have ed:ah .add .i64 ((aY ts x:Nat):Int) ((aY ts up:Nat):Int)=((aY ts x+aY ts up:Nat):Int):=by rw [dn,cC (by omega) (by omega)];omega
 have y0:0≤(n':Int):=by omega
 have y1:(n':Int)<((n'+1:Nat):Int):=by omega
 have y2:n'≤n'+1:=by omega
 have kq:=mB ts x
 have t1:∀ k,ak (aD 0 ([(0,0),(1,1),(2,2),(3,3),(4,4),(6,6),(7,7),(8,8),(9,9)]++(20+j,k) :: dj j)) fR fR:=fun k=>ak.rf rfl (by kernel_rfl)
 have t2:∀ k,ak (aD 0 ([(0,0),(1,1),(2,2),(3,3),(4,4),(6,6),(7,7),(8,8),(9,9),(60,60),(61,61),(63,63)]++(20+j,k) :: dj j)) ld ld:=fun k=>ak.rf rfl (by kernel_rfl)
 have t3:∀ k,ak (aD 0 ([(0,0),(1,1),(2,2),(3,3),(4,4),(6,6),(7,7),(8,8),(9,9),(60,60),(61,61),(63,63)]++(20+j,k) :: dj j)) fR fR:=fun k=>ak.rf rfl (by kernel_rfl)
 unfold LU
 by_cases hle:aY ts x+aY ts up≤6
 rotate_left
 ·obtain ⟨b1,b2⟩:=B6 hle
  have dd:decide (((aY ts x+aY ts up:Nat):Int)>6)=true:=decide_eq_true (by omega)
  simp only [e,dd,b1,b2,g1,g2,yI,bG,iO,hs,hz,zg,hb,hf,ed,y0,y1,y2,q7,q6]
 have dd:decide (((aY ts x+aY ts up:Nat):Int)>6)=false:=decide_eq_false (by omega)
 have h0:=h0 hle
 have h1:=h1 hle
 simp only [e,dd,g1,g2,yI,bG,iO,hs,hz,zg,hb,hf,ed,y0,y1,y2,t1,t2,t3,jK,I4,Dh,q7,q6]
 constructor
 ·intro k
  obtain ⟨a,b⟩:=h0 (List.eq_nil_of_length_eq_zero (of_decide_eq_true k))
  exact ⟨fun c=>a (by have:=of_decide_eq_true c;omega),fun c=>b (by have:=of_decide_eq_false c;omega)⟩
 ·intro k
  have hne:az ts x≠[]:=fun e=>of_decide_eq_false k (by rw [e];rfl)
  have hp:=List.length_pos_iff.2 hne
  obtain ⟨a,b,c⟩:=h1 hne
  have e2:ah .sub .i64 ((az ts x).length:Int) 1=(((az ts x).length - 1:Nat):Int):=by rw [kW ⟨by omega,by omega⟩];omega
  have d:decide ((((az ts x).length - 1:Nat):Int)≥0)=true:=decide_eq_true (by omega)
  simp only [e2,d,true_implies,Bool.true_eq_false,false_implies,and_true]
  exact ⟨a,b,c⟩
theorem adL (hf:ay ts) (hhi:aN h) (hu:aN up) (zg:(bO ts h up).size=448) {c:Int} (hc:c∈af ts) {zz:Array Value} (hz:zz.size=448) {O:Array Value} {X:Int} (LW:(∀ y∈bn ts c,aY ts y+aY ts up≤6)→O=bO ts h up∧X=dz ts h up) (B6:∀ y∈bn ts c,¬ aY ts y+aY ts up≤6→O=ts∧X=8):∀ (rem:Nat) (o st:List Int) (cs:Array Value),(bn ts c).length - o.length<rem→st≠[]→gX cs st→(∀ y∈st,y∈af ts)→(∀ y∈o,aY ts y+aY ts up≤6)→o++st.reverse.flatMap (bn ts)=bn ts c→Good Tryz.prog (bM 0 [] (fu O X) aT) 0 (vF o.length ts h up zz st.length cs) (vG o.length ts h up zz st.length cs):=by
 have hU:(bn ts c).length≤32:=mD hf hc
 have hb:=hf.ok
 intro rem
 induction rem with
 | zero=>intro o st cs hr;omega
 | succ rem ih =>
  intro o st cs hr hne hs hsub yJ hsum
  obtain ⟨bE,x,rfl⟩:=HH hne
  have hx:x∈af ts:=hsub x (by simp)
  obtain ⟨hs0,jo⟩:=hs.pop
  have ij:(o++[x])++((l8 (af ts) (aG ts) x).flatMap (bn ts)++bE.reverse.flatMap (bn ts))=bn ts c:=by
   rw [← hsum,List.reverse_append,List.reverse_cons,List.reverse_nil,List.nil_append,List.cons_append,List.nil_append,List.flatMap_cons,iX hf hx]
   simp only [List.append_assoc,List.cons_append,List.nil_append]
  have ho:o.length<(bn ts c).length:=by
   have:=congrArg List.length ij
   simp only [List.length_append,List.length_cons,List.length_nil] at this
   omega
  have VO:x∈bn ts c:=by rw [← ij];simp
  have wh:(bE++[x]).length=bE.length+1:=by rw [List.length_append];rfl
  have B1:bE.length≤64:=by
   have h1:=Dc (f:=bn ts) (l:=bE.reverse) fun y hy=>by
    rw [iX hf (hsub y (List.mem_append_left _ (List.mem_reverse.1 hy)))]
    exact Nat.le_add_left 1 _
   rw [List.length_reverse] at h1
   have h2:=congrArg List.length ij
   simp only [List.length_append,List.length_cons,List.length_nil] at h2
   omega
  have kd:=nK hf hx
  have kq:=mB ts x
  rw [wh]
  have eo:(o++[x]).length=o.length+1:=by rw [List.length_append];rfl
  have Uk:o.length<32:=by omega
  have aeR:aY ts x≤13∧aY ts up≤13:=⟨tR hf x,tR hf up⟩
  refine bD D7 1000 (aap o.length (by omega) ts h up (az ts x).length (aL (az ts x)) _ _ _ O X
   (fun z n c'=>(z=zz)∧n=bE.length∧c'=cs∧bE≠[]∧az ts x=[]∧aY ts x+aY ts up≤6)
   (fun i z n c'=>i=(((az ts x).length - 1:Nat):Int)∧(z=zz)∧n=bE.length∧c'=cs∧az ts x≠[]∧aY ts x+aY ts up≤6)) ?_ (fun _ _ h=>h)
   (fun fs m hg=>Di (fun z n c' ⟨e2,e3,e4,e5,e6,e7⟩=>?_) (fun i z n c' ⟨e0,e2,e3,e4,e5,e7⟩=>?_) hg)
  ·refine aeQ hf hhi hu hz zg jo (iA hb (.inr hx)) (by omega) aeR (fun k=>B6 x VO k) (fun k6 k=>⟨fun k2=>⟨rfl,rfl,rfl,fun e=>k2 (by rw [e];rfl),k,k6⟩,fun k2=>?_⟩) (fun k6 k=>⟨⟨rfl,rfl,rfl,rfl,k,k6⟩,rfl,rfl⟩)
   have e0:bE=[]:=List.eq_nil_of_length_eq_zero k2
   rw [kd] at k
   rw [k,e0] at ij
   have e3:bn ts c=o++[x]:=by
    rw [← ij]
    simp
   refine LW fun y hy=>?_
   rw [e3] at hy
   exact (List.mem_append.1 hy).elim (yJ y) fun k=>by rw [List.mem_singleton.1 k];exact k6
  ·rw [e2,e3,e4,← eo]
   have xW:∀ y∈o++[x],aY ts y+aY ts up≤6:=fun y hy=>(List.mem_append.1 hy).elim (yJ y) fun k=>by rw [List.mem_singleton.1 k];exact e7
   rw [kd] at e6
   rw [e6] at ij
   refine ih (o++[x]) bE cs (by rw [eo];omega) e5 hs0 (fun y hy=>hsub y (List.mem_append_left _ hy)) xW ?_
   simpa using ij
  ·rw [e0,e2,e3,e4]
   have xW:∀ y∈o++[x],aY ts y+aY ts up≤6:=fun y hy=>(List.mem_append.1 hy).elim (yJ y) fun k=>by rw [List.mem_singleton.1 k];exact e7
   have hp:=List.length_pos_iff.2 e5
   have pF:(az ts x).drop ((az ts x).length - 1+1)=[]:=List.drop_eq_nil_of_le (by omega)
   have:=TB (ts:=ts) (h:=h) (up:=up) (O:=O) (X:=X) (j:=o.length) (zz:=zz) (bE:=bE) (K:=az ts x) (by omega) kq B1 (fun c' jg=>?_) ((az ts x).length - 1) cs (by omega) (by rw [pF];simpa using hs0)
   ·rw [pF] at this
    simpa using this
   ·rw [← eo]
    have Bz:∀ y∈bE++(az ts x).reverse,y∈af ts:=fun y hy=>by
     rcases List.mem_append.1 hy with k | k
     ·exact hsub y (List.mem_append_left _ k)
     ·rw [kd] at k
      exact (lO.1 (List.mem_reverse.1 k)).1
    refine ih (o++[x]) (bE++(az ts x).reverse) c' (by rw [eo];omega) (fun e=>e5 (by simpa using (List.append_eq_nil_iff.1 e).2)) jg Bz xW ?_
    ·rw [List.reverse_append,List.reverse_reverse,List.flatMap_append,kd]
     exact ij
end
section
variable {ts u0 : Array Value} {h : Int}
theorem adJ (mo : ay u0) (hf : ay ts) (hh : h ∈ af u0) (hne : az u0 h ≠ []) : Good Tryz.prog (bM 0 [] (fu (dU ts h u0 (bn u0 h)) 0) aT) 0 (Gx ts h u0 (az u0 h).length (aL (az u0 h)) (((az u0 h).length - 1 : Nat) : Int) (dU ts h u0 [h]) zT) (Gy ts h u0 (az u0 h).length (aL (az u0 h)) (((az u0 h).length - 1 : Nat) : Int) (dU ts h u0 [h]) zT) := by
  have hp := List.length_pos_iff.2 hne
  have kq := mB u0 h
  have kd := nK mo hh
  have hsum : [h] ++ (([] : List Int) ++ (az u0 h).reverse).reverse.flatMap (bn u0) = bn u0 h := by
    rw [List.nil_append, List.reverse_reverse, kd, iX mo hh]
    rfl
  have hA : ∀ cs, gX cs (([] : List Int) ++ (az u0 h).reverse) → Good Tryz.prog (bM 0 [] (fu (dU ts h u0 (bn u0 h)) 0) aT) 0 (vD (0 + 1) ts h u0 (dU ts h u0 [h]) zT (([] : List Int) ++ (az u0 h).reverse).length cs) (vE (0 + 1) ts h u0 (dU ts h u0 [h]) zT (([] : List Int) ++ (az u0 h).reverse).length cs) := fun cs hc =>
    adI mo hf (iA mo.ok (.inr hh)) hh uk _ [h] _ cs (Nat.lt_succ_self _) (fun e => hne (by simpa using e)) hc (fun y hy => by
      rw [List.nil_append] at hy
      have hy := List.mem_reverse.1 hy
      rw [kd] at hy
      exact (lO.1 hy).1) (fun y hy => by rw [List.mem_singleton.1 hy]; exact hh) hsum
  have hi : (az u0 h).length - 1 < (az u0 h).length := by omega
  have hk := fN hi
  have sY : gX #[Value.int .u32 ((az u0 h).getD ((az u0 h).length - 1) 0)] [(az u0 h).getD ((az u0 h).length - 1) 0] := ⟨Nat.le_refl _, fun i hi => by
    obtain rfl : i = 0 := by simpa using hi
    rfl⟩
  have mN : (az u0 h).drop ((az u0 h).length - 1) = [(az u0 h).getD ((az u0 h).length - 1) 0] := by
    rw [List.drop_eq_getElem_cons hi, List.drop_eq_nil_of_le (by omega), List.getD_eq_getElem?_getD, List.getElem?_eq_getElem hi]
    rfl
  refine bD D5 1000 (cVI ts h u0 _ _ _ (dU ts h u0 [h]) zT (dU ts h u0 (bn u0 h)) 0
    (fun u z n c => (u = dU ts h u0 [h] ∧ z = zT) ∧ n = 1 ∧ (az u0 h).length = 1 ∧ c = #[Value.int .u32 ((az u0 h).getD ((az u0 h).length - 1) 0)])
    (fun i u z n c => i = (((az u0 h).length - 2 : Nat) : Int) ∧ (u = dU ts h u0 [h] ∧ z = zT) ∧ n = 1 ∧ 2 ≤ (az u0 h).length ∧ c = #[Value.int .u32 ((az u0 h).getD ((az u0 h).length - 1) 0)])) ?_ (fun _ _ h => h)
    (fun fs m hg => Dg (fun u z n c ⟨⟨e1, e2⟩, e3, e4, e5⟩ => ?_) (fun i u z n c ⟨e0, ⟨e1, e2⟩, e3, e4, e5⟩ => ?_) hg)
  · have e : ah .sub .i64 (((az u0 h).length - 1 : Nat) : Int) 1 = (((az u0 h).length - 1 : Nat) : Int) - 1 := kW ⟨by omega, by omega⟩
    have g1 : aA .u32 (aL (az u0 h)) ((az u0 h).length - 1) := bw hk
    have g2 : aa (aL (az u0 h)) ((az u0 h).length - 1) = (az u0 h).getD ((az u0 h).length - 1) 0 := bI hk
    have y0 : 0 ≤ (((az u0 h).length - 1 : Nat) : Int) := by omega
    have y1 : (((az u0 h).length - 1 : Nat) : Int) < ((az u0 h).length : Int) := by omega
    have t1 : ak (aD 0 [(0, 0), (1, 1), (2, 2), (3, 3), (4, 4), (5, 5), (7, 7), (8, 8), (9, 16), (10, 10), (60, 11), (61, 12), (63, 14), (20, 13)]) k_ qO := ak.NO rfl (by kernel_rfl)
    have t2 : ak (aD 0 [(0, 0), (1, 1), (2, 2), (3, 3), (4, 4), (5, 5), (7, 7), (8, 8), (9, 16), (10, 10), (60, 11), (61, 12), (63, 14), (20, 13)]) fQ fQ := ak.rf rfl (by kernel_rfl)
    have t3 : ak (aD 0 [(0, 0), (1, 1), (2, 2), (3, 3), (4, 4), (5, 5), (7, 7), (8, 8), (9, 16), (10, 10), (20, 13)]) fQ fQ := ak.rf rfl (by kernel_rfl)
    simp only [e, g1, g2, y0, y1, t1, t2, t3, jK, and_true, true_and, I3, Df, q7, lz]
    refine ⟨fun k => ?_, fun k => ?_⟩
    · have := of_decide_eq_true k
      exact ⟨by omega, by omega⟩
    · have := of_decide_eq_false k
      omega
  · rw [e1, e2, e3, e5]
    have hx : (az u0 h).reverse = [(az u0 h).getD ((az u0 h).length - 1) 0] := by
      have := mN
      rw [e4] at this ⊢
      have hd : (az u0 h).drop (1 - 1) = az u0 h := rfl
      rw [hd] at this
      rw [this]
      rfl
    have := hA _ (by rw [List.nil_append, hx]; exact sY)
    rw [List.nil_append, hx] at this
    exact this
  · rw [e0, e1, e2, e3, e5]
    have hd : (az u0 h).length - 2 + 1 = (az u0 h).length - 1 := by omega
    have := TA (ts := ts) (h := h) (u0 := u0) (O := (dU ts h u0 (bn u0 h))) (X := 0) (j := 0) (us := dU ts h u0 [h]) (zz := zT) (bE := []) (K := az u0 h) (by omega) kq (Nat.zero_le _) hA ((az u0 h).length - 2) #[Value.int .u32 ((az u0 h).getD ((az u0 h).length - 1) 0)] (by omega) (by rw [hd, mN]; exact sY)
    rw [hd, mN] at this
    exact this
theorem Y4 (ts : Array Value) : aB ts 0 = false := rfl
theorem DE (hf : ay ts) (hg : aB ts h = true) : ay (bz ts h 0) ∧ aF (bz ts h 0) = aF ts ∧ (∀ x ∈ af ts, dx (aG (bz ts h 0)) x ≤ dx (aG ts) x) ∧ (∀ x, x = 0 ∨ x ∈ af ts → (h ∈ cm (aG (bz ts h 0)) x ↔ h ∈ cm (aG ts) x)) ∧ (∀ x, x = 0 ∨ x ∈ af ts → h ∈ cm (aG ts) x → gE (aG (bz ts h 0)) x = h) := by
  have hb := hf.ok
  obtain ⟨r1, r2, r3, r4, r5⟩ := r8 (u := 0) hb hg ⟨by decide, by decide⟩
  have hl := (bU hb).2 hg
  have h0 : aG (bz ts h 0) h = 0 := by
    unfold aG
    rw [r3, Y4]
    simp
  have hu : ∀ x ∈ af ts, x ≠ h → aG (bz ts h 0) x = aG ts x := fun x hx hne => r9 r2 (r4 x ((bU hb).1 hx) hne)
  obtain ⟨c1, c2, c3, c4⟩ := abT hf.fo hl h0 hu
  exact ⟨⟨r1, by rw [qn r2]; exact c1⟩, r2, c2, c3, c4⟩
def gA (ts : Array Value) (h : Int) : Array Value := if aB ts h = true then dU ts h (bz ts h 0) (bn (bz ts h 0) h) else ts
def kG (ts : Array Value) (h : Int) : Int := if aB ts h = true then 0 else 4
theorem adK : E0.fn 27 = some Tryz.f27 := by kernel_rfl
theorem aal : Tryz.f27.body = some (Tryz.f27.body.getD .skip) := by kernel_rfl
theorem Y7 (h : Int) (m : aj) : aq E0 27 [bB ts, u32 h] m (bu [ay ts, aN h] (.ret (fu (gA ts h) (kG ts h)) m)) := by
  refine aq.pure aU adK aal (by kernel_rfl) (by kernel_rfl) fun hq => ?_
  have hf : ay ts := hq _ (by simp)
  have hb := hf.ok
  have hh : aN h := hq _ (by simp)
  have bG : 0 ≤ h ∧ h < 4294967296 := hh
  have hs := hb.sz
  have n00 : ¬ ((0 : Int) ≠ 0 ∧ aB ts 0 = false) := fun k => k.1 rfl
  have y4 : (0 : Int) < 4294967296 := by decide
  have y5 : (0 : Int) ≤ 0 := by decide
  refine (Good.ret [] (bA ab3 1000 (cV0 ts h (bz ts h 0) (az (bz ts h 0) h).length (aL (az (bz ts h 0) h)) (gA ts h) (kG ts h) (fun i u z => i = (((az (bz ts h 0) h).length - 1 : Nat) : Int) ∧ u = dU ts h (bz ts h 0) [h] ∧ z = zT ∧ az (bz ts h 0) h ≠ [] ∧ aB ts h = true)) ?_ (fun s m h => h) fun fs m hm => aai (fun i u z ⟨e, e1, e2, e3, hg⟩ => by
    rw [e, e1, e2]
    obtain ⟨k1, k2, _⟩ := DE hf hg
    have hl : h ∈ af (bz ts h 0) := by rw [qn k2]; exact (bU hb).2 hg
    have eT : gA ts h = dU ts h (bz ts h 0) (bn (bz ts h 0) h) := if_pos hg
    have eE : kG ts h = 0 := if_pos hg
    rw [eT, eE]
    exact adJ k1 hf hl e3) hm)).mono fun _ _ h => h.1
  cases hg : aB ts h with
  | false =>
    have e1 : dz ts h 0 = 4 := by unfold dz; rw [if_pos (.inl hg)]
    have e2 : bO ts h 0 = ts := by unfold bO; rw [if_neg (by rw [e1]; decide)]
    have e3 : gA ts h = ts := by unfold gA; rw [hg]; rfl
    have e4 : kG ts h = 4 := by unfold kG; rw [hg]; rfl
    have d : ((4 : Int) != 0) = true := rfl
    simp only [e1, e2, e3, e4, d, hs, hf, bG, y4, y5, q6]
  | true =>
    have e1 : dz ts h 0 = 0 := by
      unfold dz
      rw [if_neg (fun k => k.elim (fun k => by rw [hg] at k; cases k) (fun k => n00 k)), fZ, if_neg (by simp)]
    have e2 : bO ts h 0 = bz ts h 0 := by unfold bO; rw [if_pos e1]
    have eT : gA ts h = dU ts h (bz ts h 0) (bn (bz ts h 0) h) := if_pos hg
    have eE : kG ts h = 0 := if_pos hg
    have d : ((0 : Int) != 0) = false := rfl
    obtain ⟨k1, k2, _⟩ := DE hf hg
    have cA : aB (bz ts h 0) h = true := by rw [iJ k2]; exact hg
    have pK : bF (aF (bz ts h 0)) h = true := cA
    have hl : h ∈ af (bz ts h 0) := (bU k1.ok).2 cA
    have vI := k1.ok.sz
    have e_ := k1.ok
    have cQ : bP (aF (bz ts h 0)) := e_.bk
    have bK : (64 : Nat) ≤ 448 := by decide
    have Hq := (MT (ts := ts) (h := h) e_ cA).1.sz
    have eo : cU (bz ts h 0) ts h h = dU ts h (bz ts h 0) [h] := rfl
    have hs4 : (dU ts h (bz ts h 0) [h]).size = 448 := Hq
    have kq := mB (bz ts h 0) h
    have kd := nK k1 hl
    simp only [eg, e1, e2, eT, eE, eo, d, hg, cA, pK, hs, vI, Hq, hs4, e_, cQ, bK, hf, bG, y4, y5, jK, Bool.not_true, q6]
    constructor
    · intro k
      have ek := List.eq_nil_of_length_eq_zero (of_decide_eq_true k)
      rw [iX k1 hl, ← kd, ek]
      rfl
    · intro k
      have hne : az (bz ts h 0) h ≠ [] := fun e => of_decide_eq_false k (by rw [e]; rfl)
      have hp := List.length_pos_iff.2 hne
      have e5 : ah .sub .i64 ((az (bz ts h 0) h).length : Int) 1 = (((az (bz ts h 0) h).length - 1 : Nat) : Int) := by rw [kW ⟨by omega, by omega⟩]; omega
      have d5 : decide ((((az (bz ts h 0) h).length - 1 : Nat) : Int) ≥ 0) = true := decide_eq_true (by omega)
      simp only [e5, d5, XF, Df, XG, q6]
      first | exact hne | exact ⟨hne, ak.rf rfl (by kernel_rfl)⟩
end
end Go.Proofs.YtldoopjnjlpbpaaGreatDoor
/- Of forests: Graft: its contract. No condition. -/
namespace Go.Proofs.YtldoopjnjlpbpaaGreatDoor
set_option maxRecDepth 100000
set_option linter.unusedSimpArgs false
set_option linter.unusedVariables false
section
variable {ts : Array Value} {h up : Int}
theorem adM (hf : ay ts) (hh : h ∈ af ts) (hu : aN up) (zg : (bO ts h up).size = 448) (h6 : aY ts h + aY ts up ≤ 6) {O : Array Value} {X : Int} (LW : (∀ y ∈ bn ts h, aY ts y + aY ts up ≤ 6) → O = bO ts h up ∧ X = dz ts h up) (B6 : ∀ y ∈ bn ts h, ¬ aY ts y + aY ts up ≤ 6 → O = ts ∧ X = 8) (hne : az ts h ≠ []) : Good Tryz.prog (bM 0 [] (fu O X) aT) 0 (Gz ts h up (az ts h).length (aL (az ts h)) (((az ts h).length - 1 : Nat) : Int) zT) (GA ts h up (az ts h).length (aL (az ts h)) (((az ts h).length - 1 : Nat) : Int) zT) := by
  have hp := List.length_pos_iff.2 hne
  have kq := mB ts h
  have kd := nK hf hh
  have hsum : [h] ++ (([] : List Int) ++ (az ts h).reverse).reverse.flatMap (bn ts) = bn ts h := by
    rw [List.nil_append, List.reverse_reverse, kd, iX hf hh]
    rfl
  have hA : ∀ cs, gX cs (([] : List Int) ++ (az ts h).reverse) → Good Tryz.prog (bM 0 [] (fu O X) aT) 0 (vF (0 + 1) ts h up zT (([] : List Int) ++ (az ts h).reverse).length cs) (vG (0 + 1) ts h up zT (([] : List Int) ++ (az ts h).reverse).length cs) := fun cs hc =>
    adL hf (iA hf.ok (.inr hh)) hu zg hh uk LW B6 _ [h] _ cs (Nat.lt_succ_self _) (fun e => hne (by simpa using e)) hc (fun y hy => by
      rw [List.nil_append] at hy
      have hy := List.mem_reverse.1 hy
      rw [kd] at hy
      exact (lO.1 hy).1) (fun y hy => by rw [List.mem_singleton.1 hy]; exact h6) hsum
  have hi : (az ts h).length - 1 < (az ts h).length := by omega
  have hk := fN hi
  have sY : gX #[Value.int .u32 ((az ts h).getD ((az ts h).length - 1) 0)] [(az ts h).getD ((az ts h).length - 1) 0] := ⟨Nat.le_refl _, fun i hi => by
    obtain rfl : i = 0 := by simpa using hi
    rfl⟩
  have mN : (az ts h).drop ((az ts h).length - 1) = [(az ts h).getD ((az ts h).length - 1) 0] := by
    rw [List.drop_eq_getElem_cons hi, List.drop_eq_nil_of_le (by omega), List.getD_eq_getElem?_getD, List.getElem?_eq_getElem hi]
    rfl
  refine bD D7 1000 (gVI ts h up _ _ _ zT O X
    (fun z n c => (z = zT) ∧ n = 1 ∧ (az ts h).length = 1 ∧ c = #[Value.int .u32 ((az ts h).getD ((az ts h).length - 1) 0)])
    (fun i z n c => i = (((az ts h).length - 2 : Nat) : Int) ∧ (z = zT) ∧ n = 1 ∧ 2 ≤ (az ts h).length ∧ c = #[Value.int .u32 ((az ts h).getD ((az ts h).length - 1) 0)])) ?_ (fun _ _ h => h)
    (fun fs m hg => Di (fun z n c ⟨e2, e3, e4, e5⟩ => ?_) (fun i z n c ⟨e0, e2, e3, e4, e5⟩ => ?_) hg)
  · have e : ah .sub .i64 (((az ts h).length - 1 : Nat) : Int) 1 = (((az ts h).length - 1 : Nat) : Int) - 1 := kW ⟨by omega, by omega⟩
    have g1 : aA .u32 (aL (az ts h)) ((az ts h).length - 1) := bw hk
    have g2 : aa (aL (az ts h)) ((az ts h).length - 1) = (az ts h).getD ((az ts h).length - 1) 0 := bI hk
    have y0 : 0 ≤ (((az ts h).length - 1 : Nat) : Int) := by omega
    have y1 : (((az ts h).length - 1 : Nat) : Int) < ((az ts h).length : Int) := by omega
    have t1 : ak (aD 0 [(0, 0), (1, 1), (2, 2), (3, 3), (4, 4), (6, 6), (7, 7), (8, 15), (9, 9), (60, 10), (61, 11), (63, 13), (20, 12)]) ld qP := ak.NO rfl (by kernel_rfl)
    have t2 : ak (aD 0 [(0, 0), (1, 1), (2, 2), (3, 3), (4, 4), (6, 6), (7, 7), (8, 15), (9, 9), (60, 10), (61, 11), (63, 13), (20, 12)]) fR fR := ak.rf rfl (by kernel_rfl)
    have t3 : ak (aD 0 [(0, 0), (1, 1), (2, 2), (3, 3), (4, 4), (6, 6), (7, 7), (8, 15), (9, 9), (20, 12)]) fR fR := ak.rf rfl (by kernel_rfl)
    simp only [e, g1, g2, y0, y1, t1, t2, t3, jK, and_true, true_and, I4, Dh, q7, lz]
    refine ⟨fun k => ?_, fun k => ?_⟩
    · have := of_decide_eq_true k
      exact ⟨by omega, by omega⟩
    · have := of_decide_eq_false k
      omega
  · rw [e2, e3, e5]
    have hx : (az ts h).reverse = [(az ts h).getD ((az ts h).length - 1) 0] := by
      have := mN
      rw [e4] at this ⊢
      have hd : (az ts h).drop (1 - 1) = az ts h := rfl
      rw [hd] at this
      rw [this]
      rfl
    have := hA _ (by rw [List.nil_append, hx]; exact sY)
    rw [List.nil_append, hx] at this
    exact this
  · rw [e0, e2, e3, e5]
    have hd : (az ts h).length - 2 + 1 = (az ts h).length - 1 := by omega
    have := TB (ts := ts) (h := h) (up := up) (O := O) (X := X) (j := 0) (zz := zT) (bE := []) (K := az ts h) (by omega) kq (Nat.zero_le _) hA ((az ts h).length - 2) #[Value.int .u32 ((az ts h).getD ((az ts h).length - 1) 0)] (by omega) (by rw [hd, mN]; exact sY)
    rw [hd, mN] at this
    exact this
def Cd (ts : Array Value) (h up : Int) : Prop := ∀ y ∈ bn ts h, aY ts y + aY ts up ≤ 6
open Classical in
noncomputable def eZ (ts : Array Value) (h up : Int) : Int := if aB ts h = false ∨ aB ts up = false then 4 else if aO ts h ≠ h ∨ fm ts h up = true then 12 else if Cd ts h up then 0 else 8
noncomputable def gW (ts : Array Value) (h up : Int) : Array Value := if eZ ts h up = 0 then bz ts h up else ts
theorem aeS : E0.fn 29 = some Tryz.f29 := by kernel_rfl
theorem ab5 : Tryz.f29.body = some (Tryz.f29.body.getD .skip) := by kernel_rfl
theorem WD (h up : Int) (m : aj) : aq E0 29 [bB ts, u32 h, u32 up] m (bu [ay ts, aN h, aN up] (.ret (fu (gW ts h up) (eZ ts h up)) m)) := by
  refine aq.pure aU aeS ab5 (by kernel_rfl) (by kernel_rfl) fun hq => ?_
  have hf : ay ts := hq _ (by simp)
  have hb := hf.ok
  have hh : aN h := hq _ (by simp)
  have hu : aN up := hq _ (by simp)
  have bG : 0 ≤ h ∧ h < 4294967296 := hh
  have iO : 0 ≤ up ∧ up < 4294967296 := hu
  have hs := hb.sz
  have cQ : bP (aF ts) := hb.bk
  have bK : (64 : Nat) ≤ 448 := by decide
  have hd1 := tR hf h
  have hd2 := tR hf up
  have ed : ah .add .i64 ((aY ts h : Nat) : Int) ((aY ts up : Nat) : Int) = ((aY ts h + aY ts up : Nat) : Int) := by rw [dn, cC (by omega) (by omega)]; omega
  have main : aB ts h = true → aB ts up = true → aO ts h = h → fm ts h up = false → dz ts h up = 0 ∧ bO ts h up = bz ts h up ∧ (bO ts h up).size = 448 := fun hg cA hr ho => by
    have n1 : ¬ (aB ts h = false ∨ (up ≠ 0 ∧ aB ts up = false)) := by
      rintro (k | k)
      · rw [hg] at k; cases k
      · rw [cA] at k; cases k.2
    have n2 : h ∉ cm (aG ts) up := fun k => by
      unfold fm at ho
      rw [cA, decide_eq_true k] at ho
      cases ho
    have e1 : dz ts h up = 0 := by unfold dz; rw [if_neg n1, if_neg n2]
    have e2 : bO ts h up = bz ts h up := by unfold bO; rw [if_pos e1]
    exact ⟨e1, e2, by rw [e2]; exact (r8 hb hg hu).1.sz⟩
  have good : aB ts h = true → aB ts up = true → aO ts h = h → fm ts h up = false → Cd ts h up → gW ts h up = bO ts h up ∧ eZ ts h up = dz ts h up := fun hg cA hr ho h6 => by
    obtain ⟨e1, e2, _⟩ := main hg cA hr ho
    have e3 : eZ ts h up = 0 := by
      unfold eZ
      rw [if_neg (fun k => k.elim (fun k => by rw [hg] at k; cases k) (fun k => by rw [cA] at k; cases k)), if_neg (fun k => k.elim (fun k => k hr) (fun k => by rw [ho] at k; cases k)), if_pos h6]
    exact ⟨by unfold gW; rw [if_pos e3, e2], by rw [e3, e1]⟩
  have bad : aB ts h = true → aB ts up = true → aO ts h = h → fm ts h up = false → ¬ Cd ts h up → gW ts h up = ts ∧ eZ ts h up = 8 := fun hg cA hr ho h6 => by
    have e3 : eZ ts h up = 8 := by
      unfold eZ
      rw [if_neg (fun k => k.elim (fun k => by rw [hg] at k; cases k) (fun k => by rw [cA] at k; cases k)), if_neg (fun k => k.elim (fun k => k hr) (fun k => by rw [ho] at k; cases k)), if_neg h6]
    exact ⟨by unfold gW; rw [if_neg (by rw [e3]; decide)], e3⟩
  refine (Good.ret [] (bA ab4 1000 (gV0 ts h up (az ts h).length (aL (az ts h)) (gW ts h up) (eZ ts h up) (fun i z => i = (((az ts h).length - 1 : Nat) : Int) ∧ z = zT ∧ az ts h ≠ [] ∧ aB ts h = true ∧ aB ts up = true ∧ aO ts h = h ∧ fm ts h up = false ∧ aY ts h + aY ts up ≤ 6)) ?_ (fun s m h => h) fun fs m hm => aao (fun i z ⟨e, e2, e3, hg, cA, hr, ho, h6⟩ => by
    rw [e, e2]
    have hl : h ∈ af ts := (bU hb).2 hg
    obtain ⟨m1, m2, m3⟩ := main hg cA hr ho
    exact adM hf hl hu m3 h6 (fun k => good hg cA hr ho k) (fun y hy k => bad hg cA hr ho fun g => k (g y hy)) e3) hm)).mono fun _ _ h => h.1
  unfold qQ xX pH
  have TC : (aB ts h = false ∨ aB ts up = false) → gW ts h up = ts ∧ eZ ts h up = 4 := fun k => by
    have e3 : eZ ts h up = 4 := by unfold eZ; rw [if_pos k]
    exact ⟨by unfold gW; rw [if_neg (by rw [e3]; decide)], e3⟩
  have state : aB ts h = true → aB ts up = true → (aO ts h ≠ h ∨ fm ts h up = true) → gW ts h up = ts ∧ eZ ts h up = 12 := fun hg cA k => by
    have e3 : eZ ts h up = 12 := by
      unfold eZ
      rw [if_neg (fun k => k.elim (fun k => by rw [hg] at k; cases k) (fun k => by rw [cA] at k; cases k)), if_pos k]
    exact ⟨by unfold gW; rw [if_neg (by rw [e3]; decide)], e3⟩
  cases hg : aB ts h with
  | false =>
    have hg' : bF (aF ts) h = false := hg
    obtain ⟨e3, e4⟩ := TC (.inl hg)
    simp only [eg, hg', e3, e4, hs, cQ, bK, hf, bG, iO, cF, Bool.not_true, Bool.not_false, q6]
  | true =>
    have hg' : bF (aF ts) h = true := hg
    cases cA : aB ts up with
    | false =>
      have pK : bF (aF ts) up = false := cA
      obtain ⟨e3, e4⟩ := TC (.inr cA)
      simp only [eg, hg', pK, e3, e4, hs, cQ, bK, hf, bG, iO, cF, Bool.not_true, Bool.not_false, q6]
    | true =>
      have pK : bF (aF ts) up = true := cA
      by_cases hr : aO ts h = h
      rotate_left
      · have dr : (aO ts h != h) = true := bne_iff_ne.2 hr
        obtain ⟨e3, e4⟩ := state hg cA (.inl hr)
        simp only [eg, hg', pK, dr, e3, e4, hs, cQ, bK, hf, bG, iO, cF, Bool.not_true, Bool.not_false, q6]
      · have dr : (aO ts h != h) = false := by rw [hr]; exact bne_self_eq_false h
        cases ho : fm ts h up with
        | true =>
          obtain ⟨e3, e4⟩ := state hg cA (.inr ho)
          simp only [eg, hg', pK, dr, ho, e3, e4, hs, cQ, bK, hf, bG, iO, cF, Bool.not_true, Bool.not_false, q6]
        | false =>
          obtain ⟨m1, m2, m3⟩ := main hg cA hr ho
          have hl : h ∈ af ts := (bU hb).2 hg
          have kd := nK hf hl
          have kq := mB ts h
          by_cases h6 : aY ts h + aY ts up ≤ 6
          rotate_left
          · have dd : decide (((aY ts h + aY ts up : Nat) : Int) > 6) = true := decide_eq_true (by omega)
            obtain ⟨e3, e4⟩ := bad hg cA hr ho fun g => h6 (g h (by rw [iX hf hl]; exact List.mem_cons_self ..))
            simp only [eg, hg', pK, dr, ho, ed, dd, e3, e4, m3, hs, cQ, bK, hf, hb, bG, iO, cF, Bool.not_true, Bool.not_false, q6]
          · have dd : decide (((aY ts h + aY ts up : Nat) : Int) > 6) = false := decide_eq_false (by omega)
            simp only [eg, hg', pK, dr, ho, ed, dd, m3, hs, cQ, bK, hf, hb, bG, iO, jK, cF, Bool.not_true, Bool.not_false, q6]
            constructor
            · intro k
              have ek := List.eq_nil_of_length_eq_zero (of_decide_eq_true k)
              have eU : bn ts h = [h] := by rw [iX hf hl, ← kd, ek]; rfl
              exact good hg cA hr ho fun y hy => by
                rw [eU] at hy
                rw [List.mem_singleton.1 hy]; exact h6
            · intro k
              have hne : az ts h ≠ [] := fun e => of_decide_eq_false k (by rw [e]; rfl)
              have hp := List.length_pos_iff.2 hne
              have e5 : ah .sub .i64 ((az ts h).length : Int) 1 = (((az ts h).length - 1 : Nat) : Int) := by rw [kW ⟨by omega, by omega⟩]; omega
              have d5 : decide ((((az ts h).length - 1 : Nat) : Int) ≥ 0) = true := decide_eq_true (by omega)
              simp only [e5, d5, XH, Dh, XI, q6]
              first | exact ⟨hne, hr, h6⟩ | exact ⟨⟨hne, hr, h6⟩, ak.rf rfl (by kernel_rfl)⟩ | exact ⟨⟨hne, hg, cA, hr, ho, h6⟩, ak.rf rfl (by kernel_rfl)⟩
end
end Go.Proofs.YtldoopjnjlpbpaaGreatDoor
/- Of forests: Fell, New, All; whether a forest is whole: states. No condition. -/
namespace Go.Proofs.YtldoopjnjlpbpaaGreatDoor
set_option linter.unusedVariables false
noncomputable def Ar (g:FuncId) (l:List SV) (m:aj):Option Tree:=match g,l with
 | 27,[.s (.agg (.op ts)),.s (.c (.f (.int .u32 h)))]=>some (.need [ay ts,aN h.den] (.ret (fu (gA ts h.den) (kG ts h.den)) m))
 | 29,[.s (.agg (.op ts)),.s (.c (.f (.int .u32 h))),.s (.c (.f (.int .u32 u)))]=>some (.need [ay ts,aN h.den,aN u.den] (.ret (fu (gW ts h.den u.den) (eZ ts h.den u.den)) m))
 | 81,[.s (.agg (.op ts))]=>some (.need [aM ts] (lf (af ts) 30 m))
 | g,l=>r7 g l m
noncomputable def vH:Env:=⟨Tryz.prog,dg,r7,dy [24*1000+5]⟩
noncomputable def D8 (o:Array Value) (i n:Nat):SV:=.bW [.agg (.op o),.c (.f (.slice i (.l 0) (.o n) (.full 1))),.c (.f (.int .i64 (.o 0)))]
def As (o:Array Value) (n:Nat) (rs:Array Value) (s:SV) (m:aj):Prop:=match s with | .bW [_,.c (.f (.slice i _ _ _)),_]=>bM 0 [(0,i)] (D8 o 0 n) (cD 1 [(0,⟨.pop rs,30,true⟩)]) s m | _=>False
noncomputable def SS (ts:Array Value):SV:=.bW [.agg (.op ts),.c (.f (.lit (.slice none 0 0))),.c (.f (.int .i64 (.o 4)))]
noncomputable def qm:List bh:=cY Tryz.f24 5
noncomputable def xY (h:Int) (n:Nat) (rs:Array Value) (i:Int) (us:Array Value) (zz:Array Value):List av:=[dw 24 Tryz.f24 [(2,ptr 0 (.l 0)),(4,ptr 1 (.l 0)),(7,fK 2 n),(19,fK 2 n),(20,i64 (.o (n:Int))),(21,i64 (.o i))] qm]
noncomputable def xZ (h:Int) (n:Nat) (rs:Array Value) (i:Int) (us:Array Value) (zz:Array Value):aj:=cD 3 [(0,⟨.op us,39,true⟩),(1,⟨.op zz,39,true⟩),(2,⟨.pop rs,30,true⟩)]
def Fz (h:Int) (n:Nat) (rs:Array Value) (Q:Int→Array Value→Array Value→Prop) (fs:List av) (m:aj):Prop:=(match b9 fs 0 with | some f0=>(match dh f0 21 with | some i=>(match aV f0 2 with | some p0=>(match aV f0 4 with | some p1=>(match fG f0 7 with | some p2=>(match cO m p0 with | some us=>(match cO m p1 with | some zz=>Q i us zz∧cV 0 [(0,p0),(1,p1),(2,p2)] (xY h n rs i us zz) (xZ h n rs i us zz) fs m | none=>False) | none=>False) | none=>False) | none=>False) | none=>False) | none=>False) | none=>False)
noncomputable def SU (ts:Array Value) (h:Int) (n:Nat) (rs:Array Value):Tree:=run vH 1000 0 [a_ 24 Tryz.f24.ntmps [bB ts,u32 h] (Tryz.f24.body.getD .skip)] aT
def D9 (ts:Array Value) (h:Int) (n:Nat) (rs:Array Value) (qX:Int→Array Value→Array Value→Prop) (fs:List av) (m:aj):Prop:=Fz h n rs qX fs m
noncomputable def ab6 (h:Int) (n:Nat) (rs:Array Value) (i:Int) (us:Array Value) (zz:Array Value):Tree:=stepT vH.go (run vH 1000) 0 (xY h n rs i us zz) (xZ h n rs i us zz)
def Ki (h:Int) (n:Nat) (rs:Array Value) (i:Int) (us:Array Value) (zz:Array Value) (qX:Int→Array Value→Array Value→Prop) (fs:List av) (m:aj):Prop:=Fz h n rs qX fs m
theorem Pa (r:Nat→Option Nat):ak r qm qm:=ak.it (by kernel_rfl)
theorem Qr {A:SV→aj→Prop} {h:Int} {n:Nat} {rs:Array Value} {Q:Int→Array Value→Array Value→Prop} {fs:List av} {m:aj} (H:∀ i us zz,Q i us zz→Good Tryz.prog A 0 (xY h n rs i us zz) (xZ h n rs i us zz)) (hb:Fz h n rs Q fs m):Good Tryz.prog A 0 fs m:=by
 unfold Fz at hb
 iterate 7 (split at hb;rotate_left;exact hb.elim)
 exact Good.c_ hb.2 (H _ _ _ hb.1)
theorem RK {A:SV→aj→Prop} {ts:Array Value} {h:Int} {n:Nat} {rs:Array Value} {qX:Int→Array Value→Array Value→Prop} {fs:List av} {m:aj} (MX:∀ i' us' fB,qX i' us' fB→Good Tryz.prog A 0 (xY h n rs i' us' fB) (xZ h n rs i' us' fB)) (hb:D9 ts h n rs qX fs m):Good Tryz.prog A 0 fs m:=by
 unfold D9 at hb
 exact Qr MX hb
theorem RL {A:SV→aj→Prop} {h:Int} {n:Nat} {rs:Array Value} {i:Int} {us:Array Value} {zz:Array Value} {qX:Int→Array Value→Array Value→Prop} {fs:List av} {m:aj} (MX:∀ i' us' fB,qX i' us' fB→Good Tryz.prog A 0 (xY h n rs i' us' fB) (xZ h n rs i' us' fB)) (hb:Ki h n rs i us zz qX fs m):Good Tryz.prog A 0 fs m:=by
 unfold Ki at hb
 exact Qr MX hb
set_option maxRecDepth 100000
theorem flN (ts:Array Value) (h:Int) (n:Nat) (rs:Array Value) (Q:Int→Array Value→Array Value→Prop):(SU ts h n rs).vc (bM 0 [] (SS ts) aT) (D9 ts h n rs Q) =
  ((64≤ts.size∧True)∧(bP (Array.extract ts 0 64)∧(0≤h∧h<4294967296)∧True)∧((!bF (Array.extract ts 0 64) h)=true→(ts.size=448∧True)∧(ts.size=448∧ts.size=448∧True)∧(ts.size=448∧True)∧ts=ts∧Value.slice none 0 0=Value.slice none 0 0∧(4:Int)=(4:Int)∧True)∧((!bF (Array.extract ts 0 64) h)=false→(ts.size=448∧True)∧(ay ts∧(0≤h∧h<4294967296)∧True)∧(decide ((aJ ts h).length=0)=true→False)∧(decide ((aJ ts h).length=0)=false→Q (0:Int) ts zT∧cN∧ak (aD 0 [(0,0),(1,1),(2,2)]) qm qm∧n=(aJ ts h).length∧n=(aJ ts h).length∧(0:Int)=(0:Int)∧(↑n:Int)=(↑((aJ ts h).length):Int)∧39=39∧ts=ts∧39=39∧zT=zT∧30=30∧rs=aL (aJ ts h)∧True))):=by kernel_rfl
theorem adN (ts:Array Value) (h:Int) (n:Nat) (rs:Array Value) (o:Array Value) (Q:Int→Array Value→Array Value→Prop):(SU ts h n rs).vc (As o n rs) (D9 ts h n rs Q) =
  ((64≤ts.size∧True)∧(bP (Array.extract ts 0 64)∧(0≤h∧h<4294967296)∧True)∧((!bF (Array.extract ts 0 64) h)=true→(ts.size=448∧True)∧(ts.size=448∧ts.size=448∧True)∧(ts.size=448∧True)∧False)∧((!bF (Array.extract ts 0 64) h)=false→(ts.size=448∧True)∧(ay ts∧(0≤h∧h<4294967296)∧True)∧(decide ((aJ ts h).length=0)=true→False)∧(decide ((aJ ts h).length=0)=false→Q (0:Int) ts zT∧cN∧ak (aD 0 [(0,0),(1,1),(2,2)]) qm qm∧n=(aJ ts h).length∧n=(aJ ts h).length∧(0:Int)=(0:Int)∧(↑n:Int)=(↑((aJ ts h).length):Int)∧39=39∧ts=ts∧39=39∧zT=zT∧30=30∧rs=aL (aJ ts h)∧True))):=by kernel_rfl
theorem Uo (h:Int) (n:Nat) (rs:Array Value) (i:Int) (us zz o:Array Value) (Q:Int→Array Value→Array Value→Prop):(ab6 h n rs i us zz).vc (As o n rs) (Ki h n rs i us zz Q) =
  ((decide (i<(↑n:Int))=true→((0≤i∧i<(↑n:Int))∧True)∧(aA .u32 rs (0+i.toNat*1)∧True)∧(us.size=448∧True)∧(aM us∧(0≤aa rs (0+i.toNat*1)∧aa rs (0+i.toNat*1)<4294967296)∧True)∧((gG us (aa rs (0+i.toNat*1))).size=448∧(gG us (aa rs (0+i.toNat*1))).size=us.size∧True)∧Q (ah .add .i64 i 1) (gG us (aa rs (0+i.toNat*1))) zz∧cN∧ak (aD 0 [(0,0),(1,1),(2,2)]) qm qm∧n=n∧n=n∧ah .add .i64 i 1=ah .add .i64 i 1∧(↑n:Int)=(↑n:Int)∧39=39∧gG us (aa rs (0+i.toNat*1))=gG us (aa rs (0+i.toNat*1))∧39=39∧zz=zz∧30=30∧rs=rs∧True)∧(decide (i<(↑n:Int))=false→(us.size=448∧True)∧(us.size=448∧us.size=zz.size∧True)∧(us.size=448∧True)∧o=us∧n=n∧(0:Int)=(0:Int)∧30=30∧rs=rs∧True)):=by kernel_rfl
def Kj (ts:Array Value) (u:Int) (q:Int) (o:Array Value) (k:Int) (e:Int):Prop:=decide ((↑(aY ts u):Int)≥6)=false→((iK ts u q).size=448∧True)∧((iK ts u q).size=448∧(iK ts u q).size=448∧True)∧((iK ts u q).size=448∧True)∧o=iK ts u q∧k=iD ts u q∧e=newE ts u q∧True
def Kk (ts:Array Value) (u:Int) (o:Array Value) (k:Int) (e:Int):Prop:=decide ((↑(aY ts u):Int)≥6)=true→(ts.size=448∧True)∧(ts.size=448∧ts.size=448∧True)∧(ts.size=448∧True)∧o=ts∧k=0∧e=8∧True
theorem fn0 (ts:Array Value) (u q:Int) (o:Array Value) (k e:Int):(run vH 1000 0 [a_ 14 Tryz.f14.ntmps [bB ts,u32 u,i64 (.o q)] (Tryz.f14.body.getD .skip)] aT).vc (bM 0 [] (.bW [.agg (.op o),.c (.f (.int .u32 (.o k))),.c (.f (.int .i64 (.o e)))]) aT) (fun _ _=>False) =
  ((ts.size=448∧True)∧(aM ts∧(0≤u∧u<4294967296)∧True)∧((iK ts u q).size=448∧(iK ts u q).size=448∧True)∧(((newE ts u q==0)==false)=true→(((newE ts u q==7)==true)=true→(ts.size=448∧True)∧(ay ts∧(0≤u∧u<4294967296)∧True)∧(Kk ts u o k e)∧(Kj ts u q o k e))∧(((newE ts u q==7)==true)=false→((iK ts u q).size=448∧True)∧((iK ts u q).size=448∧(iK ts u q).size=448∧True)∧((iK ts u q).size=448∧True)∧o=iK ts u q∧k=iD ts u q∧e=newE ts u q∧True))∧(((newE ts u q==0)==false)=false→(ts.size=448∧True)∧(ay ts∧(0≤u∧u<4294967296)∧True)∧(Kk ts u o k e)∧(Kj ts u q o k e))):=by kernel_rfl
theorem al0 (ts:Array Value):(run vH 1000 0 [a_ 81 Tryz.f81.ntmps [bB ts] (Tryz.f81.body.getD .skip)] aT).vc iS (fun _ _=>False) =
  ((64≤ts.size∧True)∧(bP (Array.extract ts 0 64)∧True)∧(decide ((d_ (Array.extract ts 0 64)).length=0)=true→True)∧(decide ((d_ (Array.extract ts 0 64)).length=0)=false→False)):=by kernel_rfl
theorem al1 (ts:Array Value) (k:Nat) (cs:Array Value):(run vH 1000 0 [a_ 81 Tryz.f81.ntmps [bB ts] (Tryz.f81.body.getD .skip)] aT).vc (dL k cs 30) (fun _ _=>False) =
  ((64≤ts.size∧True)∧(bP (Array.extract ts 0 64)∧True)∧(decide ((d_ (Array.extract ts 0 64)).length=0)=true→False)∧(decide ((d_ (Array.extract ts 0 64)).length=0)=false→k=(d_ (Array.extract ts 0 64)).length∧30=30∧cs=aL (d_ (Array.extract ts 0 64))∧True)):=by kernel_rfl
set_option linter.unusedSimpArgs false
set_option linter.unusedVariables false
theorem tQ:bf vH:=bf.with aU _ _ wB
section
variable {ts:Array Value} {h:Int}
theorem TD:E0.fn 81=some Tryz.f81:=by kernel_rfl
theorem RM:Tryz.f81.body=some (Tryz.f81.body.getD .skip):=by kernel_rfl
theorem Y5 (m:aj):aq E0 81 [bB ts] m (.need [aM ts] (lf (af ts) 30 m)):=by
 refine aq.asked fun hq=>?_
 have hb:aM ts:=hq _ (by simp)
 have hs:=hb.sz
 have bK:(64:Nat)≤448:=by decide
 have cQ:bP (aF ts):=hb.bk
 refine aq.two (fun hz=>?_) (fun hz=>?_)
 ·refine (show aq E0 81 [bB ts] m (bu [] _) from aq.pure aU TD RM (by kernel_rfl) (by kernel_rfl) fun hq=>?_)
  refine (bA tQ 1000 (al0 ts) ?_ (fun s m h=>h) fun fs m hm=>hm.elim).mono ?_
  ·have c0:decide ((d_ (ts.extract 0 64)).length=0)=true:=hz
   simp only [c0]
   simp only [eg,hs,bK,cQ,q6]
  ·intro s m' hs
   unfold iS at hs
   split at hs
   ·rfl
   ·exact hs.elim
 ·refine (show aq E0 81 [bB ts] m (bu [] _) from aq.fresh aU TD RM (by kernel_rfl) rfl fun _=>?_)
  refine Good.ni ((bA tQ 1000 (al1 ts (af ts).length (aL (af ts))) ?_ (fun s m h=>h) fun fs m hm=>hm.elim).mono fun s m h=>?_)
  ·have c0:decide ((d_ (ts.extract 0 64)).length=0)=false:=hz
   simp only [c0]
   simp only [eg,hs,bK,cQ,q6]
   exact ⟨rfl,rfl⟩
  ·unfold dL at h
   split at h
   ·exact ⟨_,h⟩
   ·exact h.elim
def gR (ts:Array Value) (u q:Int):Int:=if (newE ts u q=0∨newE ts u q=7)∧6≤aY ts u then 8 else newE ts u q
def gC (ts:Array Value) (u q:Int):Array Value:=if gR ts u q=0 then fL ts u q else ts
def jc (ts:Array Value) (u q:Int):Int:=if gR ts u q=0 then ct (aF ts) else 0
def MY (o:Array Value) (k e:Int):SV:=.bW [.agg (.op o),.c (.f (.int .u32 (.o k))),.c (.f (.int .i64 (.o e)))]
theorem aaq (ts:Array Value) (u q:Int):newE ts u q=0∨newE ts u q=7∨newE ts u q=4∨newE ts u q=2:=by
 unfold newE
 split
 ·exact .inr (.inr (.inl rfl))
 ·split
  ·split
   ·exact .inl rfl
   ·exact .inr (.inl rfl)
  ·exact .inr (.inr (.inr rfl))
theorem Pb (u q:Int) (m:aj):aq E0 14 [bB ts,u32 u,i64 (.o q)] m (bu [ay ts,aN u] (.ret (MY (gC ts u q) (jc ts u q) (gR ts u q)) m)):=by
 refine aq.pure aU (by kernel_rfl:E0.fn 14=some Tryz.f14) (by kernel_rfl:Tryz.f14.body=some (Tryz.f14.body.getD .skip)) (by kernel_rfl) (by kernel_rfl) fun hq=>?_
 have hf:ay ts:=hq _ (by simp)
 have hu:aN u:=hq _ (by simp)
 have hb:=hf.ok
 have iO:0≤u∧u<4294967296:=hu
 have hs:=hb.sz
 refine (Good.ret [] (bA tQ 1000 (fn0 ts u q (gC ts u q) (jc ts u q) (gR ts u q)) ?_ (fun s m h=>h) fun _ _ h=>h.elim)).mono fun _ _ h=>h.1
 unfold Kk Kj
 have B7:(iK ts u q).size=448:=by
  unfold iK
  split
  ·exact I5 hb
  ·exact hs
 have d13:=tR hf u
 have deep:6≤aY ts u→(newE ts u q=0∨newE ts u q=7)→gR ts u q=8∧gC ts u q=ts∧jc ts u q=0:=fun hd k=>by
  have e:gR ts u q=8:=by unfold gR;rw [if_pos ⟨k,hd⟩]
  exact ⟨e,by unfold gC;rw [if_neg (by rw [e];decide)],by unfold jc;rw [if_neg (by rw [e];decide)]⟩
 have flat:¬ ((newE ts u q=0∨newE ts u q=7)∧6≤aY ts u)→gR ts u q=newE ts u q∧gC ts u q=iK ts u q∧jc ts u q=iD ts u q:=fun k=>by
  have e:gR ts u q=newE ts u q:=by unfold gR;rw [if_neg k]
  exact ⟨e,by unfold gC iK;rw [e],by unfold jc iD;rw [e]⟩
 by_cases hd:6≤aY ts u
 ·have dd:decide (((aY ts u:Nat):Int)≥6)=true:=decide_eq_true (by omega)
  rcases aaq ts u q with e | e | e | e
  ·obtain ⟨e1,e2,e3⟩:=deep hd (.inl e)
   have c1:((0:Int)==0)=true:=rfl
   simp only [e1,e2,e3,e,dd,c1,hs,hb,hf,iO,B7,dJ,cF,Bool.not_true,q6]
  ·obtain ⟨e1,e2,e3⟩:=deep hd (.inr e)
   have c1:((7:Int)==0)=false:=rfl
   have c2:((7:Int)==7)=true:=rfl
   simp only [e1,e2,e3,e,dd,c1,c2,hs,hb,hf,iO,B7,q8,q6]
  ·obtain ⟨e1,e2,e3⟩:=flat (by rw [e];rintro ⟨k | k,_⟩ <;> exact absurd k (by decide))
   have c1:((4:Int)==0)=false:=rfl
   have c2:((4:Int)==7)=false:=rfl
   rw [e] at e1
   simp only [e1,e2,e3,e,dd,c1,c2,hs,hb,hf,iO,B7,q8,q6]
  ·obtain ⟨e1,e2,e3⟩:=flat (by rw [e];rintro ⟨k | k,_⟩ <;> exact absurd k (by decide))
   have c1:((2:Int)==0)=false:=rfl
   have c2:((2:Int)==7)=false:=rfl
   rw [e] at e1
   simp only [e1,e2,e3,e,dd,c1,c2,hs,hb,hf,iO,B7,q8,q6]
 ·have dd:decide (((aY ts u:Nat):Int)≥6)=false:=decide_eq_false (by omega)
  obtain ⟨e1,e2,e3⟩:=flat fun k=>hd k.2
  cases c1:(newE ts u q==0) <;> cases c2:(newE ts u q==7)
  all_goals
   simp only [e1,e2,e3,dd,c1,c2,hs,hb,hf,iO,B7,q8,q6]
def iP (u:Array Value) (o:List Int):Array Value:=o.foldl gG u
theorem Y6 (u:Array Value) (o:List Int) (x:Int):iP u (o++[x])=gG (iP u o) x:=by unfold iP;rw [List.foldl_append];rfl
theorem I6 {u:Array Value} (hb:aM u) (x:Int):aM (gG u x):=by
 unfold gG
 split
 ·rename_i hg;exact (wR hb hg).1
 ·exact hb
theorem D_:∀ (o:List Int) {u:Array Value},aM u→aM (iP u o)
 | [],_,hb=>hb
 | x :: o,u,hb=>D_ o (u:=gG u x) (I6 hb x)
theorem take_one {l:List Int} {i:Nat} (hi:i<l.length):l.take (i+1)=l.take i++[l.getD i 0]:=by
 rw [List.take_add_one,List.getElem?_eq_getElem hi,List.getD_eq_getElem?_getD,List.getElem?_eq_getElem hi]
 rfl
theorem ab7 (hb:aM ts) {U:List Int} (hU:∀ x∈U,aN x) (hl:U.length≤32) {zz:Array Value} (hz:zz.size=448):∀ (n i:Nat),i+n=U.length→Good Tryz.prog (As (iP ts U) U.length (aL U)) 0 (xY h U.length (aL U) (i:Int) (iP ts (U.take i)) zz) (xZ h U.length (aL U) (i:Int) (iP ts (U.take i)) zz):=by
 intro n
 induction n with
 | zero =>
  intro i hi
  obtain rfl:i=U.length:=by omega
  refine bD tQ 1000 (Uo h _ _ _ _ zz (iP ts U) (fun _ _ _=>False)) ?_ (fun _ _ h=>h) (fun fs m hb=>RL (fun _ _ _ h=>h.elim) hb)
  have d:decide ((U.length:Int)<(U.length:Int))=false:=decide_eq_false (by omega)
  have hs:=(D_ U hb).sz
  simp only [d,List.take_length,hs,hz,q6]
 | succ n ih =>
  intro i hi
  have hi':i<U.length:=by omega
  refine bD tQ 1000 (Uo h _ _ (i:Int) _ zz (iP ts U) (fun i' u z=>i'=((i+1:Nat):Int)∧u=iP ts (U.take (i+1))∧z=zz)) ?_ (fun _ _ h=>h) (fun fs m hb=>RL (fun i' u z ⟨e1,e2,e3⟩=>by rw [e1,e2,e3];exact ih (i+1) (by omega)) hb)
  have d:decide ((i:Int)<(U.length:Int))=true:=decide_eq_true (by omega)
  have ei:ah .add .i64 (i:Int) 1=((i+1:Nat):Int):=by rw [dn,cC (by omega) (by omega)];omega
  have g1:aA .u32 (aL U) i:=bw (fN hi')
  have g2:aa (aL U) i=U.getD i 0:=bI (fN hi')
  have hm:U.getD i 0∈U:=by rw [List.getD_eq_getElem?_getD,List.getElem?_eq_getElem hi'];exact List.getElem_mem _
  have hx:0≤U.getD i 0∧U.getD i 0<4294967296:=hU _ hm
  have y0:0≤(i:Int):=by omega
  have y1:(i:Int)<(U.length:Int):=by omega
  have dZ:=D_ (U.take i) hb
  have hs1:=dZ.sz
  have vI:=(I6 dZ (U.getD i 0)).sz
  rw [take_one hi',Y6]
  simp only [d,ei,g1,g2,hx,y0,y1,dZ,hs1,vI,hz,decide_true,Pa,q7,q6]
noncomputable def ab8 (o:Array Value) (l:List Int) (m:aj):Tree:=.ret (D8 o m.next l.length) (m.new (.pop (aL l)) 30)
def gY (ts:Array Value) (h:Int):Array Value:=iP ts (aJ ts h)
noncomputable def Kl (ts:Array Value) (h:Int) (m:aj):Tree:=.br (decide ((aJ ts h).length=0)) (.ret (SS ts) m) (ab8 (gY ts h) (aJ ts h) m)
theorem TE:E0.fn 24=some Tryz.f24:=by kernel_rfl
theorem RN:Tryz.f24.body=some (Tryz.f24.body.getD .skip):=by kernel_rfl
theorem aq.RO {E:Env} (hE:bf E) {g:FuncId} {l:List SV} {m:aj} {n:Nat} {o rs:Array Value} {ty:TypeId} {fn:Func} {c:Code} (h1:E.fn g=some fn) (h2:fn.body=some c) (oh:gm xe l=true)
  (h:Good E.P (fun s m'=>s=D8 o 0 n∧m'=⟨1,Tr.nil.set 0 (some ⟨.pop rs,ty,true⟩),[]⟩) 0 [a_ g fn.ntmps l c] ⟨0,.nil,[]⟩) :
  aq E g l m (.ret (D8 o m.next n) (m.new (.pop rs) ty)):=by
 intro A hA
 refine ⟨fn,h1,by rw [h2];rfl,fun n0 F w0 w R args hl hR=>?_⟩
 refine (rI (m:=⟨0,.nil,[]⟩) (hE.fns _ _ h1).1 h2 h (mw oh hl) hR.none).mono ?_
 rintro v w' ⟨s,m',R',⟨rfl,rfl⟩,hX,fq,hv⟩
 have hb0:aH (Tr.nil.set 0 (some ⟨.pop rs,ty,true⟩)) 0=some ⟨.pop rs,ty,true⟩:=rfl
 obtain ⟨gl,cs,fz,e1,e2,e3,e4,e5⟩:=fq.dS 0 _ hb0
 obtain ⟨e6,ez⟩:=e5 rfl
 have e7:w.heap.size≤gl.b:=e6.resolve_right fun x=>x
 obtain ⟨R2,k1,k2,k3⟩:=hR.grow fq.fr.to e7 (fq.lt 0 gl e1) e2 e3 (I7 (a:=.pop rs) (R':=R) rfl e4) ez
 obtain ⟨vs,rfl,hvs⟩:=hv
 refine ⟨_,_,R2,hA,k1,k3,vs,rfl,?_⟩
 match hl:vs.toList,hvs with
 | [a,b,d],⟨q0,⟨g,cp,f1,q1,f2,f3⟩,q2,_⟩ =>
  rw [e1] at f1
  cases f1
  exact ⟨q0,⟨gl,cp,k2,q1,f2,f3⟩,q2,trivial⟩
theorem Pc (h:Int) (m:aj):aq E0 24 [bB ts,u32 h] m (.need [ay ts,aN h] (Kl ts h m)):=by
 refine aq.asked fun hq=>?_
 have hf:ay ts:=hq _ (by simp)
 have hb:=hf.ok
 have hh:aN h:=hq _ (by simp)
 have bG:0≤h∧h<4294967296:=hh
 have hs:=hb.sz
 have bK:(64:Nat)≤448:=by decide
 have cQ:bP (aF ts):=hb.bk
 have hU:aB ts h=true→aJ ts h=bn ts h:=fun hg=>if_pos hg
 have hgd:aB ts h=false↔(aJ ts h).length=0:=by
  constructor
  ·intro k;unfold aJ;rw [k];rfl
  ·intro k
   cases c:aB ts h with
   | false=>rfl
   | true =>
    rw [hU c,iX hf ((bU hb).2 c)] at k
    cases k
 refine aq.two (fun hz=>?_) (fun hz=>?_)
 ·have hg:bF (aF ts) h=false:=hgd.2 (of_decide_eq_true hz)
  refine (show aq E0 24 [bB ts,u32 h] m (bu [] _) from aq.pure aU TE RN (by kernel_rfl) (by kernel_rfl) fun hq=>?_)
  refine (Good.ret [] (bA tQ 1000 (flN ts h 0 #[] (fun _ _ _=>False)) ?_ (fun s m h=>h) fun fs m hm=>RK (fun _ _ _ e=>e.elim) hm)).mono fun _ _ h=>h.1
  simp only [eg,hg,hs,bK,cQ,bG,Bool.not_false,q6]
 ·have hne:¬ (aJ ts h).length=0:=of_decide_eq_false hz
  have hg':aB ts h=true:=by
   cases c:aB ts h with
   | true=>rfl
   | false=>exact absurd (hgd.1 c) hne
  have hg:bF (aF ts) h=true:=hg'
  have hl:=(bU hb).2 hg'
  have gS:(aJ ts h).length≤32:=by rw [hU hg'];exact mD hf hl
  have hin:∀ x∈aJ ts h,aN x:=fun x hx=>by
   rw [hU hg'] at hx
   exact iA hb (.inr (mA hf.fo h hl x hx).1)
  refine aq.RO aU TE RN (by kernel_rfl) (Good.ni ((bA tQ 1000 (adN ts h (aJ ts h).length (aL (aJ ts h)) (gY ts h) (fun i u z=>i=((0:Nat):Int)∧u=iP ts ((aJ ts h).take 0)∧z=zT)) ?_ (fun s m h=>h) fun fs m hm=>RK (A:=As (gY ts h) (aJ ts h).length (aL (aJ ts h))) (fun i u z ⟨e1,e2,e3⟩=>by rw [e1,e2,e3];exact ab7 hb hin gS uk _ 0 (Nat.zero_add _)) hm).mono fun s m h=>?_))
  ·simp only [eg,hg,hz,hs,bK,cQ,hf,bG,Bool.not_true,Pa,q6]
   exact ⟨rfl,rfl⟩
  ·unfold As at h
   split at h
   ·exact ⟨_,h⟩
   ·exact h.elim
end
set_option linter.unusedVariables false
theorem H8:∀ g l m t,Ar g l m=some t→aq E0 g l m t:=by
 intro g l m t h
 unfold Ar at h
 split at h
 ·rename_i ts x;cases h
  exact aq.n1 (Y7 x.den m)
 ·rename_i ts x u;cases h
  exact aq.n2 (WD x.den u.den m)
 ·rename_i ts;cases h
  exact Y5 m
 ·exact wB _ _ _ _ h
theorem DA {b:Bool} {s:SV} {m:aj} {R R':aX} {v:Value} (hs:gD b s m) (hv:s.ok R v):(sB (.l b)).ok R' v:=by
 unfold gD at hs
 split at hs
 ·have hv:v=.bool _:=hv
  rw [hv,hs];rfl
 ·exact hs.elim
def D6 (ts:Array Value):Prop:=∀ x∈af ts,dx (aG ts) x≤6
set_option linter.unusedVariables false
def OD (ts:Array Value):Prop:=∀ x,aB ts x=true→cg ts x=0∨jw (aF ts) (cg ts x)
structure FV (ts:Array Value):Prop where
 f:ay ts
 d:D6 ts
 o:OD ts
def oo:Option Value→Option Value→Bool
 | some (.int k a),some (.int k' b)=>decide (k=k')&&decide (a=b)
 | some (.slice none 0 0),some (.slice none 0 0)=>true
 | _,_=>false
theorem oO {a b:Option Value} (h:oo a b=true):a=b:=by
 unfold oo at h
 split at h
 ·simp only [Bool.and_eq_true,decide_eq_true_eq] at h
  rw [h.1,h.2]
 ·rfl
 ·cases h
theorem Y9:∀ i,i<32→oo (zT[i*2]?) (some (.int .u32 0))=true∧oo (zT[i*2+1]?) (some (.int .u8 0))=true:=by decide +kernel
theorem ab_:∀ i,i<32→∀ k,k<12→oo (zT[64+i*12+k]?) ((gT 0 0 0 fun _=>0)[k]?)=true:=by decide +kernel
theorem FA {i:Nat} (hi:i<32):(aF zT)[i*2]?=some (.int .u32 0)∧(aF zT)[i*2+1]?=some (.int .u8 0):=by
 obtain ⟨h1,h2⟩:=Y9 i hi
 have h1:=oO h1
 have h2:=oO h2
 have hs:=uk
 unfold aF
 rw [ext_get (by omega) (by omega),ext_get (by omega) (by omega),Nat.zero_add,Nat.zero_add]
 exact ⟨h1,h2⟩
theorem DC {i:Nat} (hi:i<32):cB (aF zT) i=0:=bI (FA hi).2
theorem SX {i:Nat} (hi:i<32):cw (aF zT) i=0:=bI (FA hi).1
theorem aav:bP (aF zT):=by
 refine ⟨by unfold aF;rw [rN (by rw [uk];decide)],fun i hi=>bw (FA hi).1,fun i hi=>bw (FA hi).2,fun i hi=>?_,fun i hi=>?_⟩
 ·rw [SX hi];exact ⟨by decide,by decide⟩
 ·rw [DC hi];exact ⟨by decide,by decide⟩
theorem LY:aM zT:=⟨uk,aav,fun i hi=>(DD (us:=zT) (p:=64+i*12) (u:=0) (q:=0) (c:=fun _=>0) (fun k hk=>oO (ab_ i hi k hk)) ⟨by decide,by decide⟩ ⟨by decide,by decide⟩ (fun _ _=>⟨by decide,by decide⟩)).1⟩
theorem LZ (x:Int):aB zT x=false:=by
 cases c:aB zT x with
 | false=>rfl
 | true =>
  obtain ⟨_,_,s3,s4,_⟩:=dX LY c
  rw [DC s3] at s4
  exact absurd s4 (by decide)
theorem adP:af zT=[]:=by
 cases e:af zT with
 | nil=>rfl
 | cons a l =>
  have:a∈af zT:=by rw [e];exact List.mem_cons_self ..
  have:=(bU LY).1 this
  rw [LZ] at this
  cases this
theorem Qs:FV zT:=by
 refine ⟨ab' LY fun x hx=>?_,fun x hx=>?_,fun x hx=>?_⟩
 ·rw [LZ] at hx;cases hx
 ·rw [adP] at hx;cases hx
 ·rw [LZ] at hx;cases hx
section
variable {ts:Array Value} {h:Int}
theorem HI (hb:aM ts) {x:Int} (hx:aB ts x=true):jw (aF ts) x:=by
 obtain ⟨i,hi,hk,e⟩:=(lN hb.bk).1 hx
 exact ⟨i,cw (aF ts) i,hi,(hb.bk.ra i hi).1,e,.inr ⟨rfl,by rw [hk];decide⟩⟩
theorem XJ {up up':Int→Int} {x y:Int} (h:cm up' x=cm up y):gE up' x=gE up y:=by unfold gE;rw [h]
theorem SY (hv:FV ts) (hg:aB ts h=true):FV (gA ts h)∧aF (gA ts h)=aF ts∧∀ x∈bn ts h,aB (gA ts h) x=true∧aO (gA ts h) x=h∧∀ k,k<8→bL (gA ts h) x k=gu ts h (bL ts x k):=by
 have hb:=hv.f.ok
 obtain ⟨k1,k2,k3,k4,k5⟩:=DE hv.f hg
 have hl:h∈af ts:=(bU hb).2 hg
 have kK:=qn k2
 have hl':h∈af (bz ts h 0):=by rw [kK];exact hl
 have eT:gA ts h=dU ts h (bz ts h 0) (bn (bz ts h 0) h):=if_pos hg
 obtain ⟨c1,c2,c3⟩:=FB (ts:=ts) (h:=h) (bn (bz ts h 0) h) k1.ok (fun x hx=>(bU k1.ok).1 (mA k1.fo h hl' x hx).1)
 obtain ⟨r1,r2,r3,r4,r5⟩:=r8 (u:=0) hb hg ⟨by decide,by decide⟩
 rw [eT]
 have yK:=c2.trans k2
 have GB:∀ x∈af (bz ts h 0),aG (dU ts h (bz ts h 0) (bn (bz ts h 0) h)) x=aG (bz ts h 0) x:=fun x hx=>r9 c2 (c3 x ((bU k1.ok).1 hx)).1
 obtain ⟨f1,f2⟩:=Qt k1.fo GB
 have TG:af (dU ts h (bz ts h 0) (bn (bz ts h 0) h))=af (bz ts h 0):=qn c2
 refine ⟨⟨⟨c1,by rw [TG];exact f1⟩,fun x hx=>?_,fun x hx=>?_⟩,yK,fun x hx=>?_⟩
 ·rw [TG] at hx
  have e:=f2 x (.inr hx)
  rw [kK] at hx
  have:dx (aG (dU ts h (bz ts h 0) (bn (bz ts h 0) h))) x=dx (aG (bz ts h 0)) x:=by unfold dx;rw [e]
  rw [this]
  exact Nat.le_trans (k3 x hx) (hv.d x hx)
 ·rw [iJ yK] at hx
  rw [(c3 x (by rw [iJ k2];exact hx)).1,yK]
  by_cases e:x=h
  ·rw [e,r3];exact .inl rfl
  ·rw [r4 x hx e];exact hv.o x hx
 ·obtain ⟨x1,x2⟩:=mA hv.f.fo h hl x hx
  have xg:=(bU hb).1 x1
  have Uq:x∈af (bz ts h 0):=by rw [kK];exact x1
  have Ur:aB (dU ts h (bz ts h 0) (bn (bz ts h 0) h)) x=true:=by rw [iJ yK];exact xg
  refine ⟨Ur,?_,fun k hk=>?_⟩
  ·unfold aO
   rw [if_pos Ur,XJ (f2 x (.inr Uq))]
   exact k5 x (.inr x1) x2
  ·have hm:x∈bn (bz ts h 0) h:=(tS k1.fo hl').2 ⟨Uq,(k4 x (.inr x1)).2 x2⟩
   rw [(c3 x (by rw [iJ k2];exact xg)).2.2 k hk,if_pos hm,(r5 x).2 k hk]
theorem aaw (hv:FV ts) (h:Int):FV (gA ts h):=by
 cases hg:aB ts h with
 | true=>exact (SY hv hg).1
 | false=>unfold gA;rw [hg];exact hv
theorem Qu (hv:FV ts) {u:Int} (hu:aN u):FV (gW ts h u)∧(eZ ts h u=0→aO (gW ts h u) h=aO ts u∧aB ts h=true∧aF (gW ts h u)=aF ts):=by
 by_cases hE:eZ ts h u=0
 rotate_left
 ·have e:gW ts h u=ts:=by unfold gW;rw [if_neg hE]
  rw [e]
  exact ⟨hv,fun k=>absurd k hE⟩
 have hb:=hv.f.ok
 have eT:gW ts h u=bz ts h u:=by unfold gW;rw [if_pos hE]
 unfold eZ at hE
 split at hE
 ·exact absurd hE (by decide)
 rename_i n1
 split at hE
 ·exact absurd hE (by decide)
 rename_i n2
 split at hE
 rotate_left
 ·exact absurd hE (by decide)
 rename_i h6
 rw [not_or] at n1 n2
 have hg:aB ts h=true:=by cases c:aB ts h with | true=>rfl | false=>exact absurd c n1.1
 have cA:aB ts u=true:=by cases c:aB ts u with | true=>rfl | false=>exact absurd c n1.2
 have hr:aO ts h=h:=Decidable.not_not.1 n2.1
 have ho:fm ts h u≠true:=n2.2
 have hl:=(bU hb).2 hg
 have B_:=(bU hb).2 cA
 obtain ⟨r1,r2,r3,r4,r5⟩:=r8 (u:=u) hb hg hu
 have er:aO ts h=gE (aG ts) h:=if_pos hg
 have yL:aG ts h=0:=(zP hv.f.fo hl).1 (by rw [← er];exact hr)
 have hnot:h∉cm (aG ts) u:=fun k=>ho (by unfold fm;rw [cA,decide_eq_true k];rfl)
 have h0:aG (bz ts h u) h=u:=by unfold aG;rw [iJ r2,iJ r2,r3,if_pos hg,if_pos cA]
 have yM:∀ x∈af ts,x≠h→aG (bz ts h u) x=aG ts x:=fun x hx hne=>r9 r2 (r4 x ((bU hb).1 hx) hne)
 have MZ:∀ x∈af ts,h∈cm (aG ts) x→dx (aG ts) x+dx (aG ts) u≤6:=fun x hx hc=>by
  have:=h6 x ((tS hv.f.fo hl).2 ⟨hx,hc⟩)
  unfold aY at this
  rw [if_pos ((bU hb).1 hx),if_pos cA] at this
  exact this
 obtain ⟨f1,f2,f3⟩:=Pe hv.f.fo hl yL B_ hnot h0 yM (fun x hx hc=>by have:=MZ x hx hc;omega)
 have kK:=qn r2
 rw [eT]
 refine ⟨⟨⟨r1,by rw [kK];exact f1⟩,fun x hx=>?_,fun x hx=>?_⟩,fun _=>⟨?_,hg,r2⟩⟩
 ·rw [kK] at hx
  unfold dx
  by_cases c:h∈cm (aG ts) x
  ·rw [f3 x (.inr hx) c,List.length_append]
   exact MZ x hx c
  ·rw [f2 x (.inr hx) c]
   exact hv.d x hx
 ·rw [iJ r2] at hx
  rw [r2]
  by_cases e:x=h
  ·rw [e,r3];exact .inr (HI hb cA)
  ·rw [r4 x hx e];exact hv.o x hx
 ·unfold aO
  rw [iJ r2,if_pos hg,if_pos cA]
  exact XK hv.f.fo f1 hl B_ hnot h0 yM
theorem Y_ (hv:FV ts) (hg:aB ts h=true):FV (gF ts h):=by
 have hb:=hv.f.ok
 obtain ⟨r1,r2,r3,r4⟩:=wR hb hg
 have hm:∀ x,x∈af (gF ts h)↔x∈af ts∧x≠h:=fun x=>by
  rw [bU r1,bU hb,r3,Bool.and_eq_true,Bool.not_eq_true',decide_eq_false_iff_not]
 have GB:∀ x∈af (gF ts h),aG (gF ts h) x=if aG ts x=h then 0 else aG ts x:=fun x hx=>by
  obtain ⟨k1,k2⟩:=(hm x).1 hx
  exact Qv hb hg ((bU hb).1 k1) k2
 obtain ⟨f1,f2⟩:=Jv (L':=af (gF ts h)) (up':=aG (gF ts h)) hv.f.fo (zh r1.bk) (fun x hx=>((hm x).1 hx).1) (fun x hx=>by
  rw [GB x hx]
  split
  ·exact .inr rfl
  ·exact .inl rfl) (fun x hx=>by
  rw [GB x hx]
  split
  ·exact .inl rfl
  ·rename_i c
   rcases hv.f.fo.cl x ((hm x).1 hx).1 with k | k
   ·exact .inl k
   ·exact .inr ((hm _).2 ⟨k,c⟩))
 refine ⟨⟨r1,f1⟩,fun x hx=>Nat.le_trans (f2 x hx) (hv.d x ((hm x).1 hx).1),fun x hx=>?_⟩
 have hx':=(bU r1).2 hx
 obtain ⟨k1,k2⟩:=(hm x).1 hx'
 have kg:=(bU hb).1 k1
 rw [(r4 x kg k2).1,r2]
 exact (hv.o x kg).imp id VY
where
 VY {x:Int}:jw (aF ts) x→jw (gH (aF ts) h) x:=fun k=>Om hv.f.ok.bk k
theorem SZ:∀ (o:List Int) {ts:Array Value},FV ts→o.Nodup→(∀ x∈o,aB ts x=true)→FV (iP ts o)∧∀ x,aB (iP ts o) x=(aB ts x&&!decide (x∈o))
 | [],ts,hv,_,_=>⟨hv,fun x=>by simp [iP]⟩
 | y :: o,ts,hv,hn,hg=>by
  have Ca:=hg y (List.mem_cons_self ..)
  obtain ⟨n1,n2⟩:=List.nodup_cons.1 hn
  have e:gG ts y=gF ts y:=if_pos Ca
  obtain ⟨_,_,r3,_⟩:=wR hv.f.ok Ca
  have key:=SZ o (ts:=gF ts y) (Y_ hv Ca) n2 fun x hx=>by
   rw [r3,hg x (List.mem_cons_of_mem _ hx),decide_eq_false (fun k=>n1 (by rw [← k];exact hx))]
   rfl
  show FV (iP (gG ts y) o)∧∀ x,aB (iP (gG ts y) o) x=_
  rw [e]
  refine ⟨key.1,fun x=>?_⟩
  rw [key.2,r3]
  by_cases c:x=y
  ·simp [c]
  ·by_cases d:x∈o
   ·simp [c,d]
   ·simp [c,d]
theorem aax (hv:FV ts) (hg:aB ts h=true):FV (gY ts h)∧(af ts).length=(aJ ts h).length+(af (gY ts h)).length:=by
 have hb:=hv.f.ok
 have hl:=(bU hb).2 hg
 have eU:aJ ts h=bn ts h:=if_pos hg
 have hn:(aJ ts h).Nodup:=by rw [eU];exact Pf hv.f.fo h hl
 have hsub:∀ x∈aJ ts h,x∈af ts:=fun x hx=>by rw [eU] at hx;exact (mA hv.f.fo h hl x hx).1
 obtain ⟨k1,k2⟩:=SZ (aJ ts h) hv hn fun x hx=>(bU hb).1 (hsub x hx)
 have k1:FV (gY ts h):=k1
 refine ⟨k1,?_⟩
 have hm:∀ x,x∈af (gY ts h)↔x∈af ts∧x∉aJ ts h:=fun x=>by
  rw [bU k1.f.ok,bU hb]
  show aB (iP ts (aJ ts h)) x=true↔_
  rw [k2,Bool.and_eq_true,Bool.not_eq_true',decide_eq_false_iff_not]
 have hnd:(aJ ts h++af (gY ts h)).Nodup:=by
  rw [List.nodup_append]
  refine ⟨hn,zh k1.f.ok.bk,fun a ha b hb' e=>?_⟩
  rw [e] at ha
  exact ((hm b).1 hb').2 ha
 rw [← List.length_append]
 refine Nat.le_antisymm (CT (zh hb.bk) fun x hx=>?_) (CT hnd fun x hx=>?_)
 ·by_cases c:x∈aJ ts h
  ·exact List.mem_append_left _ c
  ·exact List.mem_append_right _ ((hm x).2 ⟨hx,c⟩)
 ·rcases List.mem_append.1 hx with c | c
  ·exact hsub x c
  ·exact ((hm x).1 c).1
theorem aay (hv:FV ts) {u q:Int} (hu:aN u):FV (gC ts u q):=by
 by_cases hE:gR ts u q=0
 rotate_left
 ·have e:gC ts u q=ts:=by unfold gC;rw [if_neg hE]
  rw [e];exact hv
 have hb:=hv.f.ok
 have eT:gC ts u q=fL ts u q:=by unfold gC;rw [if_pos hE]
 unfold gR at hE
 split at hE
 ·exact absurd hE (by decide)
 rename_i n1
 have aft:aY ts u≤5:=by
  rcases Nat.lt_or_ge (aY ts u) 6 with c | c
  ·omega
  ·exact absurd ⟨.inl hE,c⟩ n1
 unfold newE at hE
 split at hE
 ·exact absurd hE (by decide)
 rename_i n2
 split at hE
 rotate_left
 ·exact absurd hE (by decide)
 rename_i hq
 split at hE
 rotate_left
 ·exact absurd hE (by decide)
 rename_i ho
 have vK:u=0∨u∈af ts:=by
  by_cases c:u=0
  ·exact .inl c
  ·refine .inr ((bU hb).2 ?_)
   cases d:aB ts u with
   | true=>rfl
   | false=>exact absurd ⟨c,d⟩ n2
 obtain ⟨r1,r2,r3,r4,r5⟩:=FC hb ho (u:=u) (q:=q) hu hq
 obtain ⟨i1,i2,_⟩:=I8 hb ho
 have hdu:dx (aG ts) u≤5:=by
  rcases vK with c | c
  ·rw [c,wD];omega
  ·have e:aY ts u=dx (aG ts) u:=if_pos ((bU hb).1 c)
   omega
 have hm:∀ x,x∈af (fL ts u q)↔x∈af ts∨x=ct (aF ts):=fun x=>by
  rw [bU r1,bU hb,r3,Bool.or_eq_true,decide_eq_true_eq]
 have hc:ct (aF ts)∉af ts:=fun k=>by
  rw [bU hb,i1] at k;cases k
 have h0:aG (fL ts u q) (ct (aF ts))=u:=by
  have g:aB (fL ts u q) (ct (aF ts))=true:=by rw [r3,decide_eq_true rfl,Bool.or_true]
  unfold aG
  rw [if_pos g,r4.1]
  rcases vK with c | c
  ·rw [c];split <;> rfl
  ·rw [if_pos (by rw [r3,(bU hb).1 c];rfl)]
 have yM:∀ x∈af ts,aG (fL ts u q) x=aG ts x:=fun x hx=>by
  have g:=(bU hb).1 hx
  have g':aB (fL ts u q) x=true:=by rw [r3,g];rfl
  have hne:cg ts x≠ct (aF ts):=fun k=>by
   rcases hv.o x g with c | c
   ·exact i2 (k.symm.trans c)
   ·rw [k] at c
    exact (H9 hb.bk ho).2 c
  unfold aG
  rw [if_pos g,if_pos g',(r5 x g).1,r3,decide_eq_false hne,Bool.or_false]
 obtain ⟨f1,f2,f3⟩:=aaz hv.f.fo (zh r1.bk) hm hc i2 vK h0 yM (by omega)
 rw [eT]
 refine ⟨⟨r1,f1⟩,fun x hx=>?_,fun x hx=>?_⟩
 ·rcases (hm x).1 hx with k | k
  ·unfold dx
   rw [f2 x (.inr k)]
   exact hv.d x k
  ·rw [k,f3];omega
 ·rcases (hm x).1 ((bU r1).2 hx) with k | k
  ·have g:=(bU hb).1 k
   rw [(r5 x g).1,r2]
   exact (hv.o x g).imp id fun k=>Hv hb.bk k
  ·rw [k,r4.1,r2]
   rcases vK with c | c
   ·exact .inl c
   ·exact .inr (Hv hb.bk (HI hb ((bU hb).1 c)))
theorem aaA (hv:FV ts) (hg:aB ts h=true) {rr:Array Value} (hr:lg rr 0):FV (gq ts h rr):=by
 have hb:=hv.f.ok
 obtain ⟨r1,r2,r3,_⟩:=Km hb hg hr
 have kK:=qn r2
 obtain ⟨f1,f2⟩:=Qt (up':=aG (gq ts h rr)) hv.f.fo fun x hx=>r9 r2 (r3 x ((bU hb).1 hx))
 refine ⟨⟨r1,by rw [kK];exact f1⟩,fun x hx=>?_,fun x hx=>?_⟩
 ·rw [kK] at hx
  unfold dx
  rw [f2 x (.inr hx)]
  exact hv.d x hx
 ·rw [iJ r2] at hx
  rw [r3 x hx,r2]
  exact hv.o x hx
end
set_option linter.unusedVariables false
def cZ (ws:Array Value) (i:Nat):Int:=aa ws i
def gv (ws:Array Value) (i:Nat):Int:=aa ws (32+i)
structure WB (ws:Array Value):Prop where
 sz:ws.size=64
 g:∀ i,i<32→aA .i64 ws i
 s:∀ i,i<32→aA .i64 ws (32+i)
 rg:∀ i,i<32→0≤cZ ws i∧cZ ws i≤8388607
 rs:∀ i,i<32→0≤gv ws i∧gv ws i≤2
noncomputable def s8 (ws:Array Value):SV:=.s (.agg (.op ws))
def m6 (ws:Array Value) (h:Int):Nat→Nat→Int | 0,_=>-1 | k+1,i=>if gv ws i=1∧cW i (cZ ws i)=h then (i:Int) else m6 ws h k (i+1)
def aQ (ws:Array Value) (h:Int):Int:=m6 ws h 32 0
noncomputable def nT (g:FuncId) (l:List SV) (m:aj):Option Tree:=match g,l with
 | 54,[.s (.agg (.op ws)),.s (.c (.f (.int .i64 i)))]=>some (.need [WB ws,0≤i.den∧i.den<32] (.ret (i64 (.o (cW i.den.toNat (cZ ws i.den.toNat)))) m))
 | g,l=>Ar g l m
noncomputable def Ut:Env:=⟨Tryz.prog,dg,Ar,dy []⟩
noncomputable def vN:Env:=⟨Tryz.prog,dg,nT,dy [38*1000+2,92*1000+2]⟩
noncomputable def qo:List bh:=cY Tryz.f38 2
noncomputable def x8 (ws:Array Value) (h:Int) (i:Int):List av:=[dw 38 Tryz.f38 [(1,i64 (.o h)),(2,ptr 0 (.l 0)),(5,i64 (.o i))] qo]
noncomputable def x9 (ws:Array Value) (h:Int) (i:Int):aj:=cD 1 [(0,⟨.op ws,42,true⟩)]
def FI (ws:Array Value) (h:Int) (Q:Int→Prop) (fs:List av) (m:aj):Prop:=(match b9 fs 0 with | some f0=>(match dh f0 5 with | some i=>(match aV f0 2 with | some p0=>Q i∧cV 0 [(0,p0)] (x8 ws h i) (x9 ws h i) fs m | none=>False) | none=>False) | none=>False)
noncomputable def uq:List bh:=cY Tryz.f92 2
noncomputable def x_ (ws:Array Value) (i:Int) (zz:Array Value):List av:=[dw 92 Tryz.f92 [(1,ptr 0 (.l 0)),(2,ptr 1 (.l 0)),(4,i64 (.o i))] uq]
noncomputable def yc (ws:Array Value) (i:Int) (zz:Array Value):aj:=cD 2 [(0,⟨.op ws,42,true⟩),(1,⟨.op zz,42,true⟩)]
def FJ (ws:Array Value) (Q:Int→Array Value→Prop) (fs:List av) (m:aj):Prop:=(match b9 fs 0 with | some f0=>(match dh f0 4 with | some i=>(match aV f0 1 with | some p0=>(match aV f0 2 with | some p1=>(match cO m p1 with | some zz=>Q i zz∧cV 0 [(0,p0),(1,p1)] (x_ ws i zz) (yc ws i zz) fs m | none=>False) | none=>False) | none=>False) | none=>False) | none=>False)
noncomputable def acm (ws:Array Value) (h:Int):Tree:=run vN 1000 0 [a_ 38 Tryz.f38.ntmps [s8 ws,i64 (.o h)] (Tryz.f38.body.getD .skip)] aT
def Kr (ws:Array Value) (h:Int) (qY:Int→Prop) (fs:List av) (m:aj):Prop:=FI ws h qY fs m
noncomputable def acn (ws:Array Value) (h:Int) (i:Int):Tree:=stepT vN.go (run vN 1000) 0 (x8 ws h i) (x9 ws h i)
def Ks (ws:Array Value) (h:Int) (i:Int) (qY:Int→Prop) (fs:List av) (m:aj):Prop:=FI ws h qY fs m
noncomputable def aco (ws:Array Value):Tree:=run vN 1000 0 [a_ 92 Tryz.f92.ntmps [s8 ws] (Tryz.f92.body.getD .skip)] aT
def Kt (ws:Array Value) (qZ:Int→Array Value→Prop) (fs:List av) (m:aj):Prop:=FJ ws qZ fs m
noncomputable def acp (ws:Array Value) (i:Int) (zz:Array Value):Tree:=stepT vN.go (run vN 1000) 0 (x_ ws i zz) (yc ws i zz)
def Ku (ws:Array Value) (i:Int) (zz:Array Value) (qZ:Int→Array Value→Prop) (fs:List av) (m:aj):Prop:=FJ ws qZ fs m
theorem Ia (r:Nat→Option Nat):ak r qo qo:=ak.it (by kernel_rfl)
theorem Pn (r:Nat→Option Nat):ak r uq uq:=ak.it (by kernel_rfl)
theorem Qz {A:SV→aj→Prop} {ws:Array Value} {h:Int} {Q:Int→Prop} {fs:List av} {m:aj} (H:∀ i,Q i→Good Tryz.prog A 0 (x8 ws h i) (x9 ws h i)) (hb:FI ws h Q fs m):Good Tryz.prog A 0 fs m:=by
 unfold FI at hb
 iterate 3 (split at hb;rotate_left;exact hb.elim)
 exact Good.c_ hb.2 (H _ hb.1)
theorem QC {A:SV→aj→Prop} {ws:Array Value} {Q:Int→Array Value→Prop} {fs:List av} {m:aj} (H:∀ i zz,Q i zz→Good Tryz.prog A 0 (x_ ws i zz) (yc ws i zz)) (hb:FJ ws Q fs m):Good Tryz.prog A 0 fs m:=by
 unfold FJ at hb
 iterate 5 (split at hb;rotate_left;exact hb.elim)
 exact Good.c_ hb.2 (H _ _ hb.1)
theorem aaE {A:SV→aj→Prop} {ws:Array Value} {h:Int} {qY:Int→Prop} {fs:List av} {m:aj} (M3:∀ i',qY i'→Good Tryz.prog A 0 (x8 ws h i') (x9 ws h i')) (hb:Kr ws h qY fs m):Good Tryz.prog A 0 fs m:=by
 unfold Kr at hb
 exact Qz M3 hb
theorem Jx {A:SV→aj→Prop} {ws:Array Value} {h:Int} {i:Int} {qY:Int→Prop} {fs:List av} {m:aj} (M3:∀ i',qY i'→Good Tryz.prog A 0 (x8 ws h i') (x9 ws h i')) (hb:Ks ws h i qY fs m):Good Tryz.prog A 0 fs m:=by
 unfold Ks at hb
 exact Qz M3 hb
theorem aaF {A:SV→aj→Prop} {ws:Array Value} {qZ:Int→Array Value→Prop} {fs:List av} {m:aj} (M4:∀ i' fB,qZ i' fB→Good Tryz.prog A 0 (x_ ws i' fB) (yc ws i' fB)) (hb:Kt ws qZ fs m):Good Tryz.prog A 0 fs m:=by
 unfold Kt at hb
 exact QC M4 hb
theorem Jy {A:SV→aj→Prop} {ws:Array Value} {i:Int} {zz:Array Value} {qZ:Int→Array Value→Prop} {fs:List av} {m:aj} (M4:∀ i' fB,qZ i' fB→Good Tryz.prog A 0 (x_ ws i' fB) (yc ws i' fB)) (hb:Ku ws i zz qZ fs m):Good Tryz.prog A 0 fs m:=by
 unfold Ku at hb
 exact QC M4 hb
set_option maxRecDepth 100000
theorem of0 (ws:Array Value) (i:Int) (o:Int):(run Ut 1000 0 [a_ 54 Tryz.f54.ntmps [s8 ws,i64 (.o i)] (Tryz.f54.body.getD .skip)] aT).vc (bM 0 [] (i64 (.o o)) aT) (fun _ _=>False) =
  (((0≤i∧i<32)∧True)∧(aA .i64 ws (0+i.toNat*1)∧True)∧o=ah .add .i64 (ah .add .i64 i (ah .mul .i64 (256:Int) (aa ws (0+i.toNat*1)))) (1:Int)∧True):=by kernel_rfl
theorem adZ (ws:Array Value) (h o:Int) (Q:Int→Prop):(acm ws h).vc (bM 0 [] (i64 (.o o)) aT) (Kr ws h Q) =
  (Q (0:Int)∧cN∧ak (aD 0 [(0,0)]) qo qo∧h=h∧(0:Int)=(0:Int)∧42=42∧ws=ws∧True):=by kernel_rfl
theorem L1 (ws:Array Value) (h i o:Int) (Q:Int→Prop):(acn ws h i).vc (bM 0 [] (i64 (.o o)) aT) (Ks ws h i Q) =
  ((decide (i<32)=true→((0≤i∧i<32)∧True)∧(aA .i64 ws (32+i.toNat*1)∧True)∧(((aa ws (32+i.toNat*1)==1)==true)=true→(ws.size=64∧True)∧(WB ws∧(0≤i∧i<32)∧True)∧((cW (i.toNat) (cZ ws (i.toNat))==h)=true→o=i∧True)∧((cW (i.toNat) (cZ ws (i.toNat))==h)=false→Q (ah .add .i64 i 1)∧cN∧ak (aD 0 [(0,0)]) qo qo∧h=h∧ah .add .i64 i 1=ah .add .i64 i 1∧42=42∧ws=ws∧True))∧(((aa ws (32+i.toNat*1)==1)==true)=false→Q (ah .add .i64 i 1)∧cN∧ak (aD 0 [(0,0)]) qo qo∧h=h∧ah .add .i64 i 1=ah .add .i64 i 1∧42=42∧ws=ws∧True))∧(decide (i<32)=false→o=(-1:Int)∧True)):=by kernel_rfl
noncomputable def DG:Array Value:=#[Value.int .i64 0,Value.int .i64 0,Value.int .i64 0,Value.int .i64 0,Value.int .i64 0,Value.int .i64 0,Value.int .i64 0,Value.int .i64 0,Value.int .i64 0,Value.int .i64 0,Value.int .i64 0,Value.int .i64 0,Value.int .i64 0,Value.int .i64 0,Value.int .i64 0,Value.int .i64 0,Value.int .i64 0,Value.int .i64 0,Value.int .i64 0,Value.int .i64 0,Value.int .i64 0,Value.int .i64 0,Value.int .i64 0,Value.int .i64 0,Value.int .i64 0,Value.int .i64 0,Value.int .i64 0,Value.int .i64 0,Value.int .i64 0,Value.int .i64 0,Value.int .i64 0,Value.int .i64 0,Value.int .i64 0,Value.int .i64 0,Value.int .i64 0,Value.int .i64 0,Value.int .i64 0,Value.int .i64 0,Value.int .i64 0,Value.int .i64 0,Value.int .i64 0,Value.int .i64 0,Value.int .i64 0,Value.int .i64 0,Value.int .i64 0,Value.int .i64 0,Value.int .i64 0,Value.int .i64 0,Value.int .i64 0,Value.int .i64 0,Value.int .i64 0,Value.int .i64 0,Value.int .i64 0,Value.int .i64 0,Value.int .i64 0,Value.int .i64 0,Value.int .i64 0,Value.int .i64 0,Value.int .i64 0,Value.int .i64 0,Value.int .i64 0,Value.int .i64 0,Value.int .i64 0,Value.int .i64 0]
theorem ad0 (ws:Array Value) (o:Array Value) (h:Int) (Q:Int→Array Value→Prop):(aco ws).vc (bM 0 [] (.bW [.agg (.op o),.c (.f (.int .i64 (.o h)))]) aT) (Kt ws Q) =
  (Q (0:Int) (DG)∧cN∧ak (aD 0 [(0,0),(1,1)]) uq uq∧(0:Int)=(0:Int)∧42=42∧ws=ws∧42=42∧(DG)=(DG)∧True):=by kernel_rfl
noncomputable def oQ (ws:Array Value) (i:Int):Array Value:=Array.setIfInBounds ws (32+i.toNat*1) (Value.int .i64 1)
theorem L2 (ws:Array Value) (i:Int) (zz:Array Value) (o:Array Value) (h:Int) (Q:Int→Array Value→Prop):(acp ws i zz).vc (bM 0 [] (.bW [.agg (.op o),.c (.f (.int .i64 (.o h)))]) aT) (Ku ws i zz Q) =
  ((decide (i<32)=true→((0≤i∧i<32)∧True)∧(aA .i64 ws (32+i.toNat*1)∧True)∧((aa ws (32+i.toNat*1)==0)=true→((0≤i∧i<32)∧True)∧(32+i.toNat*1<ws.size∧True)∧((oQ ws i).size=64∧True)∧((oQ ws i).size=64∧True)∧(WB (oQ ws i)∧(0≤i∧i<32)∧True)∧((oQ ws i).size=64∧(oQ ws i).size=zz.size∧True)∧((oQ ws i).size=64∧True)∧o=Array.setIfInBounds ws (32+i.toNat*1) (Value.int .i64 1)∧h=cW (i.toNat) (cZ (oQ ws i) (i.toNat))∧True)∧((aa ws (32+i.toNat*1)==0)=false→Q (ah .add .i64 i 1) zz∧cN∧ak (aD 0 [(0,0),(1,1)]) uq uq∧ah .add .i64 i 1=ah .add .i64 i 1∧42=42∧ws=ws∧42=42∧zz=zz∧True))∧(decide (i<32)=false→(ws.size=64∧True)∧(ws.size=64∧ws.size=zz.size∧True)∧(ws.size=64∧True)∧o=ws∧h=0∧True)):=by kernel_rfl
set_option linter.unusedVariables false
theorem aaT:bf Ut:=bf.with aU _ _ H8
section
variable {ws:Array Value}
theorem aaU {i:Nat} (hi:i<32) {g:Int} (hg:0≤g∧g≤8388607):ah .add .i64 (ah .add .i64 (i:Int) (ah .mul .i64 256 g)) 1=cW i g:=by
 have e1:ah .mul .i64 256 g=256*g:=by rw [Qx,cC (by omega) (by omega)]
 have e2:ah .add .i64 (i:Int) (256*g)=(i:Int)+256*g:=by rw [dn,cC (by omega) (by omega)]
 rw [e1,e2,dn,cC (by omega) (by omega)]
 unfold cW
 omega
theorem Zg (i:Int) (m:aj):aq E0 54 [s8 ws,i64 (.o i)] m (bu [WB ws,0≤i∧i<32] (.ret (i64 (.o (cW i.toNat (cZ ws i.toNat)))) m)):=by
 refine aq.pure aU (by kernel_rfl:E0.fn 54=some Tryz.f54) (by kernel_rfl:Tryz.f54.body=some (Tryz.f54.body.getD .skip)) (by kernel_rfl) (by kernel_rfl) fun hq=>?_
 have hw:WB ws:=hq _ (by simp)
 have hi:0≤i∧i<32:=hq _ (by simp)
 refine (Good.ret [] (bA aaT 1000 (of0 ws i (cW i.toNat (cZ ws i.toNat))) ?_ (fun s m h=>h) fun _ _ h=>h.elim)).mono fun _ _ h=>h.1
 obtain ⟨j,rfl⟩:∃ j:Nat,i=(j:Int):=⟨i.toNat,by omega⟩
 have hj:j<32:=by omega
 have e:=aaU hj (hw.rg j hj)
 have g:=hw.g j hj
 unfold cZ at e ⊢
 simp only [hi,g,e,and_true,true_and,q7]
theorem oC:∀ g l m t,nT g l m=some t→aq E0 g l m t:=by
 intro g l m t h
 unfold nT at h
 split at h
 ·rename_i ws i;cases h
  exact aq.n1 (Zg i.den m)
 ·exact H8 _ _ _ _ h
theorem rV:bf vN:=bf.with aU _ _ oC
theorem acA (hw:WB ws) (h:Int):∀ (n i:Nat),i+n=32→Good Tryz.prog (bM 0 [] (i64 (.o (m6 ws h n i))) aT) 0 (x8 ws h (i:Int)) (x9 ws h (i:Int)):=by
 intro n
 induction n with
 | zero =>
  intro i hi
  obtain rfl:i=32:=by omega
  refine bD rV 1000 (L1 ws h _ _ (fun _=>False)) ?_ (fun _ _ h=>h) (fun fs m hb=>Jx (fun _ h=>h.elim) hb)
  have d:decide (((32:Nat):Int)<32)=false:=rfl
  simp only [d,decide_true,q6]
  rfl
 | succ n ih =>
  intro i hi
  have hi':i<32:=by omega
  have y0:0≤(i:Int):=by omega
  have y1:(i:Int)<32:=by omega
  have d:decide ((i:Int)<32)=true:=decide_eq_true y1
  have ei:ah .add .i64 (i:Int) 1=((i+1:Nat):Int):=by rw [dn,cC (by omega) (by omega)];omega
  have g:=hw.s i hi'
  have hs:=hw.sz
  have ek:aa ws (32+i)=gv ws i:=rfl
  have eF:m6 ws h (n+1) i=if gv ws i=1∧cW i (cZ ws i)=h then (i:Int) else m6 ws h n (i+1):=rfl
  by_cases c:gv ws i=1∧cW i (cZ ws i)=h
  ·rw [eF,if_pos c]
   refine bD rV 1000 (L1 ws h (i:Int) (i:Int) (fun _=>False)) ?_ (fun _ _ h=>h) (fun fs m hb=>Jx (fun _ h=>h.elim) hb)
   have c1:(gv ws i==1)=true:=beq_iff_eq.2 c.1
   have c2:(cW i (cZ ws i)==h)=true:=beq_iff_eq.2 c.2
   simp only [d,y0,y1,g,hs,hw,ek,c1,c2,dJ,cF,decide_true,q7,q6]
  ·rw [eF,if_neg c]
   refine bD rV 1000 (L1 ws h (i:Int) (m6 ws h n (i+1)) (fun i'=>i'=((i+1:Nat):Int))) ?_ (fun _ _ h=>h) (fun fs m hb=>Jx (fun i' e=>by rw [e];exact ih (i+1) (by omega)) hb)
   by_cases k:gv ws i=1
   ·have c1:(gv ws i==1)=true:=beq_iff_eq.2 k
    have c2:(cW i (cZ ws i)==h)=false:=beq_eq_false_iff_ne.2 fun e=>c ⟨k,e⟩
    simp only [d,ei,y0,y1,g,hs,hw,ek,c1,c2,dJ,cF,decide_true,Ia,q7,q6]
   ·have c1:(gv ws i==1)=false:=beq_eq_false_iff_ne.2 k
    simp only [d,ei,y0,y1,g,hs,hw,ek,c1,dJ,cF,decide_true,Ia,q7,q6]
theorem Oz (h:Int) (m:aj):aq E0 38 [s8 ws,i64 (.o h)] m (bu [WB ws] (.ret (i64 (.o (aQ ws h))) m)):=by
 refine aq.pure aU (by kernel_rfl:E0.fn 38=some Tryz.f38) (by kernel_rfl:Tryz.f38.body=some (Tryz.f38.body.getD .skip)) (by kernel_rfl) (by kernel_rfl) fun hq=>?_
 have hw:WB ws:=hq _ (by simp)
 refine (Good.ret [] (bA rV 1000 (adZ ws h (aQ ws h) (fun i=>i=((0:Nat):Int))) ?_ (fun s m h=>h) fun fs m hb=>aaE (fun i e=>by rw [e];exact acA hw h 32 0 rfl) hb)).mono fun _ _ h=>h.1
 simp only [and_true,true_and,Ia,lz]
 rfl
def pM (ws:Array Value):Nat→Nat→Option Nat
 | 0,_=>none
 | k+1,i=>if gv ws i=0 then some i else pM ws k (i+1)
def UK (ws:Array Value):Option Nat→Array Value
 | some i=>ws.setIfInBounds (32+i) (.int .i64 1)
 | none=>ws
def UL (ws:Array Value):Option Nat→Int
 | some i=>cW i (cZ ws i)
 | none=>0
def eK (ws:Array Value):Array Value:=UK ws (pM ws 32 0)
def iQ (ws:Array Value):Int:=UL ws (pM ws 32 0)
theorem TR {i v:Nat} {x:Int} (hi:i<ws.size) {j:Nat}:(ws.setIfInBounds i (.int .i64 x))[j]?=if i=j then some (.int .i64 x) else ws[j]?:=by
 rw [Array.getElem?_setIfInBounds]
 split
 ·first | rfl | rw [if_pos hi]
 ·rfl
theorem JA {i:Nat} {x:Int} (hw:WB ws) (hi:i<32) (hx:0≤x∧x≤2):WB (ws.setIfInBounds (32+i) (.int .i64 x))∧(∀ j,j<32→cZ (ws.setIfInBounds (32+i) (.int .i64 x)) j=cZ ws j)∧∀ j,j<32→gv (ws.setIfInBounds (32+i) (.int .i64 x)) j=if j=i then x else gv ws j:=by
 have hz:=hw.sz
 have a:∀ j,j<32→(ws.setIfInBounds (32+i) (.int .i64 x))[j]?=ws[j]?:=fun j hj=>by
  rw [TR (v:=0) (by omega),if_neg (by omega)]
 have b:∀ j,j<32→(ws.setIfInBounds (32+i) (.int .i64 x))[32+j]?=if j=i then some (.int .i64 x) else ws[32+j]?:=fun j hj=>by
  rw [TR (v:=0) (by omega)]
  by_cases e:j=i
  ·rw [if_pos (by omega),if_pos e]
  ·rw [if_neg (by omega),if_neg e]
 have g:∀ j,j<32→cZ (ws.setIfInBounds (32+i) (.int .i64 x)) j=cZ ws j:=fun j hj=>by unfold cZ aa;rw [a j hj]
 have k:∀ j,j<32→gv (ws.setIfInBounds (32+i) (.int .i64 x)) j=if j=i then x else gv ws j:=fun j hj=>by
  unfold gv
  by_cases e:j=i
  ·rw [if_pos e];exact bI (by rw [b j hj,if_pos e])
  ·rw [if_neg e];unfold aa;rw [b j hj,if_neg e]
 refine ⟨⟨by rw [Array.size_setIfInBounds];exact hz,fun j hj=>?_,fun j hj=>?_,fun j hj=>?_,fun j hj=>?_⟩,g,k⟩
 ·have:=hw.g j hj
  have e:=g j hj
  unfold cZ at e
  unfold aA at *
  rw [e,a j hj];exact this
 ·by_cases e:j=i
  ·exact bw (by rw [b j hj,if_pos e])
  ·have:=hw.s j hj
   have e2:=k j hj
   rw [if_neg e] at e2
   unfold gv at e2
   unfold aA at *
   rw [e2,b j hj,if_neg e];exact this
 ·rw [g j hj];exact hw.rg j hj
 ·rw [k j hj]
  split
  ·exact hx
  ·exact hw.rs j hj
theorem acB (hw:WB ws):∀ (n i:Nat) {zz:Array Value},zz.size=64→i+n=32→Good Tryz.prog (bM 0 [] (.bW [.agg (.op (UK ws (pM ws n i))),.c (.f (.int .i64 (.o (UL ws (pM ws n i)))))]) aT) 0 (x_ ws (i:Int) zz) (yc ws (i:Int) zz):=by
 intro n
 induction n with
 | zero =>
  intro i zz hz hi
  obtain rfl:i=32:=by omega
  refine bD rV 1000 (L2 ws _ zz _ _ (fun _ _=>False)) ?_ (fun _ _ h=>h) (fun fs m hb=>Jy (fun _ _ h=>h.elim) hb)
  unfold oQ
  have d:decide (((32:Nat):Int)<32)=false:=rfl
  have hs:=hw.sz
  simp only [d,hs,hz,decide_true,q6]
  exact ⟨rfl,rfl⟩
 | succ n ih =>
  intro i zz hz hi
  have hi':i<32:=by omega
  have y0:0≤(i:Int):=by omega
  have y1:(i:Int)<32:=by omega
  have d:decide ((i:Int)<32)=true:=decide_eq_true y1
  have ei:ah .add .i64 (i:Int) 1=((i+1:Nat):Int):=by rw [dn,cC (by omega) (by omega)];omega
  have g:=hw.s i hi'
  have hs:=hw.sz
  have ek:aa ws (32+i)=gv ws i:=rfl
  have eF:pM ws (n+1) i=if gv ws i=0 then some i else pM ws n (i+1):=rfl
  by_cases c:gv ws i=0
  ·rw [eF,if_pos c]
   refine bD rV 1000 (L2 ws (i:Int) zz _ _ (fun _ _=>False)) ?_ (fun _ _ h=>h) (fun fs m hb=>Jy (fun _ _ h=>h.elim) hb)
   unfold oQ
   have c1:(gv ws i==0)=true:=beq_iff_eq.2 c
   obtain ⟨s1,s2,_⟩:=JA (x:=1) hw hi' ⟨by decide,by decide⟩
   have s3:=s1.sz
   have y3:32+i<64:=by omega
   have s4:=s2 i hi'
   simp only [d,y0,y1,y3,g,hs,hz,hw,ek,c1,s1,s3,s4,decide_true,q7,q6]
   exact ⟨rfl,rfl⟩
  ·rw [eF,if_neg c]
   refine bD rV 1000 (L2 ws (i:Int) zz _ _ (fun i' z=>i'=((i+1:Nat):Int)∧z=zz)) ?_ (fun _ _ h=>h) (fun fs m hb=>Jy (fun i' z ⟨e1,e2⟩=>by rw [e1,e2];exact ih (i+1) hz (by omega)) hb)
   unfold oQ
   have c1:(gv ws i==0)=false:=beq_eq_false_iff_ne.2 c
   simp only [d,ei,y0,y1,g,hs,hz,hw,ek,c1,decide_true,Pn,q7,q6]
theorem Oc (m:aj):aq E0 92 [s8 ws] m (bu [WB ws] (.ret (.bW [.agg (.op (eK ws)),.c (.f (.int .i64 (.o (iQ ws))))]) m)):=by
 refine aq.pure aU (by kernel_rfl:E0.fn 92=some Tryz.f92) (by kernel_rfl:Tryz.f92.body=some (Tryz.f92.body.getD .skip)) (by kernel_rfl) (by kernel_rfl) fun hq=>?_
 have hw:WB ws:=hq _ (by simp)
 refine (Good.ret [] (bA rV 1000 (ad0 ws (eK ws) (iQ ws) (fun i z=>i=((0:Nat):Int)∧z.size=64)) ?_ (fun s m h=>h) fun fs m hb=>aaF (fun i z ⟨e,e2⟩=>by rw [e];exact acB hw 32 0 e2 rfl) hb)).mono fun _ _ h=>h.1
 unfold DG
 simp only [and_true,true_and,Pn,lz]
 exact ⟨rfl,rfl⟩
end
set_option linter.unusedVariables false
noncomputable def uu (g:FuncId) (l:List SV) (m:aj):Option Tree:=match g,l with
 | 38,[.s (.agg (.op ws)),.s (.c (.f (.int .i64 h)))]=>some (.need [WB ws] (.ret (i64 (.o (aQ ws h.den))) m))
 | 92,[.s (.agg (.op ws))]=>some (.need [WB ws] (.ret (.bW [.agg (.op (eK ws)),.c (.f (.int .i64 (.o (iQ ws))))]) m))
 | g,l=>nT g l m
noncomputable def vQ:Env:=⟨Tryz.prog,dg,uu,dy []⟩
noncomputable def bg (ws:Array Value):SV:=.s (.agg (.op ws))
def wbA (o:Array Value) (b:Bool) (s:SV) (m:aj):Prop:=bM 0 [] (.bW [.agg (.op o),.c (.f (.bool (.o b)))]) aT s m
def lC (o:Array Value) (e:Int) (s:SV) (m:aj):Prop:=bM 0 [] (.bW [.agg (.op o),.c (.f (.int .i64 (.o e)))]) aT s m
def Uv (o:Array Value) (h e:Int) (s:SV) (m:aj):Prop:=bM 0 [] (.bW [.agg (.op o),.c (.f (.int .i64 (.o h))),.c (.f (.int .i64 (.o e)))]) aT s m
set_option maxRecDepth 100000
noncomputable def mF (ws:Array Value) (h:Int):Array Value:=Array.setIfInBounds ws (32+(aQ ws h).toNat*1) (Value.int .i64 0)
noncomputable def Ax (ws:Array Value) (h:Int):Array Value:=Array.setIfInBounds (mF ws h) (0+(aQ ws h).toNat*1) (Value.int .i64 (ah .add .i64 (aa (mF ws h) (0+(aQ ws h).toNat*1)) (1:Int)))
noncomputable def Aw (ws:Array Value) (h:Int):Array Value:=Array.setIfInBounds (mF ws h) (32+(aQ ws h).toNat*1) (Value.int .i64 2)
def xk (ws:Array Value) (h:Int):Prop:=(0≤aQ ws h∧aQ ws h<32)∧True
theorem vo0 (ws:Array Value) (h:Int) (o:Array Value) (b:Bool):(run vQ 1000 0 [a_ 85 Tryz.f85.ntmps [s8 ws,i64 (.o h)] (Tryz.f85.body.getD .skip)] aT).vc (wbA o b) (fun _ _=>False) =
  ((ws.size=64∧True)∧(WB ws∧True)∧(decide (aQ ws h<0)=true→(ws.size=64∧True)∧(ws.size=64∧ws.size=64∧True)∧(ws.size=64∧True)∧o=ws∧b=false∧True)∧(decide (aQ ws h<0)=false→(xk ws h)∧(32+(aQ ws h).toNat*1<ws.size∧True)∧(xk ws h)∧(aA .i64 (mF ws h) (0+(aQ ws h).toNat*1)∧True)∧((aa (mF ws h) (0+(aQ ws h).toNat*1)==8388607)=true→(xk ws h)∧(32+(aQ ws h).toNat*1<(mF ws h).size∧True)∧((Aw ws h).size=64∧True)∧((Aw ws h).size=64∧(Aw ws h).size=64∧True)∧((Aw ws h).size=64∧True)∧o=Array.setIfInBounds (mF ws h) (32+(aQ ws h).toNat*1) (Value.int .i64 2)∧b=true∧True)∧((aa (mF ws h) (0+(aQ ws h).toNat*1)==8388607)=false→(xk ws h)∧(aA .i64 (mF ws h) (0+(aQ ws h).toNat*1)∧True)∧(xk ws h)∧(0+(aQ ws h).toNat*1<(mF ws h).size∧True)∧((Ax ws h).size=64∧True)∧((Ax ws h).size=64∧(Ax ws h).size=64∧True)∧((Ax ws h).size=64∧True)∧o=Array.setIfInBounds (mF ws h) (0+(aQ ws h).toNat*1) (Value.int .i64 (ah .add .i64 (aa (mF ws h) (0+(aQ ws h).toNat*1)) (1:Int)))∧b=true∧True))):=by kernel_rfl
theorem rg0 (ws:Array Value) (h:Int) (b:Bool):(run vQ 1000 0 [a_ 8 Tryz.f8.ntmps [bg ws,i64 (.o h)] (Tryz.f8.body.getD .skip)] aT).vc (bM 0 [] (sB (.o b)) aT) (fun _ _=>False) =
  ((64≤ws.size∧True)∧(WB (Array.extract ws 0 64)∧True)∧b=decide (aQ (Array.extract ws 0 64) h≥0)∧True):=by kernel_rfl
noncomputable def gI (ws:Array Value):Array Value:=Array.extract ws 0 64
theorem rt0 (ws:Array Value) (h:Int) (o:Array Value) (e:Int):(run vQ 1000 0 [a_ 32 Tryz.f32.ntmps [bg ws,i64 (.o h)] (Tryz.f32.body.getD .skip)] aT).vc (lC o e) (fun _ _=>False) =
  ((64≤ws.size∧True)∧(WB (gI ws)∧True)∧(decide (aQ (gI ws) h<0)=true→o=#[Value.int .i64 0,Value.int .i64 0,Value.slice none 0 0,Value.int .i64 0,Value.int .i64 0,Value.int .i64 0,Value.int .i64 0,Value.int .i64 0,Value.int .i64 0,Value.int .i64 0,Value.int .i64 0,Value.int .i64 0]∧e=4∧True)∧(decide (aQ (gI ws) h<0)=false→((0≤aQ (gI ws) h∧aQ (gI ws) h<32)∧True)∧(aA .i64 ws (64+(aQ (gI ws) h).toNat*12)∧aA .i64 ws (64+(aQ (gI ws) h).toNat*12+1)∧ws[64+(aQ (gI ws) h).toNat*12+2]?=some (Value.slice none 0 0)∧aA .i64 ws (64+(aQ (gI ws) h).toNat*12+3)∧aA .i64 ws (64+(aQ (gI ws) h).toNat*12+4)∧aA .i64 ws (64+(aQ (gI ws) h).toNat*12+5)∧aA .i64 ws (64+(aQ (gI ws) h).toNat*12+6)∧aA .i64 ws (64+(aQ (gI ws) h).toNat*12+7)∧aA .i64 ws (64+(aQ (gI ws) h).toNat*12+8)∧aA .i64 ws (64+(aQ (gI ws) h).toNat*12+9)∧aA .i64 ws (64+(aQ (gI ws) h).toNat*12+10)∧aA .i64 ws (64+(aQ (gI ws) h).toNat*12+11)∧True)∧o=#[Value.int .i64 (aa ws (64+(aQ (gI ws) h).toNat*12)),Value.int .i64 (aa ws (64+(aQ (gI ws) h).toNat*12+1)),Value.slice none 0 0,Value.int .i64 (aa ws (64+(aQ (gI ws) h).toNat*12+3)),Value.int .i64 (aa ws (64+(aQ (gI ws) h).toNat*12+4)),Value.int .i64 (aa ws (64+(aQ (gI ws) h).toNat*12+5)),Value.int .i64 (aa ws (64+(aQ (gI ws) h).toNat*12+6)),Value.int .i64 (aa ws (64+(aQ (gI ws) h).toNat*12+7)),Value.int .i64 (aa ws (64+(aQ (gI ws) h).toNat*12+8)),Value.int .i64 (aa ws (64+(aQ (gI ws) h).toNat*12+9)),Value.int .i64 (aa ws (64+(aQ (gI ws) h).toNat*12+10)),Value.int .i64 (aa ws (64+(aQ (gI ws) h).toNat*12+11))]∧e=0∧True)):=by kernel_rfl
noncomputable def jx (ws:Array Value):Array Value:=Array.extract ws 0 64
theorem up0 (ws:Array Value) (h:Int) (o:Int):(run vQ 1000 0 [a_ 68 Tryz.f68.ntmps [bg ws,i64 (.o h)] (Tryz.f68.body.getD .skip)] aT).vc (bM 0 [] (i64 (.o o)) aT) (fun _ _=>False) =
  ((ws.size=448∧True)∧(64≤ws.size∧True)∧(WB (jx ws)∧True)∧(decide (aQ (jx ws) h<0)=true→o=0∧True)∧(decide (aQ (jx ws) h<0)=false→((0≤aQ (jx ws) h∧aQ (jx ws) h<32)∧True)∧(aA .i64 ws (64+(aQ (jx ws) h).toNat*12)∧aA .i64 ws (64+(aQ (jx ws) h).toNat*12+1)∧ws[64+(aQ (jx ws) h).toNat*12+2]?=some (Value.slice none 0 0)∧aA .i64 ws (64+(aQ (jx ws) h).toNat*12+3)∧aA .i64 ws (64+(aQ (jx ws) h).toNat*12+4)∧aA .i64 ws (64+(aQ (jx ws) h).toNat*12+5)∧aA .i64 ws (64+(aQ (jx ws) h).toNat*12+6)∧aA .i64 ws (64+(aQ (jx ws) h).toNat*12+7)∧aA .i64 ws (64+(aQ (jx ws) h).toNat*12+8)∧aA .i64 ws (64+(aQ (jx ws) h).toNat*12+9)∧aA .i64 ws (64+(aQ (jx ws) h).toNat*12+10)∧aA .i64 ws (64+(aQ (jx ws) h).toNat*12+11)∧True)∧o=aa ws (64+(aQ (jx ws) h).toNat*12)∧True)):=by kernel_rfl
def Kw (ws:Array Value) (u:Int) (q:Int) (o:Array Value) (h:Int) (e:Int):Prop:=(decide (q<0)==false)=true→(decide (q>64)=true→(ws.size=448∧True)∧(ws.size=448∧ws.size=448∧True)∧(ws.size=448∧True)∧o=ws∧h=0∧e=2∧True)∧(decide (q>64)=false→(64≤ws.size∧True)∧(WB (Array.extract ws 0 64)∧True)∧((eK (Array.extract ws 0 64)).size=64∧(eK (Array.extract ws 0 64)).size=64∧True)∧((iQ (Array.extract ws 0 64)==0)=true→(ws.size=448∧True)∧(ws.size=448∧ws.size=448∧True)∧(ws.size=448∧True)∧o=ws∧h=0∧e=7∧True)∧((iQ (Array.extract ws 0 64)==0)=false→((eK (Array.extract ws 0 64)).size=64∧True)∧((eK (Array.extract ws 0 64)).size=64∧0+(eK (Array.extract ws 0 64)).size≤ws.size∧True)∧((eK (Array.extract ws 0 64)).size=64∧True)∧(WB (eK (Array.extract ws 0 64))∧True)∧((0≤aQ (eK (Array.extract ws 0 64)) (iQ (Array.extract ws 0 64))∧aQ (eK (Array.extract ws 0 64)) (iQ (Array.extract ws 0 64))<32)∧True)∧(64+(aQ (eK (Array.extract ws 0 64)) (iQ (Array.extract ws 0 64))).toNat*12+List.length [Value.int .i64 u,Value.int .i64 q,Value.slice none 0 0,Value.int .i64 0,Value.int .i64 0,Value.int .i64 0,Value.int .i64 0,Value.int .i64 0,Value.int .i64 0,Value.int .i64 0,Value.int .i64 0,Value.int .i64 0]≤(putAt ws 0 (Array.toList (eK (Array.extract ws 0 64)))).size∧True)∧((putAt (putAt ws 0 (Array.toList (eK (Array.extract ws 0 64)))) (64+(aQ (eK (Array.extract ws 0 64)) (iQ (Array.extract ws 0 64))).toNat*12) [Value.int .i64 u,Value.int .i64 q,Value.slice none 0 0,Value.int .i64 0,Value.int .i64 0,Value.int .i64 0,Value.int .i64 0,Value.int .i64 0,Value.int .i64 0,Value.int .i64 0,Value.int .i64 0,Value.int .i64 0]).size=448∧True)∧((putAt (putAt ws 0 (Array.toList (eK (Array.extract ws 0 64)))) (64+(aQ (eK (Array.extract ws 0 64)) (iQ (Array.extract ws 0 64))).toNat*12) [Value.int .i64 u,Value.int .i64 q,Value.slice none 0 0,Value.int .i64 0,Value.int .i64 0,Value.int .i64 0,Value.int .i64 0,Value.int .i64 0,Value.int .i64 0,Value.int .i64 0,Value.int .i64 0,Value.int .i64 0]).size=448∧(putAt (putAt ws 0 (Array.toList (eK (Array.extract ws 0 64)))) (64+(aQ (eK (Array.extract ws 0 64)) (iQ (Array.extract ws 0 64))).toNat*12) [Value.int .i64 u,Value.int .i64 q,Value.slice none 0 0,Value.int .i64 0,Value.int .i64 0,Value.int .i64 0,Value.int .i64 0,Value.int .i64 0,Value.int .i64 0,Value.int .i64 0,Value.int .i64 0,Value.int .i64 0]).size=448∧True)∧((putAt (putAt ws 0 (Array.toList (eK (Array.extract ws 0 64)))) (64+(aQ (eK (Array.extract ws 0 64)) (iQ (Array.extract ws 0 64))).toNat*12) [Value.int .i64 u,Value.int .i64 q,Value.slice none 0 0,Value.int .i64 0,Value.int .i64 0,Value.int .i64 0,Value.int .i64 0,Value.int .i64 0,Value.int .i64 0,Value.int .i64 0,Value.int .i64 0,Value.int .i64 0]).size=448∧True)∧o=putAt (putAt ws 0 (Array.toList (eK (Array.extract ws 0 64)))) (64+(aQ (eK (Array.extract ws 0 64)) (iQ (Array.extract ws 0 64))).toNat*12) [Value.int .i64 u,Value.int .i64 q,Value.slice none 0 0,Value.int .i64 0,Value.int .i64 0,Value.int .i64 0,Value.int .i64 0,Value.int .i64 0,Value.int .i64 0,Value.int .i64 0,Value.int .i64 0,Value.int .i64 0]∧h=iQ (Array.extract ws 0 64)∧e=0∧True))
def Kv (ws:Array Value) (q:Int) (o:Array Value) (h:Int) (e:Int):Prop:=(decide (q<0)==false)=false→(ws.size=448∧True)∧(ws.size=448∧ws.size=448∧True)∧(ws.size=448∧True)∧o=ws∧h=0∧e=2∧True
theorem nw0 (ws:Array Value) (u q:Int) (o:Array Value) (h e:Int):(run vQ 1000 0 [a_ 78 Tryz.f78.ntmps [bg ws,i64 (.o u),i64 (.o q)] (Tryz.f78.body.getD .skip)] aT).vc (Uv o h e) (fun _ _=>False) =
  ((((u != 0)==true)=true→(ws.size=448∧True)∧(64≤ws.size∧True)∧(WB (Array.extract ws 0 64)∧True)∧((!decide (aQ (Array.extract ws 0 64) u≥0))=true→(ws.size=448∧True)∧(ws.size=448∧ws.size=448∧True)∧(ws.size=448∧True)∧o=ws∧h=0∧e=4∧True)∧((!decide (aQ (Array.extract ws 0 64) u≥0))=false→(Kw ws u q o h e)∧(Kv ws q o h e)))∧(((u != 0)==true)=false→(Kw ws u q o h e)∧(Kv ws q o h e))):=by kernel_rfl
noncomputable def Ev (ws:Array Value) (h:Int) (rr:Array Value):List Value:=[Value.int .i64 (aa (Array.setIfInBounds rr 0 (Value.int .i64 (aa ws (64+(aQ (Array.extract ws 0 64) h).toNat*12)))) (0:Nat)),Value.int .i64 (aa (Array.setIfInBounds rr 0 (Value.int .i64 (aa ws (64+(aQ (Array.extract ws 0 64) h).toNat*12)))) (1:Nat)),Value.slice none 0 0,Value.int .i64 (aa (Array.setIfInBounds rr 0 (Value.int .i64 (aa ws (64+(aQ (Array.extract ws 0 64) h).toNat*12)))) (3:Nat)),Value.int .i64 (aa (Array.setIfInBounds rr 0 (Value.int .i64 (aa ws (64+(aQ (Array.extract ws 0 64) h).toNat*12)))) (4:Nat)),Value.int .i64 (aa (Array.setIfInBounds rr 0 (Value.int .i64 (aa ws (64+(aQ (Array.extract ws 0 64) h).toNat*12)))) (5:Nat)),Value.int .i64 (aa (Array.setIfInBounds rr 0 (Value.int .i64 (aa ws (64+(aQ (Array.extract ws 0 64) h).toNat*12)))) (6:Nat)),Value.int .i64 (aa (Array.setIfInBounds rr 0 (Value.int .i64 (aa ws (64+(aQ (Array.extract ws 0 64) h).toNat*12)))) (7:Nat)),Value.int .i64 (aa (Array.setIfInBounds rr 0 (Value.int .i64 (aa ws (64+(aQ (Array.extract ws 0 64) h).toNat*12)))) (8:Nat)),Value.int .i64 (aa (Array.setIfInBounds rr 0 (Value.int .i64 (aa ws (64+(aQ (Array.extract ws 0 64) h).toNat*12)))) (9:Nat)),Value.int .i64 (aa (Array.setIfInBounds rr 0 (Value.int .i64 (aa ws (64+(aQ (Array.extract ws 0 64) h).toNat*12)))) (10:Nat)),Value.int .i64 (aa (Array.setIfInBounds rr 0 (Value.int .i64 (aa ws (64+(aQ (Array.extract ws 0 64) h).toNat*12)))) (11:Nat))]
noncomputable def mG (ws:Array Value) (h:Int) (rr:Array Value):Array Value:=Array.setIfInBounds rr 0 (Value.int .i64 (aa ws (64+(aQ (Array.extract ws 0 64) h).toNat*12)))
noncomputable def ng (ws:Array Value):Array Value:=Array.extract ws 0 64
def xu (ws:Array Value):Prop:=ws.size=448∧ws.size=448∧True
noncomputable def AD (ws:Array Value) (h:Int) (rr:Array Value):Array Value:=putAt ws (64+(aQ (ng ws) h).toNat*12) (Ev ws h rr)
theorem se0 (ws:Array Value) (h:Int) (rr:Array Value) (o:Array Value) (e:Int):(run vQ 1000 0 [a_ 34 Tryz.f34.ntmps [bg ws,i64 (.o h),bg rr] (Tryz.f34.body.getD .skip)] aT).vc (lC o e) (fun _ _=>False) =
  ((64≤ws.size∧True)∧(WB (ng ws)∧True)∧(decide (aQ (ng ws) h<0)=true→(ws.size=448∧True)∧(xu ws)∧(ws.size=448∧True)∧o=ws∧e=4∧True)∧(decide (aQ (ng ws) h<0)=false→(aA .i64 rr 1∧True)∧((decide (aa rr 1<0)==false)=true→(aA .i64 rr 1∧True)∧((decide (aa rr 1>64)==false)=true→(rr[(2:Nat)]?=some (Value.slice none 0 0)∧aA .i64 rr 3∧True)∧((decide (aa rr 3≥0)==true)=true→((!decide (aa rr 3≤0))=true→(ws.size=448∧True)∧(xu ws)∧(ws.size=448∧True)∧o=ws∧e=2∧True)∧((!decide (aa rr 3≤0))=false→((0≤aQ (ng ws) h∧aQ (ng ws) h<32)∧True)∧(aA .i64 ws (64+(aQ (ng ws) h).toNat*12)∧True)∧(0<rr.size∧True)∧(aA .i64 (mG ws h rr) 0∧aA .i64 (mG ws h rr) 1∧(mG ws h rr)[(2:Nat)]?=some (Value.slice none 0 0)∧aA .i64 (mG ws h rr) 3∧aA .i64 (mG ws h rr) 4∧aA .i64 (mG ws h rr) 5∧aA .i64 (mG ws h rr) 6∧aA .i64 (mG ws h rr) 7∧aA .i64 (mG ws h rr) 8∧aA .i64 (mG ws h rr) 9∧aA .i64 (mG ws h rr) 10∧aA .i64 (mG ws h rr) 11∧True)∧((0≤aQ (ng ws) h∧aQ (ng ws) h<32)∧True)∧(64+(aQ (ng ws) h).toNat*12+(Ev ws h rr).length≤ws.size∧True)∧((AD ws h rr).size=448∧True)∧((AD ws h rr).size=448∧(AD ws h rr).size=448∧True)∧((AD ws h rr).size=448∧True)∧o=putAt ws (64+(aQ (ng ws) h).toNat*12) (Ev ws h rr)∧e=0∧True))∧((decide (aa rr 3≥0)==true)=false→(ws.size=448∧True)∧(xu ws)∧(ws.size=448∧True)∧o=ws∧e=2∧True))∧((decide (aa rr 1>64)==false)=false→(ws.size=448∧True)∧(xu ws)∧(ws.size=448∧True)∧o=ws∧e=2∧True))∧((decide (aa rr 1<0)==false)=false→(ws.size=448∧True)∧(xu ws)∧(ws.size=448∧True)∧o=ws∧e=2∧True))):=by kernel_rfl
end Go.Proofs.YtldoopjnjlpbpaaGreatDoor
