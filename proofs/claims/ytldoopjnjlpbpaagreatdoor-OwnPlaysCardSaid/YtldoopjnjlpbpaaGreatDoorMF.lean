/- Of owns: OwnPlays: what an act on the forest leaves. No condition. -/
import Derived.Test.YtldoopjnjlpbpaaGreatDoorME
import Derived.Test.YtldoopjnjlpbpaaGreatDoorE1
import Derived.Test.YtldoopjnjlpbpaaGreatDoorK15
set_option linter.unusedVariables false
set_option linter.unusedSimpArgs false
namespace Go.Proofs.YtldoopjnjlpbpaaGreatDoor
set_option maxRecDepth 100000
set_option linter.unusedSimpArgs false
set_option linter.unusedVariables false
def j8 (ts us:Array Value):Prop:=(∀ r,jw (aF ts) r→jw (aF us) r)∧∀ x,ot us x→ot ts x
section
variable {ts us os:Array Value}
theorem ad' {u q:Int} (e:gR ts u q=0):0≤q∧q≤64∧ir (aF ts)=true:=by
 unfold gR at e
 split at e
 ·exact absurd e (by decide)
 unfold newE at e
 split at e
 ·exact absurd e (by decide)
 split at e
 rotate_left
 ·exact absurd e (by decide)
 rename_i hq
 split at e
 rotate_left
 ·exact absurd e (by decide)
 rename_i ho
 exact ⟨hq.1,hq.2,ho⟩
theorem j8.refl (ts:Array Value):j8 ts ts:=⟨fun _ h=>h,fun _ h=>h⟩
theorem j8.same (e:aF us=aF ts):j8 ts us:=by
 refine ⟨fun r h=>by rw [e];exact h,fun x h=>⟨h.1,?_⟩⟩
 have h2:=h.2
 have g:aB us x=aB ts x:=by
  show bF (aF us) x=bF (aF ts) x
  rw [e]
 rw [g,e] at h2
 exact h2
theorem j8.of (h1:∀ r,jw (aF ts) r→jw (aF us) r) (h2:∀ x,aB us x=true→aB ts x=true∨¬ jw (aF ts) x):j8 ts us :=
 ⟨h1,fun x h=>⟨h.1,h.2.elim (h2 x) fun k=>.inr fun q=>k (h1 x q)⟩⟩
theorem DR:∀ (o:List Int) {ts:Array Value},aM ts→(∀ r,jw (aF ts) r→jw (aF (iP ts o)) r)∧∀ x,aB (iP ts o) x=true→aB ts x=true
 | [],ts,hb=>⟨fun _ h=>h,fun _ h=>h⟩
 | y :: o,ts,hb=>by
  have e0:iP ts (y :: o)=iP (gG ts y) o:=rfl
  rw [e0]
  cases c:aB ts y with
  | true =>
   have e:gG ts y=gF ts y:=if_pos c
   obtain ⟨r1,r2,r3,_⟩:=wR hb c
   rw [e]
   obtain ⟨k1,k2⟩:=DR o r1
   refine ⟨fun r h=>k1 r (by rw [r2];exact Om hb.bk h),fun x h=>?_⟩
   have:=k2 x h
   rw [r3,Bool.and_eq_true] at this
   exact this.1
  | false =>
   have e:gG ts y=ts:=by unfold gG;rw [c];rfl
   rw [e]
   exact DR o hb
theorem Td (hv:FV ts) {d a b c q:Int} (ha:aN a) (hb:aN b) (hc:aN c):j8 ts (iq ts d a b c q):=by
 have ht:=hv.f.ok
 have hx:=mJ ht ha
 have hy:=mJ ht hb
 have hz:=mJ ht hc
 unfold iq
 split
 ·exact j8.of (DR _ ht).1 fun x h=>.inl ((DR _ ht).2 x h)
 split
 ·cases g:aB ts (au ts a) with
  | true=>exact j8.same (SY hv g).2.1
  | false =>
   have e:gA ts (au ts a)=ts:=by unfold gA;rw [g];rfl
   rw [e];exact j8.refl ts
 split
 ·by_cases e:eZ ts (au ts a) (au ts b)=0
  ·exact j8.same ((Qu (h:=au ts a) hv hy).2 e).2.2
  ·have e:gW ts (au ts a) (au ts b)=ts:=by unfold gW;rw [if_neg e]
   rw [e];exact j8.refl ts
 split
 ·split
  ·rename_i g
   obtain ⟨_,_,k,_⟩:=L4 ht g hx hb hz
   exact j8.same (Km ht g k).2.1
  ·exact j8.refl ts
 ·by_cases e:gR ts (au ts a) q=0
  ·obtain ⟨q1,q2,ho⟩:=ad' e
   have eT:gC ts (au ts a) q=fL ts (au ts a) q:=by unfold gC;rw [if_pos e]
   obtain ⟨r1,r2,r3,_⟩:=FC ht ho (u:=au ts a) (q:=q) hx ⟨q1,q2⟩
   rw [eT]
   refine j8.of (fun r hr=>by rw [r2];exact Hv ht.bk hr) fun x h=>?_
   rw [r3,Bool.or_eq_true] at h
   rcases h with h | h
   ·exact .inl h
   ·rw [of_decide_eq_true h]
    exact .inr (H9 ht.bk ho).2
  ·have eT:gC ts (au ts a) q=ts:=by unfold gC;rw [if_neg e]
   rw [eT];exact j8.refl ts
theorem OU.keep (u:OU os ts) (h:j8 ts us):OU os us:=fun s hs=>(u s hs).imp id (h.1 _)
theorem PL {L:List Int} {P Q:Int→Bool} (h:∀ x,P x=Q x) (i:Nat):bH L P i=bH L Q i:=by
 have:P=Q:=funext h
 rw [this]
theorem Fa (ho:aS os) (t:Int):cS os ts t false (af ts).length=dB os ts t∧cS os ts t true (af ts).length=dD os ts t:=by
 refine ⟨PL (fun x=>?_) _,PL (fun x=>?_) _⟩
 ·obtain ⟨_,b2,_⟩:=AX (ts:=ts) ho x
  have w2:IntKind.i64.wrap (bt os ts x)=bt os ts x:=cC (by omega) (by omega)
  unfold vR dQ iW
  rw [w2]
  rfl
 ·rfl
theorem acN (hf:ay ts) (P:Int→Bool):(bH (af ts) P (af ts).length).length≤32∧∀ x∈bH (af ts) P (af ts).length,aN x:=by
 have h1:(bH (af ts) P (af ts).length).length≤(af ts).length:=Dr _
 have h2:=iw ts
 refine ⟨by omega,fun x hx=>?_⟩
 rw [Yi] at hx
 exact iA hf.ok (.inr (List.mem_filter.1 hx).1)
theorem DS (hf:ay ts) (P:Int→Bool):jh (aL (bH (af ts) P (af ts).length)) (aE (bH (af ts) P (af ts).length)) (bH (af ts) P (af ts).length).length (bH (af ts) P (af ts).length).length:=by
 obtain ⟨h1,h2⟩:=acN hf P
 exact ⟨_,rfl,rfl,rfl,rfl,h1,h2⟩
end
set_option linter.unusedVariables false
noncomputable def zO:Array Value:=(List.replicate 32 [Value.int .u32 0,Value.int .u8 0,Value.int .u8 0,Value.int .u8 0]).flatten.toArray
theorem acO:zO.size=128:=by decide +kernel
noncomputable def GV (off n:Nat):SV:=.s (.c (.f (.slice 0 (.o off) (.o n) .any)))
noncomputable def eS:SV:=.s (.c (.f .e0))
noncomputable def Bg (os ts:Array Value) (g:FuncId) (l:List SV) (m:aj):Option Tree:=match g,l with
 | 4,[]=>some (.ret (sB (.l true)) m)
 | 6,[.s (.agg (.op us)),.s (.agg (.op ws)),.s (.agg (.ls [.f (.int .u8 d),.f (.int .u32 a),.f (.int .u32 b),.f (.int .u32 c),.f (.int .i64 q)]))]=>some (.need [SW us ws,FV us,aN a.den,aN b.den,aN c.den] (.ret (M9 (iq us d.den a.den b.den c.den q.den) (iU us ws d.den a.den b.den c.den q.den)) m))
 | 5,[.s (.agg (.op us)),.s (.agg (.op ws)),.s (.agg (.op o)),.s (.agg (.ls [.f (.slice i (.l 0) n c1),.f (.slice j (.l 0) k' c2)])),.s (.agg (.ls [.f (.int .u8 d),.f (.int .u32 a),.f (.int .u32 b),.f (.int .u32 c),.f (.int .i64 q)]))]=>(match aH m.bl i,aH m.bl j with
  | some ⟨.pop ra,3,_⟩,some ⟨.pop rb,111,_⟩=>some (.need [SW us ws,ay us,aS o,bZ o us ra rb n.den k'.den,aN a.den] (.br (decide (dV o us d.den (au us a.den) q.den=0)) (.ret (vT (cz ra (au us a.den) n.den) (dA o us d.den (au us a.den) q.den) m.next (m.next+1)) (lp m (eC ra (au us a.den) n.den) (eD ra rb (au us a.den) n.den (ia o us d.den (au us a.den) q.den)) 3 111)) (.ret (vT n.den (dA o us d.den (au us a.den) q.den) i j) m)))
  | _,_=>none)
 | 5,[.s (.agg (.op us)),.s (.agg (.op ws)),.s (.agg (.op o)),.s (.agg (.ls [.f (.lit (.slice none 0 0)),.f (.lit (.slice none 0 0))])),.s (.agg (.ls [.f (.int .u8 d),.f (.int .u32 a),.f (.int .u32 b),.f (.int .u32 c),.f (.int .i64 q)]))]=>some (.need [SW us ws,ay us,aS o,dP o us,aN a.den] (.br (decide (dV o us d.den (au us a.den) q.den=0)) (.ret (vT 1 (dA o us d.den (au us a.den) q.den) m.next (m.next+1)) (lp m #[.int .i64 (au us a.den)] (ia o us d.den (au us a.den) q.den) 3 111)) (.ret (U' (dA o us d.den (au us a.den) q.den)) m)))
 | 7,[.s (.agg (.op us)),.s (.agg (.op ws)),.s (.agg (.op o)),.s (.agg (.ls [.f (.slice i (.l 0) n c1),.f (.slice j (.l 0) k' c2)]))]=>(match aH m.bl i,aH m.bl j with
  | some ⟨.pop ra,3,_⟩,some ⟨.pop rb,111,_⟩=>some (.need [SW us ws,ay us,aS o,bZ o us ra rb n.den k'.den] (.ret (sB (.l true)) m))
  | _,_=>none)
 | 7,[.s (.agg (.op us)),.s (.agg (.op ws)),.s (.agg (.op o)),.s (.agg (.ls [.f (.lit (.slice none 0 0)),.f (.lit (.slice none 0 0))]))]=>some (.need [SW us ws,ay us,aS o,dP o us] (.ret (sB (.l true)) m))
 | 8,[.s (.agg (.op ws)),.s (.c (.f (.int .i64 h)))]=>some (.need [SW ts ws,aM ts] (.ret (sB (.o (aB ts h.den))) m))
 | 9,[.s (.agg (.op o)),.s (.agg (.op us)),.s (.c (.f (.int .u32 h)))]=>some (.need [aS o,ay us,aN h.den] (.ret (om (aW o us h.den) (bt o us h.den) (aR o us h.den)) m))
 | 12,[.s (.agg (.ls [.f (.lit (.slice none 0 0)),.f (.lit (.slice none 0 0))])),.s (.agg (.op ws)),.s (.c (.f (.int .i64 t))),.s (.c (.f (.bool y)))]=>some (.need [SW ts ws,ay ts,dP os ts] (.ret (.s (.c (.f (.lit (.slice none 0 0))))) m))
 | 10,[.s (.c (.f (.slice i (.l 0) n c1))),.s (.c (.f (.slice j (.l 0) k c2)))]=>(match aH m.bl i,aH m.bl j with | some ⟨.pop a,30,_⟩,some ⟨.pop b,3,_⟩=>some (.need [jh a b n.den k.den] (.ret (sB (.l true)) m)) | _,_=>none)
 | 10,[.s (.c (.f (.lit (.slice none 0 0)))),.s (.c (.f (.lit (.slice none 0 0))))]=>some (.ret (sB (.l true)) m)
 | _,_=>none
noncomputable def yT (os ts:Array Value):Env:=⟨Tryz.prog,dg,Bg os ts,dy [3*1000+8,3*1000+16]⟩
noncomputable def sK (e:Bool) (n:Nat) (a:Array Value) (ty:TypeId) (m:aj):Tree:=match e with
 | true=>.need [n=0] (.ret (.s (.c (.f (.lit (.slice none 0 0))))) m)
 | false=>.need [n≠0] (.ret (.s (.c (.f (.slice m.next (.l 0) (.o n) (.full 1))))) (m.new (.pop a) ty))
noncomputable def KU (e1 e2:Bool) (os ts:Array Value) (g:FuncId) (l:List SV) (m:aj):Option Tree:=match g,l with
 | 11,[.s (.agg (.op o)),.s (.agg (.op us)),.s (.c (.f (.int .i64 k)))]=>some (.need [aS o,ay us] (sK e1 (dB o us k.den).length (aL (dB o us k.den)) 30 m))
 | 13,[.s (.agg (.op o)),.s (.agg (.op us)),.s (.c (.f (.int .i64 k)))]=>some (.need [aS o,ay us] (sK e2 (dD o us k.den).length (aL (dD o us k.den)) 30 m))
 | 12,[.s (.agg (.ls [.f (.slice i (.l 0) n c1),.f (.slice j (.l 0) k' c2)])),.s (.agg (.op ws)),.s (.c (.f (.int .i64 t))),.s (.c (.f (.bool (.l false))))]=>(match aH m.bl i,aH m.bl j with
  | some ⟨.pop ra,3,_⟩,some ⟨.pop rb,111,_⟩=>some (.need [aS os,SW ts ws,ay ts,bZ os ts ra rb n.den k'.den] (sK e1 (dB os ts t.den).length (aE (dB os ts t.den)) 3 m))
  | _,_=>none)
 | 12,[.s (.agg (.ls [.f (.slice i (.l 0) n c1),.f (.slice j (.l 0) k' c2)])),.s (.agg (.op ws)),.s (.c (.f (.int .i64 t))),.s (.c (.f (.bool (.l true))))]=>(match aH m.bl i,aH m.bl j with
  | some ⟨.pop ra,3,_⟩,some ⟨.pop rb,111,_⟩=>some (.need [aS os,SW ts ws,ay ts,bZ os ts ra rb n.den k'.den] (sK e2 (dD os ts t.den).length (aE (dD os ts t.den)) 3 m))
  | _,_=>none)
 | g,l=>Bg os ts g l m
noncomputable def ox (e1 e2:Bool) (os ts:Array Value):Env:=⟨Tryz.prog,dg,KU e1 e2 os ts,dy []⟩
noncomputable def Va (os ts:Array Value):Env:=⟨Tryz.prog,dg,Bg os ts,dy [3*1000+16]⟩
noncomputable def jZ:List bh:=cY Tryz.f3 8
noncomputable def Bh (off:Nat) (n:Nat) (cs:Array Value) (ty:TypeId) (t:Int) (k:Int) (i:Int) (ts:Array Value) (ws:Array Value) (os:Array Value) (nn:Nat) (ra:Array Value) (rb:Array Value):List av:=[dw 3 Tryz.f3 [(0,GV off n),(1,i64 (.o t)),(2,.s (.c (.f (.int .u32 (.o k))))),(7,ptr 1 (.l 0)),(8,ptr 2 (.l 0)),(9,ptr 3 (.l 0)),(10,ptr 4 (.l 0)),(11,i64 (.o i))] jZ]
noncomputable def Bi (off:Nat) (n:Nat) (cs:Array Value) (ty:TypeId) (t:Int) (k:Int) (i:Int) (ts:Array Value) (ws:Array Value) (os:Array Value) (nn:Nat) (ra:Array Value) (rb:Array Value):aj:=cD 7 [(0,⟨.raw cs,ty,false⟩),(1,⟨.op ts,39,true⟩),(2,⟨.op ws,51,true⟩),(3,⟨.op os,58,true⟩),(4,⟨.ls [.f (.slice 5 (.l 0) (.o nn) .any),.f (.slice 6 (.l 0) (.o nn) .any)],62,true⟩),(5,⟨.pop ra,3,true⟩),(6,⟨.pop rb,111,true⟩)]
def KV (off:Nat) (n:Nat) (cs:Array Value) (ty:TypeId) (t:Int) (k:Int) (Q:Int→Array Value→Array Value→Array Value→Nat→Array Value→Array Value→Prop) (fs:List av) (m:aj):Prop:=(match b9 fs 0 with | some f0=>(match dh f0 11 with | some i=>(match aV f0 7 with | some p1=>(match aV f0 8 with | some p2=>(match aV f0 9 with | some p3=>(match aV f0 10 with | some p4=>(match cO m p1 with | some ts=>(match cO m p2 with | some ws=>(match cO m p3 with | some os=>(match iL m p4 0 with | some p5=>(match iL m p4 1 with | some p6=>(match pJ m p4 0 with | some nn=>(match cO m p5 with | some ra=>(match cO m p6 with | some rb=>Q i ts ws os nn ra rb∧cV 1 [(1,p1),(2,p2),(3,p3),(4,p4),(5,p5),(6,p6)] (Bh off n cs ty t k i ts ws os nn ra rb) (Bi off n cs ty t k i ts ws os nn ra rb) fs m | none=>False) | none=>False) | none=>False) | none=>False) | none=>False) | none=>False) | none=>False) | none=>False) | none=>False) | none=>False) | none=>False) | none=>False) | none=>False) | none=>False)
noncomputable def JS:List bh:=cY Tryz.f3 8
noncomputable def Bj (off:Nat) (n:Nat) (cs:Array Value) (ty:TypeId) (t:Int) (k:Int) (i:Int) (ts:Array Value) (ws:Array Value) (os:Array Value):List av:=[dw 3 Tryz.f3 [(0,GV off n),(1,i64 (.o t)),(2,.s (.c (.f (.int .u32 (.o k))))),(7,ptr 1 (.l 0)),(8,ptr 2 (.l 0)),(9,ptr 3 (.l 0)),(10,ptr 4 (.l 0)),(11,i64 (.o i))] JS]
noncomputable def Bk (off:Nat) (n:Nat) (cs:Array Value) (ty:TypeId) (t:Int) (k:Int) (i:Int) (ts:Array Value) (ws:Array Value) (os:Array Value):aj:=cD 5 [(0,⟨.raw cs,ty,false⟩),(1,⟨.op ts,39,true⟩),(2,⟨.op ws,51,true⟩),(3,⟨.op os,58,true⟩),(4,⟨.ls [.f (.lit (.slice none 0 0)),.f (.lit (.slice none 0 0))],62,true⟩)]
def Fb (off:Nat) (n:Nat) (cs:Array Value) (ty:TypeId) (t:Int) (k:Int) (Q:Int→Array Value→Array Value→Array Value→Prop) (fs:List av) (m:aj):Prop:=(match b9 fs 0 with | some f0=>(match dh f0 11 with | some i=>(match aV f0 7 with | some p1=>(match aV f0 8 with | some p2=>(match aV f0 9 with | some p3=>(match aV f0 10 with | some p4=>(match cO m p1 with | some ts=>(match cO m p2 with | some ws=>(match cO m p3 with | some os=>Q i ts ws os∧cV 1 [(1,p1),(2,p2),(3,p3),(4,p4)] (Bj off n cs ty t k i ts ws os) (Bk off n cs ty t k i ts ws os) fs m | none=>False) | none=>False) | none=>False) | none=>False) | none=>False) | none=>False) | none=>False) | none=>False) | none=>False)
noncomputable def qh:List bh:=cY Tryz.f3 16
noncomputable def sq (t:Int) (k:Int) (ts:Array Value) (ws:Array Value) (os:Array Value) (nn:Nat) (ra:Array Value) (rb:Array Value):List av:=[dw 3 Tryz.f3 [(1,i64 (.o t)),(2,.s (.c (.f (.int .u32 (.o k))))),(7,ptr 1 (.l 0)),(8,ptr 2 (.l 0)),(9,ptr 3 (.l 0)),(10,ptr 4 (.l 0))] qh]
noncomputable def su (t:Int) (k:Int) (ts:Array Value) (ws:Array Value) (os:Array Value) (nn:Nat) (ra:Array Value) (rb:Array Value):aj:=cD 7 [(1,⟨.op ts,39,true⟩),(2,⟨.op ws,51,true⟩),(3,⟨.op os,58,true⟩),(4,⟨.ls [.f (.slice 5 (.l 0) (.o nn) .any),.f (.slice 6 (.l 0) (.o nn) .any)],62,true⟩),(5,⟨.pop ra,3,true⟩),(6,⟨.pop rb,111,true⟩)]
def KW (t:Int) (k:Int) (Q:Array Value→Array Value→Array Value→Nat→Array Value→Array Value→Prop) (fs:List av) (m:aj):Prop:=(match b9 fs 0 with | some f0=>(match aV f0 7 with | some p1=>(match aV f0 8 with | some p2=>(match aV f0 9 with | some p3=>(match aV f0 10 with | some p4=>(match cO m p1 with | some ts=>(match cO m p2 with | some ws=>(match cO m p3 with | some os=>(match iL m p4 0 with | some p5=>(match iL m p4 1 with | some p6=>(match pJ m p4 0 with | some nn=>(match cO m p5 with | some ra=>(match cO m p6 with | some rb=>Q ts ws os nn ra rb∧cV 1 [(1,p1),(2,p2),(3,p3),(4,p4),(5,p5),(6,p6)] (sq t k ts ws os nn ra rb) (su t k ts ws os nn ra rb) fs m | none=>False) | none=>False) | none=>False) | none=>False) | none=>False) | none=>False) | none=>False) | none=>False) | none=>False) | none=>False) | none=>False) | none=>False) | none=>False)
noncomputable def JT:List bh:=cY Tryz.f3 16
noncomputable def Bl (t:Int) (k:Int) (ts:Array Value) (ws:Array Value) (os:Array Value):List av:=[dw 3 Tryz.f3 [(1,i64 (.o t)),(2,.s (.c (.f (.int .u32 (.o k))))),(7,ptr 1 (.l 0)),(8,ptr 2 (.l 0)),(9,ptr 3 (.l 0)),(10,ptr 4 (.l 0))] JT]
noncomputable def Bm (t:Int) (k:Int) (ts:Array Value) (ws:Array Value) (os:Array Value):aj:=cD 5 [(1,⟨.op ts,39,true⟩),(2,⟨.op ws,51,true⟩),(3,⟨.op os,58,true⟩),(4,⟨.ls [.f (.lit (.slice none 0 0)),.f (.lit (.slice none 0 0))],62,true⟩)]
def Fc (t:Int) (k:Int) (Q:Array Value→Array Value→Array Value→Prop) (fs:List av) (m:aj):Prop:=(match b9 fs 0 with | some f0=>(match aV f0 7 with | some p1=>(match aV f0 8 with | some p2=>(match aV f0 9 with | some p3=>(match aV f0 10 with | some p4=>(match cO m p1 with | some ts=>(match cO m p2 with | some ws=>(match cO m p3 with | some os=>Q ts ws os∧cV 1 [(1,p1),(2,p2),(3,p3),(4,p4)] (Bl t k ts ws os) (Bm t k ts ws os) fs m | none=>False) | none=>False) | none=>False) | none=>False) | none=>False) | none=>False) | none=>False) | none=>False)
def GW (off n:Nat) (cs:Array Value) (ty:TypeId) (t k:Int) (QL:Int→Array Value→Array Value→Array Value→Nat→Array Value→Array Value→Prop) (QN:Int→Array Value→Array Value→Array Value→Prop) (QE:Array Value→Array Value→Array Value→Nat→Array Value→Array Value→Prop) (QM:Array Value→Array Value→Array Value→Prop) (fs:List av) (m:aj):Prop:=match b9 fs 0 with
 | some f=>(match aV f 10 with
  | some p=>(match iL m p 0 with
   | some _=>(match Nat.beq (atR fs) (3*1000+8) with | true=>KV off n cs ty t k QL fs m | false=>KW t k QE fs m)
   | none=>(match Nat.beq (atR fs) (3*1000+8) with | true=>Fb off n cs ty t k QN fs m | false=>Fc t k QM fs m))
  | none=>False)
 | none=>False
theorem tG (r:Nat→Option Nat):ak r jZ jZ:=ak.it (by kernel_rfl)
theorem aeZ (r:Nat→Option Nat):ak r JS JS:=ak.it (by kernel_rfl)
theorem HQ (r:Nat→Option Nat):ak r qh qh:=ak.it (by kernel_rfl)
theorem ae0 (r:Nat→Option Nat):ak r JT JT:=ak.it (by kernel_rfl)
theorem Yj {A:SV→aj→Prop} {off:Nat} {n:Nat} {cs:Array Value} {ty:TypeId} {t:Int} {k:Int} {Q:Int→Array Value→Array Value→Array Value→Nat→Array Value→Array Value→Prop} {fs:List av} {m:aj} (H:∀ i ts ws os nn ra rb,Q i ts ws os nn ra rb→Good Tryz.prog A 1 (Bh off n cs ty t k i ts ws os nn ra rb) (Bi off n cs ty t k i ts ws os nn ra rb)) (hb:KV off n cs ty t k Q fs m):Good Tryz.prog A 1 fs m:=by
 unfold KV at hb
 iterate 14 (split at hb;rotate_left;exact hb.elim)
 exact Good.c_ hb.2 (H _ _ _ _ _ _ _ hb.1)
theorem PM {A:SV→aj→Prop} {off:Nat} {n:Nat} {cs:Array Value} {ty:TypeId} {t:Int} {k:Int} {Q:Int→Array Value→Array Value→Array Value→Prop} {fs:List av} {m:aj} (H:∀ i ts ws os,Q i ts ws os→Good Tryz.prog A 1 (Bj off n cs ty t k i ts ws os) (Bk off n cs ty t k i ts ws os)) (hb:Fb off n cs ty t k Q fs m):Good Tryz.prog A 1 fs m:=by
 unfold Fb at hb
 iterate 9 (split at hb;rotate_left;exact hb.elim)
 exact Good.c_ hb.2 (H _ _ _ _ hb.1)
theorem Yk {A:SV→aj→Prop} {t:Int} {k:Int} {Q:Array Value→Array Value→Array Value→Nat→Array Value→Array Value→Prop} {fs:List av} {m:aj} (H:∀ ts ws os nn ra rb,Q ts ws os nn ra rb→Good Tryz.prog A 1 (sq t k ts ws os nn ra rb) (su t k ts ws os nn ra rb)) (hb:KW t k Q fs m):Good Tryz.prog A 1 fs m:=by
 unfold KW at hb
 iterate 13 (split at hb;rotate_left;exact hb.elim)
 exact Good.c_ hb.2 (H _ _ _ _ _ _ hb.1)
theorem PN {A:SV→aj→Prop} {t:Int} {k:Int} {Q:Array Value→Array Value→Array Value→Prop} {fs:List av} {m:aj} (H:∀ ts ws os,Q ts ws os→Good Tryz.prog A 1 (Bl t k ts ws os) (Bm t k ts ws os)) (hb:Fc t k Q fs m):Good Tryz.prog A 1 fs m:=by
 unfold Fc at hb
 iterate 8 (split at hb;rotate_left;exact hb.elim)
 exact Good.c_ hb.2 (H _ _ _ hb.1)
set_option maxRecDepth 100000
theorem ol0 (tg sg:Array Value) (off n:Nat) (cs:Array Value) (ty:TypeId) (t k:Int) (Q:Int→Array Value→Array Value→Array Value→Prop):(run (yT tg sg) 1000 1 [a_ 3 Tryz.f3.ntmps [GV off n,i64 (.o t),FL k] (Tryz.f3.body.getD .skip)] (cD 1 [(0,⟨.raw cs,ty,false⟩)])).vc (gD true) (Fb off n cs ty t k Q) =
  ((decide ((↑n:Int)>100)=true→true=true)∧(decide ((↑n:Int)>100)=false→Q (0:Int) zT zW zO∧cN∧ak (aD 1 [(1,1),(2,2),(3,3),(4,4)]) jZ jZ∧off=off∧n=n∧t=t∧(0:Int)=(0:Int)∧k=k∧ty=ty∧cs=cs∧39=39∧zT=zT∧58=58∧zO=zO∧51=51∧zW=zW∧62=62∧Value.slice none 0 0=Value.slice none 0 0∧Value.slice none 0 0=Value.slice none 0 0∧True)):=by kernel_rfl
theorem olZ (tg sg:Array Value) (t k:Int) (Q:Array Value→Array Value→Array Value→Prop):(run (Va tg sg) 1000 1 [a_ 3 Tryz.f3.ntmps [eS,i64 (.o t),FL k] (Tryz.f3.body.getD .skip)] (cD 1 [])).vc (gD true) (Fc t k Q) =
  (Q zT zW zO∧cN∧ak (aD 1 [(1,1),(2,2),(3,3),(4,4)]) qh qh∧t=t∧k=k∧39=39∧zT=zT∧58=58∧zO=zO∧51=51∧zW=zW∧62=62∧Value.slice none 0 0=Value.slice none 0 0∧Value.slice none 0 0=Value.slice none 0 0∧True):=by kernel_rfl
noncomputable def fI (off:Nat) (cs:Array Value) (i:Int):Int:=aa cs (off+i.toNat*5+1)
noncomputable def lW (off:Nat) (cs:Array Value) (i:Int) (ts:Array Value) (os:Array Value):Array Value:=dA os ts (aa cs (off+i.toNat*5)) (au ts (fI off cs i)) (aa cs (off+i.toNat*5+4))
noncomputable def qE (off:Nat) (cs:Array Value) (i:Int) (ts:Array Value):Array Value:=iq ts (aa cs (off+i.toNat*5)) (fI off cs i) (aa cs (off+i.toNat*5+2)) (aa cs (off+i.toNat*5+3)) (aa cs (off+i.toNat*5+4))
noncomputable def uT (off:Nat) (cs:Array Value) (i:Int) (ts:Array Value) (ws:Array Value):Array Value:=iU ts ws (aa cs (off+i.toNat*5)) (fI off cs i) (aa cs (off+i.toNat*5+2)) (aa cs (off+i.toNat*5+3)) (aa cs (off+i.toNat*5+4))
noncomputable def ku (off:Nat) (cs:Array Value) (i:Int):Int:=aa cs (off+i.toNat*5+4)
noncomputable def kA (off:Nat) (cs:Array Value) (i:Int):Int:=aa cs (off+i.toNat*5)
def Fe (off:Nat) (cs:Array Value) (i:Int):Prop:=aA .u8 cs (off+i.toNat*5)∧aA .u32 cs (off+i.toNat*5+1)∧aA .u32 cs (off+i.toNat*5+2)∧aA .u32 cs (off+i.toNat*5+3)∧aA .i64 cs (off+i.toNat*5+4)∧True
theorem Vc (tg sg:Array Value) (off n:Nat) (cs:Array Value) (ty:TypeId) (t k i:Int) (ts ws os:Array Value) (nn:Nat) (ra rb:Array Value) (QL:Int→Array Value→Array Value→Array Value→Nat→Array Value→Array Value→Prop) (QN:Int→Array Value→Array Value→Array Value→Prop) (QE:Array Value→Array Value→Array Value→Nat→Array Value→Array Value→Prop) (QM:Array Value→Array Value→Array Value→Prop):(stepT (yT tg sg).go (run (yT tg sg) 1000) 1 (Bh off n cs ty t k i ts ws os nn ra rb) (Bi off n cs ty t k i ts ws os nn ra rb)).vc (fun _ _=>False) (GW off n cs ty t k QL QN QE QM) =
  ((decide (i<(↑n:Int))=true→((0≤i∧i<(↑n:Int))∧True)∧(aA .u8 cs (off+i.toNat*5)∧True)∧(decide (aa cs (off+i.toNat*5)>9)=true→(ts.size=448∧True)∧(ws.size=448∧True)∧(os.size=128∧True)∧((0≤i∧i<(↑n:Int))∧True)∧(Fe off cs i)∧(SW ts ws∧ay ts∧aS os∧bZ os ts ra rb nn nn∧(0≤aa cs (off+i.toNat*5+1)∧aa cs (off+i.toNat*5+1)<4294967296)∧True)∧(decide (dV os ts (kA off cs i) (au ts (fI off cs i)) (ku off cs i)=(0:Int))=true→((lW off cs i ts os).size=128∧(lW off cs i ts os).size=os.size∧True)∧(ts.size=448∧True)∧(ws.size=448∧True)∧((lW off cs i ts os).size=128∧True)∧(SW ts ws∧ay ts∧aS (lW off cs i ts os)∧bZ (lW off cs i ts os) ts (eC ra (au ts (fI off cs i)) nn) (eD ra rb (au ts (fI off cs i)) nn (ia os ts (kA off cs i) (au ts (fI off cs i)) (ku off cs i))) (cz ra (au ts (fI off cs i)) nn) (cz ra (au ts (fI off cs i)) nn)∧True)∧QL (ah .add .i64 i 1) ts ws (lW off cs i ts os) (cz ra (au ts (fI off cs i)) nn) (eC ra (au ts (fI off cs i)) nn) (eD ra rb (au ts (fI off cs i)) nn (ia os ts (kA off cs i) (au ts (fI off cs i)) (ku off cs i)))∧cN∧ak (aD 1 [(1,1),(2,2),(3,3),(4,4),(5,7),(6,8)]) jZ jZ∧off=off∧n=n∧t=t∧ah .add .i64 i 1=ah .add .i64 i 1∧k=k∧ty=ty∧cs=cs∧39=39∧ts=ts∧58=58∧dA os ts (kA off cs i) (au ts (fI off cs i)) (ku off cs i)=dA os ts (kA off cs i) (au ts (fI off cs i)) (ku off cs i)∧3=3∧eC ra (au ts (fI off cs i)) nn=eC ra (au ts (fI off cs i)) nn∧51=51∧ws=ws∧62=62∧cz ra (au ts (fI off cs i)) nn=cz ra (au ts (fI off cs i)) nn∧cz ra (au ts (fI off cs i)) nn=cz ra (au ts (fI off cs i)) nn∧111=111∧eD ra rb (au ts (fI off cs i)) nn (ia os ts (kA off cs i) (au ts (fI off cs i)) (ku off cs i))=eD ra rb (au ts (fI off cs i)) nn (ia os ts (kA off cs i) (au ts (fI off cs i)) (ku off cs i))∧True)∧(decide (dV os ts (kA off cs i) (au ts (fI off cs i)) (ku off cs i)=(0:Int))=false→((lW off cs i ts os).size=128∧(lW off cs i ts os).size=os.size∧True)∧(ts.size=448∧True)∧(ws.size=448∧True)∧((lW off cs i ts os).size=128∧True)∧(SW ts ws∧ay ts∧aS (lW off cs i ts os)∧bZ (lW off cs i ts os) ts ra rb nn nn∧True)∧QL (ah .add .i64 i 1) ts ws (lW off cs i ts os) nn ra rb∧cN∧ak (aD 1 [(1,1),(2,2),(3,3),(4,4),(5,5),(6,6)]) jZ jZ∧off=off∧n=n∧t=t∧ah .add .i64 i 1=ah .add .i64 i 1∧k=k∧ty=ty∧cs=cs∧39=39∧ts=ts∧58=58∧dA os ts (kA off cs i) (au ts (fI off cs i)) (ku off cs i)=dA os ts (kA off cs i) (au ts (fI off cs i)) (ku off cs i)∧3=3∧ra=ra∧51=51∧ws=ws∧62=62∧nn=nn∧nn=nn∧111=111∧rb=rb∧True))∧(decide (aa cs (off+i.toNat*5)>9)=false→(ts.size=448∧True)∧(ws.size=448∧True)∧((0≤i∧i<(↑n:Int))∧True)∧(Fe off cs i)∧(SW ts ws∧FV ts∧(0≤aa cs (off+i.toNat*5+1)∧aa cs (off+i.toNat*5+1)<4294967296)∧(0≤aa cs (off+i.toNat*5+2)∧aa cs (off+i.toNat*5+2)<4294967296)∧(0≤aa cs (off+i.toNat*5+3)∧aa cs (off+i.toNat*5+3)<4294967296)∧True)∧((qE off cs i ts).size=448∧(qE off cs i ts).size=ts.size∧True)∧((uT off cs i ts ws).size=448∧(uT off cs i ts ws).size=ws.size∧True)∧((qE off cs i ts).size=448∧True)∧((uT off cs i ts ws).size=448∧True)∧(os.size=128∧True)∧(SW (qE off cs i ts) (uT off cs i ts ws)∧ay (qE off cs i ts)∧aS os∧bZ os (qE off cs i ts) ra rb nn nn∧True)∧QL (ah .add .i64 i 1) (qE off cs i ts) (uT off cs i ts ws) os nn ra rb∧cN∧ak (aD 1 [(1,1),(2,2),(3,3),(4,4),(5,5),(6,6)]) jZ jZ∧off=off∧n=n∧t=t∧ah .add .i64 i 1=ah .add .i64 i 1∧k=k∧ty=ty∧cs=cs∧39=39∧iq ts (kA off cs i) (fI off cs i) (aa cs (off+i.toNat*5+2)) (aa cs (off+i.toNat*5+3)) (ku off cs i)=iq ts (kA off cs i) (fI off cs i) (aa cs (off+i.toNat*5+2)) (aa cs (off+i.toNat*5+3)) (ku off cs i)∧58=58∧os=os∧3=3∧ra=ra∧51=51∧iU ts ws (kA off cs i) (fI off cs i) (aa cs (off+i.toNat*5+2)) (aa cs (off+i.toNat*5+3)) (ku off cs i)=iU ts ws (kA off cs i) (fI off cs i) (aa cs (off+i.toNat*5+2)) (aa cs (off+i.toNat*5+3)) (ku off cs i)∧62=62∧nn=nn∧nn=nn∧111=111∧rb=rb∧True))∧(decide (i<(↑n:Int))=false→QE ts ws os nn ra rb∧cN∧ak (aD 1 [(1,1),(2,2),(3,3),(4,4),(5,5),(6,6)]) qh qh∧t=t∧k=k∧39=39∧ts=ts∧58=58∧os=os∧3=3∧ra=ra∧51=51∧ws=ws∧62=62∧nn=nn∧nn=nn∧111=111∧rb=rb∧True)):=by kernel_rfl
noncomputable def lX (off:Nat) (cs:Array Value) (i:Int) (ts:Array Value) (os:Array Value):Array Value:=dA os ts (aa cs (off+i.toNat*5)) (au ts (aa cs (off+i.toNat*5+1))) (aa cs (off+i.toNat*5+4))
noncomputable def qF (off:Nat) (cs:Array Value) (i:Int) (ts:Array Value):Array Value:=iq ts (aa cs (off+i.toNat*5)) (aa cs (off+i.toNat*5+1)) (aa cs (off+i.toNat*5+2)) (aa cs (off+i.toNat*5+3)) (aa cs (off+i.toNat*5+4))
noncomputable def uU (off:Nat) (cs:Array Value) (i:Int) (ts:Array Value) (ws:Array Value):Array Value:=iU ts ws (aa cs (off+i.toNat*5)) (aa cs (off+i.toNat*5+1)) (aa cs (off+i.toNat*5+2)) (aa cs (off+i.toNat*5+3)) (aa cs (off+i.toNat*5+4))
noncomputable def jl (off:Nat) (cs:Array Value) (i:Int):Int:=aa cs (off+i.toNat*5+1)
noncomputable def kB (off:Nat) (cs:Array Value) (i:Int):Int:=aa cs (off+i.toNat*5+4)
noncomputable def kC (off:Nat) (cs:Array Value) (i:Int):Int:=aa cs (off+i.toNat*5)
def Ff (off:Nat) (cs:Array Value) (i:Int):Prop:=aA .u8 cs (off+i.toNat*5)∧aA .u32 cs (off+i.toNat*5+1)∧aA .u32 cs (off+i.toNat*5+2)∧aA .u32 cs (off+i.toNat*5+3)∧aA .i64 cs (off+i.toNat*5+4)∧True
theorem Vd (tg sg:Array Value) (off n:Nat) (cs:Array Value) (ty:TypeId) (t k i:Int) (ts ws os:Array Value) (QL:Int→Array Value→Array Value→Array Value→Nat→Array Value→Array Value→Prop) (QN:Int→Array Value→Array Value→Array Value→Prop) (QE:Array Value→Array Value→Array Value→Nat→Array Value→Array Value→Prop) (QM:Array Value→Array Value→Array Value→Prop):(stepT (yT tg sg).go (run (yT tg sg) 1000) 1 (Bj off n cs ty t k i ts ws os) (Bk off n cs ty t k i ts ws os)).vc (fun _ _=>False) (GW off n cs ty t k QL QN QE QM) =
  ((decide (i<(↑n:Int))=true→((0≤i∧i<(↑n:Int))∧True)∧(aA .u8 cs (off+i.toNat*5)∧True)∧(decide (aa cs (off+i.toNat*5)>9)=true→(ts.size=448∧True)∧(ws.size=448∧True)∧(os.size=128∧True)∧((0≤i∧i<(↑n:Int))∧True)∧(Ff off cs i)∧(SW ts ws∧ay ts∧aS os∧dP os ts∧(0≤aa cs (off+i.toNat*5+1)∧aa cs (off+i.toNat*5+1)<4294967296)∧True)∧(decide (dV os ts (kC off cs i) (au ts (jl off cs i)) (kB off cs i)=(0:Int))=true→((lX off cs i ts os).size=128∧(lX off cs i ts os).size=os.size∧True)∧(ts.size=448∧True)∧(ws.size=448∧True)∧((lX off cs i ts os).size=128∧True)∧(SW ts ws∧ay ts∧aS (lX off cs i ts os)∧bZ (lX off cs i ts os) ts #[Value.int .i64 (au ts (jl off cs i))] (ia os ts (kC off cs i) (au ts (jl off cs i)) (kB off cs i)) (1:Nat) (1:Nat)∧True)∧QL (ah .add .i64 i 1) ts ws (lX off cs i ts os) (1:Nat) #[Value.int .i64 (au ts (jl off cs i))] (ia os ts (kC off cs i) (au ts (jl off cs i)) (kB off cs i))∧cN∧ak (aD 1 [(1,1),(2,2),(3,3),(4,4),(5,5),(6,6)]) jZ jZ∧off=off∧n=n∧t=t∧ah .add .i64 i 1=ah .add .i64 i 1∧k=k∧ty=ty∧cs=cs∧39=39∧ts=ts∧58=58∧dA os ts (kC off cs i) (au ts (jl off cs i)) (kB off cs i)=dA os ts (kC off cs i) (au ts (jl off cs i)) (kB off cs i)∧3=3∧#[Value.int .i64 (au ts (jl off cs i))]=#[Value.int .i64 (au ts (jl off cs i))]∧51=51∧ws=ws∧62=62∧(1:Nat)=1∧(1:Nat)=1∧111=111∧ia os ts (kC off cs i) (au ts (jl off cs i)) (kB off cs i)=ia os ts (kC off cs i) (au ts (jl off cs i)) (kB off cs i)∧True)∧(decide (dV os ts (kC off cs i) (au ts (jl off cs i)) (kB off cs i)=(0:Int))=false→((lX off cs i ts os).size=128∧(lX off cs i ts os).size=os.size∧True)∧(ts.size=448∧True)∧(ws.size=448∧True)∧((lX off cs i ts os).size=128∧True)∧(SW ts ws∧ay ts∧aS (lX off cs i ts os)∧dP (lX off cs i ts os) ts∧True)∧QN (ah .add .i64 i 1) ts ws (lX off cs i ts os)∧cN∧ak (aD 1 [(1,1),(2,2),(3,3),(4,4)]) jZ jZ∧off=off∧n=n∧t=t∧ah .add .i64 i 1=ah .add .i64 i 1∧k=k∧ty=ty∧cs=cs∧39=39∧ts=ts∧58=58∧dA os ts (kC off cs i) (au ts (jl off cs i)) (kB off cs i)=dA os ts (kC off cs i) (au ts (jl off cs i)) (kB off cs i)∧51=51∧ws=ws∧62=62∧Value.slice none 0 0=Value.slice none 0 0∧Value.slice none 0 0=Value.slice none 0 0∧True))∧(decide (aa cs (off+i.toNat*5)>9)=false→(ts.size=448∧True)∧(ws.size=448∧True)∧((0≤i∧i<(↑n:Int))∧True)∧(Ff off cs i)∧(SW ts ws∧FV ts∧(0≤aa cs (off+i.toNat*5+1)∧aa cs (off+i.toNat*5+1)<4294967296)∧(0≤aa cs (off+i.toNat*5+2)∧aa cs (off+i.toNat*5+2)<4294967296)∧(0≤aa cs (off+i.toNat*5+3)∧aa cs (off+i.toNat*5+3)<4294967296)∧True)∧((qF off cs i ts).size=448∧(qF off cs i ts).size=ts.size∧True)∧((uU off cs i ts ws).size=448∧(uU off cs i ts ws).size=ws.size∧True)∧((qF off cs i ts).size=448∧True)∧((uU off cs i ts ws).size=448∧True)∧(os.size=128∧True)∧(SW (qF off cs i ts) (uU off cs i ts ws)∧ay (qF off cs i ts)∧aS os∧dP os (qF off cs i ts)∧True)∧QN (ah .add .i64 i 1) (qF off cs i ts) (uU off cs i ts ws) os∧cN∧ak (aD 1 [(1,1),(2,2),(3,3),(4,4)]) jZ jZ∧off=off∧n=n∧t=t∧ah .add .i64 i 1=ah .add .i64 i 1∧k=k∧ty=ty∧cs=cs∧39=39∧iq ts (kC off cs i) (jl off cs i) (aa cs (off+i.toNat*5+2)) (aa cs (off+i.toNat*5+3)) (kB off cs i)=iq ts (kC off cs i) (jl off cs i) (aa cs (off+i.toNat*5+2)) (aa cs (off+i.toNat*5+3)) (kB off cs i)∧58=58∧os=os∧51=51∧iU ts ws (kC off cs i) (jl off cs i) (aa cs (off+i.toNat*5+2)) (aa cs (off+i.toNat*5+3)) (kB off cs i)=iU ts ws (kC off cs i) (jl off cs i) (aa cs (off+i.toNat*5+2)) (aa cs (off+i.toNat*5+3)) (kB off cs i)∧62=62∧Value.slice none 0 0=Value.slice none 0 0∧Value.slice none 0 0=Value.slice none 0 0∧True))∧(decide (i<(↑n:Int))=false→QM ts ws os∧cN∧ak (aD 1 [(1,1),(2,2),(3,3),(4,4)]) qh qh∧t=t∧k=k∧39=39∧ts=ts∧58=58∧os=os∧51=51∧ws=ws∧62=62∧Value.slice none 0 0=Value.slice none 0 0∧Value.slice none 0 0=Value.slice none 0 0∧True)):=by kernel_rfl
theorem olA (ts ws os:Array Value) (t k:Int) (nn:Nat) (ra rb:Array Value):(stepT (ox true true os ts).go (run (ox true true os ts) 1000) 1 (sq t k ts ws os nn ra rb) (su t k ts ws os nn ra rb)).vc (gD true) (fun _ _=>False) =
  ((ws.size=448∧True)∧(SW ts ws∧aM ts∧True)∧((aB ts (IntKind.wrap .i64 k)==false)=true→(os.size=128∧True)∧(ts.size=448∧True)∧(aS os∧ay ts∧(0≤k∧k<4294967296)∧True)∧(((aW os ts k==0&&(bt os ts k==0&&aR os ts k==0))==true)=true→(os.size=128∧True)∧(ts.size=448∧True)∧(aS os∧ay ts∧True)∧((dB os ts t).length=0∧True)∧(ws.size=448∧True)∧(aS os∧SW ts ws∧ay ts∧bZ os ts ra rb nn nn∧True)∧((dB os ts t).length=0∧True)∧(os.size=128∧True)∧(ts.size=448∧True)∧(aS os∧ay ts∧True)∧((dD os ts t).length=0∧True)∧(ws.size=448∧True)∧(aS os∧SW ts ws∧ay ts∧bZ os ts ra rb nn nn∧True)∧((dD os ts t).length=0∧True)∧true=true)∧(((aW os ts k==0&&(bt os ts k==0&&aR os ts k==0))==true)=false→false=true))∧((aB ts (IntKind.wrap .i64 k)==false)=false→(os.size=128∧True)∧(ts.size=448∧True)∧(aS os∧ay ts∧True)∧((dB os ts t).length=0∧True)∧(ws.size=448∧True)∧(aS os∧SW ts ws∧ay ts∧bZ os ts ra rb nn nn∧True)∧((dB os ts t).length=0∧True)∧(os.size=128∧True)∧(ts.size=448∧True)∧(aS os∧ay ts∧True)∧((dD os ts t).length=0∧True)∧(ws.size=448∧True)∧(aS os∧SW ts ws∧ay ts∧bZ os ts ra rb nn nn∧True)∧((dD os ts t).length=0∧True)∧true=true)):=by kernel_rfl
theorem olB (ts ws os:Array Value) (t k:Int) (nn:Nat) (ra rb:Array Value):(stepT (ox true false os ts).go (run (ox true false os ts) 1000) 1 (sq t k ts ws os nn ra rb) (su t k ts ws os nn ra rb)).vc (gD true) (fun _ _=>False) =
  ((ws.size=448∧True)∧(SW ts ws∧aM ts∧True)∧((aB ts (IntKind.wrap .i64 k)==false)=true→(os.size=128∧True)∧(ts.size=448∧True)∧(aS os∧ay ts∧(0≤k∧k<4294967296)∧True)∧(((aW os ts k==0&&(bt os ts k==0&&aR os ts k==0))==true)=true→(os.size=128∧True)∧(ts.size=448∧True)∧(aS os∧ay ts∧True)∧((dB os ts t).length=0∧True)∧(ws.size=448∧True)∧(aS os∧SW ts ws∧ay ts∧bZ os ts ra rb nn nn∧True)∧((dB os ts t).length=0∧True)∧(os.size=128∧True)∧(ts.size=448∧True)∧(aS os∧ay ts∧True)∧((dD os ts t).length≠(0:Nat)∧True)∧(ws.size=448∧True)∧(aS os∧SW ts ws∧ay ts∧bZ os ts ra rb nn nn∧True)∧((dD os ts t).length≠(0:Nat)∧True)∧(jh (aL (dD os ts t)) (aE (dD os ts t)) ((dD os ts t).length) ((dD os ts t).length)∧True)∧true=true)∧(((aW os ts k==0&&(bt os ts k==0&&aR os ts k==0))==true)=false→false=true))∧((aB ts (IntKind.wrap .i64 k)==false)=false→(os.size=128∧True)∧(ts.size=448∧True)∧(aS os∧ay ts∧True)∧((dB os ts t).length=0∧True)∧(ws.size=448∧True)∧(aS os∧SW ts ws∧ay ts∧bZ os ts ra rb nn nn∧True)∧((dB os ts t).length=0∧True)∧(os.size=128∧True)∧(ts.size=448∧True)∧(aS os∧ay ts∧True)∧((dD os ts t).length≠(0:Nat)∧True)∧(ws.size=448∧True)∧(aS os∧SW ts ws∧ay ts∧bZ os ts ra rb nn nn∧True)∧((dD os ts t).length≠(0:Nat)∧True)∧(jh (aL (dD os ts t)) (aE (dD os ts t)) ((dD os ts t).length) ((dD os ts t).length)∧True)∧true=true)):=by kernel_rfl
theorem olC (ts ws os:Array Value) (t k:Int) (nn:Nat) (ra rb:Array Value):(stepT (ox false true os ts).go (run (ox false true os ts) 1000) 1 (sq t k ts ws os nn ra rb) (su t k ts ws os nn ra rb)).vc (gD true) (fun _ _=>False) =
  ((ws.size=448∧True)∧(SW ts ws∧aM ts∧True)∧((aB ts (IntKind.wrap .i64 k)==false)=true→(os.size=128∧True)∧(ts.size=448∧True)∧(aS os∧ay ts∧(0≤k∧k<4294967296)∧True)∧(((aW os ts k==0&&(bt os ts k==0&&aR os ts k==0))==true)=true→(os.size=128∧True)∧(ts.size=448∧True)∧(aS os∧ay ts∧True)∧((dB os ts t).length≠(0:Nat)∧True)∧(ws.size=448∧True)∧(aS os∧SW ts ws∧ay ts∧bZ os ts ra rb nn nn∧True)∧((dB os ts t).length≠(0:Nat)∧True)∧(jh (aL (dB os ts t)) (aE (dB os ts t)) ((dB os ts t).length) ((dB os ts t).length)∧True)∧(os.size=128∧True)∧(ts.size=448∧True)∧(aS os∧ay ts∧True)∧((dD os ts t).length=0∧True)∧(ws.size=448∧True)∧(aS os∧SW ts ws∧ay ts∧bZ os ts ra rb nn nn∧True)∧((dD os ts t).length=0∧True)∧true=true)∧(((aW os ts k==0&&(bt os ts k==0&&aR os ts k==0))==true)=false→false=true))∧((aB ts (IntKind.wrap .i64 k)==false)=false→(os.size=128∧True)∧(ts.size=448∧True)∧(aS os∧ay ts∧True)∧((dB os ts t).length≠(0:Nat)∧True)∧(ws.size=448∧True)∧(aS os∧SW ts ws∧ay ts∧bZ os ts ra rb nn nn∧True)∧((dB os ts t).length≠(0:Nat)∧True)∧(jh (aL (dB os ts t)) (aE (dB os ts t)) ((dB os ts t).length) ((dB os ts t).length)∧True)∧(os.size=128∧True)∧(ts.size=448∧True)∧(aS os∧ay ts∧True)∧((dD os ts t).length=0∧True)∧(ws.size=448∧True)∧(aS os∧SW ts ws∧ay ts∧bZ os ts ra rb nn nn∧True)∧((dD os ts t).length=0∧True)∧true=true)):=by kernel_rfl
theorem olD (ts ws os:Array Value) (t k:Int) (nn:Nat) (ra rb:Array Value):(stepT (ox false false os ts).go (run (ox false false os ts) 1000) 1 (sq t k ts ws os nn ra rb) (su t k ts ws os nn ra rb)).vc (gD true) (fun _ _=>False) =
  ((ws.size=448∧True)∧(SW ts ws∧aM ts∧True)∧((aB ts (IntKind.wrap .i64 k)==false)=true→(os.size=128∧True)∧(ts.size=448∧True)∧(aS os∧ay ts∧(0≤k∧k<4294967296)∧True)∧(((aW os ts k==0&&(bt os ts k==0&&aR os ts k==0))==true)=true→(os.size=128∧True)∧(ts.size=448∧True)∧(aS os∧ay ts∧True)∧((dB os ts t).length≠(0:Nat)∧True)∧(ws.size=448∧True)∧(aS os∧SW ts ws∧ay ts∧bZ os ts ra rb nn nn∧True)∧((dB os ts t).length≠(0:Nat)∧True)∧(jh (aL (dB os ts t)) (aE (dB os ts t)) ((dB os ts t).length) ((dB os ts t).length)∧True)∧(os.size=128∧True)∧(ts.size=448∧True)∧(aS os∧ay ts∧True)∧((dD os ts t).length≠(0:Nat)∧True)∧(ws.size=448∧True)∧(aS os∧SW ts ws∧ay ts∧bZ os ts ra rb nn nn∧True)∧((dD os ts t).length≠(0:Nat)∧True)∧(jh (aL (dD os ts t)) (aE (dD os ts t)) ((dD os ts t).length) ((dD os ts t).length)∧True)∧true=true)∧(((aW os ts k==0&&(bt os ts k==0&&aR os ts k==0))==true)=false→false=true))∧((aB ts (IntKind.wrap .i64 k)==false)=false→(os.size=128∧True)∧(ts.size=448∧True)∧(aS os∧ay ts∧True)∧((dB os ts t).length≠(0:Nat)∧True)∧(ws.size=448∧True)∧(aS os∧SW ts ws∧ay ts∧bZ os ts ra rb nn nn∧True)∧((dB os ts t).length≠(0:Nat)∧True)∧(jh (aL (dB os ts t)) (aE (dB os ts t)) ((dB os ts t).length) ((dB os ts t).length)∧True)∧(os.size=128∧True)∧(ts.size=448∧True)∧(aS os∧ay ts∧True)∧((dD os ts t).length≠(0:Nat)∧True)∧(ws.size=448∧True)∧(aS os∧SW ts ws∧ay ts∧bZ os ts ra rb nn nn∧True)∧((dD os ts t).length≠(0:Nat)∧True)∧(jh (aL (dD os ts t)) (aE (dD os ts t)) ((dD os ts t).length) ((dD os ts t).length)∧True)∧true=true)):=by kernel_rfl
theorem ol4 (ts ws os:Array Value) (t k:Int):(stepT (ox true true os ts).go (run (ox true true os ts) 1000) 1 (Bl t k ts ws os) (Bm t k ts ws os)).vc (gD true) (fun _ _=>False) =
  ((ws.size=448∧True)∧(SW ts ws∧aM ts∧True)∧((aB ts (IntKind.wrap .i64 k)==false)=true→(os.size=128∧True)∧(ts.size=448∧True)∧(aS os∧ay ts∧(0≤k∧k<4294967296)∧True)∧(((aW os ts k==0&&(bt os ts k==0&&aR os ts k==0))==true)=true→(os.size=128∧True)∧(ts.size=448∧True)∧(aS os∧ay ts∧True)∧((dB os ts t).length=0∧True)∧(ws.size=448∧True)∧(SW ts ws∧ay ts∧dP os ts∧True)∧(os.size=128∧True)∧(ts.size=448∧True)∧(aS os∧ay ts∧True)∧((dD os ts t).length=0∧True)∧(ws.size=448∧True)∧(SW ts ws∧ay ts∧dP os ts∧True)∧true=true)∧(((aW os ts k==0&&(bt os ts k==0&&aR os ts k==0))==true)=false→false=true))∧((aB ts (IntKind.wrap .i64 k)==false)=false→(os.size=128∧True)∧(ts.size=448∧True)∧(aS os∧ay ts∧True)∧((dB os ts t).length=0∧True)∧(ws.size=448∧True)∧(SW ts ws∧ay ts∧dP os ts∧True)∧(os.size=128∧True)∧(ts.size=448∧True)∧(aS os∧ay ts∧True)∧((dD os ts t).length=0∧True)∧(ws.size=448∧True)∧(SW ts ws∧ay ts∧dP os ts∧True)∧true=true)):=by kernel_rfl
set_option maxRecDepth 1000000 in
theorem WA:(run E0 200000 0 [a_ 4 Tryz.f4.ntmps [] (Tryz.f4.body.getD .skip)] ⟨0,.nil,[]⟩).wN=true:=by kernel_rfl
theorem YU:E0.fn 4=some Tryz.f4:=by kernel_rfl
theorem WC:Tryz.f4.body=some (Tryz.f4.body.getD .skip):=by kernel_rfl
theorem W4 (m:aj):aq E0 4 [] m (bu [] (.ret (sB (.l true)) m)) :=
 aq.pure aU YU WC (by kernel_rfl) (by kernel_rfl) fun _=>Xe aU WA
set_option linter.unusedVariables false
theorem Iy (os ts:Array Value):∀ g l m t,Bg os ts g l m=some t→aq E0 g l m t:=by
 intro g l m t h
 unfold Bg at h
 split at h
 ·cases h;exact W4 m
 ·rename_i us ws d a b c q;cases h
  refine aq.asked fun hq=>aq.args (l':=[bB us,bg ws,mW d.den a.den b.den c.den q.den]) (fun R vs ha=>by
   match vs,ha with
   | [v,w,z],ha=>exact ⟨ha.1,ha.2.1,KL ha.2.2.1,trivial⟩) ?_
  intro A hs
  exact aa1 d.den a.den b.den c.den q.den m A ⟨fun p hp=>hq p hp,hs⟩
 ·rename_i us ws o i n c1 j k' c2 d a b c q
  split at h
  ·rename_i ra w1 rb w2 h1 h2;cases h
   refine aq.args (l':=[bB us,bg ws,cJ o,.s (.agg (.ls [.f (.slice i (.l 0) n c1),.f (.slice j (.l 0) k' c2)])),mW d.den a.den b.den c.den q.den]) (fun R vs ha=>by
    match vs,ha with
    | [u,v,x,y,z],ha=>exact ⟨ha.1,ha.2.1,ha.2.2.1,ha.2.2.2.1,KL ha.2.2.2.2.1,trivial⟩) ?_
   exact Yg d.den a.den b.den c.den q.den h1 h2
  ·cases h
 ·rename_i us ws o d a b c q;cases h
  refine aq.args (l':=[bB us,bg ws,cJ o,ff,mW d.den a.den b.den c.den q.den]) (fun R vs ha=>by
   match vs,ha with
   | [u,v,x,y,z],ha=>exact ⟨ha.1,ha.2.1,ha.2.2.1,ha.2.2.2.1,KL ha.2.2.2.2.1,trivial⟩) ?_
  exact Yh d.den a.den b.den c.den q.den m
 ·rename_i us ws o i n c1 j k' c2
  split at h
  ·rename_i ra w1 rb w2 h1 h2;cases h
   exact WX h1 h2
  ·cases h
 ·cases h;exact WY m
 ·rename_i ws x;cases h
  exact aq.n1 (OC x.den m)
 ·rename_i o us x;cases h
  refine aq.asked fun hq=>aq.args (l':=[cJ o,bB us,u32 x.den]) (fun R vs ha=>by
   match vs,ha with
   | [v,w,z],ha=>exact ⟨ha.1,ha.2.1,ha.2.2.1,trivial⟩) ?_
  intro A hs
  exact RP x.den m A ⟨fun p hp=>hq p hp,hs⟩
 ·rename_i ws t y;cases h
  refine aq.args (l':=[ff,bg ws,i64 (.o t.den),sB (.o y.den)]) (fun R vs ha=>by
   match vs,ha with
   | [u,v,x,y],ha=>exact ⟨ha.1,ha.2.1,ha.2.2.1,ha.2.2.2.1,trivial⟩) ?_
  exact WW m
 ·split at h
  ·rename_i a w1 b w2 h1 h2;cases h
   exact Yd h1 h2
  ·cases h
 ·cases h;exact WZ m
 ·cases h
theorem Sd {os ts:Array Value} {E:Env} {g:FuncId} {l:List SV} {m:aj} {q:List Prop} {L:List Int} (e:Bool) (h:aq E g l m (.need q (lf L 30 m))):aq E g l m (.need q (sK e L.length (aL L) 30 m)):=by
 intro A hs
 refine h A ⟨hs.1,?_⟩
 have h2:=hs.2
 unfold sK at h2
 cases e with
 | true =>
  obtain ⟨k,h2⟩:=h2
  have hz:L.length=0:=k _ (by simp)
  exact ⟨fun _=>h2,fun k=>absurd hz (of_decide_eq_false k)⟩
 | false =>
  obtain ⟨k,h2⟩:=h2
  have hz:L.length≠0:=k _ (by simp)
  exact ⟨fun k=>absurd (of_decide_eq_true k) hz,fun _=>h2⟩
theorem Se {E:Env} {g:FuncId} {l:List SV} {m:aj} {q:List Prop} {L:List Int} (e:Bool) (h:aq E g l m (.need q (mP L m))):aq E g l m (.need q (sK e L.length (aE L) 3 m)):=by
 intro A hs
 refine h A ⟨hs.1,?_⟩
 have h2:=hs.2
 unfold sK at h2
 cases e with
 | true =>
  obtain ⟨k,h2⟩:=h2
  have hz:L.length=0:=k _ (by simp)
  exact ⟨fun _=>h2,fun k=>absurd hz (of_decide_eq_false k)⟩
 | false =>
  obtain ⟨k,h2⟩:=h2
  have hz:L.length≠0:=k _ (by simp)
  exact ⟨fun k=>absurd (of_decide_eq_true k) hz,fun _=>h2⟩
theorem Yl (e1 e2:Bool) (os ts:Array Value):∀ g l m t,KU e1 e2 os ts g l m=some t→aq E0 g l m t:=by
 intro g l m t h
 unfold KU at h
 split at h
 ·rename_i o us k;cases h
  refine Sd (os:=os) (ts:=ts) e1 (aq.args (l':=[cJ o,bB us,i64 (.o k.den)]) (fun R vs ha=>by
   match vs,ha with
   | [v,w,z],ha=>exact ⟨ha.1,ha.2.1,ha.2.2.1,trivial⟩) ?_)
  exact W5 k.den m
 ·rename_i o us k;cases h
  refine Sd (os:=os) (ts:=ts) e2 (aq.args (l':=[cJ o,bB us,i64 (.o k.den)]) (fun R vs ha=>by
   match vs,ha with
   | [v,w,z],ha=>exact ⟨ha.1,ha.2.1,ha.2.2.1,trivial⟩) ?_)
  exact Ym k.den m
 ·rename_i i n c1 j k' c2 ws t
  split at h
  ·rename_i ra w1 rb w2 h1 h2;cases h
   refine Se e1 (aq.asked fun hq=>?_)
   have q0:aS os:=hq _ (by simp)
   rw [← (Fa q0 t.den).1]
   refine aq.args (l':=[.s (.agg (.ls [.f (.slice i (.l 0) n c1),.f (.slice j (.l 0) k' c2)])),bg ws,i64 (.o t.den),sB (.o false)]) (fun R vs ha=>by
    match vs,ha with
    | [u,v,x,y],ha=>exact ⟨ha.1,ha.2.1,ha.2.2.1,ha.2.2.2.1,trivial⟩) ?_
   intro A hs
   exact OF h1 h2 A ⟨fun p hp=>hq p (List.mem_cons_of_mem _ hp),hs⟩
  ·cases h
 ·rename_i i n c1 j k' c2 ws t
  split at h
  ·rename_i ra w1 rb w2 h1 h2;cases h
   refine Se e2 (aq.asked fun hq=>?_)
   have q0:aS os:=hq _ (by simp)
   rw [← (Fa q0 t.den).2]
   refine aq.args (l':=[.s (.agg (.ls [.f (.slice i (.l 0) n c1),.f (.slice j (.l 0) k' c2)])),bg ws,i64 (.o t.den),sB (.o true)]) (fun R vs ha=>by
    match vs,ha with
    | [u,v,x,y],ha=>exact ⟨ha.1,ha.2.1,ha.2.2.1,ha.2.2.2.1,trivial⟩) ?_
   intro A hs
   exact OF h1 h2 A ⟨fun p hp=>hq p (List.mem_cons_of_mem _ hp),hs⟩
  ·cases h
 ·exact Iy os ts _ _ _ _ h
theorem Ac (os ts:Array Value):bf (yT os ts):=bf.with aU _ _ (Iy os ts)
theorem abq (os ts:Array Value):bf (Va os ts):=bf.with aU _ _ (Iy os ts)
theorem Ad (e1 e2:Bool) (os ts:Array Value):bf (ox e1 e2 os ts):=bf.with aU _ _ (Yl e1 e2 os ts)
theorem QU:∀ i,i<64→oo (zW[i]?) (some (.int .i64 0))=true:=by decide +kernel
theorem acQ:∀ i,i<32→∀ k,k<12→oo (zW[64+i*12+k]?) ((fX 0 0 fun _=>0)[k]?)=true:=by decide +kernel
theorem QV:SW zT zW:=by
 refine ⟨Ay,fun i hi=>?_,fun i hi=>?_,fun i hi hk=>?_,fun i hi _ j hj=>oO (acQ i hi j hj)⟩
 ·rw [SX hi];exact oO (QU i (by omega))
 ·rw [DC hi];exact oO (QU (32+i) (by omega))
 ·rw [DC hi] at hk;exact absurd hk (by decide)
theorem acR:∀ i,i<32→oo (zO[i*4]?) (some (.int .u32 0))=true∧oo (zO[i*4+1]?) (some (.int .u8 0))=true∧oo (zO[i*4+2]?) (some (.int .u8 0))=true∧oo (zO[i*4+3]?) (some (.int .u8 0))=true:=by decide +kernel
theorem Ma (s:Nat) (hs:s<32):LX zO (s*4)∧oR zO s=0:=by
 obtain ⟨x0,x1,x2,x3⟩:=acR s hs
 have b0:=oO x0
 have b1:=oO x1
 have b2:=oO x2
 have b3:=oO x3
 refine ⟨⟨bw b0,bw b1,bw b2,bw b3,?_,?_,?_,?_⟩,bI b0⟩
 ·rw [bI b0];exact ⟨by decide,by decide⟩
 ·rw [bI b1];exact ⟨by decide,by decide⟩
 ·rw [bI b2];exact ⟨by decide,by decide⟩
 ·rw [bI b3];exact ⟨by decide,by decide⟩
theorem OH:aS zO:=⟨acO,fun i hi=>(Ma i hi).1⟩
theorem QW:OU zO zT:=fun s hs=>.inl (Ma s hs).2
theorem PO:dP zO zT:=fun x hx=>by
 rw [(Ma _ (u9 x)).2]
 exact fun k=>hx.1 k.symm
def Te (cs:Array Value) (p:Nat):Prop:=aA .u8 cs p∧aA .u32 cs (p+1)∧aA .u32 cs (p+2)∧aA .u32 cs (p+3)∧aA .i64 cs (p+4)∧(0≤aa cs p∧aa cs p≤255)∧aN (aa cs (p+1))∧aN (aa cs (p+2))∧aN (aa cs (p+3))
def DT (cs:Array Value) (off n:Nat):Prop:=∀ i,i<n→Te cs (off+i*5)
structure KK (ts ws os:Array Value):Prop where
 v:FV ts
 w:SW ts ws
 o:aS os
 u:OU os ts
section
variable {ts ws os:Array Value} {cs:Array Value} {off n:Nat} {ty:TypeId} {t k:Int}
theorem C4 {A:SV→aj→Prop} {QL:Int→Array Value→Array Value→Array Value→Nat→Array Value→Array Value→Prop} {QN:Int→Array Value→Array Value→Array Value→Prop} {QE:Array Value→Array Value→Array Value→Nat→Array Value→Array Value→Prop} {QM:Array Value→Array Value→Array Value→Prop} {fs:List av} {m:aj}
  (hL:∀ i ts ws os nn ra rb,QL i ts ws os nn ra rb→Good Tryz.prog A 1 (Bh off n cs ty t k i ts ws os nn ra rb) (Bi off n cs ty t k i ts ws os nn ra rb)) (hN:∀ i ts ws os,QN i ts ws os→Good Tryz.prog A 1 (Bj off n cs ty t k i ts ws os) (Bk off n cs ty t k i ts ws os))
  (hE:∀ ts ws os nn ra rb,QE ts ws os nn ra rb→Good Tryz.prog A 1 (sq t k ts ws os nn ra rb) (su t k ts ws os nn ra rb)) (hM:∀ ts ws os,QM ts ws os→Good Tryz.prog A 1 (Bl t k ts ws os) (Bm t k ts ws os)) (hb:GW off n cs ty t k QL QN QE QM fs m):Good Tryz.prog A 1 fs m:=by
 unfold GW at hb
 split at hb
 ·split at hb
  ·split at hb
   ·split at hb
    ·exact Yj hL hb
    ·exact Yk hE hb
   ·split at hb
    ·exact PM hN hb
    ·exact PN hM hb
  ·exact hb.elim
 ·exact hb.elim
theorem KK.TY (K:KK ts ws os) {d h q:Int}:KK ts ws (dA os ts d h q):=by
 refine ⟨K.v,K.w,Bf K.o K.v.f,?_⟩
 by_cases e:dV os ts d h q=0
 ·obtain ⟨kd,tk,x,r1,r2,r3,e1,e2,g⟩:=FU K.o e
  rw [e1]
  exact K.u.yQ K.o K.v.f g r1 r2 r3
 ·rw [FW e];exact K.u
theorem abr (K:KK ts ws os) {ra rb:Array Value} {nn:Nat} (hr:bZ os ts ra rb nn nn) (hn:nn<200) {d h q:Int} (e:dV os ts d h q=0):bZ (dA os ts d h q) ts (eC ra h nn) (eD ra rb h nn (ia os ts d h q)) (cz ra h nn) (cz ra h nn):=by
 obtain ⟨kd,tk,x,r1,r2,r3,e1,e2,g⟩:=FU K.o e
 rw [e1,e2]
 exact hr.yQ K.u K.o K.v.f g r1 r2 r3 hn
theorem abt (K:KK ts ws os) (hr:dP os ts) {d h q:Int} (e:dV os ts d h q=0):bZ (dA os ts d h q) ts #[.int .i64 h] (ia os ts d h q) 1 1:=by
 obtain ⟨kd,tk,x,r1,r2,r3,e1,e2,g⟩:=FU K.o e
 rw [e1,e2]
 exact hr.yQ K.u K.o K.v.f g r1 r2 r3
theorem abu (ra:Array Value) (h:Int) (nn:Nat):cz ra h nn≤nn+1:=by unfold cz;split <;> omega
theorem Ae (hg:aB ts k=false):(aW os ts k==0&&(bt os ts k==0&&aR os ts k==0))=true:=by
 obtain ⟨e1,e2,e3⟩:=JU (os:=os) hg
 rw [e1,e2,e3]
 rfl
theorem abv (K:KK ts ws os) {nn:Nat} {ra rb:Array Value} (hr:bZ os ts ra rb nn nn) (hk:aN k):Good Tryz.prog (gD true) 1 (sq t k ts ws os nn ra rb) (su t k ts ws os nn ra rb):=by
 have w:=K.w
 have hf:=K.v.f
 have ht:=hf.ok
 have hz:=w.sz
 have hts:=ht.sz
 have ho:=K.o
 have hos:=ho.sz
 have ek:=uZ hk
 have hk':0≤k∧k<4294967296:=hk
 have q1:jh (aL (dB os ts t)) (aE (dB os ts t)) (dB os ts t).length (dB os ts t).length:=DS hf _
 have q2:jh (aL (dD os ts t)) (aE (dD os ts t)) (dD os ts t).length (dD os ts t).length:=DS hf _
 by_cases c1:(dB os ts t).length=0 <;> by_cases c2:(dD os ts t).length=0
 ·refine bD (Ad true true os ts) 1000 (olA ts ws os t k nn ra rb) ?_ (fun _ _ h=>h) fun _ _ h=>h.elim
  cases hg:aB ts k with
  | true=>simp only [ek,hk',hg,hz,hts,hos,w,hf,ht,ho,hr,q1,q2,c1,c2,ne_eq,not_false_eq_true,decide_true,beq_self_eq_true,q8,q6]
  | false =>
   have eo:=Ae (os:=os) hg
   simp only [ek,hk',hg,eo,hz,hts,hos,w,hf,ht,ho,hr,q1,q2,c1,c2,ne_eq,not_false_eq_true,decide_true,beq_self_eq_true,q8,q6]
 ·refine bD (Ad true false os ts) 1000 (olB ts ws os t k nn ra rb) ?_ (fun _ _ h=>h) fun _ _ h=>h.elim
  cases hg:aB ts k with
  | true=>simp only [ek,hk',hg,hz,hts,hos,w,hf,ht,ho,hr,q1,q2,c1,c2,ne_eq,not_false_eq_true,decide_true,beq_self_eq_true,q8,q6]
  | false =>
   have eo:=Ae (os:=os) hg
   simp only [ek,hk',hg,eo,hz,hts,hos,w,hf,ht,ho,hr,q1,q2,c1,c2,ne_eq,not_false_eq_true,decide_true,beq_self_eq_true,q8,q6]
 ·refine bD (Ad false true os ts) 1000 (olC ts ws os t k nn ra rb) ?_ (fun _ _ h=>h) fun _ _ h=>h.elim
  cases hg:aB ts k with
  | true=>simp only [ek,hk',hg,hz,hts,hos,w,hf,ht,ho,hr,q1,q2,c1,c2,ne_eq,not_false_eq_true,decide_true,beq_self_eq_true,q8,q6]
  | false =>
   have eo:=Ae (os:=os) hg
   simp only [ek,hk',hg,eo,hz,hts,hos,w,hf,ht,ho,hr,q1,q2,c1,c2,ne_eq,not_false_eq_true,decide_true,beq_self_eq_true,q8,q6]
 ·refine bD (Ad false false os ts) 1000 (olD ts ws os t k nn ra rb) ?_ (fun _ _ h=>h) fun _ _ h=>h.elim
  cases hg:aB ts k with
  | true=>simp only [ek,hk',hg,hz,hts,hos,w,hf,ht,ho,hr,q1,q2,c1,c2,ne_eq,not_false_eq_true,decide_true,beq_self_eq_true,q8,q6]
  | false =>
   have eo:=Ae (os:=os) hg
   simp only [ek,hk',hg,eo,hz,hts,hos,w,hf,ht,ho,hr,q1,q2,c1,c2,ne_eq,not_false_eq_true,decide_true,beq_self_eq_true,q8,q6]
theorem Sf (K:KK ts ws os) (hn:dP os ts) (hk:aN k):Good Tryz.prog (gD true) 1 (Bl t k ts ws os) (Bm t k ts ws os):=by
 have w:=K.w
 have hf:=K.v.f
 have ht:=hf.ok
 have hz:=w.sz
 have hts:=ht.sz
 have ho:=K.o
 have hos:=ho.sz
 have ek:=uZ hk
 have hk':0≤k∧k<4294967296:=hk
 have q1:jh (aL (dB os ts t)) (aE (dB os ts t)) (dB os ts t).length (dB os ts t).length:=DS hf _
 have q2:jh (aL (dD os ts t)) (aE (dD os ts t)) (dD os ts t).length (dD os ts t).length:=DS hf _
 have c1:(dB os ts t).length=0:=by rw [← (Fa ho t).1,QJ hf hn];rfl
 have c2:(dD os ts t).length=0:=by rw [← (Fa ho t).2,QJ hf hn];rfl
 refine bD (Ad true true os ts) 1000 (ol4 ts ws os t k) ?_ (fun _ _ h=>h) fun _ _ h=>h.elim
 cases hg:aB ts k with
 | true=>simp only [ek,hk',hg,hz,hts,hos,w,hf,ht,ho,hn,c1,c2,ne_eq,not_false_eq_true,decide_true,beq_self_eq_true,q8,q6]
 | false =>
  have eo:=Ae (os:=os) hg
  simp only [ek,hk',hg,eo,hz,hts,hos,w,hf,ht,ho,hn,c1,c2,ne_eq,not_false_eq_true,decide_true,beq_self_eq_true,q8,q6]
theorem abw (hk:aN k) (hn0:n≤100) (hA:DT cs off n):∀ (r i:Nat),i+r=n→∀ ts ws os nn ra rb,KK ts ws os→bZ os ts ra rb nn nn→nn≤i→Good Tryz.prog (gD true) 1 (Bh off n cs ty t k (i:Int) ts ws os nn ra rb) (Bi off n cs ty t k (i:Int) ts ws os nn ra rb):=by
 intro r
 induction r with
 | zero =>
  intro i hi ts ws os nn ra rb K hr hnn
  obtain rfl:i=n:=by omega
  refine bD (Ac ts ts) 1000 (Vc ts ts off i cs ty t k _ ts ws os nn ra rb (fun _ _ _ _ _ _ _=>False) (fun _ _ _ _=>False) (fun us vs os' n' a' b'=>us=ts∧vs=ws∧os'=os∧n'=nn∧a'=ra∧b'=rb) (fun _ _ _=>False)) ?_ (fun _ _ h=>h.elim) (fun fs m hm=>C4 (fun _ _ _ _ _ _ _ h=>h.elim) (fun _ _ _ _ h=>h.elim) (fun us vs os' n' a' b' ⟨e1,e2,e3,e4,e5,e6⟩=>by rw [e1,e2,e3,e4,e5,e6];exact abv K hr hk) (fun _ _ _ h=>h.elim) hm)
  unfold Fe kA ku uT qE lW fI
  have d:decide ((i:Int)<(i:Int))=false:=decide_eq_false (by omega)
  simp only [d,HQ,q6]
 | succ r ih =>
  intro i hi ts ws os nn ra rb K hr hnn
  have hi':i<n:=by omega
  obtain ⟨i0,i1,i2,i3,i4,_,r1,r2,r3⟩:=hA i hi'
  have rq:0≤aa cs (off+i*5+1)∧aa cs (off+i*5+1)<4294967296:=r1
  have pR:0≤aa cs (off+i*5+2)∧aa cs (off+i*5+2)<4294967296:=r2
  have vU:0≤aa cs (off+i*5+3)∧aa cs (off+i*5+3)<4294967296:=r3
  have hv:=K.v
  have w:=K.w
  have ho:=K.o
  have hf:=hv.f
  have hts:=hf.ok.sz
  have hz:=w.sz
  have hos:=ho.sz
  have d:decide ((i:Int)<(n:Int))=true:=decide_eq_true (by omega)
  have ei:ah .add .i64 (i:Int) 1=((i+1:Nat):Int):=by rw [dn,cC (by omega) (by omega)];omega
  have y0:0≤(i:Int):=by omega
  have y1:(i:Int)<(n:Int):=by omega
  refine bD (Ac ts ts) 1000 (Vc ts ts off n cs ty t k (i:Int) ts ws os nn ra rb (fun i' us vs os' n' a' b'=>i'=((i+1:Nat):Int)∧KK us vs os'∧bZ os' us a' b' n' n'∧n'≤i+1) (fun _ _ _ _=>False) (fun _ _ _ _ _ _=>False) (fun _ _ _=>False)) ?_ (fun _ _ h=>h.elim) (fun fs m hm=>C4 (fun i' us vs os' n' a' b' ⟨e1,e2,e3,e4⟩=>by rw [e1];exact ih (i+1) (by omega) us vs os' n' a' b' e2 e3 e4) (fun _ _ _ _ h=>h.elim) (fun _ _ _ _ _ _ h=>h.elim) (fun _ _ _ h=>h.elim) hm)
  unfold Fe kA ku uT qE lW fI
  simp only [Int.toNat_natCast]
  by_cases c:(aa cs (off+i*5))>9
  ·have c0:decide ((aa cs (off+i*5))>9)=true:=decide_eq_true c
   have K2:=K.TY (d:=(aa cs (off+i*5))) (h:=au ts (aa cs (off+i*5+1))) (q:=(aa cs (off+i*5+4)))
   have o2:=K2.o
   have s2:=o2.sz
   by_cases e:dV os ts (aa cs (off+i*5)) (au ts (aa cs (off+i*5+1))) (aa cs (off+i*5+4))=0
   ·have e0:decide (dV os ts (aa cs (off+i*5)) (au ts (aa cs (off+i*5+1))) (aa cs (off+i*5+4))=0)=true:=decide_eq_true e
    have h2:=abr K hr (by omega) e
    have l2:cz ra (au ts (aa cs (off+i*5+1))) nn≤i+1:=by have:=abu ra (au ts (aa cs (off+i*5+1))) nn;omega
    simp only [d,ei,y0,y1,i0,i1,i2,i3,i4,rq,pR,vU,hz,hts,hos,w,hf,ho,c0,hr,e0,K2,o2,s2,h2,l2,dJ,cF,decide_true,tG,q6]
   ·have e0:decide (dV os ts (aa cs (off+i*5)) (au ts (aa cs (off+i*5+1))) (aa cs (off+i*5+4))=0)=false:=decide_eq_false e
    have h2:bZ (dA os ts (aa cs (off+i*5)) (au ts (aa cs (off+i*5+1))) (aa cs (off+i*5+4))) ts ra rb nn nn:=by rw [FW e];exact hr
    have l2:nn≤i+1:=by omega
    simp only [d,ei,y0,y1,i0,i1,i2,i3,i4,rq,pR,vU,hz,hts,hos,w,hf,ho,c0,hr,e0,K2,o2,s2,h2,l2,dJ,cF,decide_true,tG,q6]
  ·have c0:decide ((aa cs (off+i*5))>9)=false:=decide_eq_false c
   obtain ⟨v1,w1⟩:=L5 w hv r1 r2 r3 (d:=(aa cs (off+i*5))) (q:=(aa cs (off+i*5+4)))
   have T:=Td hv r1 r2 r3 (d:=(aa cs (off+i*5))) (q:=(aa cs (off+i*5+4)))
   have f1:=v1.f
   have s1:=f1.ok.sz
   have s2:=w1.sz
   have K2:KK (iq ts (aa cs (off+i*5)) (aa cs (off+i*5+1)) (aa cs (off+i*5+2)) (aa cs (off+i*5+3)) (aa cs (off+i*5+4))) (iU ts ws (aa cs (off+i*5)) (aa cs (off+i*5+1)) (aa cs (off+i*5+2)) (aa cs (off+i*5+3)) (aa cs (off+i*5+4))) os:=⟨v1,w1,ho,K.u.keep T⟩
   have h2:=hr.keep T.2
   have l2:nn≤i+1:=by omega
   simp only [d,ei,y0,y1,i0,i1,i2,i3,i4,rq,pR,vU,hz,hts,hos,w,hf,ho,c0,hv,hr,v1,w1,f1,s1,s2,K2,h2,l2,dJ,cF,decide_true,tG,q6]
theorem abx (hk:aN k) (hn0:n≤100) (hA:DT cs off n):∀ (r i:Nat),i+r=n→∀ ts ws os,KK ts ws os→dP os ts→Good Tryz.prog (gD true) 1 (Bj off n cs ty t k (i:Int) ts ws os) (Bk off n cs ty t k (i:Int) ts ws os):=by
 intro r
 induction r with
 | zero =>
  intro i hi ts ws os K hn
  obtain rfl:i=n:=by omega
  refine bD (Ac ts ts) 1000 (Vd ts ts off i cs ty t k _ ts ws os (fun _ _ _ _ _ _ _=>False) (fun _ _ _ _=>False) (fun _ _ _ _ _ _=>False) (fun us vs os'=>us=ts∧vs=ws∧os'=os)) ?_ (fun _ _ h=>h.elim) (fun fs m hm=>C4 (fun _ _ _ _ _ _ _ h=>h.elim) (fun _ _ _ _ h=>h.elim) (fun _ _ _ _ _ _ h=>h.elim) (fun us vs os' ⟨e1,e2,e3⟩=>by rw [e1,e2,e3];exact Sf K hn hk) hm)
  unfold Ff kC kB jl uU qF lX
  have d:decide ((i:Int)<(i:Int))=false:=decide_eq_false (by omega)
  simp only [d,HQ,q6]
 | succ r ih =>
  intro i hi ts ws os K hn
  have hi':i<n:=by omega
  obtain ⟨i0,i1,i2,i3,i4,_,r1,r2,r3⟩:=hA i hi'
  have rq:0≤aa cs (off+i*5+1)∧aa cs (off+i*5+1)<4294967296:=r1
  have pR:0≤aa cs (off+i*5+2)∧aa cs (off+i*5+2)<4294967296:=r2
  have vU:0≤aa cs (off+i*5+3)∧aa cs (off+i*5+3)<4294967296:=r3
  have hv:=K.v
  have w:=K.w
  have ho:=K.o
  have hf:=hv.f
  have hts:=hf.ok.sz
  have hz:=w.sz
  have hos:=ho.sz
  have d:decide ((i:Int)<(n:Int))=true:=decide_eq_true (by omega)
  have ei:ah .add .i64 (i:Int) 1=((i+1:Nat):Int):=by rw [dn,cC (by omega) (by omega)];omega
  have y0:0≤(i:Int):=by omega
  have y1:(i:Int)<(n:Int):=by omega
  refine bD (Ac ts ts) 1000 (Vd ts ts off n cs ty t k (i:Int) ts ws os (fun i' us vs os' n' a' b'=>i'=((i+1:Nat):Int)∧KK us vs os'∧bZ os' us a' b' n' n'∧n'≤i+1) (fun i' us vs os'=>i'=((i+1:Nat):Int)∧KK us vs os'∧dP os' us) (fun _ _ _ _ _ _=>False) (fun _ _ _=>False)) ?_ (fun _ _ h=>h.elim) (fun fs m hm=>C4 (fun i' us vs os' n' a' b' ⟨e1,e2,e3,e4⟩=>by rw [e1];exact abw hk hn0 hA r (i+1) (by omega) us vs os' n' a' b' e2 e3 e4) (fun i' us vs os' ⟨e1,e2,e3⟩=>by rw [e1];exact ih (i+1) (by omega) us vs os' e2 e3) (fun _ _ _ _ _ _ h=>h.elim) (fun _ _ _ h=>h.elim) hm)
  unfold Ff kC kB jl uU qF lX
  simp only [Int.toNat_natCast]
  by_cases c:(aa cs (off+i*5))>9
  ·have c0:decide ((aa cs (off+i*5))>9)=true:=decide_eq_true c
   have K2:=K.TY (d:=(aa cs (off+i*5))) (h:=au ts (aa cs (off+i*5+1))) (q:=(aa cs (off+i*5+4)))
   have o2:=K2.o
   have s2:=o2.sz
   by_cases e:dV os ts (aa cs (off+i*5)) (au ts (aa cs (off+i*5+1))) (aa cs (off+i*5+4))=0
   ·have e0:decide (dV os ts (aa cs (off+i*5)) (au ts (aa cs (off+i*5+1))) (aa cs (off+i*5+4))=0)=true:=decide_eq_true e
    have h2:=abt K hn e
    have l2:1≤i+1:=by omega
    simp only [d,ei,y0,y1,i0,i1,i2,i3,i4,rq,pR,vU,hz,hts,hos,w,hf,ho,c0,hn,e0,K2,o2,s2,h2,l2,dJ,cF,decide_true,tG,q6]
   ·have e0:decide (dV os ts (aa cs (off+i*5)) (au ts (aa cs (off+i*5+1))) (aa cs (off+i*5+4))=0)=false:=decide_eq_false e
    have h2:dP (dA os ts (aa cs (off+i*5)) (au ts (aa cs (off+i*5+1))) (aa cs (off+i*5+4))) ts:=by rw [FW e];exact hn
    simp only [d,ei,y0,y1,i0,i1,i2,i3,i4,rq,pR,vU,hz,hts,hos,w,hf,ho,c0,hn,e0,K2,o2,s2,h2,dJ,cF,decide_true,tG,q6]
  ·have c0:decide ((aa cs (off+i*5))>9)=false:=decide_eq_false c
   obtain ⟨v1,w1⟩:=L5 w hv r1 r2 r3 (d:=(aa cs (off+i*5))) (q:=(aa cs (off+i*5+4)))
   have T:=Td hv r1 r2 r3 (d:=(aa cs (off+i*5))) (q:=(aa cs (off+i*5+4)))
   have f1:=v1.f
   have s1:=f1.ok.sz
   have s2:=w1.sz
   have K2:KK (iq ts (aa cs (off+i*5)) (aa cs (off+i*5+1)) (aa cs (off+i*5+2)) (aa cs (off+i*5+3)) (aa cs (off+i*5+4))) (iU ts ws (aa cs (off+i*5)) (aa cs (off+i*5+1)) (aa cs (off+i*5+2)) (aa cs (off+i*5+3)) (aa cs (off+i*5+4))) os:=⟨v1,w1,ho,K.u.keep T⟩
   have h2:=hn.keep T.2
   simp only [d,ei,y0,y1,i0,i1,i2,i3,i4,rq,pR,vU,hz,hts,hos,w,hf,ho,c0,hv,hn,v1,w1,f1,s1,s2,K2,h2,dJ,cF,decide_true,tG,q6]
theorem W6 (hk:aN k) (hA:DT cs off n):Good Tryz.prog (gD true) 1 [a_ 3 Tryz.f3.ntmps [GV off n,i64 (.o t),FL k] (Tryz.f3.body.getD .skip)] (cD 1 [(0,⟨.raw cs,ty,false⟩)]):=by
 refine bA (Ac zT zT) 1000 (ol0 zT zT off n cs ty t k (fun i us vs os=>i=((0:Nat):Int)∧us=zT∧vs=zW∧os=zO∧n≤100)) ?_ (fun s m h=>h) fun fs m hm=>PM (fun i us vs os ⟨e1,e2,e3,e4,e5⟩=>by rw [e1,e2,e3,e4];exact abx hk e5 hA n 0 (Nat.zero_add _) _ _ _ ⟨Qs,QV,OH,QW⟩ PO) hm
 by_cases c:n≤100
 ·have d:decide ((n:Int)>100)=false:=decide_eq_false (by omega)
  simp only [d,c,tG,q6]
  rfl
 ·have d:decide ((n:Int)>100)=true:=decide_eq_true (by omega)
  simp only [d,q6]
theorem W7 (hk:aN k):Good Tryz.prog (gD true) 1 [a_ 3 Tryz.f3.ntmps [eS,i64 (.o t),FL k] (Tryz.f3.body.getD .skip)] (cD 1 []):=by
 refine bA (abq zT zT) 1000 (olZ zT zT t k (fun us vs os=>us=zT∧vs=zW∧os=zO)) ?_ (fun s m h=>h) fun fs m hm=>PN (fun us vs os ⟨e1,e2,e3⟩=>by rw [e1,e2,e3];exact Sf ⟨Qs,QV,OH,QW⟩ PO hk) hm
 simp only [and_true,true_and,HQ,lz]
end
end Go.Proofs.YtldoopjnjlpbpaaGreatDoor
