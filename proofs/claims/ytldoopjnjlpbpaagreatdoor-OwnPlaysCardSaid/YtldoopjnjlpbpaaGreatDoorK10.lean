/- A region that draws its order: the proof. No condition. -/
import Derived.Test.YtldoopjnjlpbpaaGreatDoorK9
import Derived.Test.YtldoopjnjlpbpaaGreatDoorK9b
set_option linter.unusedVariables false
set_option linter.unusedSimpArgs false
namespace Go.Proofs.YtldoopjnjlpbpaaGreatDoor
def jt (G:List (Nat × Bool)) (T:Tm):Prop:=∀ s v,(s,v)∈G→∀ b,T.get s=some (.s (.c (.f (.bool (.o b)))))→b=v
def Mf (T T0:Tm):Prop:=∀ (R:aX) (tmps:Array Value),gO R T tmps→gO R T0 tmps
theorem HS {T:Tm} {d:Nat} {v:Bool} {s:Nat}:(kY T d v).get s=T.get s∨(s=d∧∃ b,T.get s=some (.s (.c (.f (.bool (.o b)))))∧(kY T d v).get s=some (.s (.c (.f (.bool (.l v)))))):=by
 unfold kY
 split
 ·rename_i b hb
  rw [Tm.lS]
  split
  ·rename_i e
   exact .inr ⟨e.1,b,by rw [e.1];exact hb,rfl⟩
  ·exact .inl rfl
 ·exact .inl rfl
theorem Zy (T:Tm) (d:Nat) (v:Bool):(kY T d v).n=T.n:=by
 unfold kY
 split
 ·rw [Tm.Fi]
 ·rfl
theorem jt.aeb {T:Tm} {d:Nat} {v:Bool} {G:List (Nat × Bool)} (h:jt G T):jt G (kY T d v):=by
 intro s u hs b hb
 rcases HS (T:=T) (d:=d) (v:=v) (s:=s) with e | ⟨_,b',_,e⟩
 ·rw [e] at hb;exact h s u hs b hb
 ·rw [e] at hb;cases hb
theorem Hy:∀ {G:List (Nat × Bool)} {T:Tm},jt G T→∀ s,(nO T G).get s=T.get s∨∃ b,T.get s=some (.s (.c (.f (.bool (.o b)))))∧(nO T G).get s=some (.s (.c (.f (.bool (.l b)))))
 | [],_,_,_=>.inl rfl
 |(d,v) :: G,T,h,s=>by
  have h1:jt G (kY T d v):=jt.aeb fun s u hs=>h s u (List.mem_cons_of_mem _ hs)
  show (nO (kY T d v) G).get s=T.get s∨∃ b,T.get s=some (.s (.c (.f (.bool (.o b)))))∧(nO (kY T d v) G).get s=some (.s (.c (.f (.bool (.l b)))))
  rcases Hy h1 s with e | ⟨b,e1,e2⟩
  ·rw [e]
   rcases HS (T:=T) (d:=d) (v:=v) (s:=s) with e | ⟨rfl,b,e1,e2⟩
   ·exact .inl e
   ·have:=h s v (List.mem_cons_self ..) b e1
    subst this
    exact .inr ⟨b,e1,e2⟩
  ·rcases HS (T:=T) (d:=d) (v:=v) (s:=s) with e | ⟨rfl,b',_,e4⟩
   ·rw [e] at e1
    exact .inr ⟨b,e1,e2⟩
   ·rw [e4] at e1;cases e1
theorem PW:∀ (G:List (Nat × Bool)) (T:Tm),(nO T G).n=T.n
 | [],_=>rfl
 |(d,v) :: G,T=>(PW G (kY T d v)).trans (Zy T d v)
theorem Wo {G:List (Nat × Bool)} {T:Tm} (h:jt G T):Mf T (nO T G):=by
 intro R tmps hT
 refine ⟨hT.1.trans (PW G T).symm,fun i s hs=>?_⟩
 rcases Hy h i with e | ⟨b,e1,e2⟩
 ·rw [e] at hs;exact hT.2 i s hs
 ·rw [e2] at hs
  cases hs
  obtain ⟨v,h1,h2⟩:=hT.2 i _ e1
  exact ⟨v,h1,h2⟩
theorem jt.only {G:List (Nat × Bool)} {T:Tm} (h:jt G T) (keep:List Nat) (n:Nat):jt G (pB keep n T):=fun s v hs b hb=>h s v hs b (CK hb).2.1
theorem Hs:∀ {G:List (Nat × Bool)} {d:Option Tmp} {p:Nat × Bool},p∈tN d G→p∈G∧d≠some p.1
 | [],_,_,h=>by cases h
 | q :: G,none,p,h=>⟨h,fun e=>by cases e⟩
 | q :: G,some d,p,h=>by
  unfold tN at h
  dsimp only at h
  split at h
  ·obtain ⟨h1,h2⟩:=Hs h
   exact ⟨List.mem_cons_of_mem _ h1,h2⟩
  ·rename_i e
   rcases List.mem_cons.1 h with rfl | h
   ·refine ⟨List.mem_cons_self ..,fun e'=>?_⟩
    cases e'
    simp at e
   ·obtain ⟨h1,h2⟩:=Hs h
    exact ⟨List.mem_cons_of_mem _ h1,h2⟩
theorem OI {ops:List Oper} {o:Oper} {G:List (Nat × Bool)} {T:Tm} {keep:List Nat} {n:Nat} {b:SB} {yes:Bool} (h:jt G T) (hw:lY (nO (pB keep n T) G) ops o=some b) (hb:b.den=yes):jt (DW ops o yes G) T:=by
 unfold DW
 split
 ·exact h
 ·rename_i j want hg
  split
  ·rename_i p hp
   split
   ·rename_i d hd
    intro s v hs b0 hb0
    rcases List.mem_cons.1 hs with e | hs
    ·obtain ⟨e1,e2⟩:=Prod.mk.inj e
     subst e1
     subst e2
     unfold lY at hw
     rw [hg] at hw
     dsimp only at hw
     rw [hp] at hw
     dsimp only at hw
     rw [hd] at hw
     dsimp only at hw
     have hval:∀ z,(nO (pB keep n T) G).get s=some z→∃ x:SB,z=.s (.c (.f (.bool x)))∧x.den=b0:=by
      intro z hz
      rcases Hy (h.only keep n) s with e | ⟨b1,e1,e2⟩
      ·rw [e] at hz
       have:=(CK hz).2.1
       rw [hb0] at this
       cases this
       exact ⟨_,rfl,rfl⟩
      ·have:=(CK e1).2.1
       rw [hb0] at this
       cases this
       rw [e2] at hz
       cases hz
       exact ⟨_,rfl,rfl⟩
     split at hw
     ·rename_i x hx
      cases hw
      obtain ⟨y,e1,e2⟩:=hval _ hx
      cases e1
      have e3:(x.beq (.l want)).den=(x.den==want):=by cases x <;> rfl
      rw [e3,e2] at hb
      rw [← hb]
      cases b0 <;> cases want <;> rfl
     ·rename_i l hx
      obtain ⟨y,e1,_⟩:=hval _ hx
      cases e1
     ·cases hw
    ·exact h s v hs b0 hb0
   ·exact h
  ·exact h
theorem jt.step {G:List (Nat × Bool)} {T:Tm} (h:jt G T) (d:Option Tmp) (v:SV):jt (tN d G) (nk T d v):=by
 intro s u hs b hb
 obtain ⟨h1,h2⟩:=Hs hs
 refine h s u h1 b ?_
 cases d with
 | none=>exact hb
 | some d =>
  have hb:(T.set d (some v)).get s=_:=hb
  rw [Tm.lS,if_neg (fun e=>h2 (by rw [e.1]))] at hb
  exact hb
inductive m7 (E:Env) (r:Nat→List av→aj→Tree) (ops:Array Oper) (o:Oper) (b0:Nat) (T:Tm) (m:aj):iF→Nat→Prop where
 | skip {b:SB}:lY T ops.toList o=some b→b.den=false→m7 E r ops o b0 T m ⟨o.dst,.bW [],o.looksAt ops,[],[],[],[]⟩ m.next
 | mh {b:SB} {g:FuncId} {l:List SV} {t:Tree} {v:SV} {m1:aj}:lY T ops.toList o=some b→b.den=true→xO T o.op=some (g,l) →
   E.mh g l ⟨m.next,bV m.next true m.bl (reach m.bl 8 (fV SV.ids l)),[]⟩=some t→t.sat (fun s m'=>s=v∧m'=m1) (fun _ _=>False) →
   sA (bV m.next true m.bl (reach m.bl 8 (fV SV.ids l))) m1.bl (reach m.bl 8 (fV SV.ids l))=true→sC (bV m.next true m.bl (reach m.bl 8 (fV SV.ids l))) m1.bl (reach m.bl 8 (fV SV.ids l))=true →
   m7 E r ops o b0 T m ⟨o.dst,v,o.looksAt ops,reach m.bl 8 (fV SV.ids l),collect m1.bl (jQ (bV m.next true m.bl (reach m.bl 8 (fV SV.ids l))) m1.bl (reach m.bl 8 (fV SV.ids l))++m8 (m1.next - m.next) m.next),pC m.next m1.xs,[]⟩ m1.next
 | call {b:SB} {g:FuncId} {l:List SV} {fn:Func} {c:Code} {v:SV} {m1:aj} {w:Bool}:lY T ops.toList o=some b→b.den=true→xO T o.op=some (g,l) →
   E.fn g=some fn→fn.body=some c→(r m.next [a_ g fn.ntmps l c] ⟨m.next,bV m.next w m.bl (reach m.bl 8 (fV SV.ids l)),[]⟩).sat (fun s m'=>s=v∧m'=m1) (fun _ _=>False) →
   sA (bV m.next w m.bl (reach m.bl 8 (fV SV.ids l))) m1.bl (reach m.bl 8 (fV SV.ids l))=true→sC (bV m.next w m.bl (reach m.bl 8 (fV SV.ids l))) m1.bl (reach m.bl 8 (fV SV.ids l))=true →
   m7 E r ops o b0 T m ⟨o.dst,v,o.looksAt ops,reach m.bl 8 (fV SV.ids l),collect m1.bl ((if w then jQ (bV m.next w m.bl (reach m.bl 8 (fV SV.ids l))) m1.bl (reach m.bl 8 (fV SV.ids l)) else [])++m8 (m1.next - m.next) m.next),pC m.next m1.xs,[]⟩ m1.next
 | op {b:SB} {q:List Prop} {v:SV} {m1:aj}:lY T ops.toList o=some b→b.den=true →
   yp E.P T ⟨m.next,bV m.next (oD o.op) m.bl (qi T o.op),kE m.xs m.next (qi T o.op)⟩ o.op=.ok q v m1→(∀ p∈q,p) →
   sA (bV m.next (oD o.op) m.bl (qi T o.op)) m1.bl (qi T o.op)=true→sC (bV m.next (oD o.op) m.bl (qi T o.op)) m1.bl (qi T o.op)=true →
   m7 E r ops o b0 T m ⟨o.dst,v,o.looksAt ops,qi T o.op,collect m1.bl ((if oD o.op then qi T o.op else [])++m8 (m1.next - m.next) m.next),pC m.next m1.xs,[]⟩ m1.next
 | T3 {b:SB} {v:SV} {T0:Tm}:lY T ops.toList o=some b→b.den=true→zS T o.op T0→Fj E.P T0 o.op=some v→m7 E r ops o b0 T m ⟨o.dst,v,o.looksAt ops,[],[],[],[]⟩ m.next
 | app {b:SB} {q:List Prop} {v:SV} {m1:aj} {T0:Tm}:lY T ops.toList o=some b→b.den=true→zS T o.op T0 →
   BL E.P b0 T0 ⟨m.next,rX m.next m.bl (rQ T o.op) (nP T o.op),[]⟩ o.op=.ok q v m1→(∀ p∈q,p) →
   gm (fun i=>Nat.blt i m.next&&(aH m1.bl i).isNone) (nP T o.op)=true →
   m7 E r ops o b0 T m ⟨o.dst,v,o.looksAt ops,rQ T o.op,collect m1.bl (m8 (m1.next - m.next) m.next),[],nP T o.op⟩ m1.next
theorem m7.looks {E:Env} {r:Nat→List av→aj→Tree} {ops:Array Oper} {o:Oper} {b0:Nat} {T:Tm} {m:aj} {d:iF} {n:Nat} (h:m7 E r ops o b0 T m d n):d.looks=o.looksAt ops:=by
 cases h <;> rfl
theorem zE {A:SV→aj→Prop} {B:List av→aj→Prop} {k:SV→aj→Tree}:∀ {t:Tree},(t.oY k).sat A B→∃ v m1,t.sat (fun s m'=>s=v∧m'=m1) (fun _ _=>False)∧(k v m1).sat A B
 | .ret v m,h=>⟨v,m,⟨rfl,rfl⟩,h⟩
 | .br b t e,h=>by
  cases hb:b with
  | true =>
   obtain ⟨v,m1,h1,h2⟩:=zE (h.1 hb)
   exact ⟨v,m1,⟨fun _=>h1,fun e=>(by cases e)⟩,h2⟩
  | false =>
   obtain ⟨v,m1,h1,h2⟩:=zE (h.2 hb)
   exact ⟨v,m1,⟨fun e=>(by cases e),fun _=>h1⟩,h2⟩
 | .need q t,h=>by
  obtain ⟨v,m1,h1,h2⟩:=zE h.2
  exact ⟨v,m1,⟨h.1,h1⟩,h2⟩
 | .stop _ _,h=>h.elim
 | .fail _,h=>h.elim
theorem Yp {E:Env} {r:Nat→List av→aj→Tree} {tag b0:Nat} {ops:Array Oper} {o:Oper} {T:Tm} {m:aj} {G:List (Nat × Bool)} {k:iF→Nat→List (Nat × Bool)→Tree} {A:SV→aj→Prop} {B:List av→aj→Prop} (hG:jt G T) (h:(Mg E r tag b0 ops o T m G k).sat A B) :
  ∃ d n G',m7 E r ops o b0 (nO (pB (o.looksAt ops) m.next T) G) m d n∧jt G' (nk T d.dst d.v)∧(k d n G').sat A B:=by
 unfold Mg at h
 dsimp only at h
 split at h
 ·exact h.elim
 ·rename_i b hw
  obtain ⟨e1,e2⟩:=Tree.Jf h
  cases hb:b.den with
  | false=>exact ⟨_,_,_,.skip hw hb,jt.step (OI hG hw hb) _ _,e2 hb⟩
  | true =>
   have lH:=fun v=>jt.step (OI hG hw hb) o.dst v
   have h:=e1 hb
   split at h
   ·split at h
    ·exact h.elim
    ·rename_i g l jG
     split at h
     ·rename_i t BM
      obtain ⟨v,m1,h1,h2⟩:=zE h
      split at h2
      ·rename_i hk
       simp only [Bool.and_eq_true] at hk
       exact ⟨_,_,_,.mh hw hb jG BM h1 hk.1 hk.2,lH _,h2⟩
      ·exact h2.elim
     ·split at h
      ·exact h.elim
      ·rename_i fn hfn
       split at h
       ·exact h.elim
       ·rename_i c hc
        obtain ⟨v,m1,h1,h2⟩:=zE h
        split at h2
        ·rename_i hk
         simp only [Bool.and_eq_true] at hk
         exact ⟨_,_,_,.call hw hb jG hfn hc h1 hk.1 hk.2,lH _,h2⟩
        ·exact h2.elim
   ·split at h
    ·obtain ⟨T0,ry,h⟩:=Oe h
     split at h
     ·rename_i v hx
      exact ⟨_,_,_,.T3 hw hb ry hx,lH _,h⟩
     ·split at h
      ·rename_i q v m1 hx
       split at h
       ·rename_i hk
        obtain ⟨hq,h⟩:=Tree.nG h
        exact ⟨_,_,_,.app hw hb ry hx hq hk,lH _,h⟩
       ·exact h.elim
      ·exact h.elim
    ·split at h
     ·rename_i q v m1 hx
      split at h
      ·rename_i hk
       simp only [Bool.and_eq_true] at hk
       obtain ⟨hq,h⟩:=Tree.nG h
       exact ⟨_,_,_,.op hw hb hx hq hk.1 hk.2,lH _,h⟩
      ·exact h.elim
     ·exact h.elim
theorem N7 {E:Env} {r:Nat→List av→aj→Tree} {tag b0:Nat} {ops:Array Oper} {A:SV→aj→Prop} {B:List av→aj→Prop}:∀ {l:List Oper} {T:Tm} {m:aj} {G:List (Nat × Bool)} {k:List iF→Tm→aj→Tree},jt G T→(Fk E r tag b0 ops l T m G k).sat A B →
  ∃ ds T' m',(k ds T' m').sat A B∧ds.length=l.length∧∃ (Ts:Nat→Tm) (ms:Nat→aj),Ts 0=T∧ms 0=m∧Ts l.length=T'∧ms l.length=m' ∧
   ∀ j o,l[j]?=some o→∃ d T0,ds[j]?=some d∧Mf (pB (o.looksAt ops) (ms j).next (Ts j)) T0∧m7 E r ops o b0 T0 (ms j) d (ms (j+1)).next∧Ts (j+1)=nk (Ts j) d.dst d.v∧(ms (j+1)).bl=yq d.bl (mR d.del (ms j).bl)∧(ms j).next≤(ms (j+1)).next∧(ms (j+1)).xs=d.xs++(ms j).xs
 | [],T,m,_,k,_,h=>⟨[],T,m,h,rfl,fun _=>T,fun _=>m,rfl,rfl,rfl,rfl,fun j o h=>by simp at h⟩
 | o :: l,T,m,G,k,hG,h=>by
  simp only [Fk] at h
  obtain ⟨d,n,G',hd,hG',h⟩:=Yp hG h
  split at h
  ·rename_i hn
   obtain ⟨ds,T',m',h0,h1,Ts,ms,e1,e2,e3,e4,e5⟩:=N7 hG' h
   refine ⟨d :: ds,T',m',h0,by simp [h1],fun i=>match i with | 0=>T | i+1=>Ts i,fun i=>match i with | 0=>m | i+1=>ms i,rfl,rfl,e3,e4,?_⟩
   intro j o' ho
   cases j with
   | zero =>
    simp only [List.getElem?_cons_zero,Option.some.injEq] at ho
    subst ho
    refine ⟨d,_,rfl,Wo (hG.only _ _),?_,e1,?_,?_,?_⟩
    ·simp only [e2];exact hd
    ·simp only [e2]
    ·simp only [e2];exact Nat.le_of_ble_eq_true hn
    ·simp only [e2]
   | succ j =>
    simp only [List.getElem?_cons_succ] at ho
    obtain ⟨d',T0,k1,k2,k3,k4,k5,k6,k7⟩:=e5 j o' ho
    exact ⟨d',T0,by simpa using k1,k2,k3,k4,k5,k6,k7⟩
  ·exact h.elim
inductive vX (ops:Array Oper):Nat→Nat→Prop where
 | one {i j:Nat} {o:Oper}:ops[j]?=some o→i∈m9 o→vX ops i j
 | more {i k j:Nat} {o:Oper}:ops[j]?=some o→k∈m9 o→vX ops i k→vX ops i j
theorem PX {α:Type} {f:α→List Nat} {n:Nat}:∀ {l:List α},n∈fV f l→∃ a∈l,n∈f a
 | [],h=>by simp [Yq] at h
 | a :: l,h=>by
  simp only [W8,List.mem_append] at h
  rcases h with h | h
  ·exact ⟨a,List.mem_cons_self ..,h⟩
  ·obtain ⟨b,h1,h2⟩:=PX h
   exact ⟨b,List.mem_cons_of_mem _ h1,h2⟩
theorem Og {an:List Nat} {d:iF}:∀ {done:List iF} {n:Nat},ug.ordered an done n d=true→done.length=n→∀ i x,i<n→done[n - 1 - i]?=some x→lZ x d=true→i∈an
 | [],n,_,hl,i,x,hi,_,_=>by simp at hl;omega
 | y :: l,n,h,hl,i,x,hi,hx,hc=>by
  simp only [ug.ordered,Bool.and_eq_true] at h
  simp only [List.length_cons] at hl
  by_cases e:i=n - 1
  ·have e0:n - 1 - i=0:=by omega
   rw [e0] at hx
   simp only [List.getElem?_cons_zero,Option.some.injEq] at hx
   subst hx
   have h1:=h.1
   rw [hc] at h1
   simp only [Bool.not_true,Bool.false_or] at h1
   rw [e]
   exact oF.1 h1
  ·have e0:n - 1 - i=(n - 1 - 1 - i)+1:=by omega
   rw [e0,List.getElem?_cons_succ] at hx
   exact Og h.2 (by omega) i x (by omega) hx hc
theorem OJ {ops:Array Oper} {all:List iF}:∀ {l:List Oper} {n:Nat} {lI:List (List Nat)},l=ops.toList.drop n→n≤all.length→ug (all.take n).reverse lI n l (all.drop n)=true→lI.length=n →
  (∀ p an,p<n→nth lI (n - 1 - p)=some an→∀ i∈an,vX ops i p) →
  ∀ j d o,n≤j→all[j]?=some d→ops[j]?=some o→(∀ e∈o.after.toList,Region.binds .any e=true→e.on<j)∧∀ i x,i<j→all[i]?=some x→lZ x d=true→vX ops i j
 | [],n,lI,hl,_,_,_,_,j,d,o,hj,_,ho=>by
  have:=congrArg List.length hl
  simp only [List.length_nil,List.length_drop,Array.length_toList] at this
  have hlt:j<ops.size:=by
   rcases Nat.lt_or_ge j ops.size with h | h
   ·exact h
   ·rw [Array.getElem?_eq_none h] at ho;cases ho
  omega
 | o0 :: l,n,lI,hl,hn,h,htl,ht,j,d,o,hj,hd,ho=>by
  cases hal:all.drop n with
  | nil=>rw [hal] at h;simp [ug] at h
  | cons d0 ds =>
   rw [hal] at h
   simp only [ug,Bool.and_eq_true] at h
   obtain ⟨⟨h1,h2⟩,h3⟩:=h
   have hn':n<all.length:=by
    have:=congrArg List.length hal
    simp only [List.length_drop,List.length_cons] at this
    omega
   have yY:all[n]?=some d0:=by
    have:=congrArg (·[0]?) hal
    simpa using this
   have B8:ops[n]?=some o0:=by
    have:=congrArg (·[0]?) hl
    simpa using this.symm
   have hds:ds=all.drop (n+1):=by
    have:=congrArg (List.drop 1) hal
    simpa using this.symm
   have hl':l=ops.toList.drop (n+1):=by
    have:=congrArg (List.drop 1) hl
    simpa using this
   have T4:∀ i∈F1 lI n o0,vX ops i n:=by
    intro i hi
    unfold F1 at hi
    rcases List.mem_append.1 hi with hi | hi
    ·exact .one B8 hi
    ·obtain ⟨p,hp,hi⟩:=PX hi
     have Cl:p<n:=by
      unfold m9 at hp
      obtain ⟨e,he,rfl⟩:=List.mem_map.1 hp
      have hb:=(List.mem_filter.1 he).2
      have:=pX.1 h1 e (List.mem_filter.1 he).1
      rw [hb] at this
      simpa using this
     split at hi
     ·rename_i an tj
      exact .more B8 hp (ht p an Cl tj i hi)
     ·cases hi
   by_cases e:j=n
   ·subst e
    rw [yY] at hd
    cases hd
    rw [B8] at ho
    cases ho
    refine ⟨fun e he hb=>by have:=pX.1 h1 e he;rw [hb] at this;simpa using this,fun i x hi hx hc=>T4 i ?_⟩
    refine Og h2 (by simp;omega) i x hi ?_ hc
    rw [List.getElem?_reverse (by simp;omega)]
    simp only [List.length_take]
    have e1:min j all.length - 1 - (j - 1 - i)=i:=by omega
    rw [e1,List.getElem?_take,if_pos hi]
    exact hx
   ·refine OJ hl' (by omega) (lI:=F1 lI n o0 :: lI) ?_ (by simp [htl]) ?_ j d o (by omega) hd ho
    ·rw [← hds]
     have e1:(all.take (n+1)).reverse=d0 :: (all.take n).reverse:=by
      rw [List.take_succ_eq_append_getElem hn',List.reverse_append]
      have:all[n]=d0:=by
       have:=List.getElem?_eq_getElem hn'
       rw [yY] at this
       exact (Option.some.inj this).symm
      simp [this]
     rw [e1]
     exact h3
    ·intro p an hp tj i hi
     by_cases ep:p=n
     ·subst ep
      have e0:p+1 - 1 - p=0:=by omega
      rw [e0] at tj
      simp only [PS,Option.some.injEq] at tj
      subst tj
      exact T4 i hi
     ·have e0:n+1 - 1 - p=(n - 1 - p)+1:=by omega
      rw [e0] at tj
      simp only [PT] at tj
      exact ht p an (by omega) tj i hi
end Go.Proofs.YtldoopjnjlpbpaaGreatDoor
