/- From states to states: what may be left out, and numbers changed. No condition. -/
import Derived.Test.YtldoopjnjlpbpaaGreatDoorK12
set_option linter.unusedVariables false
set_option linter.unusedSimpArgs false
namespace Go.Proofs.YtldoopjnjlpbpaaGreatDoor
noncomputable section
def look:List (Nat × Nat)→Nat→Option Nat
 | [],_=>none
 |(a,b) :: l,n=>if Nat.beq a n then some b else look l n
def jz:Option (List Prop)→Option (List Prop)→Option (List Prop)
 | some a,some b=>some (a++b)
 | _,_=>none
def SI.same:SI→SI→Option (List Prop)
 | .l a,.l b=>if a=b then some [] else none
 | a,b=>some [a.den=b.den]
def SN.same:SN→SN→Option (List Prop)
 | .l a,.l b=>if a=b then some [] else none
 | a,b=>some [a.den=b.den]
def SB.same:SB→SB→Option (List Prop)
 | .l a,.l b=>if a=b then some [] else none
 | a,b=>some [a.den=b.den]
def SK.same:SK→SK→Option (List Prop)
 | .any,_=>some []
 | .n a,.n b=>a.same b
 | .full a,.full b=>if a=b then some [] else none
 | .cut a,.cut b=>if a=b then some [] else none
 | .full a,.cut b=>if a=b then some [] else none
 | .cut a,.full b=>if a=b then some [] else none
 | _,_=>none
def aD (base:Nat) (π:List (Nat × Nat)) (i:Nat):Option Nat:=if Nat.blt i base then some i else look π i
def l7 (r:Nat→Option Nat) (i j:Nat):Bool:=match r i with | some k=>Nat.beq k j | none=>false
def SF.same (r:Nat→Option Nat):SF→SF→Option (List Prop)
 | .int k a,.int k' b=>if k=k' then a.same b else none
 | .bool a,.bool b=>a.same b
 | .ptr i a,.ptr j b=>match l7 r i j with
  | true=>a.same b
  | false=>none
 | .slice i a n c,.slice j b k d=>match l7 r i j with
  | true=>jz (a.same b) (jz (n.same k) (c.same d))
  | false=>none
 | .gp g a,.gp h b=>if Nat.beq g h then a.same b else none
 | .mp i,.mp j=>match l7 r i j with
  | true=>some []
  | false=>none
 | .lit a,.lit b=>some [a=b]
 | .lG a,.lG b=>some [a=b]
 | .lG a,.lit b=>some [a=b]
 | .e0,.e0=>some []
 | .kO,.kO=>some []
 | .e0,.kO=>some []
 | .e0,.e1=>some []
 | .e1,.e1=>some []
 | .e0,.lit (.slice none 0 0)=>some []
 | .e0,.slice _ _ (.l 0) _=>some []
 | _,_=>none
def j6 {α:Type} (s:α→α→Option (List Prop)):List α→List α→Option (List Prop)
 | [],[]=>some []
 | a :: l,b :: m=>jz (s a b) (j6 s l m)
 | _,_=>none
def JW {α:Type} (s:α→α→Option (List Prop)):List α→List α→Option (List Prop)
 | [],_=>some []
 | a :: l,b :: m=>jz (s a b) (JW s l m)
 | _,_=>none
def SC.same (r:Nat→Option Nat):SC→SC→Option (List Prop)
 | .f a,.f b=>a.same r b
 | .fn u a b,.fn w c d=>jz (some [u=w]) (jz (j6 (SF.same r) a c) (j6 (SF.same r) b d))
 | .yl i,.yl j=>match l7 r i j with
  | true=>some []
  | false=>none
 | .kf t true a,.kf u true b=>if Nat.beq t u then j6 (SF.same r) a b else none
 | .kf t false a,.kf u false b=>if Nat.beq t u then j6 (SF.same r) a b else none
 | _,_=>none
def SA.same (r:Nat→Option Nat):SA→SA→Option (List Prop)
 | .ls a,.ls b=>j6 (SC.same r) a b
 | .pre a,.pre b=>JW (SC.same r) a b
 | .op a,.op b=>some [a=b]
 | .pop a,.pop b=>some [a=b]
 | .raw a,.raw b=>some [a=b]
 | .op a,.ls b=>match iy b with
  | some vs=>some [a=vs.toArray]
  | none=>none
 | .pop a,.pre b=>match iy b with
  | some vs=>some [a=vs.toArray]
  | none=>none
 | .pop a,.ls b=>match iy b with
  | some vs=>some [a=vs.toArray]
  | none=>none
 | .ls a,.op b=>match iy a with
  | some vs=>some [b=vs.toArray]
  | none=>none
 | _,_=>none
def S1.same (r:Nat→Option Nat):S1→S1→Option (List Prop)
 | .c a,.c b=>a.same r b
 | .agg a,.agg b=>a.same r b
 | _,_=>none
def SV.same (r:Nat→Option Nat):SV→SV→Option (List Prop)
 | .s a,.s b=>a.same r b
 | .bW a,.bW b=>j6 (S1.same r) a b
 | _,_=>none
def Tr.keys {α:Type}:Tr α→List Nat
 | .nil=>[]
 | .node l v r=>(match v with | some _=>[0] | none=>[])++(l.keys.map (fun j=>2*j+1)++r.keys.map fun j=>2*j+2)
def uh {α:Type} (s:α→Option (List Prop)):List α→Option (List Prop)
 | []=>some []
 | a :: l=>jz (s a) (uh s l)
def Sh (r:Nat→Option Nat) (a b:Tm) (i:Nat):Option (List Prop):=match a.get i with
 | none=>some []
 | some x=>match b.get i with
  | some y=>x.same r y
  | none=>none
def Fl (r:Nat→Option Nat) (a b:Tm):Option (List Prop) :=
 match a.d with
 | some _=>none
 | none=>if Nat.beq a.n b.n then uh (Sh r a b) a.t.keys else none
def JX (r:Nat→Option Nat) (src l:Tr bN) (i:Nat):Option (List Prop):=match aH l i with
 | none=>some []
 | some b=>match r i with
  | none=>none
  | some j=>match aH src j with
   | none=>none
   | some c=>if !b.wr||c.wr then jz (some [b.ty=c.ty]) (b.arr.same r c.arr) else none
def Bo (r:Nat→Option Nat) (x y:SF × S1 × Nat):Option (List Prop):=if Nat.beq x.2.2 y.2.2 then jz (x.1.same r y.1) (x.2.1.same r y.2.1) else none
structure pD where
 st:LoopState
 pe:Option Code
 fn:FuncId
 ps:Array Tmp
 ag:Code
 bd:Code
def dN (a b:pD):Prop:=a=b
def zU:List (SF × S1 × Nat)→Option (List (Value × Value))
 | []=>some []
 |(.int k n,.c (.f (.int k' x)),_) :: l=>(zU l).map fun r=>(.int k n.den,.int k' x.den) :: r
 |(.int k n,.c (.f (.bool x)),_) :: l=>(zU l).map fun r=>(.int k n.den,.bool x.den) :: r
 | _=>none
def Fm (lo c:Nat):List (SF × S1 × Nat)→Bool
 | []=>true
 | x :: l=>Nat.ble lo x.2.2&&(Nat.blt x.2.2 c&&Fm (x.2.2+1) c l)
def XO.same (r:Nat→Option Nat):XO→XO→Option (List Prop)
 | .loop st pe fn tm ps as bd dl,.loop st' pe' fn' ND ps' as' bd' dl'=>match l7 r dl dl' with
  | true=>jz (some [dN ⟨st,pe,fn,ps,as,bd⟩ ⟨st',pe',fn',ps',as',bd'⟩]) (Fl r tm ND)
  | false=>none
 | .gZ,.gZ=>some []
 | .map es c,.map es' c'=>if Nat.beq c c' then j6 (Bo r) es es' else none
 | .kH es c,.map es' c'=>if Nat.beq c c' then j6 (Bo r) es es' else none
 | .kH es c,.kH es' c'=>if Nat.beq c c' then j6 (Bo r) es es' else none
 | .kI w kk vk es,.kI w' NF NG es'=>if (!w||w') then some [kk=NF,vk=NG,es=es'] else none
 | .kI _ kk vk es,.map es' c=>match zU es',Fm 0 c es' with
  | some l,true=>some [es.map (TZ kk vk)=l]
  | _,_=>none
 | .sL l c,.sL l' c'=>some [l=l',c=c']
 | .iter i s e l,.iter i' s' e' l'=>match l7 r i i' with
  | true=>some [s=s',e=e',l=l']
  | false=>none
 | _,_=>none
def JY (r:Nat→Option Nat) (src:List XB) (b:XB):Option (List Prop):=match r b.id with
 | none=>none
 | some j=>match bR src j with
  | none=>none
  | some c=>b.o.same r c
def K7 (r:Nat→Option Nat) (m m0:aj):Option (List Prop) :=
 jz (uh (JX r m.bl m0.bl) m0.bl.keys) (uh (JY r m.xs) m0.xs)
def Aj (r:Nat→Option Nat):bh→bh→Prop
 | .it a,.it b=>a=b
 | .fD i,.fD j=>l7 r i j=true
 | .qV i,.qV j=>l7 r i j=true
 | _,_=>False
def ak (r:Nat→Option Nat):List bh→List bh→Prop
 | [],[]=>True
 | a :: l,b :: m=>Aj r a b∧ak r l m
 | _,_=>False
def JZ (r:Nat→Option Nat):rB→rB→Option (List Prop)
 | .col i,.col j=>match l7 r i j with
  | true=>some []
  | false=>none
 | .fn f l c,.fn g k d=>if Nat.beq f g then jz (j6 (SV.same r) l k) (j6 (SF.same r) c d) else none
 | _,_=>none
def Jg (r:Nat→Option Nat) (a b:F7):Option (List Prop):=if a.got=b.got then a.v.same r b.v else none
def J0 (r:Nat→Option Nat):y6→y6→Option (List Prop)
 | .run,.run=>some []
 | .ret,.ret=>some []
 | .y7 a,.y7 b=>j6 (Jg r) a b
 | _,_=>none
def Tj (r:Nat→Option Nat):Option Nat→Option Nat→Bool
 | none,none=>true
 | some i,some j=>l7 r i j
 | _,_=>false
def Ak (r:Nat→Option Nat) (a b:av):Option (List Prop) :=
 if Nat.beq a.fn b.fn&&Tj r a.kj b.kj then jz (some [a.kind=b.kind,ak r a.todo b.todo]) (jz (Fl r a.tm b.tm) (jz (j6 (JZ r) a.gN b.gN) (J0 r a.md b.md))) else none
def vY (m:aj) (i:Nat):Bool:=match aH m.bl i,bR m.xs i with
 | some b,none=>!b.wr
 | _,_=>false
def rY (r:Bool) (b:Nat):List (Nat × Bool)→Bool
 | []=>true
 |(c,r') :: l=>(!Nat.beq b c||(r&&r'))&&rY r b l
def rZ (base next:Nat) (ro:Nat→Bool):List (Nat × Nat)→List (Nat × Bool)→Bool
 | [],_=>true
 |(a,b) :: l,seen=>Nat.ble base a&&Nat.blt a next&&Nat.ble base b&&rY (ro a) b seen&&rZ base next ro l ((b,ro a) :: seen)
def Ml (base:Nat) (π:List (Nat × Nat)) (pT:List av) (m0:aj) (fs:List av) (m:aj):Option (List Prop) :=
 if Nat.ble base m0.next&&rZ base m0.next (vY m0) π [] then jz (j6 (Ak (aD base π)) pT fs) (K7 (aD base π) m m0) else none
theorem ju {a b:Option (List Prop)} {q:List Prop} (h:jz a b=some q):∃ x y,a=some x∧b=some y∧q=x++y:=by
 unfold jz at h
 split at h
 ·cases h;exact ⟨_,_,rfl,rfl,rfl⟩
 ·cases h
section
variable {q:List Prop}
theorem SI.fk {a b:SI} (h:a.same b=some q) (hq:∀ p∈q,p):a.den=b.den:=by
 unfold SI.same at h
 split at h
 ·split at h
  ·rename_i e;rw [e]
  ·cases h
 ·cases h;exact hq _ (List.mem_singleton.2 rfl)
theorem SN.fk {a b:SN} (h:a.same b=some q) (hq:∀ p∈q,p):a.den=b.den:=by
 unfold SN.same at h
 split at h
 ·split at h
  ·rename_i e;rw [e]
  ·cases h
 ·cases h;exact hq _ (List.mem_singleton.2 rfl)
theorem SB.fk {a b:SB} (h:a.same b=some q) (hq:∀ p∈q,p):a.den=b.den:=by
 unfold SB.same at h
 split at h
 ·split at h
  ·rename_i e;rw [e]
  ·cases h
 ·cases h;exact hq _ (List.mem_singleton.2 rfl)
theorem SK.fk {a b:SK} (h:a.same b=some q) (hq:∀ p∈q,p) {c n:Nat} (hb:b.ok c n):a.ok c n:=by
 unfold SK.same at h
 split at h
 ·trivial
 ·have:=SN.fk h hq
  show c=_
  rw [this]
  exact hb
 ·split at h
  ·rename_i e;rw [e];exact hb
  ·cases h
 ·split at h
  ·rename_i e;rw [e];exact hb
  ·cases h
 ·split at h
  ·rename_i e;rw [e];exact hb
  ·cases h
 ·split at h
  ·rename_i e;rw [e];exact hb
  ·cases h
 ·cases h
variable {r:Nat→Option Nat} {R R0:aX}
theorem oG (hr:∀ i j,r i=some j→R0 i=R j) {i j:Nat} (h:l7 r i j=true):R0 i=R j:=by
 unfold l7 at h
 split at h
 ·rename_i k hk
  obtain rfl:k=j:=Nat.eq_of_beq_eq_true h
  exact hr _ _ hk
 ·cases h
theorem SF.fk (hr:∀ i j,r i=some j→R0 i=R j) {a b:SF} (h:a.same r b=some q) (hq:∀ p∈q,p) {v:Value} (hb:b.ok R v):a.ok R0 v:=by
 unfold SF.same at h
 split at h
 ·split at h
  ·rename_i e
   subst e
   have h1:=SI.fk h hq
   show v=_
   rw [h1]
   exact hb
  ·cases h
 ·have h1:=SB.fk h hq
  show v=_
  rw [h1]
  exact hb
 ·split at h
  ·rename_i hk
   obtain ⟨g,h1,h2⟩:=hb
   exact ⟨g,by rw [oG hr hk];exact h1,by rw [SN.fk h hq];exact h2⟩
  ·cases h
 ·split at h
  ·rename_i hk
   obtain ⟨x,y,k1,k2,rfl⟩:=ju h
   obtain ⟨y1,y2,k3,k4,rfl⟩:=ju k2
   obtain ⟨g,c,h1,h2,h3,h4⟩:=hb
   have e1:=SN.fk k1 fun p hp=>hq p (by simp [hp])
   have e2:=SN.fk k3 fun p hp=>hq p (by simp [hp])
   exact ⟨g,c,by rw [oG hr hk];exact h1,by rw [e1,e2];exact h2,SK.fk k4 (fun p hp=>hq p (by simp [hp])) h3,by rw [e2];exact h4⟩
  ·cases h
 ·split at h
  ·rename_i e
   have e':=Nat.eq_of_beq_eq_true e
   subst e'
   show v=_
   rw [SN.fk h hq]
   exact hb
  ·cases h
 ·split at h
  ·rename_i hk
   obtain ⟨g,h1,h2⟩:=hb
   exact ⟨g,by rw [oG hr hk];exact h1,h2⟩
  ·cases h
 ·cases h
  have e:=hq _ (List.mem_singleton.2 rfl)
  rw [e]
  exact hb
 ·cases h
  have e:=hq _ (List.mem_singleton.2 rfl)
  rw [e]
  exact hb
 ·cases h
  have e:=hq _ (List.mem_singleton.2 rfl)
  rw [e]
  exact hb
 ·exact hb
 ·exact hb
 ·obtain ⟨_,h2⟩:=hb;exact ⟨_,_,h2⟩
 ·obtain ⟨_,_,h2⟩:=hb;exact ⟨_,_,h2⟩
 ·exact hb
 ·exact ⟨_,_,hb.1⟩
 ·obtain ⟨g,c,_,h2,_⟩:=hb
  exact ⟨_,_,h2⟩
 ·cases h
theorem lQ {α β:Type} {s:α→α→Option (List Prop)} {o o':α→β→Prop} (hs:∀ {a b q v},s a b=some q→(∀ p∈q,p)→o' b v→o a v) {l:List α}:∀ {m:List α} {q:List Prop} {vs:List β},j6 s l m=some q→(∀ p∈q,p)→aK o' m vs→aK o l vs:=by
 induction l with
 | nil =>
  intro m q vs h _ hv
  cases m with
  | nil=>cases vs with
   | nil=>trivial
   | cons v vs=>exact hv.elim
  | cons b m=>cases h
 | cons a l ih =>
  intro m q vs h hq hv
  cases m with
  | nil=>cases h
  | cons b m =>
   cases vs with
   | nil=>exact hv.elim
   | cons v vs =>
    obtain ⟨x,y,h1,h2,rfl⟩:=ju h
    exact ⟨hs h1 (fun p hp=>hq p (List.mem_append_left _ hp)) hv.1,ih h2 (fun p hp=>hq p (List.mem_append_right _ hp)) hv.2⟩
theorem W_ {α:Type} {s:α→α→Option (List Prop)} {o o':α→Value→Prop} (hs:∀ {a b q v},s a b=some q→(∀ p∈q,p)→o' b v→o a v) {l:List α}:∀ {m:List α} {q:List Prop} {vs:List Value},JW s l m=some q→(∀ p∈q,p)→aK o' m (vs.take m.length)→aK o l (vs.take l.length):=by
 induction l with
 | nil=>intro m q vs _ _ _;simp [aK]
 | cons a l ih =>
  intro m q vs h hq hv
  cases m with
  | nil=>cases h
  | cons b m =>
   cases vs with
   | nil=>simp [aK] at hv
   | cons v vs =>
    obtain ⟨x,y,h1,h2,rfl⟩:=ju h
    exact ⟨hs h1 (fun p hp=>hq p (List.mem_append_left _ hp)) hv.1,ih h2 (fun p hp=>hq p (List.mem_append_right _ hp)) hv.2⟩
theorem SC.fk (hr:∀ i j,r i=some j→R0 i=R j) {a b:SC} {q:List Prop} {v:Value} (h:a.same r b=some q) (hq:∀ p∈q,p) (hb:b.ok R v):a.ok R0 v:=by
 unfold SC.same at h
 split at h
 ·exact SF.fk hr h hq hb
 ·obtain ⟨x,y,h1,h2,rfl⟩:=ju h
  obtain ⟨y1,y2,h3,h4,rfl⟩:=ju h2
  cases h1
  obtain ⟨u,w,k1,k2,k3⟩:=hb
  refine ⟨u,w,?_,lQ (o:=SF.ok R0) (o':=SF.ok R) (fun h hq hb=>SF.fk hr h hq hb) h3 (fun p hp=>hq p (by simp [hp])) k2,lQ (o:=SF.ok R0) (o':=SF.ok R) (fun h hq hb=>SF.fk hr h hq hb) h4 (fun p hp=>hq p (by simp [hp])) k3⟩
  rw [k1,hq (_=_) (List.mem_append_left _ (List.mem_singleton.2 rfl))]
 ·split at h
  ·rename_i hk
   obtain ⟨g,h1,h2⟩:=hb
   exact ⟨g,by rw [oG hr hk];exact h1,h2⟩
  ·cases h
 ·split at h
  ·rename_i e
   have e':=Nat.eq_of_beq_eq_true e
   subst e'
   obtain ⟨cs,h1,h2⟩:=hb
   exact ⟨cs,h1,lQ (o:=SF.ok R0) (o':=SF.ok R) (fun h hq hb=>SF.fk hr h hq hb) h hq h2⟩
  ·cases h
 ·split at h
  ·rename_i e
   have e':=Nat.eq_of_beq_eq_true e
   subst e'
   obtain ⟨cs,h1,h2⟩:=hb
   exact ⟨cs,h1,lQ (o:=SF.ok R0) (o':=SF.ok R) (fun h hq hb=>SF.fk hr h hq hb) h hq h2⟩
  ·cases h
 ·cases h
theorem Yt {c:SC} {v:Value} {R:aX} (h:c.plain=some v) (h1:v.oneCell'=true):c.ok R v:=by
 cases c with
 | f x=>cases x <;> simp [SC.plain] at h <;> subst h <;> first | rfl | exact ⟨rfl,h1⟩
 | fn g a b=>cases h
 | yl id=>cases h
 | kf t a l=>cases h
theorem OM {R:aX}:∀ {l:List SC} {vs:List Value},iy l=some vs→(∀ v∈vs,v.oneCell'=true)→aK (SC.ok R) l vs
 | [],_,h,_=>by simp [iy] at h;subst h;trivial
 | c :: l,vs,h,h1=>by
  simp only [iy] at h
  split at h
  ·rename_i v r hv hr
   cases h
   exact ⟨Yt hv (h1 _ List.mem_cons_self),OM hr fun u hu=>h1 u (List.mem_cons_of_mem _ hu)⟩
  ·cases h
theorem SA.fk (hr:∀ i j,r i=some j→R0 i=R j) {a b:SA} {q:List Prop} {v:Array Value} (h:a.same r b=some q) (hq:∀ p∈q,p) (hb:b.ok R v):a.ok R0 v:=by
 unfold SA.same at h
 split at h
 ·exact lQ (o:=SC.ok R0) (o':=SC.ok R) (fun h hq hb=>SC.fk hr h hq hb) h hq hb
 ·exact ⟨W_ (o:=SC.ok R0) (o':=SC.ok R) (fun h hq hb=>SC.fk hr h hq hb) h hq hb.1,hb.2⟩
 ·cases h
  rw [hq _ (List.mem_singleton.2 rfl)]
  exact hb
 ·cases h
  rw [hq _ (List.mem_singleton.2 rfl)]
  exact hb
 ·exact hb.elim
 ·split at h
  ·rename_i vs hvs
   cases h
   rw [hq _ (List.mem_singleton.2 rfl)]
   have e:=jJ hvs hb
   exact ⟨by rw [← e],SA.one hb⟩
  ·cases h
 ·split at h
  ·rename_i vs hvs
   cases h
   rw [hq _ (List.mem_singleton.2 rfl)]
   have e:=jJ hvs hb.1
   have e2:=hb.1.len_eq
   refine ⟨?_,hb.2⟩
   have e3:=congrArg List.length e
   rw [← e2] at e3
   show v.toList.take vs.toArray.size=vs
   rw [List.size_toArray,← e3]
   exact e
  ·cases h
 ·split at h
  ·rename_i vs hvs
   cases h
   rw [hq _ (List.mem_singleton.2 rfl)]
   have e:=jJ hvs hb
   refine ⟨?_,SA.one hb⟩
   show v.toList.take vs.toArray.size=vs
   rw [List.size_toArray,e,List.take_length]
  ·cases h
 ·split at h
  ·rename_i l ds vs hvs
   cases h
   have e:=hq _ (List.mem_singleton.2 rfl)
   obtain ⟨rfl,h1⟩:=hb
   subst e
   exact OM hvs h1
  ·cases h
 ·cases h
theorem SA.Yu (hr:∀ i j,r i=some j→R0 i=R j) {a b:SA} {q:List Prop} {v:Array Value} (h:a.same r b=some q) (hq:∀ p∈q,p) (hb:b.cH R v):a.cH R0 v:=by
 by_cases e:∃ c,b=.raw c
 ·obtain ⟨c,rfl⟩:=e
  unfold SA.same at h
  cases a with
  | raw d =>
   cases h
   obtain rfl:d=c:=hq _ (List.mem_singleton.2 rfl)
   exact hb
  | _=>cases h
 ·have hb':b.ok R v:=by
   cases b with
   | raw c=>exact (e ⟨c,rfl⟩).elim
   | _=>exact hb
  exact SA.oU (SA.fk hr h hq hb')
theorem S1.fk (hr:∀ i j,r i=some j→R0 i=R j) {a b:S1} {q:List Prop} {v:Value} (h:a.same r b=some q) (hq:∀ p∈q,p) (hb:b.ok R v):a.ok R0 v:=by
 unfold S1.same at h
 split at h
 ·exact SC.fk hr h hq hb
 ·obtain ⟨cs,h1,h2⟩:=hb
  exact ⟨cs,h1,SA.fk hr h hq h2⟩
 ·cases h
theorem SV.fk (hr:∀ i j,r i=some j→R0 i=R j) {a b:SV} {q:List Prop} {v:Value} (h:a.same r b=some q) (hq:∀ p∈q,p) (hb:b.ok R v):a.ok R0 v:=by
 unfold SV.same at h
 split at h
 ·exact S1.fk hr h hq hb
 ·obtain ⟨cs,h1,h2⟩:=hb
  exact ⟨cs,h1,lQ (o:=S1.ok R0) (o':=S1.ok R) (fun h hq hb=>S1.fk hr h hq hb) h hq h2⟩
 ·cases h
theorem Tr.mem_keys {α:Type}:∀ {t:Tr α} {i:Nat} {x:α},t.get i=some x→i∈t.keys
 | .nil,i,x,h=>by rw [Tr.get_nil] at h;cases h
 | .node l v r,0,x,h=>by
  have h:v=some x:=h
  subst h
  simp [Tr.keys]
 | .node l v r,k+1,x,h=>by
  rw [Tr.rO] at h
  simp only [Tr.keys]
  refine List.mem_append_right _ ?_
  by_cases h0:k % 2=0
  ·rw [if_pos h0] at h
   refine List.mem_append_left _ (List.mem_map.2 ⟨_,Tr.mem_keys h,?_⟩)
   show 2*(k / 2)+1=k+1
   omega
  ·rw [if_neg h0] at h
   refine List.mem_append_right _ (List.mem_map.2 ⟨_,Tr.mem_keys h,?_⟩)
   show 2*(k / 2)+2=k+1
   omega
theorem CN {α:Type} {s:α→Option (List Prop)}:∀ {l:List α} {q:List Prop},uh s l=some q→(∀ p∈q,p)→∀ a∈l,∃ q',s a=some q'∧∀ p∈q',p
 | [],_,_,_,a,ha=>by cases ha
 | b :: l,q,h,hq,a,ha=>by
  obtain ⟨x,y,h1,h2,rfl⟩:=ju h
  rcases List.mem_cons.1 ha with rfl | ha
  ·exact ⟨x,h1,fun p hp=>hq p (List.mem_append_left _ hp)⟩
  ·exact CN h2 (fun p hp=>hq p (List.mem_append_right _ hp)) a ha
theorem P2 (hr:∀ i j,r i=some j→R0 i=R j) {a b:Tm} {q:List Prop} {tmps:Array Value} (h:Fl r a b=some q) (hq:∀ p∈q,p) (hb:gO R b tmps):gO R0 a tmps:=by
 unfold Fl at h
 split at h
 ·cases h
 ·rename_i hd
  split at h
  ·rename_i e
   have e':=Nat.eq_of_beq_eq_true e
   refine ⟨hb.1.trans e'.symm,fun i s hs=>?_⟩
   have hk:i∈a.t.keys:=by
    have hs':=hs
    unfold Tm.get at hs'
    split at hs'
    ·rename_i x hx;exact Tr.mem_keys hx
    ·rw [hd] at hs'
     split at hs' <;> cases hs'
   obtain ⟨q',h1,h2⟩:=CN h hq i hk
   unfold Sh at h1
   rw [hs] at h1
   dsimp only at h1
   split at h1
   ·rename_i y hy
    obtain ⟨v,k1,k2⟩:=hb.2 i y hy
    exact ⟨v,k1,SV.fk hr h1 h2 k2⟩
   ·cases h1
  ·cases h
theorem Yv (hr:∀ i j,r i=some j→R0 i=R j) {src l:Tr bN} {q:List Prop} (h:uh (JX r src l) l.keys=some q) (hq:∀ p∈q,p):∀ i b,aH l i=some b→∃ j c,r i=some j∧aH src j=some c∧b.ty=c.ty∧(b.wr=true→c.wr=true) ∧
  ∀ cs,c.arr.cH R cs→b.arr.cH R0 cs:=by
 intro i b hb
 obtain ⟨q',h1,h2⟩:=CN h hq i (Tr.mem_keys hb)
 unfold JX at h1
 rw [hb] at h1
 dsimp only at h1
 split at h1
 ·cases h1
 ·rename_i j hj
  split at h1
  ·cases h1
  ·rename_i c hc
   split at h1
   ·rename_i Tk
    obtain ⟨x,y,k0,k1,rfl⟩:=ju h1
    cases k0
    simp only [Bool.or_eq_true] at Tk
    refine ⟨j,c,hj,hc,h2 (_=_) (by simp),fun hw=>?_,fun cs hcs=>SA.Yu hr k1 (fun p hp=>h2 p (by simp [hp])) hcs⟩
    rcases Tk with h3 | h3
    ·rw [hw] at h3;cases h3
    ·exact h3
   ·cases h1
theorem IC (hr:∀ i j,r i=some j→R0 i=R j) {a b:SF × S1 × Nat} {q:List Prop} {v:MapEntry} (h:Bo r a b=some q) (hq:∀ p∈q,p) (hb:nJ R b v):nJ R0 a v:=by
 unfold Bo at h
 split at h
 ·rename_i e
  have e':=Nat.eq_of_beq_eq_true e
  obtain ⟨x,y,h1,h2,rfl⟩:=ju h
  exact ⟨SF.fk hr h1 (fun p hp=>hq p (List.mem_append_left _ hp)) hb.1,S1.fk hr h2 (fun p hp=>hq p (List.mem_append_right _ hp)) hb.2.1,hb.2.2.trans e'.symm⟩
 ·cases h
theorem HA {R:aX}:∀ {es:List (SF × S1 × Nat)} {l:List (Value × Value)} {vs:List MapEntry},zU es=some l→aK (nJ R) es vs→(vs.map fun e=>(e.key,e.val))=l
 | [],_,[],h,_=>by cases h;rfl
 | [],_,_ :: _,_,h=>h.elim
 | _ :: _,_,[],_,h=>h.elim
 | e :: es,l,v :: vs,h,hv=>by
  obtain ⟨⟨h1,h2,_⟩,h3⟩:=hv
  unfold zU at h
  split at h
  ·rename_i e'
   cases e'
  ·rename_i k n k' x b r e'
   cases e'
   obtain ⟨r',hr,rfl⟩:=Option.map_eq_some_iff.1 h
   have h1:v.key=.int k n.den:=h1
   have h2:v.val=.int k' x.den:=h2
   rw [List.map_cons,HA hr h3,h1,h2]
  ·rename_i k n x b r e'
   cases e'
   obtain ⟨r',hr,rfl⟩:=Option.map_eq_some_iff.1 h
   have h1:v.key=.int k n.den:=h1
   have h2:v.val=.bool x.den:=h2
   rw [List.map_cons,HA hr h3,h1,h2]
  ·cases h
theorem ID {R:aX}:∀ {es:List (SF × S1 × Nat)} {l:List MapEntry} {lo c:Nat},Fm lo c es=true→aK (nJ R) es l→(∀ e∈l,lo≤e.born∧e.born<c)∧(l.map (·.born)).Nodup
 | [],[],_,_,_,_=>⟨fun _ h=>(by cases h),List.nodup_nil⟩
 | [],_ :: _,_,_,_,h=>h.elim
 | _ :: _,[],_,_,_,h=>h.elim
 | x :: es,e :: l,lo,c,h,⟨⟨_,_,k⟩,h2⟩=>by
  unfold Fm at h
  simp only [Bool.and_eq_true] at h
  obtain ⟨h1,h3,h4⟩:=h
  have h1:=Nat.le_of_ble_eq_true h1
  have h3:x.2.2<c:=by simpa using h3
  obtain ⟨k1,k2⟩:=ID h4 h2
  refine ⟨fun y hy=>?_,?_⟩
  ·rcases List.mem_cons.1 hy with rfl | hy
   ·rw [k];exact ⟨h1,h3⟩
   ·have:=k1 y hy;omega
  ·rw [List.map_cons,List.nodup_cons]
   refine ⟨fun hm=>?_,k2⟩
   obtain ⟨y,hy,e1⟩:=List.mem_map.1 hm
   have:=k1 y hy
   rw [e1,k] at this
   omega
theorem XO.fk (hr:∀ i j,r i=some j→R0 i=R j) {a b:XO} {q:List Prop} {o:Obj} (h:a.same r b=some q) (hq:∀ p∈q,p) (hb:b.ok R o):a.ok R0 o∧(a.own=true→b.own=true):=by
 unfold XO.same at h
 split at h
 ·split at h
  ·rename_i hk
   obtain ⟨x,y,h1,h2,rfl⟩:=ju h
   cases h1
   obtain ⟨tmps,g,k1,k2,k3⟩:=hb
   have e1:=hq (dN _ _) (List.mem_append_left _ (List.mem_cons_self ..))
   unfold dN at e1
   cases e1
   refine ⟨⟨tmps,g,by rw [oG hr hk];exact k1,P2 hr h2 (fun p hp=>hq p (List.mem_append_right _ hp)) k2,?_⟩,fun _=>rfl⟩
   exact k3
  ·cases h
 ·exact ⟨hb,id⟩
 ·split at h
  ·rename_i e
   obtain rfl:=Nat.eq_of_beq_eq_true e
   obtain ⟨l,h1,h2⟩:=hb
   exact ⟨⟨l,h1,lQ (o:=nJ R0) (o':=nJ R) (fun h hq hb=>IC hr h hq hb) h hq h2⟩,id⟩
  ·cases h
 ·split at h
  ·rename_i e
   obtain rfl:=Nat.eq_of_beq_eq_true e
   obtain ⟨l,h1,h2⟩:=hb
   exact ⟨⟨l,h1,lQ (o:=nJ R0) (o':=nJ R) (fun h hq hb=>IC hr h hq hb) h hq h2⟩,fun h=>by cases h⟩
  ·cases h
 ·split at h
  ·rename_i e
   obtain rfl:=Nat.eq_of_beq_eq_true e
   obtain ⟨l,h1,h2⟩:=hb
   exact ⟨⟨l,h1,lQ (o:=nJ R0) (o':=nJ R) (fun h hq hb=>IC hr h hq hb) h hq h2⟩,id⟩
  ·cases h
 ·split at h
  ·rename_i w kk vk es w' NF NG es' hw
   cases h
   have e1:=hq (kk=NF) (by simp)
   have e2:=hq (vk=NG) (by simp)
   have e3:=hq (es=es') (by simp)
   subst e1;subst e2;subst e3
   exact ⟨hb,fun h=>by
    have h:w=true:=h
    rw [h] at hw
    show w'=true
    simpa using hw⟩
  ·cases h
 ·split at h
  ·rename_i l hl hi
   cases h
   obtain ⟨a,h1,h2⟩:=hb
   refine ⟨⟨a,_,h1,?_,?_⟩,fun _=>rfl⟩
   ·rw [hq _ (List.mem_singleton.2 rfl)]
    exact HA hl h2
   ·exact ⟨fun e he=>((ID hi h2).1 e he).2,(ID hi h2).2⟩
  ·cases h
 ·cases h
  have e1:=hq _ (List.mem_cons_self ..)
  have e2:=hq _ (List.mem_cons_of_mem _ (List.mem_cons_self ..))
  subst e1;subst e2
  exact ⟨hb,id⟩
 ·split at h
  ·rename_i hk
   cases h
   obtain ⟨g,k1,k2⟩:=hb
   have e1:=hq _ (List.mem_cons_self ..)
   have e2:=hq _ (List.mem_cons_of_mem _ (List.mem_cons_self ..))
   have e3:=hq _ (List.mem_cons_of_mem _ (List.mem_cons_of_mem _ (List.mem_cons_self ..)))
   subst e1;subst e2;subst e3
   exact ⟨⟨g,by rw [oG hr hk];exact k1,k2⟩,id⟩
  ·cases h
 ·cases h
theorem P3:∀ {l:List XB} {i:Nat} {x:XO},bR l i=some x→(⟨i,x⟩:XB)∈l
 | [],_,_,h=>by cases h
 | b :: l,i,x,h=>by
  simp only [bR] at h
  split at h
  ·rename_i e
   obtain rfl:=Nat.eq_of_beq_eq_true e
   cases h
   exact List.mem_cons_self ..
  ·exact List.mem_cons_of_mem _ (P3 h)
theorem Yw (hr:∀ i j,r i=some j→R0 i=R j) {src l:List XB} {q:List Prop} (h:uh (JY r src) l=some q) (hq:∀ p∈q,p):∀ i x,bR l i=some x→∃ j y,r i=some j∧bR src j=some y∧∀ o,y.ok R o→x.ok R0 o∧(x.own=true→y.own=true):=by
 intro i x hx
 obtain ⟨q',h1,h2⟩:=CN h hq _ (P3 hx)
 unfold JY at h1
 dsimp only at h1
 split at h1
 ·cases h1
 ·rename_i j hj
  split at h1
  ·cases h1
  ·rename_i y hy
   exact ⟨j,y,hj,hy,fun o ho=>XO.fk hr h1 h2 ho⟩
theorem Aj.ok (hr:∀ i j,r i=some j→R0 i=R j) {a b:bh} {v:Item} (h:Aj r a b) (hb:jA R b v):jA R0 a v:=by
 unfold Aj at h
 split at h
 ·show v=_
  rw [h]
  exact hb
 ·obtain ⟨g,h1,h2⟩:=hb
  exact ⟨g,by rw [oG hr h];exact h1,h2⟩
 ·obtain ⟨g,h1,h2⟩:=hb
  exact ⟨g,by rw [oG hr h];exact h1,h2⟩
 ·exact h.elim
theorem ak.ok (hr:∀ i j,r i=some j→R0 i=R j):∀ {a b:List bh} {v:List Item},ak r a b→aK (jA R) b v→aK (jA R0) a v
 | [],[],[],_,_=>trivial
 | _ :: _,_ :: _,_ :: _,h,hb=>⟨Aj.ok hr h.1 hb.1,ak.ok hr h.2 hb.2⟩
 | [],[],_ :: _,_,hb=>hb.elim
 | _ :: _,_ :: _,[],_,hb=>hb.elim
 | [],_ :: _,_,h,_=>h.elim
 | _ :: _,[],_,h,_=>h.elim
theorem Xa (hr:∀ i j,r i=some j→R0 i=R j) {a b:rB} {q:List Prop} {v:Deferred} (h:JZ r a b=some q) (hq:∀ p∈q,p) (hb:l9 R b v):l9 R0 a v:=by
 unfold JZ at h
 split at h
 ·split at h
  ·rename_i hk
   obtain ⟨g,h1,h2⟩:=hb
   exact ⟨g,by rw [oG hr hk];exact h1,h2⟩
  ·cases h
 ·split at h
  ·rename_i e
   obtain rfl:=Nat.eq_of_beq_eq_true e
   obtain ⟨x,y,h1,h2,rfl⟩:=ju h
   obtain ⟨args,caps,k1,k2,k3⟩:=hb
   exact ⟨args,caps,k1,lQ (o:=SV.ok R0) (o':=SV.ok R) (fun h hq hb=>SV.fk hr h hq hb) h1 (fun p hp=>hq p (List.mem_append_left _ hp)) k2,lQ (o:=SF.ok R0) (o':=SF.ok R) (fun h hq hb=>SF.fk hr h hq hb) h2 (fun p hp=>hq p (List.mem_append_right _ hp)) k3⟩
  ·cases h
 ·cases h
theorem Wr (hr:∀ i j,r i=some j→R0 i=R j) {a b:F7} {q:List Prop} {v:PanicEntry} (h:Jg r a b=some q) (hq:∀ p∈q,p) (hb:Bp R b v):Bp R0 a v:=by
 unfold Jg at h
 split at h
 ·rename_i e
  exact ⟨SC.fk hr h hq hb.1,hb.2.1.trans e.symm,hb.2.2⟩
 ·cases h
theorem Xb (hr:∀ i j,r i=some j→R0 i=R j) {a b:y6} {q:List Prop} {v:FrameMode} (h:J0 r a b=some q) (hq:∀ p∈q,p) (hb:nr R b v):nr R0 a v:=by
 unfold J0 at h
 split at h
 ·exact hb
 ·exact hb
 ·obtain ⟨ch,h1,h2⟩:=hb
  exact ⟨ch,h1,lQ (o:=Bp R0) (o':=Bp R) (fun h hq hb=>Wr hr h hq hb) h hq h2⟩
 ·cases h
theorem Xc (hr:∀ i j,r i=some j→R0 i=R j) {a b:av} {q:List Prop} {v:Frame} (h:Ak r a b=some q) (hq:∀ p∈q,p) (hb:eA R b v):eA R0 a v:=by
 unfold Ak at h
 split at h
 ·rename_i hc
  simp only [Bool.and_eq_true] at hc
  have e:=Nat.eq_of_beq_eq_true hc.1
  obtain ⟨x1,y1,h1,h2,rfl⟩:=ju h
  obtain ⟨x2,y2,h3,h4,rfl⟩:=ju h2
  obtain ⟨x4,y4,h7,h8,rfl⟩:=ju h4
  cases h1
  have ek:=hq (_=_) (List.mem_append_left _ (List.mem_cons_self ..))
  have et:=hq (ak r _ _) (List.mem_append_left _ (List.mem_cons_of_mem _ (List.mem_cons_self ..)))
  refine ⟨hb.fn.trans e.symm,P2 hr h3 (fun p hp=>hq p (by simp [hp])) hb.tm,ak.ok hr et hb.todo,
   lQ (o:=l9 R0) (o':=l9 R) (fun h hq hb=>Xa hr h hq hb) h7 (fun p hp=>hq p (by simp [hp])) hb.gN,Xb hr h8 (fun p hp=>hq p (by simp [hp])) hb.md,hb.kind.trans ek.symm,?_⟩
  have h9:=hc.2
  have G5:=hb.kj
  unfold Tj at h9
  split at h9
  ·rename_i e1 e2
   rw [e1]
   rw [e2] at G5
   exact G5
  ·rename_i i j e1 e2
   rw [e1]
   rw [e2] at G5
   obtain ⟨g,k1,k2⟩:=G5
   exact ⟨g,by rw [oG hr h9];exact k1,k2⟩
  ·cases h9
 ·cases h
theorem ON:∀ {l m:List av} {q:List Prop},j6 (Ak r) l m=some q→jk l=jk m
 | [],[],_,_=>rfl
 | [],_ :: _,_,h=>by cases h
 | _ :: _,[],_,h=>by cases h
 | a :: l,b :: m,q,h=>by
  obtain ⟨x,y,h1,h2,rfl⟩:=ju h
  have ih:=ON h2
  have e:a.fn=b.fn:=by
   unfold Ak at h1
   split at h1
   ·rename_i hc
    simp only [Bool.and_eq_true] at hc
    exact Nat.eq_of_beq_eq_true hc.1
   ·cases h1
  cases l with
  | nil=>cases m with
   | nil=>exact e
   | cons _ _=>cases h2
  | cons _ _=>cases m with
   | nil=>cases h2
   | cons _ _=>exact ih
end
theorem HB {r:Bool} {b:Nat} {r':Bool}:∀ {seen:List (Nat × Bool)},rY r b seen=true→(b,r')∈seen→r=true∧r'=true
 |(c,u) :: l,h,hm=>by
  simp only [rY,Bool.and_eq_true,Bool.or_eq_true] at h
  rcases List.mem_cons.1 hm with e | hm
  ·cases e
   rcases h.1 with h1 | h1
   ·simp at h1
   ·exact h1
  ·exact HB h.2 hm
theorem V5 {r:Bool} {b:Nat} {p:Nat × Bool} {seen:List (Nat × Bool)} (h:rY r b (p :: seen)=true):rY r b seen=true:=by
 obtain ⟨c,u⟩:=p
 simp only [rY,Bool.and_eq_true] at h
 exact h.2
theorem OO {base next:Nat} {ro:Nat→Bool} {π:List (Nat × Nat)}:∀ {seen:List (Nat × Bool)},rZ base next ro π seen=true→(∀ i j,look π i=some j→base≤i∧i<next∧base≤j∧rY (ro i) j seen=true)∧∀ i k j,look π i=some j→look π k=some j→i=k∨(ro i=true∧ro k=true):=by
 induction π with
 | nil=>intro seen _;exact ⟨fun i j h=>(by cases h),fun i k j h=>(by cases h)⟩
 | cons p π ih =>
  obtain ⟨a,b⟩:=p
  intro seen h
  simp only [rZ,Bool.and_eq_true] at h
  obtain ⟨⟨⟨⟨h1,h2⟩,h3⟩,h4⟩,h5⟩:=h
  obtain ⟨k1,k2⟩:=ih h5
  have h1:=Nat.le_of_ble_eq_true h1
  have h2:a<next:=by simpa using h2
  have h3:=Nat.le_of_ble_eq_true h3
  refine ⟨fun i j h=>?_,fun i k j hi hk=>?_⟩
  ·simp only [look] at h
   split at h
   ·rename_i e
    have e':a=i:=by simpa using e
    cases h
    subst e'
    exact ⟨by omega,by omega,h3,h4⟩
   ·obtain ⟨l1,l2,l3,l4⟩:=k1 i j h
    exact ⟨l1,l2,l3,V5 l4⟩
  ·simp only [look] at hi hk
   split at hi <;> split at hk
   ·rename_i e1 e2
    have NH:a=i:=by simpa using e1
    have NI:a=k:=by simpa using e2
    exact .inl (by omega)
   ·rename_i e1 e2
    have NH:a=i:=by simpa using e1
    cases hi
    subst NH
    exact .inr (HB (k1 k _ hk).2.2.2 (List.mem_cons_self ..)).symm
   ·rename_i e1 e2
    have NI:a=k:=by simpa using e2
    cases hk
    subst NI
    exact .inr (HB (k1 i _ hi).2.2.2 (List.mem_cons_self ..))
   ·exact k2 i k j hi hk
theorem ZA {base next:Nat} {ro:Nat→Bool} {π:List (Nat × Nat)} (hk:rZ base next ro π []=true):∀ i k j,aD base π i=some j→aD base π k=some j→i=k∨(ro i=true∧ro k=true):=by
 obtain ⟨k1,k2⟩:=OO hk
 intro i k j hi hk
 unfold aD at hi hk
 split at hi <;> split at hk
 ·cases hi;cases hk;exact .inl rfl
 ·rename_i e1 e2
  cases hi
  have:=(k1 k _ hk).2.2.1
  have NH:i<base:=by simpa using e1
  omega
 ·rename_i e1 e2
  cases hk
  have:=(k1 i _ hi).2.2.1
  have NI:k<base:=by simpa using e2
  omega
 ·exact k2 i k j hi hk
theorem Si {m:aj} {i:Nat} {b:bN} (h:vY m i=true) (hb:aH m.bl i=some b):b.wr=false:=by
 unfold vY at h
 rw [hb] at h
 split at h
 ·rename_i e _;cases e;simpa using h
 ·cases h
theorem acZ {m:aj} {i:Nat} {x:XO} (h:vY m i=true) (hx:bR m.xs i=some x):False:=by
 unfold vY at h
 rw [hx] at h
 split at h
 ·rename_i e;cases e
 ·cases h
def oc (base:Nat) (π:List (Nat × Nat)) (R:aX):aX:=fun i=>match aD base π i with | some j=>R j | none=>none
theorem Ds {base:Nat} {π:List (Nat × Nat)} {R:aX} {i j:Nat} (e:aD base π i=some j):oc base π R i=R j:=by
 unfold oc
 rw [e]
theorem HW {base next:Nat} {ro:Nat→Bool} {π:List (Nat × Nat)} {R:aX} (hk:rZ base next ro π []=true) {i:Nat} {g:Loc} (e:oc base π R i=some g):(i<base∧R i=some g)∨(base≤i∧i<next∧∃ j,look π i=some j∧base≤j∧R j=some g):=by
 obtain ⟨k1,_⟩:=OO hk
 unfold oc aD at e
 split at e
 ·rename_i j hj
  split at hj
  ·rename_i hlt
   cases hj
   exact .inl ⟨by simpa using hlt,e⟩
  ·obtain ⟨l1,l2,l3,_⟩:=k1 i j hj
   exact .inr ⟨l1,l2,j,hj,l3,e⟩
 ·cases e
theorem Rel.sub {n0:Nat} {F:Nat→Prop} {w0 ws w:World} {Rs R:aX} {base:Nat} {π:List (Nat × Nat)} {m m0:aj} {q:List Prop} (hb:base≤m0.next) (hk:rZ base m0.next (vY m0) π []=true) (h:K7 (aD base π) m m0=some q) (hq:∀ p∈q,p)
  (hR:Rel n0 F w0 R m w) (hX:b_ ws w base m.next Rs R) (hs:∀ i g,Rs i=some g→i<base):Rel n0 F w0 (oc base π R) m0 w∧b_ ws w base m0.next Rs (oc base π R):=by
 have hr:∀ i j,aD base π i=some j→oc base π R i=R j:=fun i j e=>Ds e
 have hinj:=ZA hk
 obtain ⟨x,y,hx,hy,rfl⟩:=ju h
 have hM:=Yv (R:=R) (R0:=oc base π R) hr hx fun p hp=>hq p (List.mem_append_left _ hp)
 have NJ:=Yw (R:=R) (R0:=oc base π R) hr hy fun p hp=>hq p (List.mem_append_right _ hp)
 refine ⟨⟨fun i j g k b c hi hj ru hb hc hw=>?_,fun i g hi=>?_,fun i g hi=>?_,fun i b hb=>?_,hR.base,hR.fr,fun i x hx=>?_,fun i j g h x y hi hj hg hx hy=>?_,hR.gl⟩,fun i g hi=>?_,fun i g hi=>?_,hX.2.2.1,hb⟩
 ·obtain ⟨i',b',e1,e2,_,e3,_⟩:=hM i b hb
  obtain ⟨j',c',e4,e5,_,e6,_⟩:=hM j c hc
  rw [hr _ _ e1] at hi
  rw [hr _ _ e4] at hj
  have:=hR.inj i' j' g k b' c' hi hj ru e2 e5 (hw.imp e3 e6)
  subst this
  rcases hinj i j i' e1 e4 with e | ⟨r1,r2⟩
  ·exact e
  ·rw [Si r1 hb,Si r2 hc] at hw
   rcases hw with hw | hw <;> cases hw
 ·rcases HW hk hi with ⟨_,h⟩ | ⟨_,_,j,_,_,h⟩
  ·exact hR.lt _ _ h
  ·exact hR.lt _ _ h
 ·rcases HW hk hi with ⟨h,_⟩ | ⟨_,h,_⟩
  ·omega
  ·exact h
 ·obtain ⟨j,c,e1,e2,e3,e4,e5⟩:=hM i b hb
  obtain ⟨g,cs,fz,l1,l2,l3,l4,l5⟩:=hR.dS j c e2
  exact ⟨g,cs,fz,by rw [hr _ _ e1];exact l1,by rw [e3];exact l2,l3,e5 cs l4,fun hw=>l5 (e4 hw)⟩
 ·obtain ⟨j,y,e1,e2,e3⟩:=NJ i x hx
  obtain ⟨g,o,l1,l2,l3,l4⟩:=hR.xo j y e2
  obtain ⟨e4,e5⟩:=e3 o l3
  exact ⟨g,o,by rw [hr _ _ e1];exact l1,l2,e4,fun hw=>l4 (e5 hw)⟩
 ·obtain ⟨i',x',e1,e2,_⟩:=NJ i x hx
  obtain ⟨j',y',e4,e5,_⟩:=NJ j y hy
  rw [hr _ _ e1] at hi
  rw [hr _ _ e4] at hj
  have:=hR.xi i' j' g h x' y' hi hj hg e2 e5
  subst this
  rcases hinj i j i' e1 e4 with e | ⟨r1,r2⟩
  ·exact e
  ·exact (acZ r1 hx).elim
 ·have hlt:=hs i g hi
  have:aD base π i=some i:=by
   unfold aD
   rw [if_pos (by simpa using hlt)]
  rw [hr _ _ this]
  exact hX.1 i g hi
 ·rcases HW hk hi with ⟨h,h'⟩ | ⟨h,_,j,_,hj,h'⟩
  ·rcases hX.2.1 i g h' with e | ⟨_,e⟩
   ·exact .inl e
   ·omega
  ·rcases hX.2.1 j g h' with e | ⟨e,_⟩
   ·have:=hs j g e;omega
   ·exact .inr ⟨e,h⟩
theorem Good.sub {P:Program} {A:SV→aj→Prop} {base:Nat} {pT fs:List av} {m0 m:aj} (π:List (Nat × Nat)) {q:List Prop} (h:Ml base π pT m0 fs m=some q) (hq:∀ p∈q,p) (hg:Good P A base pT m0):Good P A base fs m:=by
 intro n0 F w0 ws w Rs R fr dm hf hR hX hs
 unfold Ml at h
 split at h
 case isFalse=>cases h
 rename_i hc
 simp only [Bool.and_eq_true] at hc
 obtain ⟨hb,hk⟩:=hc
 have hb:=Nat.le_of_ble_eq_true hb
 obtain ⟨x,y,hx,hy,rfl⟩:=ju h
 obtain ⟨h1,h2⟩:=Rel.sub hb hk hy (fun p hp=>hq p (List.mem_append_right _ hp)) hR hX hs
 have h3:aK (eA (oc base π R)) pT (fr :: dm):=lQ (o:=eA (oc base π R)) (o':=eA R) (fun h hq hb=>Xc (fun i j e=>Ds e) h hq hb) hx (fun p hp=>hq p (List.mem_append_left _ hp)) hf
 have:=hg n0 F w0 ws w Rs _ fr dm h3 h1 h2 hs
 rw [ON hx] at this
 exact this
def BO:List Prop→Prop
 | []=>True
 | p :: l=>p∧BO l
theorem zH:∀ {l:List Prop},BO l→∀ p∈l,p
 | [],_,p,hp=>by cases hp
 | a :: l,h,p,hp=>by
  rcases List.mem_cons.1 hp with rfl | hp
  ·exact h.1
  ·exact zH h.2 p hp
def Tree.vc (A:SV→aj→Prop) (B:List av→aj→Prop):Tree→Prop
 | .ret v m=>A v m
 | .br b t e=>(b=true→t.vc A B)∧(b=false→e.vc A B)
 | .need q t=>BO q∧t.vc A B
 | .stop f m=>B f m
 | .fail _=>False
theorem Tree.zo {A A':SV→aj→Prop} {B B':List av→aj→Prop} (hA:∀ v m,A v m→A' v m) (hB:∀ f m,B f m→B' f m):∀ {t:Tree},t.vc A B→t.sat A' B'
 | .ret _ _,h=>hA _ _ h
 | .br _ _ _,h=>⟨fun e=>Tree.zo hA hB (h.1 e),fun e=>Tree.zo hA hB (h.2 e)⟩
 | .need _ _,h=>⟨zH h.1,Tree.zo hA hB h.2⟩
 | .stop _ _,h=>hB _ _ h
 | .fail _,h=>h.elim
def i_ (n:Nat) (l:List (Nat × SV)):Tm:=⟨n,none,T6 l .nil⟩
where
 T6:List (Nat × SV)→Tr (Option SV)→Tr (Option SV)
  | [],t=>t
  |(i,v) :: l,t=>T6 l (t.set i (some (some v)))
def cV (base:Nat) (π:List (Nat × Nat)) (pT:List av) (m0:aj) (fs:List av) (m:aj):Prop :=
 match Ml base π pT m0 fs m with
 | some q=>BO q
 | none=>False
theorem Good.c_ {P:Program} {A:SV→aj→Prop} {base:Nat} {π:List (Nat × Nat)} {pT fs:List av} {m0 m:aj} (h:cV base π pT m0 fs m) (hg:Good P A base pT m0):Good P A base fs m:=by
 unfold cV at h
 split at h
 ·rename_i q hq
  exact Good.sub π hq (zH h) hg
 ·exact h.elim
def bM (base:Nat) (π:List (Nat × Nat)) (s0:SV) (m0:aj) (s:SV) (m:aj):Prop :=
 if Nat.ble base m0.next&&rZ base m0.next (vY m0) π [] then
  match jz (s0.same (aD base π) s) (K7 (aD base π) m m0) with
  | some q=>BO q
  | none=>False
 else False
theorem Good.ret {P:Program} {base:Nat} {fs:List av} {m pL:aj} {s0:SV} (π:List (Nat × Nat)) (hg:Good P (fun s m'=>bM base π s0 pL s m') base fs m):Good P (fun s m'=>s=s0∧m'=pL) base fs m:=by
 intro n0 F w0 ws w Rs R fr dm hf hR hX hs
 refine (hg n0 F w0 ws w Rs R fr dm hf hR hX hs).mono ?_
 rintro v w' ⟨s,m',R',hA,mU,fq,hv⟩
 unfold bM at hA
 split at hA
 case isFalse=>exact hA.elim
 rename_i hc
 simp only [Bool.and_eq_true] at hc
 obtain ⟨hb,hk⟩:=hc
 have hb:=Nat.le_of_ble_eq_true hb
 split at hA
 case h_2=>exact hA.elim
 rename_i q hq
 obtain ⟨x,y,hx,hy,rfl⟩:=ju hq
 have hA:=zH hA
 obtain ⟨h1,h2⟩:=Rel.sub hb hk hy (fun p hp=>hA p (List.mem_append_right _ hp)) fq mU hs
 exact ⟨s0,pL,_,⟨rfl,rfl⟩,h2,h1,SV.fk (fun i j e=>Ds e) hx (fun p hp=>hA p (List.mem_append_left _ hp)) hv⟩
end
end Go.Proofs.YtldoopjnjlpbpaaGreatDoor
