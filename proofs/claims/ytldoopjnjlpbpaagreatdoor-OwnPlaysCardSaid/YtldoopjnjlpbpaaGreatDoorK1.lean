/- A symbolic machine for Go functions: its values, its memory, its steps. Plain definitions; the kernel runs them. No condition. -/
import Derived.Test.YtldoopjnjlpbpaaGreatDoorG
import Derived.Below
set_option linter.unusedVariables false
set_option linter.unusedSimpArgs false
namespace Go.Proofs.YtldoopjnjlpbpaaGreatDoor
noncomputable section
inductive SI where
 | l (n:Int)
 | o (n:Int)
abbrev SI.den:SI→Int | .l n=>n | .o n=>n
inductive SB where
 | l (b:Bool)
 | o (b:Bool)
abbrev SB.den:SB→Bool | .l b=>b | .o b=>b
inductive SN where
 | l (n:Nat)
 | o (n:Nat)
abbrev SN.den:SN→Nat | .l n=>n | .o n=>n
inductive SK where
 | n (n:SN)
 | full (sz:Nat)
 | any
 | cut (sz:Nat)
def SK.ok:SK→Nat→Nat→Prop | .n x,c,_=>c=x.den | .full sz,c,N=>c*sz=N∧c≤maxLen | .any,_,_=>True | .cut sz,c,N=>c*sz=N∧c≤maxLen
inductive SF where
 | int (k:IntKind) (n:SI)
 | bool (b:SB)
 | ptr (id:Nat) (off:SN)
 | slice (id:Nat) (off len:SN) (cap:SK)
 | lit (v:Value)
 | lG (v:Value)
 | gp (g:Nat) (off:SN)
 | mp (id:Nat)
 | e0
 | kO
 | e1
inductive SC where
 | f (x:SF)
 | fn (f:Fn) (first captured:List SF)
 | yl (id:Nat)
 | kf (t:TypeId) (agg:Bool) (l:List SF)
inductive SA where
 | ls (l:List SC)
 | pre (l:List SC)
 | op (cs:Array Value)
 | pop (cs:Array Value)
 | raw (cs:Array Value)
inductive S1 where
 | c (x:SC)
 | agg (a:SA)
inductive SV where
 | s (x:S1)
 | bW (l:List S1)
def aK {α β:Type} (r:α→β→Prop):List α→List β→Prop
 | [],[]=>True
 | a :: l,b :: m=>r a b∧aK r l m
 | _,_=>False
structure Loc where
 b:Nat
 n:Nat
abbrev aX:=Nat→Option Loc
def SF.ok (R:aX):SF→Value→Prop
 | .int k n,v=>v=.int k n.den
 | .bool b,v=>v=.bool b.den
 | .ptr id off,v=>∃ g,R id=some g∧v=.pointer (some ⟨g.b,off.den,none⟩)
 | .slice id off len cap,v=>∃ g c,R id=some g∧v=.slice (some ⟨g.b,off.den,none⟩) len.den c∧cap.ok c g.n∧len.den≤c
 | .lit u,v | .lG u,v=>v=u∧u.oneCell'=true
 | .gp g off,v=>v=.pointer (some ⟨g,off.den,none⟩)
 | .mp id,v=>∃ g,R id=some g∧v=.map (some g.b)
 | .e0,v=>∃ a c,v=.slice a 0 c
 | .kO,v=>∃ a,v=.slice a 0 0
 | .e1,v=>∃ a c,v=.slice (some a) 0 c
def SC.ok (R:aX):SC→Value→Prop
 | .f x,v=>x.ok R v
 | .fn g a b,v=>∃ x y:Array Value,v=.func g x y∧aK (SF.ok R) a x.toList∧aK (SF.ok R) b y.toList
 | .yl id,v=>∃ g,R id=some g∧v=.func (.yield g.b) #[] #[]
 | .kf t true l,v=>∃ cs:Array Value,v=.iface t (.agg cs)∧aK (SF.ok R) l cs.toList
 | .kf t false l,v=>∃ u,v=.iface t u∧aK (SF.ok R) l [u]
def SA.ok (R:aX):SA→Array Value→Prop
 | .ls l,cs=>aK (SC.ok R) l cs.toList
 | .pre l,cs=>aK (SC.ok R) l (cs.toList.take l.length)∧∀ v∈cs.toList,v.oneCell'=true
 | .op a,cs=>cs=a∧∀ v∈cs.toList,v.oneCell'=true
 | .pop a,cs=>cs.toList.take a.size=a.toList∧∀ v∈cs.toList,v.oneCell'=true
 | .raw _,_=>False
def SA.cH (R:aX):SA→Array Value→Prop
 | .raw a,cs=>cs=a
 | a,cs=>a.ok R cs
def S1.ok (R:aX):S1→Value→Prop
 | .c x,v=>x.ok R v
 | .agg a,v=>∃ cs,v=.agg cs∧a.ok R cs
def SV.ok (R:aX):SV→Value→Prop
 | .s x,v=>x.ok R v
 | .bW l,v=>∃ vs:Array Value,v=.tuple vs∧aK (S1.ok R) l vs.toList
inductive Tr (α:Type) where
 | nil
 | node (l:Tr α) (v:Option α) (r:Tr α)
def Tr.get {α:Type} (t:Tr α):Nat→Option α :=
 Tr.rec (motive:=fun _=>Nat→Option α) (fun _=>none) (fun _ v _ gl gr i=>Nat.rec (motive:=fun _=>Option α) v (fun k _=>Bool.rec (motive:=fun _=>Option α) (gr (Nat.div k 2)) (gl (Nat.div k 2)) (Nat.beq (Nat.mod k 2) 0)) i) t
def Tr.FZ {α:Type} (v:Option α) (f:Nat):Tr α→Nat→Tr α :=
 Nat.rec (motive:=fun _=>Tr α→Nat→Tr α) (fun t _=>t) (fun _ ih t i =>
  Tr.rec (motive:=fun _=>Tr α) (Nat.rec (motive:=fun _=>Tr α) (.node .nil v .nil) (fun k _=>Bool.rec (motive:=fun _=>Tr α) (.node .nil none (ih .nil (Nat.div k 2))) (.node (ih .nil (Nat.div k 2)) none .nil) (Nat.beq (Nat.mod k 2) 0)) i)
   (fun l x r _ _=>Nat.rec (motive:=fun _=>Tr α) (.node l v r) (fun k _=>Bool.rec (motive:=fun _=>Tr α) (.node l x (ih r (Nat.div k 2))) (.node (ih l (Nat.div k 2)) x r) (Nat.beq (Nat.mod k 2) 0)) i) t) f
def Tr.set {α:Type} (t:Tr α) (i:Nat) (v:Option α):Tr α:=FZ v (i+1) t i
structure Tm where
 n:Nat
 d:Option SV
 t:Tr (Option SV)
def Tm.get (T:Tm) (i:Nat):Option SV :=
 match T.t.get i with
 | some x=>x
 | none=>match Nat.blt i T.n with
  | true=>T.d
  | false=>none
def Tm.set (T:Tm) (i:Nat) (x:Option SV):Tm :=
 match T with
 | ⟨n,d,t⟩=>match Nat.blt i n with
  | true=>⟨n,d,t.set i (some x)⟩
  | false=>⟨n,d,t⟩
def gO (R:aX) (T:Tm) (tmps:Array Value):Prop:=tmps.size=T.n∧∀ i s,T.get i=some s→∃ v,tmps[i]?=some v∧s.ok R v
structure bN where
 arr:SA
 ty:TypeId
 wr:Bool
inductive VK where
 | i (k:IntKind)
 | b
def VK.mk:VK→Int→Value
 | .i k,n=>.int k n
 | .b,n=>.bool (decide (n≠0))
def TZ (kk:IntKind) (vk:VK) (p:Int × Int):Value × Value:=(.int kk p.1,vk.mk p.2)
inductive XO where
 | loop (st:LoopState) (j9:Option Code) (fn:FuncId) (tm:Tm) (ps:Array Tmp) (assign body:Code) (dl:Nat)
 | gZ
 | map (es:List (SF × S1 × Nat)) (clock:Nat)
 | kH (es:List (SF × S1 × Nat)) (clock:Nat)
 | kI (wr:Bool) (kk:IntKind) (vk:VK) (es:List (Int × Int))
 | sL (l:Array MapEntry) (clock:Nat)
 | iter (mid since:Nat) (seen:Array Nat) (last:Nat)
structure XB where
 id:Nat
 o:XO
structure aj where
 next:Nat
 bl:Tr bN
 xs:List XB
def bR:List XB→Nat→Option XO
 | [],_=>none
 | b :: r,i=>if Nat.beq b.id i then some b.o else bR r i
def qT:List XB→Nat→XO→List XB
 | [],_,_=>[]
 | b :: r,i,a=>if Nat.beq b.id i then ⟨b.id,a⟩ :: qT r i a else b :: qT r i a
def qH:List XB→Nat→List XB
 | [],_=>[]
 | b :: r,i=>if Nat.beq b.id i then qH r i else b :: qH r i
def aby (l:Array MapEntry) (c:Nat):Prop:=(∀ e∈l.toList,e.born<c)∧(l.toList.map (·.born)).Nodup
def nJ (R:aX) (x:SF × S1 × Nat) (e:MapEntry):Prop:=x.1.ok R e.key∧x.2.1.ok R e.val∧e.born=x.2.2
def XO.ok (R:aX):XO→Obj→Prop
 | .loop st j9 fn tm ps assign body dl,o=>∃ (tmps:Array Value) (g:Loc),R dl=some g∧gO R tm tmps∧o=.loop { state:=st,pending:=j9,fn,tmps,params:=ps,assign,body,defers:=g.b }
 | .gZ,o=>o=.deferred (some [])
 | .map es clock,o | .kH es clock,o=>∃ l:Array MapEntry,o=.map l clock∧aK (nJ R) es l.toList
 | .kI _ kk vk es,o=>∃ (l:Array MapEntry) (clock:Nat),o=.map l clock∧(l.toList.map fun e=>(e.key,e.val))=es.map (TZ kk vk)∧aby l clock
 | .sL l c,o=>o=.map l c
 | .iter mid since seen last,o=>∃ g,R mid=some g∧o=.mapIter (some g.b) since seen last
def XO.own:XO→Bool
 | .kH _ _=>false
 | .kI wr _ _ _=>wr
 | .sL _ _=>false
 | _=>true
def aH (l:Tr bN) (i:Nat):Option bN:=l.get i
def sM (l:Tr bN) (i:Nat) (a:SA):Tr bN :=
 match l.get i with
 | some b=>l.set i (some ⟨a,b.ty,b.wr⟩)
 | none=>l
def aj.new (m:aj) (a:SA) (t:TypeId):aj:=⟨m.next+1,m.bl.set m.next (some ⟨a,t,true⟩),m.xs⟩
def aj.newX (m:aj) (o:XO):aj:=⟨m.next+1,m.bl,⟨m.next,o⟩ :: m.xs⟩
structure iz (n0:Nat) (F:Nat→Prop) (w w':World):Prop where
 os:w'.os=w.os
 tape:w'.tape=w.tape
 output:w'.output=w.output
 size:w.heap.size≤w'.heap.size
 block:∀ k,k<n0→¬ F k→w'.heap[k]?=w.heap[k]?
 sN:∀ k cs ty fz,k<n0→w.heap[k]?=some (.cells cs ty fz)→∃ cs',w'.heap[k]?=some (.cells cs' ty fz)
def mQ (fz:Nat × Nat) (n:Nat):Prop:=fz=(0,0)∨n≤fz.1
structure Rel (n0:Nat) (F:Nat→Prop) (w0:World) (R:aX) (m:aj) (w:World):Prop where
 inj:∀ i j g h b c,R i=some g→R j=some h→g.b=h.b→aH m.bl i=some b→aH m.bl j=some c→b.wr=true∨c.wr=true→i=j
 lt:∀ i g,R i=some g→g.b<w.heap.size
 nx:∀ i g,R i=some g→i<m.next
 dS:∀ i b,aH m.bl i=some b→∃ g cs fz,R i=some g∧w.heap[g.b]?=some (.cells cs b.ty fz)∧cs.size=g.n∧b.arr.cH R cs∧(b.wr=true→(n0≤g.b∨F g.b)∧mQ fz cs.size)
 base:n0≤w.heap.size
 fr:iz n0 F w0 w
 xo:∀ i x,bR m.xs i=some x→∃ g o,R i=some g∧w.heap[g.b]?=some o∧x.ok R o∧(x.own=true→n0≤g.b∨F g.b)
 xi:∀ i j g h x y,R i=some g→R j=some h→g.b=h.b→bR m.xs i=some x→bR m.xs j=some y→i=j
 gl:∀ g cs,(g,cs)∈Eb→g<n0∧¬ F g∧∃ cs' ty fz,w0.heap[g]?=some (.cells cs' ty fz)∧cs'.size=cs.length∧∀ i:Nat,i<cs.length→cs'[i]?=cs[i]?
def Ext (R R':aX):Prop:=∀ i g,R i=some g→R' i=some g
def b_ (w w':World) (n n':Nat) (R R':aX):Prop:=Ext R R'∧(∀ i g,R' i=some g→R i=some g∨(w.heap.size≤g.b∧n≤i))∧w.heap.size≤w'.heap.size∧n≤n'
def SC.sx:Value→SC
 | .int k n=>.f (.int k (.l n))
 | .bool b=>.f (.bool (.l b))
 | v=>.f (.lit v)
def Af:List Value→Bool
 | []=>true
 | v :: r=>v.oneCell'&&Af r
def Ag (l:List Value):Option SA:=if Af l then some (.ls (l.map SC.sx)) else none
def SV.sx:Value→Option SV
 | .agg cs=>(Ag cs.toList).map fun a=>.s (.agg a)
 | .tuple vs=>match vs.toList with
  | []=>some (.bW [])
  | _=>none
 | v=>some (.s (.c (SC.sx v)))
section rows
variable {α:Type}
def nth (l:List α):Nat→Option α :=
 List.rec (motive:=fun _=>Nat→Option α) (fun _=>none) (fun a _ ih n=>Nat.rec (motive:=fun _=>Option α) (some a) (fun k _=>ih k) n) l
theorem Zx (n:Nat):nth ([]:List α) n=none:=rfl
theorem PS (a:α) (l:List α):nth (a :: l) 0=some a:=rfl
theorem PT (a:α) (l:List α) (n:Nat):nth (a :: l) (n+1)=nth l n:=rfl
def len (l:List α):Nat:=List.rec (motive:=fun _=>Nat) 0 (fun _ _ ih=>Nat.succ ih) l
theorem afq:len ([]:List α)=0:=rfl
theorem Yo (a:α) (l:List α):len (a :: l)=len l+1:=rfl
def KY (l:List α):Nat→List α :=
 List.rec (motive:=fun _=>Nat→List α) (fun _=>[]) (fun a _ ih n=>Nat.rec (motive:=fun _=>List α) [] (fun k _=>a :: ih k) n) l
theorem Iz:∀ (l:List α) (n:Nat),KY l n=l.take n
 | [],n=>by cases n <;> rfl
 | _ :: _,0=>rfl
 | a :: l,n+1=>by
  show a :: KY l n=_
  rw [Iz l n]
  rfl
def takeN (l:List α) (n:Nat):Option (List α) :=
 match Nat.ble n (len l) with
 | true=>some (KY l n)
 | false=>none
def mH (l:List α):Nat→List α :=
 List.rec (motive:=fun _=>Nat→List α) (fun _=>[]) (fun a t ih n=>Nat.rec (motive:=fun _=>List α) (a :: t) (fun k _=>ih k) n) l
def Fg (l:List α):List α→List α :=
 List.rec (motive:=fun _=>List α→List α) (fun _=>[]) (fun b t ih v=>List.rec (motive:=fun _=>List α) (b :: t) (fun a v' _=>a :: ih v') v) l
theorem PU:∀ (l v:List α),v.length≤l.length→Fg l v=v++l.drop v.length
 | [],[],_=>rfl
 | [],_ :: _,h=>by simp at h
 | _ :: _,[],_=>rfl
 | b :: t,a :: v,h=>by
  show a :: Fg t v=_
  rw [PU t v (by simpa using h)]
  rfl
def Je (y l:List α):Nat→List α :=
 List.rec (motive:=fun _=>Nat→List α) (fun _=>[]) (fun a t ih n=>Nat.rec (motive:=fun _=>List α) (Fg (a :: t) y) (fun k _=>a :: ih k) n) l
theorem Hx (y:List α):∀ (l:List α) (n:Nat),n+y.length≤l.length→Je y l n=l.take n++y++l.drop (n+y.length)
 | [],n,h=>by
  have h1:n+y.length=0:=by simpa using h
  obtain rfl:n=0:=by omega
  obtain rfl:y=[]:=List.eq_nil_of_length_eq_zero (by omega)
  rfl
 | a :: t,0,h=>by
  show Fg (a :: t) y=_
  rw [PU _ _ (by simpa using h)]
  simp
 | a :: t,n+1,h=>by
  show a :: Je y t n=_
  rw [Hx y t n (by simp only [List.length_cons] at h;omega)]
  have e:n+1+y.length=(n+y.length)+1:=by omega
  rw [e]
  rfl
def splice (l:List α) (n:Nat) (y:List α):Option (List α) :=
 match Nat.ble (n+len y) (len l) with
 | true=>some (Je y l n)
 | false=>none
def app (a b:List α):List α:=List.rec (motive:=fun _=>List α) b (fun x _ ih=>x :: ih) a
theorem app_eq:∀ (a b:List α),app a b=a++b
 | [],_=>rfl
 | x :: a,b=>by
  show x :: app a b=_
  rw [app_eq a b]
  rfl
end rows
def ev (T:Tm):Operand→Option SV
 | .tmp t=>T.get t
 | .const v=>SV.sx v
 | .global g=>some (.s (.c (.f (.gp g (.l 0)))))
 | .func f=>some (.s (.c (.fn (.func f) [] [])))
def SC.plain:SC→Option Value
 | .f (.int k n)=>some (.int k n.den)
 | .f (.bool b)=>some (.bool b.den)
 | .f (.lit v)=>some v
 | .f (.lG v)=>some v
 | _=>none
def iy:List SC→Option (List Value)
 | []=>some []
 | c :: l=>match c.plain,iy l with
  | some v,some r=>some (v :: r)
  | _,_=>none
def SV.cells:SV→Option SA
 | .s (.c x)=>some (.ls [x])
 | .s (.agg a)=>some a
 | .bW _=>none
abbrev SN.add:SN→SN→SN
 | .l a,.l b=>.l (a+b)
 | a,b=>.o (a.den+b.den)
abbrev SI.nat:SI→SN
 | .l n=>.l n.toNat
 | .o n=>.o n.toNat
abbrev SN.mul:SN→Nat→SN
 | .l a,n=>.l (a*n)
 | .o a,n=>.o (a*n)
abbrev SN.sub:SN→SN→SN
 | .l a,.l b=>.l (a - b)
 | a,b=>.o (a.den - b.den)
def aa (cs:Array Value) (i:Nat):Int:=match cs[i]? with | some (.int _ n)=>n | _=>0
def bq (cs:Array Value) (i:Nat):Bool:=match cs[i]? with | some (.bool b)=>b | _=>false
def kD (cs:Array Value) (i:Nat):Value:=cs[i]?.getD undef
def aA (k:IntKind) (cs:Array Value) (i:Nat):Prop:=cs[i]?=some (.int k (aa cs i))
def bY (cs:Array Value) (i:Nat):Prop:=cs[i]?=some (.bool (bq cs i))
def KZ (cs:Array Value) (i:Nat):ByteArray:=match cs[i]? with | some (.string s)=>s | _=>.empty
def Th (cs:Array Value) (i:Nat):Prop:=cs[i]?=some (.string (KZ cs i))
def Bn (cs:Array Value) (i:Nat):Prop:=cs[i]?=some (.slice none 0 0)
def Fh (cs:Array Value) (i:Nat):Prop:=∃ v,cs[i]?=some v∧v.oneCell'=true
def PV (cs:Array Value) (i n:Nat):Prop:=∀ v∈(cs.extract i (i+n)).toList,v.oneCell'=true
def putAt (cs:Array Value) (i:Nat) (l:List Value):Array Value:=(cs.toList.take i++l++cs.toList.drop (i+l.length)).toArray
def vW (d:TypeDesc):Bool:=match d with | .struct _ | .array _ _=>true | _=>false
def w5 (P:Program) (t:TypeId) (a:SA) (off:SN):Option (List Prop × S1) :=
 match P.underlying t with
 | none=>none
 | some d =>
  match P.info? t with
  | none=>none
  | some i =>
   match vW d with
   | true =>
    match a,off with
    | .ls l,.l k | .pre l,.l k=>match Nat.ble (k+i.size) (len l),takeN (mH l k) i.size with
     | true,some r=>some ([],.agg (.ls r))
     | _,_=>none
    | .op cs,.l 0=>some ([cs.size=i.size],.agg (.op cs))
    | .op cs,off | .pop cs,off=>some ([off.den+i.size≤cs.size],.agg (.op (cs.extract off.den (off.den+i.size))))
    | .raw cs,off=>some ([off.den+i.size≤cs.size,PV cs off.den i.size],.agg (.op (cs.extract off.den (off.den+i.size))))
    | _,_=>none
   | false =>
    match a,off with
    | .ls l,.l k | .pre l,.l k=>match nth l k with
     | some c=>some ([],.c c)
     | none=>none
    | .op cs,off=>match d with
     | .int k=>some ([aA k cs off.den],.c (.f (.int k (.o (aa cs off.den)))))
     | .bool=>some ([bY cs off.den],.c (.f (.bool (.o (bq cs off.den)))))
     | .string=>some ([Th cs off.den],.c (.f (.lG (.string (KZ cs off.den)))))
     | .slice _=>some ([Bn cs off.den],.c (.f (.lit (.slice none 0 0))))
     | _=>some ([Fh cs off.den],.c (.f (.lG (kD cs off.den))))
    | .pop cs,off | .raw cs,off=>match d with
     | .int k=>some ([aA k cs off.den],.c (.f (.int k (.o (aa cs off.den)))))
     | .bool=>some ([bY cs off.den],.c (.f (.bool (.o (bq cs off.den)))))
     | .string=>some ([Th cs off.den],.c (.f (.lG (.string (KZ cs off.den)))))
     | _=>some ([Fh cs off.den],.c (.f (.lG (kD cs off.den))))
    | .ls l,.o k=>match iy l with
     | some vs=>match d with
      | .int kd=>some ([aA kd vs.toArray k],.c (.f (.int kd (.o (aa vs.toArray k)))))
      | .bool=>some ([bY vs.toArray k],.c (.f (.bool (.o (bq vs.toArray k)))))
      | _=>none
     | none=>none
    | _,_=>none
def Ah (l:List SC) (k n:Nat):Bool :=
 match k with
 | 0=>Nat.beq (len l) n
 | _=>false
def mM (P:Program) (t:TypeId) (a:SA) (off:SN):Option (List Prop × S1) :=
 match a,off with
 | .ls l,.l k=>match P.underlying t,P.info? t with
  | some d,some i=>match vW d&&Ah l k i.size with
   | true=>some ([],.agg (.ls l))
   | false=>w5 P t (.ls l) (.l k)
  | _,_=>none
 | a,off=>w5 P t a off
def QY (p:TypeId→Option (List TypeDesc)):List Field→Option (List TypeDesc)
 | []=>some []
 | f :: l=>match p f.type,QY p l with
  | some a,some b=>some (a++b)
  | _,_=>none
def T1 {α:Type}:Nat→List α→List α
 | 0,_=>[]
 | n+1,l=>l++T1 n l
def leaves (P:Program):Nat→TypeId→Option (List TypeDesc)
 | 0,_=>none
 | n+1,t=>match P.underlying t with
  | some (.struct fs)=>QY (leaves P n) fs.toList
  | some (.array k e)=>match Nat.ble k 24 with
   | true=>(leaves P n e).map (T1 k)
   | false=>none
  | some d=>some [d]
  | none=>none
def jO (nl:Bool) (cs:Array Value) (off:SN):Nat→List TypeDesc→List Prop × List SC
 | _,[]=>([],[])
 | k,.int kd :: r=>(aA kd cs (off.add (.l k)).den :: (jO nl cs off (k+1) r).1,.f (.int kd (.o (aa cs (off.add (.l k)).den))) :: (jO nl cs off (k+1) r).2)
 | k,.bool :: r=>(bY cs (off.add (.l k)).den :: (jO nl cs off (k+1) r).1,.f (.bool (.o (bq cs (off.add (.l k)).den))) :: (jO nl cs off (k+1) r).2)
 | k,.slice _ :: r=>(match nl with
  | true=>(Bn cs (off.add (.l k)).den :: (jO nl cs off (k+1) r).1,.f (.lit (.slice none 0 0)) :: (jO nl cs off (k+1) r).2)
  | false=>(Fh cs (off.add (.l k)).den :: (jO nl cs off (k+1) r).1,.f (.lG (kD cs (off.add (.l k)).den)) :: (jO nl cs off (k+1) r).2))
 | k,_ :: r=>(Fh cs (off.add (.l k)).den :: (jO nl cs off (k+1) r).1,.f (.lG (kD cs (off.add (.l k)).den)) :: (jO nl cs off (k+1) r).2)
def Ti:SA→Option (Array Value)
 | .op cs | .pop cs | .raw cs=>some cs
 | _=>none
def T2:SA→Bool
 | .op _=>true
 | _=>false
def isStr:TypeDesc→Bool
 | .struct _=>true
 | _=>false
def BK (kd:IntKind) (c:SC) (vs:List Int):Nat × List Int :=
 match c with
 | .f (.int k n)=>match decide (k=kd) with
  | true=>(0,n.den :: vs)
  | false=>(1,vs)
 | _=>(1,vs)
def iM (kd:IntKind):List SC→Nat × List Int
 | []=>(0,[])
 | c :: l=>match iM kd l with
  |(0,vs)=>BK kd c vs
  |(n+1,vs)=>(n+2,vs)
def DU {α:Type}:List Int→(Nat→List Int→α)→α
 | [],k=>k 0 []
 | x :: l,k=>DU l fun n r=>k (n+1) (x :: r)
def DV {α:Type}:Nat→(Nat→α)→α
 | 0,k=>k 0
 | n+1,k=>DV n fun r=>k (r+1)
def Mc (vs:List Int) (i:Nat):Int:=(vs[i]?).getD 0
def Md (P:Program) (t:TypeId) (a:SA) (off:SN):Option (List Prop × S1) :=
 match a,off,P.underlying t,P.info? t with
 | .ls l,.o k,some (.int kd),some _=>DV (iM kd l).1 fun lo=>DU (iM kd l).2 fun c vs=>some ([lo≤k∧k<lo+c],.c (.f (.int kd (.o (Mc vs (k - lo))))))
 | _,_,_,_=>none
def F0 (k j:Nat) (v n:Int):Int:=if k=j then v else n
def qU (kd:IntKind) (lo k:Nat) (v:Int):Nat→List SC→List SC
 | _,[]=>[]
 | j,c :: l=>(match Nat.ble lo j,c with
  | true,.f (.int _ n)=>.f (.int kd (.o (F0 k j v n.den)))
  | _,c=>c) :: qU kd lo k v (j+1) l
def K0 (P:Program) (t:TypeId) (a:SA) (off:SN):Option (List Prop × S1) :=
 match Ti a with
 | some cs=>match P.underlying t,P.info? t,leaves P 8 t with
  | some d,some i,some ds=>match isStr d&&Nat.beq (len ds) i.size&&Nat.ble (len ds) 24&&Nat.ble 1 (len ds) with
   | true=>some ((jO (T2 a) cs off 0 ds).1,.agg (.ls (jO (T2 a) cs off 0 ds).2))
   | false=>mM P t a off
  | _,_,_=>mM P t a off
 | none=>match mM P t a off with
  | some r=>some r
  | none=>Md P t a off
def sy (a:SA) (off:SN) (x:SA):Option (List Prop × SA) :=
 match a,off,x with
 | .ls l,.l k,.ls y=>match splice l k y with
  | some r=>some ([],.ls r)
  | none=>none
 | .pre l,.l k,.ls y=>match splice l k y with
  | some r=>some ([],.pre r)
  | none=>none
 | .op cs,.l 0,.op y=>some ([y.size=cs.size],.op y)
 | .op cs,.l 0,.ls y=>match iy y with
  | some vs=>some ([vs.length≤cs.size],.op (putAt cs 0 vs))
  | none=>none
 | .op cs,k,.ls [y]=>match y.plain with
  | some v=>some ([k.den<cs.size],.op (cs.setIfInBounds k.den v))
  | none=>none
 | .op cs,k,.ls y=>match iy y with
  | some vs=>some ([k.den+vs.length≤cs.size],.op (putAt cs k.den vs))
  | none=>none
 | .op cs,k,.op y=>some ([k.den+y.size≤cs.size],.op (putAt cs k.den y.toList))
 | .pop cs,k,.ls [y]=>match y.plain with
  | some v=>some ([k.den<cs.size],.pop (cs.setIfInBounds k.den v))
  | none=>none
 | .ls l,k,.ls [y]=>match iy l,y.plain with
  | some vs,some v=>some ([k.den<vs.length],.op (vs.toArray.setIfInBounds k.den v))
  | _,_=>none
 | .ls l,.l 0,.op y=>some ([y.size=len l],.op y)
 | .pop cs,k,.op y=>some ([k.den+y.size≤cs.size],.pop (putAt cs k.den y.toList))
 | .pop cs,k,.ls y=>match iy y with
  | some vs=>some ([k.den+vs.length≤cs.size],.pop (putAt cs k.den vs))
  | none=>none
 | _,_,_=>none
def Me (a:SA) (off:SN) (x:SA):Option (List Prop × SA) :=
 match a,off,x with
 | .ls l,.l k,.ls y=>match Ah l k (len y) with
  | true=>some ([],.ls y)
  | false=>sy (.ls l) (.l k) (.ls y)
 | .ls l,.o k,.ls [.f (.int kd n)]=>match iy l with
  | some _=>sy (.ls l) (.o k) (.ls [.f (.int kd n)])
  | none=>DV (iM kd l).1 fun lo=>DU (iM kd l).2 fun c _=>some ([lo≤k∧k<lo+c],.ls (qU kd lo k n.den 0 l))
 | a,off,x=>sy a off x
end
end Go.Proofs.YtldoopjnjlpbpaaGreatDoor
