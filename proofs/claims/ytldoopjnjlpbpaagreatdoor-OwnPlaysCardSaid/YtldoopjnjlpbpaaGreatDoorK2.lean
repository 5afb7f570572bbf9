/- The operations of the symbolic machine, and its steps. Plain definitions. No condition. -/
import Derived.Test.YtldoopjnjlpbpaaGreatDoorK1
import Derived.Orders
set_option linter.unusedVariables false
set_option linter.unusedSimpArgs false
namespace Go.Proofs.YtldoopjnjlpbpaaGreatDoor
noncomputable section
def sP (op:BinOp) (k:IntKind) (x y:Int):Option Int :=
 match op with
 | .add=>some (k.wrap (x+y))
 | .sub=>some (k.wrap (x - y))
 | .mul=>some (k.wrap (x*y))
 | .and=>some (k.wrap (BitVec.ofInt k.bits x &&& BitVec.ofInt k.bits y).toNat)
 | .or=>some (k.wrap (BitVec.ofInt k.bits x ||| BitVec.ofInt k.bits y).toNat)
 | .xor=>some (k.wrap (BitVec.ofInt k.bits x ^^^ BitVec.ofInt k.bits y).toNat)
 | .andNot=>some (k.wrap (BitVec.ofInt k.bits x &&& ~~~ BitVec.ofInt k.bits y).toNat)
 | .quo=>some (k.wrap (x.tdiv y))
 | .rem=>some (x.tmod y)
 | .shl=>some (k.wrap (x*2 ^ (min y.toNat k.bits)))
 | .shr=>some (x.fdiv (2 ^ (min y.toNat k.bits)))
 | _=>none
def ah (op:BinOp) (k:IntKind) (x y:Int):Int:=(sP op k x y).getD 0
theorem abD {op:BinOp} {k:IntKind} {x y n:Int} (h:sP op k x y=some n):ah op k x y=n:=by unfold ah;rw [h];rfl
theorem dn (k:IntKind) (x y:Int):ah .add k x y=k.wrap (x+y):=rfl
theorem zQ (k:IntKind) (x y:Int):ah .sub k x y=k.wrap (x - y):=rfl
theorem Qx (k:IntKind) (x y:Int):ah .mul k x y=k.wrap (x*y):=rfl
theorem afr (k:IntKind) (x y:Int):ah .and k x y=k.wrap (BitVec.ofInt k.bits x &&& BitVec.ofInt k.bits y).toNat:=rfl
theorem aa6 (k:IntKind) (x y:Int):ah .or k x y=k.wrap (BitVec.ofInt k.bits x ||| BitVec.ofInt k.bits y).toNat:=rfl
theorem ZB (k:IntKind) (x y:Int):ah .xor k x y=k.wrap (BitVec.ofInt k.bits x ^^^ BitVec.ofInt k.bits y).toNat:=rfl
theorem Ws (k:IntKind) (x y:Int):ah .andNot k x y=k.wrap (BitVec.ofInt k.bits x &&& ~~~ BitVec.ofInt k.bits y).toNat:=rfl
theorem Za (k:IntKind) (x y:Int):ah .quo k x y=k.wrap (x.tdiv y):=rfl
theorem Qw (k:IntKind) (x y:Int):ah .rem k x y=x.tmod y:=rfl
theorem Zw (k:IntKind) (x y:Int):ah .shl k x y=k.wrap (x*2 ^ (min y.toNat k.bits)):=rfl
theorem afs (k:IntKind) (x y:Int):ah .shr k x y=x.fdiv (2 ^ (min y.toNat k.bits)):=rfl
def F8 (op:BinOp) (x y:Int):Option Bool :=
 match op with
 | .eql=>some (x==y)
 | .neq=>some (x != y)
 | .lss=>some (decide (x<y))
 | .leq=>some (decide (x≤y))
 | .gtr=>some (decide (x>y))
 | .geq=>some (decide (x≥y))
 | _=>none
def Fo (op:BinOp) (y:SI):Option (List Prop) :=
 match op,y with
 | .quo,.l n | .rem,.l n=>if n=0 then none else some []
 | .quo,.o n | .rem,.o n=>some [n≠0]
 | .shl,.l n | .shr,.l n=>if n<0 then none else some []
 | .shl,.o n | .shr,.o n=>some [0≤n]
 | _,_=>some []
def vf:BinOp→Bool
 | .shl | .shr=>true
 | _=>false
def Mm (op:BinOp) (k k':IntKind) (x y:SI):Option (List Prop × SC) :=
 if vf op||decide (k=k') then
  match Fo op y with
  | none=>none
  | some q =>
   match x,y with
   | .l a,.l b=>match sP op k a b with
    | some n=>some (q,.f (.int k (.l n)))
    | none=>match F8 op a b with
     | some t=>some (q,.f (.bool (.l t)))
     | none=>none
   | x,y=>match sP op k x.den y.den with
    | some _=>some (q,.f (.int k (.o (ah op k x.den y.den))))
    | none=>match F8 op x.den y.den with
     | some t=>some (q,.f (.bool (.o t)))
     | none=>none
 else none
abbrev SB.beq:SB→SB→SB
 | .l a,.l b=>.l (a==b)
 | a,b=>.o (a.den==b.den)
abbrev SB.not:SB→SB
 | .l a=>.l (!a)
 | .o a=>.o (!a)
def G6 (P:Program) (t:TypeId) (x y:SC):Option SB :=
 match P.underlying t,x,y with
 | some .bool,.f (.bool a),.f (.bool b)=>some (a.beq b)
 | some (.pointer _),.f (.ptr _ _),.f (.lit (.pointer none))=>some (.l false)
 | some (.pointer _),.f (.lit (.pointer none)),.f (.ptr _ _)=>some (.l false)
 | some (.pointer _),.f (.lit (.pointer none)),.f (.lit (.pointer none))=>some (.l true)
 | some (.slice _),.f (.slice _ _ _ _),.f (.lit (.slice none _ _))=>some (.l false)
 | some (.slice _),.f (.lit (.slice none _ _)),.f (.lit (.slice none _ _))=>some (.l true)
 | some (.slice _),.f .e1,.f (.lit (.slice none _ _))=>some (.l false)
 | some (.interface _),.kf _ _ _,.f (.lit .nilIface)=>some (.l false)
 | some (.interface _),.f (.lit .nilIface),.kf _ _ _=>some (.l false)
 | some (.func _ _ _),.fn _ _ _,.f (.lit .nilFunc)=>some (.l false)
 | some (.func _ _ _),.yl _,.f (.lit .nilFunc)=>some (.l false)
 | some (.func _ _ _),.f (.lit .nilFunc),.f (.lit .nilFunc)=>some (.l true)
 | some (.map _ _),.f (.lit (.map none)),.f (.lit (.map none))=>some (.l true)
 | _,_,_=>none
def Mn (P:Program) (op:BinOp) (t:TypeId) (x y:SV):Option (List Prop × SV) :=
 match x,y with
 | .s (.c (.f (.int k a))),.s (.c (.f (.int k' b)))=>(Mm op k k' a b).map fun r=>(r.1,.s (.c r.2))
 | .s (.c x),.s (.c y)=>match op with
  | .eql=>(G6 P t x y).map fun b=>([],.s (.c (.f (.bool b))))
  | .neq=>(G6 P t x y).map fun b=>([],.s (.c (.f (.bool b.not))))
  | _=>none
 | _,_=>none
def NK (op:UnOp) (x:SV):Option SV :=
 match op,x with
 | .neg,.s (.c (.f (.int k (.l n))))=>some (.s (.c (.f (.int k (.l (k.wrap (0 - n)))))))
 | .neg,.s (.c (.f (.int k (.o n))))=>some (.s (.c (.f (.int k (.o (ah .sub k 0 n))))))
 | .xor,.s (.c (.f (.int k (.l n))))=>(sP .xor k (if k.signed then -1 else k.max) n).map fun r=>.s (.c (.f (.int k (.l r))))
 | .xor,.s (.c (.f (.int k (.o n))))=>some (.s (.c (.f (.int k (.o (ah .xor k (if k.signed then -1 else k.max) n))))))
 | .not,.s (.c (.f (.bool b)))=>some (.s (.c (.f (.bool b.not))))
 | _,_=>none
abbrev SI.map (f:Int→Int):SI→SI
 | .l n=>.l (f n)
 | .o n=>.o (f n)
def K9 (P:Program) (src dst:TypeId) (x:SV):Option SV :=
 match P.underlying src,P.underlying dst,x with
 | some _,some (.int k),.s (.c (.f (.int _ n)))=>some (.s (.c (.f (.int k (n.map k.wrap)))))
 | _,_,_=>none
def within (i:SI) (n:SN):Option (List Prop) :=
 match i,n with
 | .l i,.l n=>if 0≤i∧i<n then some [] else none
 | i,n=>some [0≤i.den∧i.den<n.den]
def gP (P:Program) (t:TypeId):Option Nat:=(P.info? t).map (·.size)
def IE (P:Program) (s:TypeId) (x:SV) (f:Nat):Option SV :=
 match P.underlying s,x with
 | some (.struct fs),.s (.c (.f (.ptr id off)))=>match nth fs.toList f with
  | some f=>match gP P f.type with
   | some (_+1)=>some (.s (.c (.f (.ptr id (off.add (.l f.offset))))))
   | _=>none
  | none=>none
 | some (.struct fs),.s (.c (.f (.gp g off)))=>match nth fs.toList f with
  | some f=>match gP P f.type with
   | some (_+1)=>some (.s (.c (.f (.gp g (off.add (.l f.offset))))))
   | _=>none
  | none=>none
 | _,_=>none
def IF (P:Program) (t:TypeId) (x i:SV):Option (List Prop × SV) :=
 match P.underlying t,x,i with
 | some (.array n e),.s (.c (.f (.ptr id off))),.s (.c (.f (.int _ i)))=>match gP P e,within i (.l n) with
  | some sz,some q=>some (q,.s (.c (.f (.ptr id (off.add (i.nat.mul sz))))))
  | _,_=>none
 | some (.array n e),.s (.c (.f (.gp g off))),.s (.c (.f (.int _ i)))=>match gP P e,within i (.l n) with
  | some sz,some q=>some (q,.s (.c (.f (.gp g (off.add (i.nat.mul sz))))))
  | _,_=>none
 | some (.slice e),.s (.c (.f (.slice id off n _))),.s (.c (.f (.int _ i)))=>match gP P e,within i n with
  | some sz,some q=>some (q,.s (.c (.f (.ptr id (off.add (i.nat.mul sz))))))
  | _,_=>none
 | _,_,_=>none
abbrev BP (P:Program) (t u:TypeId) (a:SA) (off:SN):SN:=match a,off with
 | .op _,.l 0=>(match gP P t,gP P u with
  | some n,some k=>(match Nat.beq n k with
   | true=>.l 0
   | false=>.o 0)
  | _,_=>.l 0)
 | _,o=>o
def G7 {α:Type} (o:SN) (k:SN→α):α:=match o with
 | .l n=>k (.l n)
 | .o n=>k (.o n)
theorem J1 {α:Type} (o:SN) (k:SN→α):G7 o k=k o:=by cases o <;> rfl
def J2 (P:Program) (t:TypeId) (x:SV) (f:Nat):Option (List Prop × SV) :=
 match P.underlying t,x with
 | some (.struct fs),.s (.agg a)=>match nth fs.toList f with
  | some f=>G7 (BP P t f.type a (.l f.offset)) fun o=>(mM P f.type a o).map fun r=>(r.1,.s r.2)
  | none=>none
 | _,_=>none
abbrev Mo (a:SA) (o:SN):SN:=match a with
 | .op _=>.o o.den
 | _=>o
def J3 (P:Program) (t:TypeId) (x i:SV):Option (List Prop × SV) :=
 match P.underlying t,x,i with
 | some (.array n e),.s (.agg a),.s (.c (.f (.int _ i)))=>match gP P e,within i (.l n) with
  | some sz,some q=>(mM P e a (Mo a (i.nat.mul sz))).map fun r=>(q++r.1,.s r.2)
  | _,_=>none
 | _,_,_=>none
inductive XR where
 | no
 | ok (q:List Prop) (v:SV) (m:aj)
def XR.of (m:aj):Option (List Prop × SV)→XR
 | some (q,v)=>.ok q v m
 | none=>.no
def XR.one (m:aj):Option SV→XR
 | some v=>.ok [] v m
 | none=>.no
def Fp:List (Nat × List Value)→Nat→Option (List Value)
 | [],_=>none
 |(g,cs) :: l,i=>if Nat.beq g i then some cs else Fp l i
def Fq (P:Program) (t:TypeId) (x:SV) (m:aj):XR :=
 match x with
 | .s (.c (.f (.ptr id off)))=>match aH m.bl id with
  | some b=>XR.of m (G7 (BP P b.ty t b.arr off) fun o=>(K0 P t b.arr o).map fun r=>(r.1,.s r.2))
  | none=>.no
 | .s (.c (.f (.gp g off)))=>match Fp Eb g with
  | some cs=>match Ag cs with
   | some a=>XR.of m ((mM P t a off).map fun r=>(r.1,.s r.2))
   | none=>.no
  | none=>.no
 | _=>.no
def SA.size:SA→Option Nat
 | .ls l=>some (len l)
 | _=>none
def K_ (P:Program) (t:TypeId) (a:SA):Option (List Prop) :=
 match gP P t,a with
 | some n,.ls l=>if n=len l then some [] else none
 | some n,.op cs=>some [cs.size=n]
 | _,_=>none
def J4 (P:Program) (t:TypeId) (x v:SV) (m:aj):XR :=
 match x,v.cells with
 | .s (.c (.f (.ptr id off))),some a=>match aH m.bl id,K_ P t a with
  | some b,some q1=>match b.wr,(G7 (BP P b.ty t b.arr off) fun o=>Me b.arr o a) with
   | true,some (q2,r)=>.ok (q1++q2) (.bW []) ⟨m.next,sM m.bl id r,m.xs⟩
   | _,_=>.no
  | _,_=>.no
 | _,_=>.no
def newS (t:TypeId) (a:Option SA) (m:aj):XR :=
 match a with
 | some a=>.ok [] (.s (.c (.f (.ptr m.next (.l 0))))) (m.new a t)
 | none=>.no
def Mp (P:Program) (t:TypeId):Array Value:=match P.info? t with
 | some i=>match i.zero with
  | some z=>z.cells
  | none=>#[]
 | none=>#[]
def sE (P:Program) (t:TypeId):Option SA :=
 match P.info? t with
 | some i=>match i.zero with
  | some z=>match Nat.ble 3000 z.cells.size with
   | true=>match Af z.cells.toList with
    | true=>some (.op (Mp P t))
    | false=>none
   | false=>Ag z.cells.toList
  | none=>none
 | none=>none
def mX (T:Tm):List Operand→Option (List SV)
 | []=>some []
 | x :: l=>match ev T x,mX T l with
  | some v,some r=>some (v :: r)
  | _,_=>none
def qI:List SV→Option (List SF)
 | []=>some []
 | .s (.c (.f x)) :: l=>(qI l).map (x :: ·)
 | _ :: _=>none
def Dt (P:Program) (t:TypeId) (i:Nat):Option (Nat × Nat) :=
 match P.underlying t with
 | some (.struct fs)=>match nth fs.toList i with
  | some f=>(gP P f.type).map fun n=>(f.offset,n)
  | none=>none
 | some (.array _ e)=>(gP P e).map fun n=>(i*n,n)
 | _=>none
def w6 (P:Program) (t:TypeId) (T:Tm):List (Nat × Operand)→List SC→Option (List SC)
 | [],l=>some l
 |(i,x) :: r,l=>match Dt P t i,ev T x with
  | some (off,n),some v=>match v.cells with
   | some (.ls y)=>if len y=n then match splice l off y with
     | some l'=>w6 P t T r l'
     | none=>none
    else none
   | _=>none
  | _,_=>none
def sized (P:Program):List Field→Bool
 | []=>true
 | f :: l=>(gP P f.type).isSome&&sized P l
def La (P:Program) (t:TypeId):Bool :=
 match P.underlying t with
 | some (.struct fs)=>sized P fs.toList
 | some (.array _ e)=>(gP P e).isSome
 | _=>false
abbrev SN.int:SN→SI
 | .l n=>.l n
 | .o n=>.o n
def Mq (P:Program) (t:TypeId) (x:SV):Option SV :=
 match P.underlying t,x with
 | some (.array n _),_=>some (.s (.c (.f (.int .i64 (.l n)))))
 | some (.slice _),.s (.c (.f (.slice _ _ n _)))=>some (.s (.c (.f (.int .i64 n.int))))
 | some (.slice _),.s (.c (.f (.lit (.slice none n _))))=>some (.s (.c (.f (.int .i64 (.l n)))))
 | some (.slice _),.s (.c (.f .e0))=>some (.s (.c (.f (.int .i64 (.l 0)))))
 | some (.slice _),.s (.c (.f .kO))=>some (.s (.c (.f (.int .i64 (.l 0)))))
 | some (.slice _),.s (.c (.f .e1))=>some (.s (.c (.f (.int .i64 (.l 0)))))
 | _,_=>none
def Jh (a:SA) (off n:SN):Option (List Prop × SA) :=
 match a,off,n with
 | .ls l,.l k,.l n | .pre l,.l k,.l n=>match Nat.ble (k+n) (len l),takeN (mH l k) n with
  | true,some r=>some ([],.ls r)
  | _,_=>none
 | .op cs,off,n | .pop cs,off,n=>some ([off.den+n.den≤cs.size],.op (cs.extract off.den (off.den+n.den)))
 | _,_,_=>none
def J5 (a:SA) (off n:SN):Option (List Prop × SA) :=
 match a with
 | .raw cs=>some ([off.den+n.den≤cs.size,PV cs off.den n.den],.op (cs.extract off.den (off.den+n.den)))
 | a=>Jh a off n
def SN.le:SN→SN→Option (List Prop)
 | .l a,.l b=>if a≤b then some [] else none
 | a,b=>some [a.den≤b.den]
def SI.J6:SI→Option (List Prop)
 | .l a=>if 0≤a then some [] else none
 | .o a=>some [0≤a]
def Am (off l:SN) (m:SN) (sz:Nat):SN :=
 match l,m,off with
 | .l 0,_,off=>off
 | .l l,.l m,.l off=>.l (if m=l then off else off+l*sz)
 | l,m,off=>.o (if m.den=l.den then off.den else off.den+l.den*sz)
def oV (x:Option SV) (d:SN) (top:SN):Option (List Prop × SN) :=
 match x with
 | none=>some ([],d)
 | some (.s (.c (.f (.int _ i))))=>match i.J6,i.nat.le top with
  | some q1,some q2=>some (q1++q2,i.nat)
  | _,_=>none
 | _=>none
def Mr (hi:Option SV) (c:SK):SK :=
 match hi,c with
 | some _,.full s=>.cut s
 | _,c=>c
def ac1:SK→Bool
 | .cut _=>true
 | _=>false
def w7 (P:Program) (t:TypeId) (x:SV) (lo hi:Option SV):Option (List Prop × SV) :=
 match P.underlying t,x with
 | some (.array n e),.s (.c (.f (.ptr id off)))=>match gP P e,oV hi (.l n) (.l n) with
  | some sz,some (q1,h)=>match oV lo (.l 0) h with
   | some (q2,l)=>some (q1++q2,.s (.c (.f (.slice id (Am off l (.l n) sz) (h.sub l) (.n ((SN.l n).sub l))))))
   | none=>none
  | _,_=>none
 | some (.slice e),.s (.c (.f (.slice id off n (.n c))))=>match gP P e,oV hi n c with
  | some sz,some (q1,h)=>match oV lo (.l 0) h with
   | some (q2,l)=>some (q1++q2,.s (.c (.f (.slice id (Am off l c sz) (h.sub l) (.n (c.sub l))))))
   | none=>none
  | _,_=>none
 | some (.slice e),.s (.c (.f (.slice id off n c)))=>match gP P e,oV hi n n with
  | some sz,some (q1,h)=>match lo with
   | none=>some (q1,.s (.c (.f (.slice id off h (Mr hi c)))))
   | some _=>match oV lo (.l 0) h with
    | some (q2,l)=>some (q1++q2++[l.den<h.den],.s (.c (.f (.slice id (off.add (l.mul sz)) (h.sub l) .any))))
    | none=>none
  | _,_=>none
 | _,_=>none
def isN:SK→Bool
 | .n _=>true
 | _=>false
def J7 (P:Program) (t:TypeId) (x:SV) (lo hi:Option SV):Option (List Prop × SV) :=
 match P.underlying t,x,lo with
 | some (.slice e),.s (.c (.f (.slice _ _ n c))),some _=>match isN c,gP P e,oV hi n n with
  | false,some _,some (q1,.l h)=>match oV lo (.l 0) (.l h) with
   | some (q2,.l l)=>if Nat.beq l h then some (q1++q2,.s (.c (.f .e1))) else w7 P t x lo hi
   | _=>w7 P t x lo hi
  | _,_,_=>w7 P t x lo hi
 | _,_,_=>w7 P t x lo hi
def F9 {α:Type}:Nat→List α→List α
 | 0,_=>[]
 | n+1,l=>l++F9 n l
def zq (sz:Nat) (T:Tm):List (Nat × Operand)→List SC→Option (List SC)
 | [],l=>some l
 |(i,x) :: r,l=>match ev T x with
  | some v=>match v.cells with
   | some (.ls y)=>if len y=sz then match splice l (i*sz) y with
     | some l'=>zq sz T r l'
     | none=>none
    else none
   | _=>none
  | none=>none
def Hu (P:Program) (t:TypeId) (n:Nat) (T:Tm) (ps:List (Nat × Operand)) (m:aj):XR :=
 match P.underlying t with
 | some (.slice e)=>match sE P e,gP P e with
  | some (.ls z),some (sz+1)=>if len z=sz+1∧n*(sz+1)≤16777216∧0<n then match zq (sz+1) T ps (F9 n z) with
    | some r=>.ok [] (.s (.c (.f (.slice m.next (.l 0) (.l n) (.n (.l n)))))) (m.new (.ls r) e)
    | none=>.no
   else .no
  | _,_=>.no
 | _=>.no
def xQ (l:Tr bN) (i:Nat):Tr bN:=l.set i none
def DX (n m:SN) (bytes:Nat):Option (List Prop) :=
 match n,m with
 | .l n,.l m=>if (n+m)*bytes≤140737488355328∧n+m≤140737488355328 then some [] else none
 | n,m=>some [(n.den+m.den)*bytes≤140737488355328∧n.den+m.den≤140737488355328]
def wO (a:SA) (k:SN) (x:SA):Option (List Prop × SA) :=
 match a,k,x with
 | .ls l,.l k,.ls y | .pre l,.l k,.ls y=>match takeN l k with
  | some r=>some ([],.pre (r++y))
  | none=>none
 | .op cs,k,.ls y | .pop cs,k,.ls y=>match iy y with
  | some vs=>some ([k.den=cs.size],.pop (cs++vs.toArray))
  | none=>none
 | .op cs,k,.op y | .pop cs,k,.op y=>some ([k.den=cs.size],.pop (cs++y))
 | .ls [],.l 0,.op y=>some ([],.pop y)
 | .ls l,.l k,.op y | .pre l,.l k,.op y=>match iy l,Nat.beq k (len l) with
  | some vs,true=>some ([],.pop (vs.toArray++y))
  | _,_=>none
 | _,_,_=>none
def Du (cut:Bool) (a:SA) (k:SN) (x:SA):Option (List Prop × SA) :=
 match cut with
 | false=>wO a k x
 | true=>match a,x with
  | .op cs,.ls y | .pop cs,.ls y=>match iy y with
   | some vs=>some ([k.den≤cs.size],.pop (cs.extract 0 k.den++vs.toArray))
   | none=>none
  | .op cs,.op y | .pop cs,.op y=>some ([k.den≤cs.size],.pop (cs.extract 0 k.den++y))
  | .ls l,.ls y=>wO (.ls l) k (.ls y)
  | .pre l,.ls y=>wO (.pre l) k (.ls y)
  | _,_=>none
def whole (c:SK) (a:SA) (sz:Nat):Bool :=
 match c,a with
 | .full s,_=>Nat.beq s sz
 | .cut s,_=>Nat.beq s sz
 | .n (.l c),.ls l=>Nat.beq (len l) (c*sz)&&Nat.ble c 140737488355328
 | _,_=>false
def Lb:SA→SA
 | .ls l=>.pre l
 | .op cs=>.pop cs
 | a=>a
def Ms:SN→Option (List Prop)
 | .l n=>if 0<n then some [] else none
 | .o n=>some [0<n]
def zV (P:Program) (base:Nat) (t:TypeId) (s x:SV) (m:aj):XR :=
 match P.underlying t with
 | some (.slice e)=>match P.info? e,sE P e with
  | some i,some (.ls z) =>
   if len z=i.size∧0<i.size then
    let xs:Option (List Prop × SN × SA):=match x with
     | .s (.c (.f (.slice j p k _)))=>match aH m.bl j with
      | some c=>(J5 c.arr p (k.mul i.size)).map fun r=>(r.1,k,r.2)
      | none=>none
     | _=>none
    match xs with
    | some (q1,k,ys)=>match s with
     | .s (.c (.f (.lit (.slice none 0 0))))=>match Ms k,DX (.l 0) k i.bytes with
      | some q2,some q3=>.ok (q1++q2++q3) (.s (.c (.f (.slice m.next (.l 0) k (.full i.size))))) (m.new (Lb ys) e)
      | _,_=>.no
     | .s (.c (.f (.slice id (.l 0) n c)))=>match aH m.bl id,DX n k i.bytes with
      | some b,some q2=>match b.wr&&Nat.ble base id&&Nat.beq b.ty e&&whole c b.arr i.size,Du (ac1 c) b.arr (n.mul i.size) ys with
       | true,some (q3,r)=>.ok (q1++q2++q3) (.s (.c (.f (.slice m.next (.l 0) (n.add k) (.full i.size))))) ⟨m.next+1,(xQ m.bl id).set m.next (some ⟨r,e,true⟩),m.xs⟩
       | _,_=>.no
      | _,_=>.no
     | _=>.no
    | none=>.no
   else .no
  | _,_=>.no
 | _=>.no
def w8:SV→Bool
 | .s (.c (.f .e0))=>true
 | .s (.c (.f .kO))=>true
 | .s (.c (.f .e1))=>true
 | .s (.c (.f (.lit (.slice none 0 0))))=>true
 | .s (.c (.f (.slice _ _ (.l 0) _)))=>true
 | _=>false
def Sj:SV→Bool
 | .s (.c (.f (.lit (.slice none 0 0))))=>true
 | _=>false
def Ji (P:Program) (base:Nat) (t:TypeId) (s x:SV) (m:aj):XR :=
 match P.underlying t,Sj s&&w8 x with
 | some (.slice e),true=>match gP P e with
  | some _=>.ok [] (.s (.c (.f (.lit (.slice none 0 0))))) ⟨m.next+1,m.bl,m.xs⟩
  | none=>.no
 | some (.slice e),false=>match s with
  | .s (.c (.f .kO))=>match w8 x with
   | true=>match gP P e with
    | some _=>.ok [] (.s (.c (.f .kO))) ⟨m.next+1,m.bl,m.xs⟩
    | none=>.no
   | false=>zV P base t (.s (.c (.f (.lit (.slice none 0 0))))) x m
  | .s (.c (.f (.slice id off n c)))=>match w8 x,gP P e with
   | true,some _=>.ok [] (.s (.c (.f (.slice id off n c)))) ⟨m.next+1,m.bl,m.xs⟩
   | _,_=>zV P base t (.s (.c (.f (.slice id off n c)))) x m
  | s=>zV P base t s x m
 | _,_=>.no
def w9:List SV→Option (List (IntKind × SI))
 | []=>some []
 | v :: l=>match v,w9 l with
  | .s (.c (.f (.int k n))),some r=>some ((k,n) :: r)
  | _,_=>none
def xR:List (IntKind × SI)→List SI
 | []=>[]
 | x :: l=>x.2 :: xR l
def Mt (x y:Int):Int:=if y>x then y else x
def Mu (x y:Int):Int:=if y<x then y else x
abbrev SI.two (f:Int→Int→Int):SI→SI→SI
 | .l a,.l b=>.l (f a b)
 | a,b=>.o (f a.den b.den)
def Bq (f:Int→Int→Int):SI→List SI→SI
 | x,[]=>x
 | x,y :: l=>Bq f (x.two f y) l
def G8 (T:Tm):Option Operand→Option (Option SV)
 | none=>some none
 | some x=>(ev T x).map some
def Sk (P:Program) (T:Tm) (m:aj) (c:Operand) (a:Operand) (b:Operand):XR :=
 match ev T c with
  | some (.s (.c (.f (.bool (.l true)))))=>XR.one m (ev T a)
  | some (.s (.c (.f (.bool (.l false)))))=>XR.one m (ev T b)
  | _=>.no
def Sl (P:Program) (T:Tm) (m:aj) (t:TypeId) (ps:Array (Nat × Operand)):XR :=
 match sE P t,La P t with
  | some (.ls l),true=>match w6 P t T ps.toList l with
   | some r=>.ok [] (.s (.agg (.ls r))) m
   | none=>.no
  | _,_=>.no
def Sm (P:Program) (T:Tm) (m:aj) (t:TypeId) (a:Operand):XR :=
 match ev T a with
  | some x=>Fq P t x m
  | none=>.no
def Sn (P:Program) (T:Tm) (m:aj) (t:TypeId) (a:Operand) (x:Operand):XR :=
 match ev T a,ev T x with
  | some a,some v=>J4 P t a v m
  | _,_=>.no
def So (P:Program) (T:Tm) (m:aj) (x:Operand):XR :=
 match ev T x with
  | some (.s (.c (.f (.ptr id off))))=>.ok [] (.s (.c (.f (.ptr id off)))) m
  | some (.s (.c (.f (.gp g off))))=>.ok [] (.s (.c (.f (.gp g off)))) m
  | some (.s (.c (.fn (.func g) a b)))=>.ok [] (.s (.c (.fn (.func g) a b))) m
  | some (.s (.c (.yl i)))=>.ok [] (.s (.c (.yl i))) m
  | _=>.no
def Sp (P:Program) (T:Tm) (m:aj) (op:BinOp) (t:TypeId) (x:Operand) (y:Operand):XR :=
 match ev T x,ev T y with
  | some a,some b=>XR.of m (Mn P op t a b)
  | _,_=>.no
def Sq (P:Program) (T:Tm) (m:aj) (op:UnOp) (x:Operand):XR :=
 match ev T x with
  | some a=>XR.one m (NK op a)
  | none=>.no
def Q6 (P:Program) (T:Tm) (m:aj) (s:TypeId) (d:TypeId) (x:Operand):XR :=
 match ev T x with
  | some a=>XR.one m (K9 P s d a)
  | none=>.no
def Q7 (P:Program) (T:Tm) (m:aj) (f:Fn) (a:Array Operand) (b:Array Operand):XR :=
 match mX T a.toList,mX T b.toList with
  | some a,some b=>match qI a,qI b with
   | some a,some b=>.ok [] (.s (.c (.fn f a b))) m
   | _,_=>.no
  | _,_=>.no
def Q8 (P:Program) (T:Tm) (m:aj) (s:TypeId) (x:Operand) (f:Nat):XR :=
 match ev T x with
  | some a=>XR.one m (IE P s a f)
  | none=>.no
def Q9 (P:Program) (T:Tm) (m:aj) (t:TypeId) (x:Operand) (f:Nat):XR :=
 match ev T x with
  | some a=>XR.of m (J2 P t a f)
  | none=>.no
def Q_ (P:Program) (T:Tm) (m:aj) (t:TypeId) (x:Operand) (i:Operand):XR :=
 match ev T x,ev T i with
  | some a,some b=>XR.of m (IF P t a b)
  | _,_=>.no
def Ra (P:Program) (T:Tm) (m:aj) (t:TypeId) (x:Operand) (i:Operand):XR :=
 match ev T x,ev T i with
  | some a,some b=>XR.of m (J3 P t a b)
  | _,_=>.no
def Rb (P:Program) (T:Tm) (m:aj) (x:Operand) (i:Nat):XR :=
 match ev T x with
  | some (.bW l)=>match nth l i with
   | some y=>.ok [] (.s y) m
   | none=>.no
  | _=>.no
def Rc (P:Program) (T:Tm) (m:aj) (args:Array Operand) (argTypes:Array TypeId):XR :=
 match nth argTypes.toList 0,mX T args.toList with
  | some t,some [x]=>XR.one m (Mq P t x)
  | _,_=>.no
def Rd (P:Program) (T:Tm) (m:aj) (t:TypeId) (x:Operand) (lo:Option Operand) (hi:Option Operand):XR :=
 match ev T x,G8 T lo,G8 T hi with
  | some a,some l,some h=>XR.of m (J7 P t a l h)
  | _,_,_=>.no
def Re (P:Program) (T:Tm) (m:aj) (args:Array Operand):XR :=
 match mX T args.toList with
  | some l=>match w9 l with
   | some ((k,x) :: r)=>.ok [] (.s (.c (.f (.int k (Bq Mt x (xR r)))))) m
   | _=>.no
  | none=>.no
def Rf (P:Program) (T:Tm) (m:aj) (args:Array Operand):XR :=
 match mX T args.toList with
  | some l=>match w9 l with
   | some ((k,x) :: r)=>.ok [] (.s (.c (.f (.int k (Bq Mu x (xR r)))))) m
   | _=>.no
  | none=>.no
def NL (P:Program) (T:Tm) (m:aj) (o:Op):XR :=
 match o with
 | .move x | .assign x=>XR.one m (ev T x)
 | .pick c a b=>Sk P T m c a b
 | .alloc t=>newS t (sE P t) m
 | .box t x=>newS t ((ev T x).bind SV.cells) m
 | .build t ps=>Sl P T m t ps
 | .load t a=>Sm P T m t a
 | .store t a x=>Sn P T m t a x
 | .nilCheck x=>So P T m x
 | .binOp op t x y _=>Sp P T m op t x y
 | .unOp op _ x=>Sq P T m op x
 | .convert s d x=>Q6 P T m s d x
 | .makeFunc f a b=>Q7 P T m f a b
 | .fieldAddr s x f=>Q8 P T m s x f
 | .field t x f=>Q9 P T m t x f
 | .indexAddr t x i=>Q_ P T m t x i
 | .index t x i=>Ra P T m t x i
 | .extract x i=>Rb P T m x i
 | .call { callee:=.builtin .len,args,argTypes }=>Rc P T m args argTypes
 | .slice t x lo hi none=>Rd P T m t x lo hi
 | .buildSlice t n ps=>Hu P t n T ps.toList m
 | .call { callee:=.builtin .max,args,.. }=>Re P T m args
 | .call { callee:=.builtin .min,args,.. }=>Rf P T m args
 | _=>.no
def BL (P:Program) (base:Nat) (T:Tm) (m:aj) (o:Op):XR :=
 match o with
 | .call { callee:=.builtin .append,args,argTypes }=>match argTypes.toList,mX T args.toList with
  | [t,u],some [s,x]=>if t=u then Ji P base t s x m else .no
  | _,_=>.no
 | _=>.no
def Fj (P:Program) (T:Tm) (o:Op):Option SV :=
 match o with
 | .call { callee:=.builtin .append,args,argTypes }=>match argTypes.toList,mX T args.toList with
  | [t,u],some [.s (.c (.f (.slice id off n c))),x]=>match P.underlying t with
   | some (.slice e)=>match gP P e,w8 x&&Nat.beq t u with
    | some _,true=>some (.s (.c (.f (.slice id off n c))))
    | _,_=>none
   | _=>none
  | _,_=>none
 | _=>none
def isApp:Op→Bool
 | .call { callee:=.builtin .append,.. }=>true
 | _=>false
abbrev SB.and:SB→SB→SB
 | .l true,b=>b
 | .l false,_=>.l false
 | .o _,.l false=>.l false
 | .o a,.l true=>.o a
 | .o a,.o b=>.o (a&&b)
abbrev SI.beq:SI→SI→SB
 | .l a,.l b=>.l (a==b)
 | a,b=>.o (a.den==b.den)
def y8 (P:Program) (p:TypeId→S1→S1→Option SB) (a b:SA):List Field→Option SB
 | []=>some (.l true)
 | f :: l=>if f.name="_" then y8 P p a b l else match mM P f.type a (.l f.offset),mM P f.type b (.l f.offset) with
  | some ([],u),some ([],v)=>match p f.type u v,y8 P p a b l with
   | some x,some y=>some (x.and y)
   | _,_=>none
  | _,_=>none
def Co (P:Program) (p:TypeId→S1→S1→Option SB) (e:TypeId) (c:Nat) (a b:SA):List Nat→Option SB
 | []=>some (.l true)
 | i :: l=>match mM P e a (.l (i*c)),mM P e b (.l (i*c)) with
  | some ([],u),some ([],v)=>match p e u v,Co P p e c a b l with
   | some x,some y=>some (x.and y)
   | _,_=>none
  | _,_=>none
def Cp (P:Program):Nat→TypeId→S1→S1→Option SB
 | 0,_,_,_=>none
 | n+1,t,x,y=>match P.underlying t,x,y with
  | some (.struct fs),.agg a,.agg b=>if P.stoodInHeld t then none else y8 P (Cp P n) a b fs.toList
  | some (.array k e),.agg a,.agg b=>match P.info? e with
   | some i=>Co P (Cp P n) e i.size a b (List.range k)
   | none=>none
  | some (.int _),.c (.f (.int k p)),.c (.f (.int k' q))=>if k=k' then some (p.beq q) else none
  | some .bool,.c (.f (.bool p)),.c (.f (.bool q))=>some (p.beq q)
  | _,_,_=>none
def Rg (P:Program) (T:Tm) (m:aj) (op:BinOp) (t:TypeId) (x:Operand) (y:Operand):XR :=
 match ev T x,ev T y with
  | some (.s (.agg a)),some (.s (.agg b))=>match P.eqGuardType P.depth t,Cp P 100 t (.agg a) (.agg b),op with
   | false,some s,.eql=>.ok [] (.s (.c (.f (.bool s)))) m
   | false,some s,.neq=>.ok [] (.s (.c (.f (.bool s.not)))) m
   | _,_,_=>.no
  | _,_=>.no
def Mv (P:Program) (T:Tm) (m:aj) (o:Op):XR :=
 match o with
 | .binOp op t x y _=>Rg P T m op t x y
 | _=>.no
def Mw:SV→Option (Bool × ByteArray)
 | .s (.c (.f (.lit (.string s))))=>some (true,s)
 | .s (.c (.f (.lG (.string s))))=>some (false,s)
 | _=>none
def rU (s:ByteArray) (i:Nat):Int:=match s[i]? with | some b=>b.toNat | none=>0
def T7:Bool→Nat→SN
 | true,n=>.l n
 | false,n=>.o n
def J8 (P:Program) (t:TypeId):Bool:=match P.underlying t with | some .string=>true | _=>false
def IG (P:Program) (t:TypeId) (x i:SV):Option (List Prop × SV) :=
 match J8 P t,Mw x,i with
 | true,some (l,s),.s (.c (.f (.int _ i)))=>match within i (T7 l s.size) with
  | some q=>match l,i with
   | true,.l i=>some (q,.s (.c (.f (.int .u8 (.l (rU s i.toNat))))))
   | _,i=>some (q,.s (.c (.f (.int .u8 (.o (rU s i.den.toNat))))))
  | none=>none
 | _,_,_=>none
def isZero (T:Tm) (x:Option Operand):Bool:=match G8 T x with
 | some none=>true
 | some (some (.s (.c (.f (.int _ (.l 0))))))=>true
 | _=>false
def Rh (P:Program) (t:TypeId) (x:SV):Option SV :=
 match P.underlying t with
 | some (.slice e)=>match gP P e,x with
  | some _,.s (.c (.f (.slice _ _ _ _)))=>some (.s (.c (.f .kO)))
  | some _,.s (.c (.f .e0))=>some (.s (.c (.f .kO)))
  | some _,.s (.c (.f .kO))=>some (.s (.c (.f .kO)))
  | some _,.s (.c (.f (.lit (.slice none 0 0))))=>some (.s (.c (.f (.lit (.slice none 0 0)))))
  | _,_=>none
 | _=>none
def Sr (P:Program) (T:Tm) (m:aj) (t:TypeId) (x:Operand) (lo:Option Operand) (hi mx:Operand):XR :=
 match isZero T lo&&isZero T (some hi)&&isZero T (some mx),ev T x with
 | true,some a=>XR.one m (Rh P t a)
 | _,_=>.no
def Ri (P:Program) (T:Tm) (m:aj) (t:TypeId) (x:Operand) (i:Operand):XR :=
 match ev T x,ev T i with
  | some a,some b=>XR.of m (IG P t a b)
  | _,_=>.no
def Mx (P:Program) (T:Tm) (m:aj) (o:Op):XR :=
 match o with
 | .index t x i=>Ri P T m t x i
 | .slice t x lo (some hi) (some mx)=>Sr P T m t x lo hi mx
 | _=>.no
def yp (P:Program) (T:Tm) (m:aj) (o:Op):XR :=
 match NL P T m o with
 | .no=>match Mv P T m o with
  | .no=>Mx P T m o
  | r=>r
 | r=>r
structure F7 where
 v:SC
 got:Bool
inductive bh where
 | it (x:Item)
 | fD (id:Nat)
 | qV (id:Nat)
inductive rB where
 | col (id:Nat)
 | fn (f:FuncId) (args:List SV) (cap:List SF)
inductive y6 where
 | run
 | ret
 | y7 (l:List F7)
structure av where
 fn:FuncId
 tm:Tm
 todo:List bh
 gN:List rB
 md:y6
 kind:CallKind
 kj:Option Nat
inductive Tree where
 | ret (v:SV) (m:aj)
 | br (b:Bool) (t e:Tree)
 | need (q:List Prop) (t:Tree)
 | stop (fs:List av) (m:aj)
 | fail (why:Nat)
def Tree.oY:Tree→(SV→aj→Tree)→Tree
 | .ret v m,k=>k v m
 | .br b t e,k=>.br b (t.oY k) (e.oY k)
 | .need q t,k=>.need q (t.oY k)
 | .stop _ _,_=>.fail 1
 | .fail n,_=>.fail n
def bu:List Prop→Tree→Tree
 | [],t=>t
 | q :: r,t=>.need (q :: r) t
def F_:SB→Tree→Tree→Tree
 | .l true,t,_=>t
 | .l false,_,e=>e
 | .o b,t,e=>.br b t e
def nk (T:Tm) (d:Option Tmp) (v:SV):Tm :=
 match d with
 | some d=>T.set d (some v)
 | none=>T
def lY (T:Tm) (ops:List Oper) (o:Oper):Option SB :=
 match o.guard with
 | none=>some (.l true)
 | some (j,want)=>match nth ops j with
  | some p=>match p.dst with
   | some d=>match T.get d with
    | some (.s (.c (.f (.bool b))))=>some (b.beq (.l want))
    | some (.bW _)=>some (.l false)
    | _=>none
   | none=>some (.l false)
  | none=>some (.l false)
def kY (T:Tm) (d:Nat) (b:Bool):Tm :=
 match T.get d with
 | some (.s (.c (.f (.bool (.o _)))))=>T.set d (some (.s (.c (.f (.bool (.l b))))))
 | _=>T
def qJ (T:Tm) (ops:List Oper) (o:Oper) (yes:Bool):Tm :=
 match o.guard with
 | none=>T
 | some (j,want)=>match nth ops j with
  | some p=>match p.dst with
   | some d=>kY T d (want==yes)
   | none=>T
  | none=>T
def Ft (T:Tm) (c:Operand) (b:Bool):Tm :=
 match c with
 | .tmp d=>kY T d b
 | _=>T
def xO (T:Tm) (o:Op):Option (FuncId × List SV) :=
 match o with
 | .call { callee:=.value f,args,.. }=>match ev T f,mX T args.toList with
  | some (.s (.c (.fn (.func g) a b))),some l=>some (g,a.map (fun x=>.s (.c (.f x)))++l++b.map (fun x=>.s (.c (.f x))))
  | _,_=>none
 | _=>none
def sQ (P:Program) (T:Tm) (m:aj):List ResultVar→Option (List Prop × List S1)
 | []=>some ([],[])
 | .tmp t :: r=>match T.get t,sQ P T m r with
  | some (.s x),some (q,l)=>some (q,x :: l)
  | _,_=>none
 | .cell a t :: r=>match T.get a,sQ P T m r with
  | some x,some (q,l)=>match Fq P t x m with
   | .ok q1 (.s y) _=>some (q1++q,y :: l)
   | _=>none
  | _,_=>none
def oneOf:List S1→SV
 | [x]=>.s x
 | l=>.bW l
structure Env where
 P:Program
 fn:FuncId→Option Func
 mh:FuncId→List SV→aj→Option Tree
 halt:Nat→FuncId→bh→Bool
def J9:Op→Bool
 | .call { callee:=.value _,.. }=>true
 | _=>false
def Br:Nat→List SV→Tr (Option SV)→Tr (Option SV)
 | _,[],t=>t
 | i,x :: l,t=>Br (i+1) l (t.set i (some (some x)))
def vg (n:Nat) (l:List SV):Tm:=⟨Nat.max n (len l),some (.bW []),Br 0 l .nil⟩
def a_ (g:FuncId) (n:Nat) (l:List SV) (c:Code):av:=⟨g,vg n l,[.it (.code c)],[],.run,.normal,none⟩
def gm {α:Type} (p:α→Bool) (l:List α):Bool:=List.rec (motive:=fun _=>Bool) true (fun a _ ih=>Bool.rec (motive:=fun _=>Bool) false ih (p a)) l
theorem Yy {α:Type} (p:α→Bool):gm p []=true:=rfl
theorem wA {α:Type} (p:α→Bool) (a:α) (l:List α):gm p (a :: l)=(p a&&gm p l):=by
 show Bool.rec (motive:=fun _=>Bool) false (gm p l) (p a)=_
 cases p a <;> rfl
def fW (l:List Nat) (n:Nat):Bool:=List.rec (motive:=fun _=>Bool) false (fun a _ ih=>Bool.rec (motive:=fun _=>Bool) ih true (Nat.beq a n)) l
theorem P4 (n:Nat):fW [] n=false:=rfl
theorem OP (a:Nat) (l:List Nat) (n:Nat):fW (a :: l) n=(Nat.beq a n||fW l n):=by
 show Bool.rec (motive:=fun _=>Bool) (fW l n) true (Nat.beq a n)=_
 cases Nat.beq a n <;> rfl
def SF.lt (n:Nat):SF→Bool
 | .ptr id _ | .slice id _ _ _ | .mp id=>Nat.blt id n
 | _=>true
def SC.lt (n:Nat):SC→Bool
 | .f x=>x.lt n
 | .fn _ a b=>gm (SF.lt n) a&&gm (SF.lt n) b
 | .yl id=>Nat.blt id n
 | .kf _ _ l=>gm (SF.lt n) l
def SA.lt (n:Nat):SA→Bool
 | .ls l | .pre l=>gm (SC.lt n) l
 | .op _ | .pop _ | .raw _=>true
def S1.lt (n:Nat):S1→Bool
 | .c x=>x.lt n
 | .agg a=>a.lt n
def SV.lt (n:Nat):SV→Bool
 | .s x=>x.lt n
 | .bW l=>gm (S1.lt n) l
def uW (T:Tm) (n:Nat):List Nat→Tr (Option SV)
 | []=>.nil
 | i :: l=>match T.get i with
  | some v=>match v.lt n with
   | true=>(uW T n l).set i (some (some v))
   | false=>uW T n l
  | none=>uW T n l
def pB (keep:List Nat) (n:Nat) (T:Tm):Tm:=⟨T.n,none,uW T n keep⟩
def bV (n:Nat) (wr:Bool) (bl:Tr bN):List Nat→Tr bN
 | []=>.nil
 | i :: l=>match bl.get i with
  | some b=>match Nat.blt i n&&b.arr.lt n with
   | true=>(bV n wr bl l).set i (some ⟨b.arr,b.ty,b.wr&&wr⟩)
   | false=>bV n wr bl l
  | none=>bV n wr bl l
def sA (a b:Tr bN) (aZ:List Nat):Bool:=gm (fun i=>match a.get i with | some _=>(b.get i).isSome | none=>true) aZ
def sC (a b:Tr bN) (aZ:List Nat):Bool :=
 gm (fun i=>match b.get i with | some x=>(match a.get i with | some y=>y.wr==x.wr | none=>false) | none=>true) aZ
def collect (bl:Tr bN):List Nat→List (Nat × bN)
 | []=>[]
 | i :: l=>match bl.get i with
  | some b=>(i,b) :: collect bl l
  | none=>collect bl l
def m8:Nat→Nat→List Nat
 | 0,_=>[]
 | k+1,n=>n :: m8 k (n+1)
def gQ:List (Nat × bN)→Nat→Option bN
 | [],_=>none
 |(k,b) :: l,i=>if Nat.beq k i then some b else gQ l i
def yq:List (Nat × bN)→Tr bN→Tr bN
 | [],t=>t
 |(i,b) :: l,t=>(yq l t).set i (some b)
def SF.ids:SF→List Nat
 | .ptr id _ | .slice id _ _ _ | .mp id=>[id]
 | _=>[]
def fV {α:Type} (f:α→List Nat) (l:List α):List Nat:=List.rec (motive:=fun _=>List Nat) [] (fun a _ ih=>app (f a) ih) l
theorem Yq {α:Type} (f:α→List Nat):fV f []=[]:=rfl
theorem W8 {α:Type} (f:α→List Nat) (a:α) (l:List α):fV f (a :: l)=f a++fV f l:=app_eq _ _
def SC.ids:SC→List Nat
 | .f x=>x.ids
 | .fn _ a b=>fV SF.ids a++fV SF.ids b
 | .yl id=>[id]
 | .kf _ _ l=>fV SF.ids l
def SA.ids:SA→List Nat
 | .ls l | .pre l=>fV SC.ids l
 | .op _ | .pop _ | .raw _=>[]
def S1.ids:S1→List Nat
 | .c x=>x.ids
 | .agg a=>a.ids
def SV.ids:SV→List Nat
 | .s x=>x.ids
 | .bW l=>fV S1.ids l
def aem (seen l:List Nat):List Nat:=List.rec (motive:=fun _=>List Nat) [] (fun i _ ih=>match fW seen i||fW ih i with
 | true=>ih
 | false=>i :: ih) l
def Ss (bl:Tr bN):Nat→List Nat→List Nat→List Nat
 | 0,seen,_=>seen
 | n+1,seen,l=>match aem seen (fV (fun i=>match aH bl i with | some b=>b.arr.ids | none=>[]) l) with
  | []=>seen
  | i :: new=>Ss bl n (seen++i :: new) (i :: new)
def reach (bl:Tr bN) (n:Nat) (l:List Nat):List Nat:=Ss bl n l l
def qK (T:Tm) (x:Operand):List Nat:=match ev T x with | some v=>v.ids | none=>[]
def qi (T:Tm):Op→List Nat
 | .load _ a=>qK T a
 | .store _ a _=>qK T a
 | .call { callee:=.builtin .copy,args,.. }=>fV (qK T) args.toList
 | .call { callee:=.builtin .clear,args,.. }=>fV (qK T) args.toList
 | .call { callee:=.builtin .len,args,.. }=>fV (qK T) args.toList
 | .lookup _ a _ _=>qK T a
 | .convert _ _ a=>qK T a
 | _=>[]
def oD:Op→Bool
 | .store ..=>true
 | .call { callee:=.builtin .copy,.. }=>true
 | .call { callee:=.builtin .clear,.. }=>true
 | _=>false
structure iF where
 dst:Option Tmp
 v:SV
 looks:List Nat
 aZ:List Nat
 bl:List (Nat × bN)
 xs:List XB
 del:List Nat
def XO.lt (n:Nat):XO→Bool
 | .map es _ | .kH es _=>gm (fun x=>x.1.lt n&&x.2.1.lt n) es
 | .gZ=>true
 | .kI ..=>true
 | .sL ..=>true
 | .iter ..=>false
 | .loop ..=>false
def kE (xs:List XB) (n:Nat):List Nat→List XB
 | []=>[]
 | i :: l=>match bR xs i with
  | some (.map es c)=>if Nat.blt i n&&(XO.map es c).lt n then ⟨i,.kH es c⟩ :: kE xs n l else kE xs n l
  | some (.kH es c)=>if Nat.blt i n&&(XO.map es c).lt n then ⟨i,.kH es c⟩ :: kE xs n l else kE xs n l
  | some (.kI _ kk vk es)=>if Nat.blt i n then ⟨i,.kI false kk vk es⟩ :: kE xs n l else kE xs n l
  | _=>kE xs n l
def pC (n:Nat):List XB→List XB
 | []=>[]
 | b :: l=>if Nat.ble n b.id then b :: pC n l else pC n l
def ac2:SV→Bool
 | .s (.c (.f (.lit (.slice none 0 0))))=>true
 | .s (.c (.f .kO))=>true
 | _=>false
def J_ (T:Tm) (o:Op):Option (Nat × Tm) :=
 match o with
 | .call { callee:=.builtin .append,args,.. }=>match args.toList with
  | [a,.tmp j]=>match ev T a,T.get j with
   | some s,some (.s (.c (.f (.slice _ _ (.o n) _))))=>match ac2 s with
    | true=>some (n,T.set j (some (.s (.c (.f .e0)))))
    | false=>none
   | _,_=>none
  | _=>none
 | _=>none
def DY (T:Tm) (o:Op) (k:Tm→Tree):Tree :=
 match J_ T o with
 | some (n,T0)=>.br (decide (n=0)) (k T0) (k T)
 | none=>k T
def rQ (T:Tm):Op→List Nat
 | .call { callee:=.builtin .append,args,.. }=>fV (qK T) args.toList
 | _=>[]
def nP (T:Tm):Op→List Nat
 | .call { callee:=.builtin .append,args,.. }=>match args.toList with
  | x :: _=>qK T x
  | _=>[]
 | _=>[]
def rX (n:Nat) (bl:Tr bN) (aZ:List Nat):List Nat→Tr bN
 | i :: _=>match bl.get i with
  | some b=>match Nat.blt i n&&b.arr.lt n&&fW aZ i with
   | true=>(bV n false bl aZ).set i (some ⟨b.arr,b.ty,b.wr⟩)
   | false=>bV n false bl aZ
  | none=>bV n false bl aZ
 | []=>bV n false bl aZ
def mR:List Nat→Tr bN→Tr bN
 | [],t=>t
 | i :: l,t=>(mR l t).set i none
def nO (T:Tm):List (Nat × Bool)→Tm
 | []=>T
 |(s,v) :: l=>nO (kY T s v) l
def DW (ops:List Oper) (o:Oper) (yes:Bool) (G:List (Nat × Bool)):List (Nat × Bool) :=
 match o.guard with
 | none=>G
 | some (j,want)=>match nth ops j with
  | some p=>match p.dst with
   | some d=>(d,want==yes) :: G
   | none=>G
  | none=>G
def tN (d:Option Tmp):List (Nat × Bool)→List (Nat × Bool)
 | []=>[]
 | p :: l=>match d with
  | none=>p :: l
  | some d=>match Nat.beq p.1 d with
   | true=>tN (some d) l
   | false=>p :: tN (some d) l
def ZC (E:Env) (g:FuncId):Bool:=!E.halt 1000000 g (.fD 0)
def Vn:Int→Int→Bool
 | .ofNat a,.ofNat b=>Nat.beq a b
 | .negSucc a,.negSucc b=>Nat.beq a b
 | _,_=>false
def kN:IntKind→Nat
 | .i8=>0 | .i16=>1 | .i32=>2 | .i64=>3 | .u8=>4 | .u16=>5 | .u32=>6 | .u64=>7
def My:Value→Value→Bool
 | .pointer none,.pointer none=>true
 | .slice none 0 0,.slice none 0 0=>true
 | .nilFunc,.nilFunc=>true
 | .nilIface,.nilIface=>true
 | .map none,.map none=>true
 | _,_=>false
def Ga:Bool→Bool→Bool
 | true,true=>true
 | false,false=>true
 | _,_=>false
def vh:SN→SN→Bool
 | .l a,.l b=>Nat.beq a b
 | _,_=>false
def Mz:SK→SK→Bool
 | .n a,.n b=>vh a b
 | .full a,.full b=>Nat.beq a b
 | .cut a,.cut b=>Nat.beq a b
 | .any,.any=>true
 | _,_=>false
def yw:SF→SF→Bool
 | .int k (.l a),.int k' (.l b)=>Nat.beq (kN k) (kN k')&&Vn a b
 | .bool (.l a),.bool (.l b)=>Ga a b
 | .ptr i a,.ptr j b=>Nat.beq i j&&vh a b
 | .slice i a n c,.slice j b k d=>Nat.beq i j&&(vh a b&&(vh n k&&Mz c d))
 | .lit v,.lit w=>My v w
 | .gp g a,.gp h b=>Nat.beq g h&&vh a b
 | .e0,.e0=>true
 | .kO,.kO=>true
 | .e1,.e1=>true
 | _,_=>false
def sR {α:Type} (f:α→α→Bool):List α→List α→Bool
 | [],[]=>true
 | a :: l,b :: m=>match f a b with
  | true=>sR f l m
  | false=>false
 | _,_=>false
def Gb:SC→SC→Bool
 | .f a,.f b=>yw a b
 | .fn (.func g) a b,.fn (.func h) c d=>Nat.beq g h&&(sR yw a c&&sR yw b d)
 | .kf t x l,.kf u y k=>Nat.beq t u&&(Ga x y&&sR yw l k)
 | _,_=>false
def MA:SA→SA→Bool
 | .ls l,.ls k=>sR Gb l k
 | .pre l,.pre k=>sR Gb l k
 | _,_=>false
def MB (a b:bN):Bool:=MA a.arr b.arr&&(Nat.beq a.ty b.ty&&Ga a.wr b.wr)
def vi:SF→Bool
 | .int _ _=>true
 | .bool _=>true
 | .ptr _ _=>true
 | .slice _ _ _ (.n _)=>true
 | .slice _ _ _ (.full s)=>Nat.blt 0 s
 | .slice _ _ _ (.cut s)=>Nat.blt 0 s
 | .lit _=>true
 | .lG _=>true
 | _=>false
def Gc:SC→Bool
 | .f x=>vi x
 | .fn _ a b=>gm vi a&&gm vi b
 | _=>false
def MC:SA→Bool
 | .ls l=>gm Gc l
 | _=>false
def gz (a b:Tr bN) (i:Nat):Bool:=match aH a i with
 | some x=>match aH b i with
  | some y=>match MB x y with
   | true=>MC x.arr
   | false=>false
  | none=>false
 | none=>false
def jQ (a b:Tr bN) (l:List Nat):List Nat:=List.rec (motive:=fun _=>List Nat) [] (fun i _ ih=>match gz a b i with
 | true=>ih
 | false=>i :: ih) l
def Mg (E:Env) (r:Nat→List av→aj→Tree) (tag b0:Nat) (ops:Array Oper) (o:Oper) (T:Tm) (m:aj) (G:List (Nat × Bool)) (k:iF→Nat→List (Nat × Bool)→Tree):Tree :=
 let looks:=o.looksAt ops
 let T':=nO (pB looks m.next T) G
 let Gt:=tN o.dst (DW ops.toList o true G)
 match lY T' ops.toList o with
 | none=>.fail (tag+7)
 | some b=>F_ b
   (match J9 o.op with
    | true=>match xO T' o.op with
     | none=>.fail (tag+8)
     | some (g,l) =>
      let aZ:=reach m.bl 8 (fV SV.ids l)
      let loc:=bV m.next true m.bl aZ
      match E.mh g l ⟨m.next,loc,[]⟩ with
      | some t=>t.oY fun v m1=>if sA loc m1.bl aZ&&sC loc m1.bl aZ then k ⟨o.dst,v,looks,aZ,collect m1.bl (jQ loc m1.bl aZ++m8 (m1.next - m.next) m.next),pC m.next m1.xs,[]⟩ m1.next Gt else .fail (tag+5)
      | none=>match E.fn g with
       | none=>.fail 10
       | some fn=>match fn.body with
        | none=>.fail 9
        | some c =>
         let w:=ZC E g
         let loc:=bV m.next w m.bl aZ
         (r m.next [a_ g fn.ntmps l c] ⟨m.next,loc,[]⟩).oY fun v m1 =>
         if sA loc m1.bl aZ&&sC loc m1.bl aZ then k ⟨o.dst,v,looks,aZ,collect m1.bl ((if w then jQ loc m1.bl aZ else [])++m8 (m1.next - m.next) m.next),pC m.next m1.xs,[]⟩ m1.next Gt else .fail (tag+5)
    | false=>match isApp o.op with
     | true =>
     let aZ:=rQ T' o.op
     let loc:=rX m.next m.bl aZ (nP T' o.op)
     DY T' o.op fun T0=>(match Fj E.P T0 o.op with
     | some v=>k ⟨o.dst,v,looks,[],[],[],[]⟩ m.next Gt
     | none=>match BL E.P b0 T0 ⟨m.next,loc,[]⟩ o.op with
     | .ok q v m1=>if gm (fun i=>Nat.blt i m.next&&(aH m1.bl i).isNone) (nP T' o.op) then bu q (k ⟨o.dst,v,looks,aZ,collect m1.bl (m8 (m1.next - m.next) m.next),[],nP T' o.op⟩ m1.next Gt) else .fail (tag+6)
     | .no=>.fail (tag+2))
     | false =>
     let aZ:=qi T' o.op
     let loc:=bV m.next (oD o.op) m.bl aZ
     match yp E.P T' ⟨m.next,loc,kE m.xs m.next aZ⟩ o.op with
     | .ok q v m1=>if sA loc m1.bl aZ&&sC loc m1.bl aZ then bu q (k ⟨o.dst,v,looks,aZ,collect m1.bl ((if oD o.op then aZ else [])++m8 (m1.next - m.next) m.next),pC m.next m1.xs,[]⟩ m1.next Gt) else .fail (tag+6)
     | .no=>.fail (tag+3))
   (k ⟨o.dst,.bW [],looks,[],[],[],[]⟩ m.next (tN o.dst (DW ops.toList o false G)))
def Fk (E:Env) (r:Nat→List av→aj→Tree) (tag b0:Nat) (ops:Array Oper):List Oper→Tm→aj→List (Nat × Bool)→(List iF→Tm→aj→Tree)→Tree
 | [],T,m,_,k=>k [] T m
 | o :: l,T,m,G,k=>Mg E r tag b0 ops o T m G fun d n G'=>match Nat.ble m.next n with
  | true=>Fk E r tag b0 ops l (nk T d.dst d.v) ⟨n,yq d.bl (mR d.del m.bl),d.xs++m.xs⟩ G' fun ds T' m'=>k (d :: ds) T' m'
  | false=>.fail (tag+4)
def meet (a b:List Nat):Bool:=!gm (fun x=>!fW b x) a
def yu:Option Nat→List Nat
 | some n=>[n]
 | none=>[]
def iF.dom (d:iF):List Nat:=d.bl.map (·.1)++d.xs.map (·.id)++d.del
def lZ (x y:iF):Bool :=
 meet (yu x.dst) (y.looks++yu y.dst)||meet (yu y.dst) x.looks||meet x.dom (y.aZ++y.dom)||meet y.dom x.aZ
def m9 (o:Oper):List Nat:=(o.after.toList.filter (Region.binds .any)).map (·.on)
def F1 (lI:List (List Nat)) (n:Nat) (o:Oper):List Nat :=
 m9 o++fV (fun p=>match nth lI (n - 1 - p) with | some l=>l | none=>[]) (m9 o)
def ug (done:List iF) (lI:List (List Nat)) (n:Nat):List Oper→List iF→Bool
 | [],[]=>true
 | o :: l,d :: ds =>
  let an:=F1 lI n o
  gm (fun e=>!Region.binds .any e||Nat.blt e.on n) o.after.toList&&ordered an done n d&&ug (d :: done) (an :: lI) (n+1) l ds
 | _,_=>false
where
 ordered (an:List Nat):List iF→Nat→iF→Bool
  | [],_,_=>true
  | x :: l,n,d=>(!lZ x d||fW an (n - 1))&&ordered an l (n - 1) d
def K3 (E:Env) (r:Nat→List av→aj→Tree) (tag base:Nat) (ops:Array Oper) (T:Tm) (m:aj) (next:Tm→aj→Tree):Tree :=
 Fk E r tag base ops ops.toList T m [] fun ds T' m'=>match ug [] [] 0 ops.toList ds with
  | true=>next T' m'
  | false=>.fail (tag+4)
def Dv (l:List Oper):Bool:=gm (fun o=>match o.op with | .defer _=>false | _=>true) l
def av.finish (f:av) (v:SV):Option av :=
 match f.todo with
 | .it (.inRegion ops (i :: rest)) :: k=>match nth ops.toList i with
  | some o=>some { f with tm:=nk f.tm o.dst v,todo:=.it (.inRegion ops rest) :: k }
  | none=>none
 | .fD l :: k=>some { f with todo:=.qV l :: k }
 | _=>none
def tr (r:List av→aj→Tree) (f:Option av) (cs:List av) (m:aj):Tree :=
 match f with
 | some f=>r (f :: cs) m
 | none=>.fail 20
def ac3 (r:List av→aj→Tree) (kind:CallKind) (cs:List av) (v:SV) (m:aj):Tree :=
 match cs,kind with
 | c :: cs,.normal=>tr r (c.finish v) cs m
 | [],.normal=>.ret v m
 | _,_=>.fail 21
def Ao (r:List av→aj→Tree) (f:av) (cs:List av) (m:aj) (jump:Option Code) (ends:Bool):Tree :=
 match f.kj with
 | none=>match ends with
  | true=>r ({ f with md:=.ret } :: cs) m
  | false=>.fail 5
 | some l=>match bR m.xs l,cs with
  | some (.loop _ _ fn tm ps as bd dl),c :: cs=>match f.kind with
   | .normal=>tr r (c.finish (.s (.c (.f (.bool (.l jump.isNone)))))) cs ⟨m.next,m.bl,qT m.xs l (.loop (if jump.isNone then .ready else .done) jump fn tm ps as bd dl)⟩
   | _=>.fail 22
  | _,_=>.fail 23
def Jj (E:Env) (r:List av→aj→Tree) (f:av) (cs:List av) (m:aj):Tree :=
 match f.gN with
 | .col id :: ds=>match bR m.xs id with
  | some .gZ=>r ({ f with gN:=ds } :: cs) ⟨m.next,m.bl,qH m.xs id⟩
  | _=>.fail 24
 | .fn _ _ _ :: _=>.fail 25
 | []=>match E.fn f.fn with
  | none=>.fail 3
  | some g=>match f.md with
   | .run=>.fail 26
   | .y7 _=>.fail 27
   | .ret=>match f.kj,sQ E.P f.tm m g.results.toList with
    | none,some (q,l)=>bu q (ac3 r f.kind cs (oneOf l) m)
    | _,_=>.fail 2
def Ap (E:Env) (r:List av→aj→Tree) (g:FuncId) (l:List SV) (c:av) (cs:List av) (m:aj):Tree :=
 match E.mh g l m with
 | some t=>t.oY fun v m=>tr r (c.finish v) cs m
 | none=>match E.fn g with
  | some fn=>match fn.body with
   | some b=>r (a_ g fn.ntmps l b :: c :: cs) m
   | none=>.fail 9
  | none=>.fail 10
def Bs:Tm→List Tmp→List SV→Option Tm
 | T,[],[]=>some T
 | T,p :: ps,v :: vs=>Bs (T.set p (some v)) ps vs
 | _,_,_=>none
def St (r:List av→aj→Tree) (id:Nat) (l:List SV) (c:av) (cs:List av) (m:aj):Tree :=
 match bR m.xs id with
 | some (.loop _ _ fn tm ps as bd _)=>match Bs tm ps.toList l with
  | some T=>r (⟨fn,T,[.it (.code as),.it .beginRound,.it (.code bd)],[],.run,.normal,some id⟩ :: c :: cs) m
  | none=>.fail 28
 | _=>.fail 29
def J' (E:Env) (r:List av→aj→Tree) (f:av) (k:List bh) (cs:List av) (m:aj) (g:Operand) (ps:Array Tmp) (as bd:Code):Tree :=
 match ev f.tm g with
 | some (.s (.c (.fn (.func h) a b)))=>match f.kj with
  | none=>Ap E r h (a.map (fun x=>.s (.c (.f x)))++[.s (.c (.yl (m.next+1)))]++b.map fun x=>.s (.c (.f x))) { f with todo:=.fD (m.next+1) :: k,gN:=.col m.next :: f.gN } cs
    ((m.newX .gZ).newX (.loop .ready none f.fn f.tm ps as bd m.next))
  | some l0=>match bR m.xs l0 with
   | some (.loop _ _ _ _ _ _ _ dl)=>Ap E r h (a.map (fun x=>.s (.c (.f x)))++[.s (.c (.yl m.next))]++b.map fun x=>.s (.c (.f x))) { f with todo:=.fD m.next :: k } cs
     (m.newX (.loop .ready none f.fn f.tm ps as bd dl))
   | _=>.fail 30
 | _=>.fail 31
def Tl (j9:Option Code) (k:List bh):List bh :=
 match j9 with
 | some c=>.it (.code c) :: k
 | none=>k
def MD (r:List av→aj→Tree) (f:av) (l:Nat) (k:List bh) (cs:List av) (m:aj):Tree :=
 match bR m.xs l with
 | some (.loop st j9 _ _ _ _ _ _)=>match st with
  | .busy=>.fail 32
  | _=>r ({ f with todo:=Tl j9 k } :: cs) ⟨m.next,m.bl,qH m.xs l⟩
 | _=>.fail 33
def Su (r:List av→aj→Tree) (f:av) (k:List bh) (cs:List av) (m:aj):Tree :=
 match f.kj with
 | some l=>match bR m.xs l with
  | some (.loop .ready j9 fn tm ps as bd dl)=>r ({ f with todo:=k } :: cs) ⟨m.next,m.bl,qT m.xs l (.loop .busy j9 fn tm ps as bd dl)⟩
  | _=>.fail 34
 | none=>.fail 35
def Bt (id:Nat):List bh→Option (List bh)
 | .it (.inBlock id') :: k=>if id'==id then some k else Bt id k
 | _ :: k=>Bt id k
 | []=>none
def Lc (T:Tm) (o:Op):Option (Nat × List SV) :=
 match o with
 | .call { callee:=.value f,args,.. }=>match ev T f,mX T args.toList with
  | some (.s (.c (.yl id))),some l=>some (id,l)
  | _,_=>none
 | _=>none
def NM (E:Env) (r:List av→aj→Tree) (base tag:Nat) (f:av) (cs:List av) (o:Op) (m:aj):Tree :=
 match J9 o with
  | true=>match Lc f.tm o with
   | some (id,l)=>St r id l f cs m
   | none=>match xO f.tm o with
    | some (g,l)=>Ap E r g l f cs m
    | none=>.fail (tag+8)
  | false=>match isApp o with
   | true=>DY f.tm o fun T0=>match BL E.P base T0 m o with
    | .ok q v m'=>bu q (tr r (av.finish { f with tm:=T0 } v) cs m')
    | .no=>.fail (tag+1)
   | false=>match yp E.P f.tm m o with
    | .ok q v m'=>bu q (tr r (f.finish v) cs m')
    | .no=>.fail (tag+2)
def P5 (E:Env) (r:Nat→List av→aj→Tree) (base:Nat) (f:av) (k:List bh) (cs:List av) (m:aj) (a:Code) (b:Code):Tree :=
 r base ({ f with todo:=.it (.code a) :: .it (.code b) :: k } :: cs) m
def P6 (E:Env) (r:Nat→List av→aj→Tree) (base:Nat) (f:av) (k:List bh) (cs:List av) (m:aj) (c:Operand) (a:Code) (b:Code):Tree :=
 match ev f.tm c with
  | some (.s (.c (.f (.bool t))))=>F_ t (r base ({ f with tm:=Ft f.tm c true,todo:=.it (.code a) :: k } :: cs) m) (r base ({ f with tm:=Ft f.tm c false,todo:=.it (.code b) :: k } :: cs) m)
  | _=>.fail 4
def P7 (E:Env) (r:Nat→List av→aj→Tree) (base:Nat) (f:av) (k:List bh) (cs:List av) (m:aj) (id:Nat) (b:Code):Tree :=
 r base ({ f with todo:=.it (.code b) :: .it (.inBlock id) :: k } :: cs) m
def P8 (E:Env) (r:Nat→List av→aj→Tree) (base:Nat) (f:av) (k:List bh) (cs:List av) (m:aj) (b:Code):Tree :=
 r base ({ f with todo:=.it (.code b) :: .it (.inLoop b) :: k } :: cs) m
def P9 (E:Env) (r:Nat→List av→aj→Tree) (base:Nat) (f:av) (k:List bh) (cs:List av) (m:aj) (b:Code):Tree :=
 r base ({ f with todo:=.it (.code b) :: .it (.inLoop b) :: k } :: cs) m
def OQ (E:Env) (r:Nat→List av→aj→Tree) (base:Nat) (f:av) (k:List bh) (cs:List av) (m:aj) (b:Code):Tree :=
 r base ({ f with todo:=.it (.code b) :: .it (.inScope b) :: k } :: cs) m
def OR (E:Env) (r:Nat→List av→aj→Tree) (base:Nat) (f:av) (k:List bh) (cs:List av) (m:aj) (id:Nat):Tree :=
 match Bt id k with
  | some k'=>r base ({ f with todo:=k' } :: cs) m
  | none=>Ao (r base) f cs m (some (.exit id)) false
def OS (E:Env) (r:Nat→List av→aj→Tree) (base:Nat) (f:av) (k:List bh) (cs:List av) (m:aj) (ops:Array Oper):Tree :=
 r base ({ f with todo:=.it (.inRegion ops (List.range ops.size)) :: k } :: cs) m
def OT (E:Env) (r:Nat→List av→aj→Tree) (base:Nat) (f:av) (k:List bh) (cs:List av) (m:aj) (id:Nat) (ops:Array Oper):Tree :=
 match (match f.kj with | none=>true | some _=>Dv ops.toList) with
  | true=>K3 E r (f.fn*100000+id*10) base ops f.tm m fun T' m'=>r base ({ f with tm:=T',todo:=k } :: cs) m'
  | false=>.fail (f.fn*100000+id*10+9)
def OV (E:Env) (r:Nat→List av→aj→Tree) (base:Nat) (f:av) (k:List bh) (cs:List av) (m:aj) (ops:Array Oper) (l:List Nat):Tree :=
 match l with
  | []=>r base ({ f with todo:=k } :: cs) m
  | i :: rest=>match nth ops.toList i with
   | none=>.fail 6
   | some o=>match lY f.tm ops.toList o with
    | none=>.fail (f.fn*100000+7)
    | some b=>F_ b
      (NM E (r base) base (f.fn*100000+(match o.dst with | some d=>d | none=>999)*10) { f with tm:=qJ f.tm ops.toList o true,todo:=.it (.inRegion ops (i :: rest)) :: k } cs o.op m)
      (r base ({ f with tm:=nk (qJ f.tm ops.toList o false) o.dst (.bW []),todo:=.it (.inRegion ops rest) :: k } :: cs) m)
def Ld (E:Env) (r:Nat→List av→aj→Tree) (base:Nat) (f:av) (k:List bh) (cs:List av) (m:aj):Item→Tree
 | .code .ret=>Ao (r base) f cs m (some .ret) true
 | .code .skip=>r base ({ f with todo:=k } :: cs) m
 | .code (.label _)=>r base ({ f with todo:=k } :: cs) m
 | .inBlock _=>r base ({ f with todo:=k } :: cs) m
 | .inScope _=>r base ({ f with todo:=k } :: cs) m
 | .code (.seq a b)=>P5 E r base f k cs m a b
 | .code (.cond c a b)=>P6 E r base f k cs m c a b
 | .code (.block id b)=>P7 E r base f k cs m id b
 | .code (.loop b)=>P8 E r base f k cs m b
 | .inLoop b=>P9 E r base f k cs m b
 | .code (.scope b)=>OQ E r base f k cs m b
 | .code (.exit id)=>OR E r base f k cs m id
 | .code (.region _ ops false)=>OS E r base f k cs m ops
 | .code (.region id ops true)=>OT E r base f k cs m id ops
 | .code (.rangeFunc g ps as bd)=>J' E (r base) f k cs m g ps as bd
 | .beginRound=>Su (r base) f k cs m
 | .inRegion ops l=>OV E r base f k cs m ops l
 | _=>.fail 11
def av.Fu (f:av):av:={ f with md:=.run }
def stepT (E:Env) (r:Nat→List av→aj→Tree) (base:Nat) (fs:List av) (m:aj):Tree :=
 match fs with
 | []=>.fail 40
 | f :: cs=>match f.md with
  | .run=>match f.todo with
   | []=>Ao (r base) f cs m none true
   | x :: k=>match E.halt (len cs) f.fn x with
    | true=>.stop (f :: cs) m
    | false=>match x with
     | .qV l=>MD (r base) f.Fu l k cs m
     | .fD _=>.fail 41
     | .it x=>Ld E r base f.Fu k cs m x
  | _=>Jj E (r base) f cs m
def run (E:Env):Nat→Nat→List av→aj→Tree
 | 0,_,_,_=>.fail 0
 | n+1,base,fs,m=>stepT E (run E n) base fs m
end
end Go.Proofs.YtldoopjnjlpbpaaGreatDoor
