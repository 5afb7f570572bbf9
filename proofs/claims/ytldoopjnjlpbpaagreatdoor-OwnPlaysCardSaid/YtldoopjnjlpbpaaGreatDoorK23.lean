/- Where a function stands at a region of its code, told by the code alone; states' readers. No condition. -/
import Derived.Test.YtldoopjnjlpbpaaGreatDoorK14c
set_option linter.unusedVariables false
set_option linter.unusedSimpArgs false
namespace Go.Proofs.YtldoopjnjlpbpaaGreatDoor
noncomputable section
def sS (id:Nat):Code→List bh→List bh
 | .region i ops d,k=>match Nat.beq i id with
  | true=>.it (.code (.region i ops d)) :: k
  | false=>[]
 | .seq a b,k=>match sS id a (.it (.code b) :: k) with
  | []=>sS id b k
  | l=>l
 | .cond _ a b,k=>match sS id a k with
  | []=>sS id b k
  | l=>l
 | .block j b,k=>sS id b (.it (.inBlock j) :: k)
 | .loop b,k=>sS id b (.it (.inLoop b) :: k)
 | .scope b,k=>sS id b (.it (.inScope b) :: k)
 | _,_=>[]
def cY (F:Func) (id:Nat):List bh:=match F.body with
 | some c=>sS id c []
 | none=>[]
def afv (F:Func) (id:Nat) (l:List Nat):List bh:=match cY F id with
 | .it (.code (.region _ ops _)) :: k=>.it (.inRegion ops l) :: k
 | _=>[]
def dw (fn:FuncId) (F:Func) (sl:List (Nat × SV)) (td:List bh):av:=⟨fn,i_ F.ntmps sl,td,[],.run,.normal,none⟩
def T8 (l:List (Nat × bN)):Tr bN:=l.foldl (fun t p=>t.set p.1 (some p.2)) .nil
def cD (next:Nat) (l:List (Nat × bN)):aj:=⟨next,T8 l,[]⟩
def T9:bh→Nat
 | .it (.code (.region i _ _))=>i
 | _=>999
def dy (l:List Nat):Nat→FuncId→bh→Bool:=fun _ f x=>fW l (f*1000+T9 x)
def atR (fs:List av):Nat:=match fs with
 | f :: _=>match f.todo with
  | x :: _=>f.fn*1000+T9 x
  | []=>0
 | []=>0
def b9 (fs:List av) (k:Nat):Option av:=nth fs k
def ym (f:av) (d:Nat):Option Bool:=match f.tm.get d with
 | some (.s (.c (.f (.bool x))))=>some x.den
 | _=>none
def fG (f:av) (d:Nat):Option Nat:=match f.tm.get d with
 | some (.s (.c (.f (.slice i _ _ _))))=>some i
 | _=>none
def qR (f:av) (d:Nat):Option Nat:=match f.tm.get d with
 | some (.s (.c (.f (.slice _ _ n _))))=>some n.den
 | _=>none
def Gd (m:aj) (id j:Nat):Option SC:=match aH m.bl id with
 | some ⟨.ls l,_,_⟩=>nth l j
 | _=>none
def T_ (m:aj) (id j:Nat):Option Int:=match Gd m id j with
 | some (.f (.int _ x))=>some x.den
 | _=>none
def iL (m:aj) (id j:Nat):Option Nat:=match Gd m id j with
 | some (.f (.ptr i _))=>some i
 | some (.f (.slice i _ _ _))=>some i
 | _=>none
def afw (m:aj) (id j:Nat):Option Nat:=match Gd m id j with
 | some (.f (.slice _ o _ _))=>some o.den
 | _=>none
def pJ (m:aj) (id j:Nat):Option Nat:=match Gd m id j with
 | some (.f (.slice _ _ n _))=>some n.den
 | _=>none
def rdV (f:av) (d:Nat):Option (Array Value):=match f.tm.get d with
 | some (.s (.agg a))=>rowOf a
 | _=>none
def nu (next:Nat) (l:List (Nat × bN)) (xs:List (Nat × XO)):aj:=⟨next,T8 l,xs.map fun p=>⟨p.1,p.2⟩⟩
def Fv:List bh→Bool
 | []=>true
 | .it _ :: l=>Fv l
 | _ :: _=>false
theorem ak.it {r:Nat→Option Nat}:∀ {l:List bh},Fv l=true→ak r l l
 | [],_=>trivial
 | .it _ :: _,h=>⟨rfl,ak.it h⟩
 | .fD _ :: _,h=>by cases h
 | .qV _ :: _,h=>by cases h
def gD (b:Bool) (s:SV) (_:aj):Prop:=match s with
 | .s (.c (.f (.bool x)))=>x.den=b
 | _=>False
end
def cN:Prop:=CallKind.normal=CallKind.normal
theorem lz:cN=True:=eq_self CallKind.normal
theorem q7:(∀ n:Nat,((n:Int)).toNat=n)∧(∀ n:Nat,n*1=n)∧(∀ n:Nat,0+n=n):=⟨Int.toNat_natCast,Nat.mul_one,Nat.zero_add⟩
theorem q8:(∀ b:Bool,(b==true)=b)∧(∀ b:Bool,(b==false)=!b)∧((!true)=false)∧((!false)=true):=⟨by decide,by decide,rfl,rfl⟩
theorem q6:(cN=True)∧(∀ p:Prop,(True→p)=p)∧(∀ p:Prop,(False→p)=True)∧(∀ p:Prop,(p∧True)=p)∧(∀ p:Prop,(True∧p)=p)∧((true=false)=False)∧((false=true)=False):=⟨eq_self CallKind.normal,true_implies,false_implies,and_true,true_and,Bool.true_eq_false,Bool.false_eq_true⟩
end Go.Proofs.YtldoopjnjlpbpaaGreatDoor
