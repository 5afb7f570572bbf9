/- Loops over functions: where one stands in them, told by the code alone. No condition. -/
import Derived.Test.YtldoopjnjlpbpaaGreatDoorK23
set_option linter.unusedVariables false
set_option linter.unusedSimpArgs false
namespace Go.Proofs.YtldoopjnjlpbpaaGreatDoor
noncomputable section
def tu:Code→List bh→List (Array Tmp × Code × Code × List bh)
 | .rangeFunc _ ps as bd,k=>[(ps,as,bd,k)]
 | .seq a b,k=>tu a (.it (.code b) :: k)++tu b k
 | .cond _ a b,k=>tu a k++tu b k
 | .block j b,k=>tu b (.it (.inBlock j) :: k)
 | .loop b,k=>tu b (.it (.inLoop b) :: k)
 | .scope b,k=>tu b (.it (.inScope b) :: k)
 | _,_=>[]
def vj (F:Func) (n:Nat):Array Tmp × Code × Code × List bh:=match F.body with
 | some c=>match nth (tu c []) n with
  | some r=>r
  | none=>(#[],.skip,.skip,[])
 | none=>(#[],.skip,.skip,[])
def jX (F:Func) (n:Nat):List bh:=(vj F n).2.2.2
def vZ (F:Func) (n:Nat) (fn:FuncId):pD:=⟨.ready,none,fn,(vj F n).1,(vj F n).2.1,(vj F n).2.2.1⟩
def jR (F:Func) (n:Nat) (fn:FuncId) (tm:Tm) (dl:Nat):XO:=.loop .ready none fn tm (vj F n).1 (vj F n).2.1 (vj F n).2.2.1 dl
def lq (fn:FuncId) (F:Func) (sl:List (Nat × SV)) (td:List bh) (d:Nat):av:=⟨fn,i_ F.ntmps sl,td,[.col d],.run,.normal,none⟩
def jS (f:av) (d:Nat):Option Nat:=match f.tm.get d with
 | some (.s (.c (.yl i)))=>some i
 | _=>none
def lu (m:aj) (i:Nat):Option Nat:=match bR m.xs i with
 | some (.loop _ _ _ _ _ _ _ d)=>some d
 | _=>none
def iH (i:Nat):SV:=.s (.c (.yl i))
theorem ak.rf {r:Nat→Option Nat} {i:Nat} {l:List bh} (h:l7 r i i=true) (hl:Fv l=true):ak r (.fD i :: l) (.fD i :: l):=⟨h,ak.it hl⟩
theorem ak.NO {r:Nat→Option Nat} {i j:Nat} {l:List bh} (h:l7 r i j=true) (hl:Fv l=true):ak r (.fD i :: l) (.fD j :: l):=⟨h,ak.it hl⟩
def vm:Nat→List rB
 | 0=>[]
 | j+1=>.col (20+j) :: vm j
def vn:Nat→List XB
 | 0=>[]
 | j+1=>⟨20+j,.gZ⟩ :: vn j
def dj:Nat→List (Nat × Nat)
 | 0=>[]
 | j+1=>(20+j,20+j) :: dj j
def vo:Nat→List rB→List (Nat × Nat)
 | j+1,.col i :: l=>(20+j,i) :: vo j l
 | _,_=>[]
def yy (xs:List XB) (m:aj):aj:=⟨m.next,m.bl,m.xs++xs⟩
def xS (fn:FuncId) (F:Func) (sl:List (Nat × SV)) (td:List bh) (ds:List rB):av:=⟨fn,i_ F.ntmps sl,td,ds,.run,.normal,none⟩
end
end Go.Proofs.YtldoopjnjlpbpaaGreatDoor
