/- Loops' states, read off the run itself. No condition. -/
import Derived.Test.YtldoopjnjlpbpaaGreatDoorK14b
set_option linter.unusedVariables false
set_option linter.unusedSimpArgs false
namespace Go.Proofs.YtldoopjnjlpbpaaGreatDoor
noncomputable section
def ac0:Option SV→Option Int
 | some (.s (.c (.f (.int _ x))))=>some x.den
 | _=>none
def dh (f:av) (d:Nat):Option Int:=ac0 (f.tm.get d)
def aV (f:av) (d:Nat):Option Nat:=match f.tm.get d with
 | some (.s (.c (.f (.ptr id _))))=>some id
 | _=>none
def rowOf (a:SA):Option (Array Value):=match a with
 | .pop cs | .op cs=>some cs
 | .pre l | .ls l=>match iy l with
  | some vs=>some vs.toArray
  | none=>none
 | _=>none
def cO (m:aj) (id:Nat):Option (Array Value):=match aH m.bl id with
 | some ⟨a,_,_⟩=>rowOf a
 | none=>none
section
variable (E:Env) (base:Nat) (c:List av) (m:aj)
end
end
end Go.Proofs.YtldoopjnjlpbpaaGreatDoor
