/- Loops' states, read off the run itself. No condition. -/
import Derived.Test.YtdopckcockgefaaDoorK14b
set_option linter.unusedVariables false
set_option linter.unusedSimpArgs false
namespace Go.Proofs.YtdopckcockgefaaDoor
noncomputable section
def svInt : Option SV → Option Int
 | some (.s (.c (.f (.int _ x)))) => some x.den
 | _ => none
def rdI (f : SFr) (d : Nat) : Option Int := svInt (f.tm.get d)
def rdP (f : SFr) (d : Nat) : Option Nat := match f.tm.get d with
 | some (.s (.c (.f (.ptr id _)))) => some id
 | _ => none
def rowOf (a : SA) : Option (Array Value) := match a with
 | .pop cs | .op cs => some cs
 | .pre l | .ls l => match plains l with
  | some vs => some vs.toArray
  | none => none
 | _ => none
def rdA (m : SMem) (id : Nat) : Option (Array Value) := match getB m.bl id with
 | some ⟨a, _, _⟩ => rowOf a
 | none => none
section
variable (E : Env) (base : Nat) (c : List SFr) (m : SMem)
end
end
end Go.Proofs.YtdopckcockgefaaDoor
