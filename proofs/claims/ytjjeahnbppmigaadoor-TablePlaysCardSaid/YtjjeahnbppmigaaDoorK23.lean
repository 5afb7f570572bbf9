/- Where a function stands at a region of its code, told by the code alone; states' readers. No condition. -/
import Derived.Test.YtjjeahnbppmigaaDoorK14c
set_option linter.unusedVariables false
set_option linter.unusedSimpArgs false
namespace Go.Proofs.YtjjeahnbppmigaaDoor
noncomputable section
def sekC (id : Nat) : Code → List SIt → List SIt
  | .region i ops d, k => match Nat.beq i id with
    | true => .it (.code (.region i ops d)) :: k
    | false => []
  | .seq a b, k => match sekC id a (.it (.code b) :: k) with
    | [] => sekC id b k
    | l => l
  | .cond _ a b, k => match sekC id a k with
    | [] => sekC id b k
    | l => l
  | .block j b, k => sekC id b (.it (.inBlock j) :: k)
  | .loop b, k => sekC id b (.it (.inLoop b) :: k)
  | .scope b, k => sekC id b (.it (.inScope b) :: k)
  | _, _ => []
def sekF (F : Func) (id : Nat) : List SIt := match F.body with
  | some c => sekC id c []
  | none => []
def sekI (F : Func) (id : Nat) (l : List Nat) : List SIt := match sekF F id with
  | .it (.code (.region _ ops _)) :: k => .it (.inRegion ops l) :: k
  | _ => []
def frOf (fn : FuncId) (F : Func) (sl : List (Nat × SV)) (td : List SIt) : SFr := ⟨fn, tmOf F.ntmps sl, td, [], .run, .normal, none⟩
def mkBl (l : List (Nat × SBlk)) : Tr SBlk := l.foldl (fun t p => t.set p.1 (some p.2)) .nil
def mkM (next : Nat) (l : List (Nat × SBlk)) : SMem := ⟨next, mkBl l, []⟩
def rgId : SIt → Nat
  | .it (.code (.region i _ _)) => i
  | _ => 999
def haltAt (l : List Nat) : Nat → FuncId → SIt → Bool := fun _ f x => memB l (f * 1000 + rgId x)
def atR (fs : List SFr) : Nat := match fs with
  | f :: _ => match f.todo with
    | x :: _ => f.fn * 1000 + rgId x
    | [] => 0
  | [] => 0
def frNth (fs : List SFr) (k : Nat) : Option SFr := nth fs k
def rdBo (f : SFr) (d : Nat) : Option Bool := match f.tm.get d with
  | some (.s (.c (.f (.bool x)))) => some x.den
  | _ => none
def rdSI (f : SFr) (d : Nat) : Option Nat := match f.tm.get d with
  | some (.s (.c (.f (.slice i _ _ _)))) => some i
  | _ => none
def rdSO (f : SFr) (d : Nat) : Option Nat := match f.tm.get d with
  | some (.s (.c (.f (.slice _ o _ _)))) => some o.den
  | _ => none
def rdSN (f : SFr) (d : Nat) : Option Nat := match f.tm.get d with
  | some (.s (.c (.f (.slice _ _ n _)))) => some n.den
  | _ => none
def celB (m : SMem) (id j : Nat) : Option SC := match getB m.bl id with
  | some ⟨.ls l, _, _⟩ => nth l j
  | _ => none
def rdCI (m : SMem) (id j : Nat) : Option Int := match celB m id j with
  | some (.f (.int _ x)) => some x.den
  | _ => none
def rdCB (m : SMem) (id j : Nat) : Option Bool := match celB m id j with
  | some (.f (.bool x)) => some x.den
  | _ => none
def rdCP (m : SMem) (id j : Nat) : Option Nat := match celB m id j with
  | some (.f (.ptr i _)) => some i
  | some (.f (.slice i _ _ _)) => some i
  | _ => none
def rdCO (m : SMem) (id j : Nat) : Option Nat := match celB m id j with
  | some (.f (.slice _ o _ _)) => some o.den
  | _ => none
def rdCN (m : SMem) (id j : Nat) : Option Nat := match celB m id j with
  | some (.f (.slice _ _ n _)) => some n.den
  | _ => none
def rdV (f : SFr) (d : Nat) : Option (Array Value) := match f.tm.get d with
  | some (.s (.agg a)) => rowOf a
  | _ => none
def mkMX (next : Nat) (l : List (Nat × SBlk)) (xs : List (Nat × XO)) : SMem := ⟨next, mkBl l, xs.map fun p => ⟨p.1, p.2⟩⟩
def rdMp (f : SFr) (d : Nat) : Option Nat := match f.tm.get d with
  | some (.s (.c (.f (.mp i)))) => some i
  | _ => none
def decV : Value → Int
  | .int _ n => n
  | .bool b => boI b
  | _ => 0
def rdMI (m : SMem) (id : Nat) : Option (List (Int × Int)) := match getX m.xs id with
  | some (.mapI _ _ _ es) => some es
  | some (.map es _) => match plainsE es with
    | some l => some (l.map fun p => (decV p.1, decV p.2))
    | none => none
  | _ => none
def mpS (i : Nat) : SV := .s (.c (.f (.mp i)))
def allIt : List SIt → Bool
  | [] => true
  | .it _ :: l => allIt l
  | _ :: _ => false
theorem TodoOk.it {r : Nat → Option Nat} : ∀ {l : List SIt}, allIt l = true → TodoOk r l l
  | [], _ => trivial
  | .it _ :: _, h => ⟨rfl, TodoOk.it h⟩
  | .inR _ :: _, h => by cases h
  | .endR _ :: _, h => by cases h
def isB (b : Bool) (s : SV) (_ : SMem) : Prop := match s with
  | .s (.c (.f (.bool x))) => x.den = b
  | _ => False
end
end Go.Proofs.YtjjeahnbppmigaaDoor
