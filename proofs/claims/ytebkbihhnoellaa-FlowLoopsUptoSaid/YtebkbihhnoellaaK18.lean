/- How a stack is told: what is left to do, by a region's number. No condition. -/
import Derived.Test.YtebkbihhnoellaaE1
import Derived.Test.YtebkbihhnoellaaK17
set_option linter.unusedVariables false
set_option linter.unusedSimpArgs false
namespace Go.Proofs.Ytebkbihhnoellaa
noncomputable section
/-- A row told by runs of equal cells. -/
def rl (l : List (Nat × SC)) : List SC := List.rec (motive := fun _ => List SC) [] (fun p _ ih => Nat.rec (motive := fun _ => List SC) ih (fun _ r => p.2 :: r) p.1) l
def bdy (g : Nat) : Code := match fnOf g with
  | some f => match f.body with
    | some c => c
    | none => .skip
  | none => .skip
def nt (g : Nat) : Nat := match fnOf g with
  | some f => f.ntmps
  | none => 0
def orT (a : Option (List SIt)) (b : Unit → Option (List SIt)) : Option (List SIt) := match a with
  | some t => some t
  | none => b ()
/-- What is left to do when a region begins. -/
def findT (id : Nat) (c : Code) : List SIt → Option (List SIt) :=
  Code.rec (motive := fun _ => List SIt → Option (List SIt))
    (fun _ => none)
    (fun i o d k => match Nat.beq i id with
      | true => some (.it (.code (.region i o d)) :: k)
      | false => none)
    (fun _ b fa fb k => orT (fa (.it (.code b) :: k)) fun _ => fb k)
    (fun _ _ _ fa fb k => orT (fa k) fun _ => fb k)
    (fun i _ fb k => fb (.it (.inBlock i) :: k))
    (fun b fb k => fb (.it (.inLoop b) :: k))
    (fun _ _ _ _ _ fb _ => fb [])
    (fun _ _ => none)
    (fun b fb k => fb (.it (.inScope b) :: k))
    (fun _ _ => none)
    (fun _ _ => none)
    (fun _ => none)
    (fun _ _ => none) c
def xT (g r : Nat) : List SIt := match findT r (bdy g) [] with
  | some t => t
  | none => []
/-- All numbers from one on, below another one. -/
def upF (n i : Nat) : List Nat := Nat.rec [] (fun k ih => Nat.sub n (Nat.succ k) :: ih) (Nat.sub n i)
/-- What is left to do behind an operation's call. -/
def xI (g r i : Nat) : List SIt := match xT g r with
  | .it (.code (.region _ ops _)) :: k => .it (.inRegion ops (upF ops.size i)) :: k
  | _ => []
def firstR (c : Code) : Option Nat :=
  Code.rec (motive := fun _ => Option Nat) none (fun i _ _ => some i)
    (fun _ _ a b => match a with
      | some i => some i
      | none => b)
    (fun _ _ _ a b => match a with
      | some i => some i
      | none => b)
    (fun _ _ a => a) (fun _ a => a) (fun _ _ _ _ _ b => b) (fun _ => none) (fun _ a => a) (fun _ => none) (fun _ => none) none (fun _ => none) c
/-- A loop over a function, by the first region of its round: its slots, what it does, what is left to do behind it. -/
structure LpT where
  ps : Array Tmp
  ag : Code
  bd : Code
  k : List SIt
def orL (a : Option LpT) (b : Unit → Option LpT) : Option LpT := match a with
  | some t => some t
  | none => b ()
def isNo (a : Option Nat) (i : Nat) : Bool := match a with
  | some j => Nat.beq j i
  | none => false
def findL (id : Nat) (c : Code) : List SIt → Option LpT :=
  Code.rec (motive := fun _ => List SIt → Option LpT)
    (fun _ => none) (fun _ _ _ _ => none)
    (fun _ b fa fb k => orL (fa (.it (.code b) :: k)) fun _ => fb k)
    (fun _ _ _ fa fb k => orL (fa k) fun _ => fb k)
    (fun i _ fb k => fb (.it (.inBlock i) :: k))
    (fun b fb k => fb (.it (.inLoop b) :: k))
    (fun _ ps ag bd _ fb k => match isNo (firstR bd) id with
      | true => some ⟨ps, ag, bd, k⟩
      | false => fb [])
    (fun _ _ => none)
    (fun b fb k => fb (.it (.inScope b) :: k))
    (fun _ _ => none)
    (fun _ _ => none)
    (fun _ => none)
    (fun _ _ => none) c
def lpOf (g r : Nat) : LpT := match findL r (bdy g) [] with
  | some t => t
  | none => ⟨#[], .skip, .skip, []⟩
def xY (g r i : Nat) : List SIt := .inR i :: (lpOf g r).k
def lpX (st : LoopState) (g : Nat) (sl : List (Nat × SV)) (r dl : Nat) : XO := match lpOf g r with
  | ⟨ps, ag, bd, _⟩ => .loop st none g (tmOf (nt g) sl) ps ag bd dl
def putX' (l : List (Nat × SBlk)) : Tr SBlk := List.rec (motive := fun _ => Tr SBlk) .nil (fun p _ ih => ih.set p.1 (some p.2)) l
/-- Where nothing stops; and which functions only read what they are handed. -/
def Er (ro : List Nat) : Env := ⟨Try.prog, fnOf, fun _ _ _ => none, fun d g _ => match Nat.beq d 1000000 with
  | true => memB ro g
  | false => false⟩
def cl (g : Nat) (l : List SV) : List SFr := match fnOf g with
  | some f => [callFr g f.ntmps l (bdy g)]
  | none => []
end
theorem Er_ok (ro : List Nat) : EnvOk (Er ro) := EnvOk.with E0_ok _ _ fun _ _ _ _ h => by cases h
end Go.Proofs.Ytebkbihhnoellaa
