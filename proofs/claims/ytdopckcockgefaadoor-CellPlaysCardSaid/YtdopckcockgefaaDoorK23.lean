/- Where a function stands at a region of its code, told by the code alone; states' readers. No condition. -/
import Derived.Test.YtdopckcockgefaaDoorK14c
set_option linter.unusedVariables false
set_option linter.unusedSimpArgs false
namespace Go.Proofs.YtdopckcockgefaaDoor
noncomputable section
def sekC (id : Nat) : Code → List SIt → List SIt
 | .region i ops d, k => match Nat.beq i id with
  | true => .it (.code (.region i ops d)) :: k
  | false => []
 | .seq a b, k => match sekC id a (.it (.code b) :: k) with
  | [] => sekC id b k
  | l => l
 | .cond _ a b, k => match sekC id a k with
  | [] => sekC id b k
  | l => l
 | .block j b, k => sekC id b (.it (.inBlock j) :: k)
 | .loop b, k => sekC id b (.it (.inLoop b) :: k)
 | .scope b, k => sekC id b (.it (.inScope b) :: k)
 | _, _ => []
def sekF (F : Func) (id : Nat) : List SIt := match F.body with
 | some c => sekC id c []
 | none => []
def sekI (F : Func) (id : Nat) (l : List Nat) : List SIt := match sekF F id with
 | .it (.code (.region _ ops _)) :: k => .it (.inRegion ops l) :: k
 | _ => []
def frOf (fn : FuncId) (F : Func) (sl : List (Nat × SV)) (td : List SIt) : SFr := ⟨fn, tmOf F.ntmps sl, td, [], .run, .normal, none⟩
def mkBl (l : List (Nat × SBlk)) : Tr SBlk := l.foldl (fun t p => t.set p.1 (some p.2)) .nil
def mkM (next : Nat) (l : List (Nat × SBlk)) : SMem := ⟨next, mkBl l, []⟩
def rgId : SIt → Nat
 | .it (.code (.region i _ _)) => i
 | _ => 999
def haltAt (l : List Nat) : Nat → FuncId → SIt → Bool := fun _ f x => memB l (f * 1000 + rgId x)
def atR (fs : List SFr) : Nat := match fs with
 | f :: _ => match f.todo with
  | x :: _ => f.fn * 1000 + rgId x
  | [] => 0
 | [] => 0
def frNth (fs : List SFr) (k : Nat) : Option SFr := nth fs k
def rdBo (f : SFr) (d : Nat) : Option Bool := match f.tm.get d with
 | some (.s (.c (.f (.bool x)))) => some x.den
 | _ => none
def rdSI (f : SFr) (d : Nat) : Option Nat := match f.tm.get d with
 | some (.s (.c (.f (.slice i _ _ _)))) => some i
 | _ => none
def rdSN (f : SFr) (d : Nat) : Option Nat := match f.tm.get d with
 | some (.s (.c (.f (.slice _ _ n _)))) => some n.den
 | _ => none
def celB (m : SMem) (id j : Nat) : Option SC := match getB m.bl id with
 | some ⟨.ls l, _, _⟩ => nth l j
 | _ => none
def rdCI (m : SMem) (id j : Nat) : Option Int := match celB m id j with
 | some (.f (.int _ x)) => some x.den
 | _ => none
def rdCP (m : SMem) (id j : Nat) : Option Nat := match celB m id j with
 | some (.f (.ptr i _)) => some i
 | some (.f (.slice i _ _ _)) => some i
 | _ => none
def rdCO (m : SMem) (id j : Nat) : Option Nat := match celB m id j with
 | some (.f (.slice _ o _ _)) => some o.den
 | _ => none
def rdCN (m : SMem) (id j : Nat) : Option Nat := match celB m id j with
 | some (.f (.slice _ _ n _)) => some n.den
 | _ => none
def rdV (f : SFr) (d : Nat) : Option (Array Value) := match f.tm.get d with
 | some (.s (.agg a)) => rowOf a
 | _ => none
def mkMX (next : Nat) (l : List (Nat × SBlk)) (xs : List (Nat × XO)) : SMem := ⟨next, mkBl l, xs.map fun p => ⟨p.1, p.2⟩⟩
def allIt : List SIt → Bool
 | [] => true
 | .it _ :: l => allIt l
 | _ :: _ => false
theorem TodoOk.it {r : Nat → Option Nat} : ∀ {l : List SIt}, allIt l = true → TodoOk r l l
 | [], _ => trivial
 | .it _ :: _, h => ⟨rfl, TodoOk.it h⟩
 | .inR _ :: _, h => by cases h
 | .endR _ :: _, h => by cases h
def isB (b : Bool) (s : SV) (_ : SMem) : Prop := match s with
 | .s (.c (.f (.bool x))) => x.den = b
 | _ => False
end
def cN : Prop := CallKind.normal = CallKind.normal
theorem cNt : cN = True := eq_self CallKind.normal
theorem q7 : (∀ n : Nat, ((n : Int)).toNat = n) ∧ (∀ n : Nat, n * 1 = n) ∧ (∀ n : Nat, 0 + n = n) := ⟨Int.toNat_natCast, Nat.mul_one, Nat.zero_add⟩
theorem q8 : (∀ b : Bool, (b == true) = b) ∧ (∀ b : Bool, (b == false) = !b) ∧ ((!true) = false) ∧ ((!false) = true) := ⟨by decide, by decide, rfl, rfl⟩
theorem q6 : (cN = True) ∧ (∀ p : Prop, (True → p) = p) ∧ (∀ p : Prop, (False → p) = True) ∧ (∀ p : Prop, (p ∧ True) = p) ∧ (∀ p : Prop, (True ∧ p) = p) ∧ ((true = false) = False) ∧ ((false = true) = False) := ⟨eq_self CallKind.normal, true_implies, false_implies, and_true, true_and, Bool.true_eq_false, Bool.false_eq_true⟩
end Go.Proofs.YtdopckcockgefaaDoor
