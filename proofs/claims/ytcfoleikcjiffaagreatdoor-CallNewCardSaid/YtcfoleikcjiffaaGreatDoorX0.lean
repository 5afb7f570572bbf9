/- Of a closed run in pieces: where it begins. No condition. -/
import Derived.Test.YtcfoleikcjiffaaGreatDoorE1
import Derived.Test.YtcfoleikcjiffaaGreatDoorK15
import Derived.Test.YtcfoleikcjiffaaGreatDoorF1
namespace Go.Proofs.YtcfoleikcjiffaaGreatDoor
noncomputable section
/-- A row told by runs of equal cells. -/
def rl (l : List (Nat × SC)) : List SC := List.rec (motive := fun _ => List SC) [] (fun p _ ih => Nat.rec (motive := fun _ => List SC) ih (fun _ r => p.2 :: r) p.1) l
def findT (id : Nat) : Code → List SIt → Option (List SIt)
  | .region i o d, k => cond (Nat.beq i id) (some (.it (.code (.region i o d)) :: k)) none
  | .seq a b, k => match findT id a (.it (.code b) :: k) with
    | some t => some t
    | none => findT id b k
  | .block i b, k => findT id b (.it (.inBlock i) :: k)
  | .scope b, k => findT id b (.it (.inScope b) :: k)
  | .cond _ a b, k => match findT id a k with
    | some t => some t
    | none => findT id b k
  | _, _ => none
def isReg (r : Nat) : SIt → Bool
  | .it (.code (.region i _ _)) => Nat.beq i r
  | _ => false
/-- Where to stop; and which functions only read what they are handed. -/
def Eh (r : Nat) : Env := ⟨Tryz.prog, fnOf, fun _ _ _ => none, fun d g x => match Nat.beq d 1000000 with | true => memB [95] g | false => Nat.beq d 0 && Nat.beq g 5 && isReg r x⟩
def xT (r : Nat) : List SIt := (findT r (Tryz.f5.body.getD .skip) []).getD []
def xF (r : Nat) (sl : List (Nat × SV)) : List SFr := [⟨5, tmOf Tryz.f5.ntmps sl, xT r, [], .run, .normal, none⟩]
def putX' (l : List (Nat × SBlk)) : Tr SBlk := List.rec (motive := fun _ => Tr SBlk) .nil (fun p _ ih => ih.set p.1 (some p.2)) l
def xf0 : List SFr := [callFr 5 Tryz.f5.ntmps [] (Tryz.f5.body.getD .skip)]
def xm0 : SMem := ⟨0, .nil, []⟩
end
theorem Eh_ok (r : Nat) : EnvOk (Eh r) := EnvOk.with E0_ok _ _ fun _ _ _ _ h => by cases h
end Go.Proofs.YtcfoleikcjiffaaGreatDoor
