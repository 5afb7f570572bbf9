/- Of code: May: its loop's states. No condition. -/
import Derived.Test.YtaagmmljhgabfaaE1
import Derived.Test.YtaagmmljhgabfaaK15
import Derived.Test.YtaagmmljhgabfaaK14c
import Derived.IntWalk
import Derived.Test.YtaagmmljhgabfaaK2
import Derived.Test.YtaagmmljhgabfaaK14b
import Derived.Test.YtaagmmljhgabfaaRows
import Derived.ProofKit
import Derived.OpenShut
import Derived.ChangeSame
import Derived.Deep.Slices
import Derived.Deep.Fields
namespace Go.Proofs.Ytaagmmljhgabfaa
noncomputable section
def EM : Env := ⟨Try.prog, fnOf, fun _ _ _ => none, fun _ f x => Nat.beq f 16 && isLoop x⟩
theorem EM_ok : EnvOk EM := EnvOk.with E0_ok _ _ fun _ _ _ _ h => by cases h
/-- Instructions that only are read: known whole, or as a beginning. -/
def prA (v : Bool) (cs : Array Value) : SA := cond v (.raw cs) (.pop cs)
def prM (v : Bool) (cs : Array Value) (ty : TypeId) : SMem := ⟨1, (Tr.nil : Tr SBlk).set 0 (some ⟨prA v cs, ty, false⟩), []⟩
def prS (off n : Nat) : SV := .s (.c (.f (.slice 0 (.o off) (.o n) .any)))
def mayC (off n : Nat) : List SFr := [callFr 9 Try.f9.ntmps [prS off n] (Try.f9.body.getD .skip)]
def mayN (h v : Bool) (off n : Nat) (cs : Array Value) (ty : TypeId) (Q : Int → Prop) (fs : List SFr) (m : SMem) : Prop := match fs with
  | f :: _ => match rdI f 8 with
    | some i => Q i ∧ gN EM 1 (mayC off n) (prM v cs ty) h [(8, i64 (.o i))] [] fs m
    | none => False
  | [] => False
def boolR (b : Bool) (s : SV) (_ : SMem) : Prop := match s with
  | .s (.c (.f (.bool x))) => x.den = b
  | _ => False
def mT0 : List SIt := headTd (gF EM 1 (mayC 0 0) (prM true #[] 0) [])
def mH0 : List SIt := headTd (gH EM 1 (mayC 0 0) (prM true #[] 0) [])
def mT1 : List SIt := headTd ((gF EM 1 (mayC 0 0) (prM true #[] 0) []).drop 1)
def mT2 : List SIt := headTd ((gF EM 1 (mayC 0 0) (prM true #[] 0) []).drop 2)
end
end Go.Proofs.Ytaagmmljhgabfaa
/- Of code: the rounds of May, as propositions. No condition. -/
namespace Go.Proofs.Ytaagmmljhgabfaa
set_option maxRecDepth 100000
theorem may_start_r (off n : Nat) (cs : Array Value) (ty : TypeId) (r : Bool) (Q : Int → Prop) : (gR EM 1 (mayC off n) (prM true cs ty)).vc (boolR r) (mayN false true off n cs ty Q) =
    (((decide ((↑n : Int) ≤ (64 : Int)) == true) = true → Q (0 : Int) ∧ CallKind.normal = CallKind.normal ∧ TodoOk (ren 1 [(1, 1)]) mT0 mT0 ∧ off = off ∧ n = n ∧ Fn.func (13 : Nat) = Fn.func (13 : Nat) ∧ (↑n : Int) = (↑n : Int) ∧ (0 : Int) = (0 : Int) ∧ off = off ∧ n = n ∧ CallKind.normal = CallKind.normal ∧ TodoOk (ren 1 [(1, 1)]) mT1 mT1 ∧ off = off ∧ n = n ∧ Fn.func (13 : Nat) = Fn.func (13 : Nat) ∧ off = off ∧ n = n ∧ Fn.func (13 : Nat) = Fn.func (13 : Nat) ∧ CallKind.normal = CallKind.normal ∧ TodoOk (ren 1 [(1, 1)]) mT2 mT2 ∧ off = off ∧ n = n ∧ Fn.func (13 : Nat) = Fn.func (13 : Nat) ∧ decide ((↑n : Int) ≤ (64 : Int)) = decide ((↑n : Int) ≤ (64 : Int)) ∧ off = off ∧ n = n ∧ off = off ∧ n = n ∧ Fn.func (13 : Nat) = Fn.func (13 : Nat) ∧ (↑n : Int) = (↑n : Int) ∧ Fn.func (13 : Nat) = Fn.func (13 : Nat) ∧ ty = ty ∧ cs = cs ∧ (22 : Nat) = (22 : Nat) ∧ off = off ∧ n = n ∧ True) ∧ ((decide ((↑n : Int) ≤ (64 : Int)) == true) = false → false = r)) := by kernel_rfl
theorem may_start_p (off n : Nat) (cs : Array Value) (ty : TypeId) (r : Bool) (Q : Int → Prop) : (gR EM 1 (mayC off n) (prM false cs ty)).vc (boolR r) (mayN false false off n cs ty Q) =
    (((decide ((↑n : Int) ≤ (64 : Int)) == true) = true → Q (0 : Int) ∧ CallKind.normal = CallKind.normal ∧ TodoOk (ren 1 [(1, 1)]) mT0 mT0 ∧ off = off ∧ n = n ∧ Fn.func (13 : Nat) = Fn.func (13 : Nat) ∧ (↑n : Int) = (↑n : Int) ∧ (0 : Int) = (0 : Int) ∧ off = off ∧ n = n ∧ CallKind.normal = CallKind.normal ∧ TodoOk (ren 1 [(1, 1)]) mT1 mT1 ∧ off = off ∧ n = n ∧ Fn.func (13 : Nat) = Fn.func (13 : Nat) ∧ off = off ∧ n = n ∧ Fn.func (13 : Nat) = Fn.func (13 : Nat) ∧ CallKind.normal = CallKind.normal ∧ TodoOk (ren 1 [(1, 1)]) mT2 mT2 ∧ off = off ∧ n = n ∧ Fn.func (13 : Nat) = Fn.func (13 : Nat) ∧ decide ((↑n : Int) ≤ (64 : Int)) = decide ((↑n : Int) ≤ (64 : Int)) ∧ off = off ∧ n = n ∧ off = off ∧ n = n ∧ Fn.func (13 : Nat) = Fn.func (13 : Nat) ∧ (↑n : Int) = (↑n : Int) ∧ Fn.func (13 : Nat) = Fn.func (13 : Nat) ∧ ty = ty ∧ cs = cs ∧ (22 : Nat) = (22 : Nat) ∧ off = off ∧ n = n ∧ True) ∧ ((decide ((↑n : Int) ≤ (64 : Int)) == true) = false → false = r)) := by kernel_rfl
theorem may_step_r (off n : Nat) (cs : Array Value) (ty : TypeId) (r : Bool) (i : Int) (Q : Int → Prop) : (gS EM 1 (mayC off n) (prM true cs ty) [(8, i64 (.o i))] []).vc (boolR r) (mayN true true off n cs ty Q) =
    ((decide (i < (↑n : Int)) = true → (((0 : Int) ≤ i ∧ i < (↑n : Int)) ∧ True) ∧ (IsInt IntKind.u8 cs (off + Int.toNat i * 5) ∧ IsInt IntKind.u8 cs (off + Int.toNat i * 5 + 1) ∧ IsInt IntKind.u8 cs (off + Int.toNat i * 5 + 2) ∧ IsInt IntKind.u8 cs (off + Int.toNat i * 5 + 3) ∧ IsInt IntKind.u16 cs (off + Int.toNat i * 5 + 4) ∧ True) ∧ (((intAt cs (off + Int.toNat i * 5) == (5 : Int)) == false) = true → ((decide (intAt cs (off + Int.toNat i * 5) ≤ (6 : Int)) == false) = true → ((decide (intAt cs (off + Int.toNat i * 5) > (16 : Int)) == true) = true → (((!decide (intAt cs (off + Int.toNat i * 5) ≤ (38 : Int))) == false) = true → ((decide ((if intAt cs (off + Int.toNat i * 5 + 3) > if intAt cs (off + Int.toNat i * 5 + 2) > intAt cs (off + Int.toNat i * 5 + 1) then intAt cs (off + Int.toNat i * 5 + 2) else intAt cs (off + Int.toNat i * 5 + 1) then intAt cs (off + Int.toNat i * 5 + 3) else if intAt cs (off + Int.toNat i * 5 + 2) > intAt cs (off + Int.toNat i * 5 + 1) then intAt cs (off + Int.toNat i * 5 + 2) else intAt cs (off + Int.toNat i * 5 + 1)) ≥ (8 : Int)) == false) = true → (((intAt cs (off + Int.toNat i * 5) == (6 : Int)) == true) = true → (decide (IntKind.wrap IntKind.i64 (intAt cs (off + Int.toNat i * 5 + 4)) ≥ (↑n : Int)) = true → (!decide (i ≥ (0 : Int))) = r) ∧ (decide (IntKind.wrap IntKind.i64 (intAt cs (off + Int.toNat i * 5 + 4)) ≥ (↑n : Int)) = false → Q (ari BinOp.add IntKind.i64 i (1 : Int)) ∧ CallKind.normal = CallKind.normal ∧ TodoOk (ren 1 [(1, 1)]) mH0 mH0 ∧ off = off ∧ n = n ∧ Fn.func (13 : Nat) = Fn.func (13 : Nat) ∧ (↑n : Int) = (↑n : Int) ∧ ari BinOp.add IntKind.i64 i (1 : Int) = ari BinOp.add IntKind.i64 i (1 : Int) ∧ off = off ∧ n = n ∧ CallKind.normal = CallKind.normal ∧ TodoOk (ren 1 [(1, 1)]) mT1 mT1 ∧ off = off ∧ n = n ∧ Fn.func (13 : Nat) = Fn.func (13 : Nat) ∧ off = off ∧ n = n ∧ Fn.func (13 : Nat) = Fn.func (13 : Nat) ∧ CallKind.normal = CallKind.normal ∧ TodoOk (ren 1 [(1, 1)]) mT2 mT2 ∧ off = off ∧ n = n ∧ Fn.func (13 : Nat) = Fn.func (13 : Nat) ∧ decide ((↑n : Int) ≤ (64 : Int)) = decide ((↑n : Int) ≤ (64 : Int)) ∧ off = off ∧ n = n ∧ off = off ∧ n = n ∧ Fn.func (13 : Nat) = Fn.func (13 : Nat) ∧ (↑n : Int) = (↑n : Int) ∧ Fn.func (13 : Nat) = Fn.func (13 : Nat) ∧ ty = ty ∧ cs = cs ∧ (22 : Nat) = (22 : Nat) ∧ off = off ∧ n = n ∧ True)) ∧ (((intAt cs (off + Int.toNat i * 5) == (6 : Int)) == true) = false → Q (ari BinOp.add IntKind.i64 i (1 : Int)) ∧ CallKind.normal = CallKind.normal ∧ TodoOk (ren 1 [(1, 1)]) mH0 mH0 ∧ off = off ∧ n = n ∧ Fn.func (13 : Nat) = Fn.func (13 : Nat) ∧ (↑n : Int) = (↑n : Int) ∧ ari BinOp.add IntKind.i64 i (1 : Int) = ari BinOp.add IntKind.i64 i (1 : Int) ∧ off = off ∧ n = n ∧ CallKind.normal = CallKind.normal ∧ TodoOk (ren 1 [(1, 1)]) mT1 mT1 ∧ off = off ∧ n = n ∧ Fn.func (13 : Nat) = Fn.func (13 : Nat) ∧ off = off ∧ n = n ∧ Fn.func (13 : Nat) = Fn.func (13 : Nat) ∧ CallKind.normal = CallKind.normal ∧ TodoOk (ren 1 [(1, 1)]) mT2 mT2 ∧ off = off ∧ n = n ∧ Fn.func (13 : Nat) = Fn.func (13 : Nat) ∧ decide ((↑n : Int) ≤ (64 : Int)) = decide ((↑n : Int) ≤ (64 : Int)) ∧ off = off ∧ n = n ∧ off = off ∧ n = n ∧ Fn.func (13 : Nat) = Fn.func (13 : Nat) ∧ (↑n : Int) = (↑n : Int) ∧ Fn.func (13 : Nat) = Fn.func (13 : Nat) ∧ ty = ty ∧ cs = cs ∧ (22 : Nat) = (22 : Nat) ∧ off = off ∧ n = n ∧ True)) ∧ ((decide ((if intAt cs (off + Int.toNat i * 5 + 3) > if intAt cs (off + Int.toNat i * 5 + 2) > intAt cs (off + Int.toNat i * 5 + 1) then intAt cs (off + Int.toNat i * 5 + 2) else intAt cs (off + Int.toNat i * 5 + 1) then intAt cs (off + Int.toNat i * 5 + 3) else if intAt cs (off + Int.toNat i * 5 + 2) > intAt cs (off + Int.toNat i * 5 + 1) then intAt cs (off + Int.toNat i * 5 + 2) else intAt cs (off + Int.toNat i * 5 + 1)) ≥ (8 : Int)) == false) = false → (!decide (i ≥ (0 : Int))) = r)) ∧ (((!decide (intAt cs (off + Int.toNat i * 5) ≤ (38 : Int))) == false) = false → (!decide (i ≥ (0 : Int))) = r)) ∧ ((decide (intAt cs (off + Int.toNat i * 5) > (16 : Int)) == true) = false → (!decide (i ≥ (0 : Int))) = r)) ∧ ((decide (intAt cs (off + Int.toNat i * 5) ≤ (6 : Int)) == false) = false → ((decide ((if intAt cs (off + Int.toNat i * 5 + 3) > if intAt cs (off + Int.toNat i * 5 + 2) > intAt cs (off + Int.toNat i * 5 + 1) then intAt cs (off + Int.toNat i * 5 + 2) else intAt cs (off + Int.toNat i * 5 + 1) then intAt cs (off + Int.toNat i * 5 + 3) else if intAt cs (off + Int.toNat i * 5 + 2) > intAt cs (off + Int.toNat i * 5 + 1) then intAt cs (off + Int.toNat i * 5 + 2) else intAt cs (off + Int.toNat i * 5 + 1)) ≥ (8 : Int)) == false) = true → (((intAt cs (off + Int.toNat i * 5) == (6 : Int)) == true) = true → (decide (IntKind.wrap IntKind.i64 (intAt cs (off + Int.toNat i * 5 + 4)) ≥ (↑n : Int)) = true → (!decide (i ≥ (0 : Int))) = r) ∧ (decide (IntKind.wrap IntKind.i64 (intAt cs (off + Int.toNat i * 5 + 4)) ≥ (↑n : Int)) = false → Q (ari BinOp.add IntKind.i64 i (1 : Int)) ∧ CallKind.normal = CallKind.normal ∧ TodoOk (ren 1 [(1, 1)]) mH0 mH0 ∧ off = off ∧ n = n ∧ Fn.func (13 : Nat) = Fn.func (13 : Nat) ∧ (↑n : Int) = (↑n : Int) ∧ ari BinOp.add IntKind.i64 i (1 : Int) = ari BinOp.add IntKind.i64 i (1 : Int) ∧ off = off ∧ n = n ∧ CallKind.normal = CallKind.normal ∧ TodoOk (ren 1 [(1, 1)]) mT1 mT1 ∧ off = off ∧ n = n ∧ Fn.func (13 : Nat) = Fn.func (13 : Nat) ∧ off = off ∧ n = n ∧ Fn.func (13 : Nat) = Fn.func (13 : Nat) ∧ CallKind.normal = CallKind.normal ∧ TodoOk (ren 1 [(1, 1)]) mT2 mT2 ∧ off = off ∧ n = n ∧ Fn.func (13 : Nat) = Fn.func (13 : Nat) ∧ decide ((↑n : Int) ≤ (64 : Int)) = decide ((↑n : Int) ≤ (64 : Int)) ∧ off = off ∧ n = n ∧ off = off ∧ n = n ∧ Fn.func (13 : Nat) = Fn.func (13 : Nat) ∧ (↑n : Int) = (↑n : Int) ∧ Fn.func (13 : Nat) = Fn.func (13 : Nat) ∧ ty = ty ∧ cs = cs ∧ (22 : Nat) = (22 : Nat) ∧ off = off ∧ n = n ∧ True)) ∧ (((intAt cs (off + Int.toNat i * 5) == (6 : Int)) == true) = false → Q (ari BinOp.add IntKind.i64 i (1 : Int)) ∧ CallKind.normal = CallKind.normal ∧ TodoOk (ren 1 [(1, 1)]) mH0 mH0 ∧ off = off ∧ n = n ∧ Fn.func (13 : Nat) = Fn.func (13 : Nat) ∧ (↑n : Int) = (↑n : Int) ∧ ari BinOp.add IntKind.i64 i (1 : Int) = ari BinOp.add IntKind.i64 i (1 : Int) ∧ off = off ∧ n = n ∧ CallKind.normal = CallKind.normal ∧ TodoOk (ren 1 [(1, 1)]) mT1 mT1 ∧ off = off ∧ n = n ∧ Fn.func (13 : Nat) = Fn.func (13 : Nat) ∧ off = off ∧ n = n ∧ Fn.func (13 : Nat) = Fn.func (13 : Nat) ∧ CallKind.normal = CallKind.normal ∧ TodoOk (ren 1 [(1, 1)]) mT2 mT2 ∧ off = off ∧ n = n ∧ Fn.func (13 : Nat) = Fn.func (13 : Nat) ∧ decide ((↑n : Int) ≤ (64 : Int)) = decide ((↑n : Int) ≤ (64 : Int)) ∧ off = off ∧ n = n ∧ off = off ∧ n = n ∧ Fn.func (13 : Nat) = Fn.func (13 : Nat) ∧ (↑n : Int) = (↑n : Int) ∧ Fn.func (13 : Nat) = Fn.func (13 : Nat) ∧ ty = ty ∧ cs = cs ∧ (22 : Nat) = (22 : Nat) ∧ off = off ∧ n = n ∧ True)) ∧ ((decide ((if intAt cs (off + Int.toNat i * 5 + 3) > if intAt cs (off + Int.toNat i * 5 + 2) > intAt cs (off + Int.toNat i * 5 + 1) then intAt cs (off + Int.toNat i * 5 + 2) else intAt cs (off + Int.toNat i * 5 + 1) then intAt cs (off + Int.toNat i * 5 + 3) else if intAt cs (off + Int.toNat i * 5 + 2) > intAt cs (off + Int.toNat i * 5 + 1) then intAt cs (off + Int.toNat i * 5 + 2) else intAt cs (off + Int.toNat i * 5 + 1)) ≥ (8 : Int)) == false) = false → (!decide (i ≥ (0 : Int))) = r))) ∧ (((intAt cs (off + Int.toNat i * 5) == (5 : Int)) == false) = false → ((decide (intAt cs (off + Int.toNat i * 5) ≤ (6 : Int)) == false) = true → ((decide (intAt cs (off + Int.toNat i * 5) > (16 : Int)) == true) = true → (((!decide (intAt cs (off + Int.toNat i * 5) ≤ (38 : Int))) == false) = true → ((decide ((if intAt cs (off + Int.toNat i * 5 + 3) > if intAt cs (off + Int.toNat i * 5 + 2) > intAt cs (off + Int.toNat i * 5 + 1) then intAt cs (off + Int.toNat i * 5 + 2) else intAt cs (off + Int.toNat i * 5 + 1) then intAt cs (off + Int.toNat i * 5 + 3) else if intAt cs (off + Int.toNat i * 5 + 2) > intAt cs (off + Int.toNat i * 5 + 1) then intAt cs (off + Int.toNat i * 5 + 2) else intAt cs (off + Int.toNat i * 5 + 1)) ≥ (8 : Int)) == false) = true → (decide (IntKind.wrap IntKind.i64 (intAt cs (off + Int.toNat i * 5 + 4)) ≥ (↑n : Int)) = true → (!decide (i ≥ (0 : Int))) = r) ∧ (decide (IntKind.wrap IntKind.i64 (intAt cs (off + Int.toNat i * 5 + 4)) ≥ (↑n : Int)) = false → Q (ari BinOp.add IntKind.i64 i (1 : Int)) ∧ CallKind.normal = CallKind.normal ∧ TodoOk (ren 1 [(1, 1)]) mH0 mH0 ∧ off = off ∧ n = n ∧ Fn.func (13 : Nat) = Fn.func (13 : Nat) ∧ (↑n : Int) = (↑n : Int) ∧ ari BinOp.add IntKind.i64 i (1 : Int) = ari BinOp.add IntKind.i64 i (1 : Int) ∧ off = off ∧ n = n ∧ CallKind.normal = CallKind.normal ∧ TodoOk (ren 1 [(1, 1)]) mT1 mT1 ∧ off = off ∧ n = n ∧ Fn.func (13 : Nat) = Fn.func (13 : Nat) ∧ off = off ∧ n = n ∧ Fn.func (13 : Nat) = Fn.func (13 : Nat) ∧ CallKind.normal = CallKind.normal ∧ TodoOk (ren 1 [(1, 1)]) mT2 mT2 ∧ off = off ∧ n = n ∧ Fn.func (13 : Nat) = Fn.func (13 : Nat) ∧ decide ((↑n : Int) ≤ (64 : Int)) = decide ((↑n : Int) ≤ (64 : Int)) ∧ off = off ∧ n = n ∧ off = off ∧ n = n ∧ Fn.func (13 : Nat) = Fn.func (13 : Nat) ∧ (↑n : Int) = (↑n : Int) ∧ Fn.func (13 : Nat) = Fn.func (13 : Nat) ∧ ty = ty ∧ cs = cs ∧ (22 : Nat) = (22 : Nat) ∧ off = off ∧ n = n ∧ True)) ∧ ((decide ((if intAt cs (off + Int.toNat i * 5 + 3) > if intAt cs (off + Int.toNat i * 5 + 2) > intAt cs (off + Int.toNat i * 5 + 1) then intAt cs (off + Int.toNat i * 5 + 2) else intAt cs (off + Int.toNat i * 5 + 1) then intAt cs (off + Int.toNat i * 5 + 3) else if intAt cs (off + Int.toNat i * 5 + 2) > intAt cs (off + Int.toNat i * 5 + 1) then intAt cs (off + Int.toNat i * 5 + 2) else intAt cs (off + Int.toNat i * 5 + 1)) ≥ (8 : Int)) == false) = false → (!decide (i ≥ (0 : Int))) = r)) ∧ (((!decide (intAt cs (off + Int.toNat i * 5) ≤ (38 : Int))) == false) = false → (!decide (i ≥ (0 : Int))) = r)) ∧ ((decide (intAt cs (off + Int.toNat i * 5) > (16 : Int)) == true) = false → (!decide (i ≥ (0 : Int))) = r)) ∧ ((decide (intAt cs (off + Int.toNat i * 5) ≤ (6 : Int)) == false) = false → ((decide ((if intAt cs (off + Int.toNat i * 5 + 3) > if intAt cs (off + Int.toNat i * 5 + 2) > intAt cs (off + Int.toNat i * 5 + 1) then intAt cs (off + Int.toNat i * 5 + 2) else intAt cs (off + Int.toNat i * 5 + 1) then intAt cs (off + Int.toNat i * 5 + 3) else if intAt cs (off + Int.toNat i * 5 + 2) > intAt cs (off + Int.toNat i * 5 + 1) then intAt cs (off + Int.toNat i * 5 + 2) else intAt cs (off + Int.toNat i * 5 + 1)) ≥ (8 : Int)) == false) = true → (decide (IntKind.wrap IntKind.i64 (intAt cs (off + Int.toNat i * 5 + 4)) ≥ (↑n : Int)) = true → (!decide (i ≥ (0 : Int))) = r) ∧ (decide (IntKind.wrap IntKind.i64 (intAt cs (off + Int.toNat i * 5 + 4)) ≥ (↑n : Int)) = false → Q (ari BinOp.add IntKind.i64 i (1 : Int)) ∧ CallKind.normal = CallKind.normal ∧ TodoOk (ren 1 [(1, 1)]) mH0 mH0 ∧ off = off ∧ n = n ∧ Fn.func (13 : Nat) = Fn.func (13 : Nat) ∧ (↑n : Int) = (↑n : Int) ∧ ari BinOp.add IntKind.i64 i (1 : Int) = ari BinOp.add IntKind.i64 i (1 : Int) ∧ off = off ∧ n = n ∧ CallKind.normal = CallKind.normal ∧ TodoOk (ren 1 [(1, 1)]) mT1 mT1 ∧ off = off ∧ n = n ∧ Fn.func (13 : Nat) = Fn.func (13 : Nat) ∧ off = off ∧ n = n ∧ Fn.func (13 : Nat) = Fn.func (13 : Nat) ∧ CallKind.normal = CallKind.normal ∧ TodoOk (ren 1 [(1, 1)]) mT2 mT2 ∧ off = off ∧ n = n ∧ Fn.func (13 : Nat) = Fn.func (13 : Nat) ∧ decide ((↑n : Int) ≤ (64 : Int)) = decide ((↑n : Int) ≤ (64 : Int)) ∧ off = off ∧ n = n ∧ off = off ∧ n = n ∧ Fn.func (13 : Nat) = Fn.func (13 : Nat) ∧ (↑n : Int) = (↑n : Int) ∧ Fn.func (13 : Nat) = Fn.func (13 : Nat) ∧ ty = ty ∧ cs = cs ∧ (22 : Nat) = (22 : Nat) ∧ off = off ∧ n = n ∧ True)) ∧ ((decide ((if intAt cs (off + Int.toNat i * 5 + 3) > if intAt cs (off + Int.toNat i * 5 + 2) > intAt cs (off + Int.toNat i * 5 + 1) then intAt cs (off + Int.toNat i * 5 + 2) else intAt cs (off + Int.toNat i * 5 + 1) then intAt cs (off + Int.toNat i * 5 + 3) else if intAt cs (off + Int.toNat i * 5 + 2) > intAt cs (off + Int.toNat i * 5 + 1) then intAt cs (off + Int.toNat i * 5 + 2) else intAt cs (off + Int.toNat i * 5 + 1)) ≥ (8 : Int)) == false) = false → (!decide (i ≥ (0 : Int))) = r)))) ∧ (decide (i < (↑n : Int)) = false → (!decide ((-1 : Int) ≥ (0 : Int))) = r)) := by kernel_rfl
theorem may_step_p (off n : Nat) (cs : Array Value) (ty : TypeId) (r : Bool) (i : Int) (Q : Int → Prop) : (gS EM 1 (mayC off n) (prM false cs ty) [(8, i64 (.o i))] []).vc (boolR r) (mayN true false off n cs ty Q) =
    ((decide (i < (↑n : Int)) = true → (((0 : Int) ≤ i ∧ i < (↑n : Int)) ∧ True) ∧ (IsInt IntKind.u8 cs (off + Int.toNat i * 5) ∧ IsInt IntKind.u8 cs (off + Int.toNat i * 5 + 1) ∧ IsInt IntKind.u8 cs (off + Int.toNat i * 5 + 2) ∧ IsInt IntKind.u8 cs (off + Int.toNat i * 5 + 3) ∧ IsInt IntKind.u16 cs (off + Int.toNat i * 5 + 4) ∧ True) ∧ (((intAt cs (off + Int.toNat i * 5) == (5 : Int)) == false) = true → ((decide (intAt cs (off + Int.toNat i * 5) ≤ (6 : Int)) == false) = true → ((decide (intAt cs (off + Int.toNat i * 5) > (16 : Int)) == true) = true → (((!decide (intAt cs (off + Int.toNat i * 5) ≤ (38 : Int))) == false) = true → ((decide ((if intAt cs (off + Int.toNat i * 5 + 3) > if intAt cs (off + Int.toNat i * 5 + 2) > intAt cs (off + Int.toNat i * 5 + 1) then intAt cs (off + Int.toNat i * 5 + 2) else intAt cs (off + Int.toNat i * 5 + 1) then intAt cs (off + Int.toNat i * 5 + 3) else if intAt cs (off + Int.toNat i * 5 + 2) > intAt cs (off + Int.toNat i * 5 + 1) then intAt cs (off + Int.toNat i * 5 + 2) else intAt cs (off + Int.toNat i * 5 + 1)) ≥ (8 : Int)) == false) = true → (((intAt cs (off + Int.toNat i * 5) == (6 : Int)) == true) = true → (decide (IntKind.wrap IntKind.i64 (intAt cs (off + Int.toNat i * 5 + 4)) ≥ (↑n : Int)) = true → (!decide (i ≥ (0 : Int))) = r) ∧ (decide (IntKind.wrap IntKind.i64 (intAt cs (off + Int.toNat i * 5 + 4)) ≥ (↑n : Int)) = false → Q (ari BinOp.add IntKind.i64 i (1 : Int)) ∧ CallKind.normal = CallKind.normal ∧ TodoOk (ren 1 [(1, 1)]) mH0 mH0 ∧ off = off ∧ n = n ∧ Fn.func (13 : Nat) = Fn.func (13 : Nat) ∧ (↑n : Int) = (↑n : Int) ∧ ari BinOp.add IntKind.i64 i (1 : Int) = ari BinOp.add IntKind.i64 i (1 : Int) ∧ off = off ∧ n = n ∧ CallKind.normal = CallKind.normal ∧ TodoOk (ren 1 [(1, 1)]) mT1 mT1 ∧ off = off ∧ n = n ∧ Fn.func (13 : Nat) = Fn.func (13 : Nat) ∧ off = off ∧ n = n ∧ Fn.func (13 : Nat) = Fn.func (13 : Nat) ∧ CallKind.normal = CallKind.normal ∧ TodoOk (ren 1 [(1, 1)]) mT2 mT2 ∧ off = off ∧ n = n ∧ Fn.func (13 : Nat) = Fn.func (13 : Nat) ∧ decide ((↑n : Int) ≤ (64 : Int)) = decide ((↑n : Int) ≤ (64 : Int)) ∧ off = off ∧ n = n ∧ off = off ∧ n = n ∧ Fn.func (13 : Nat) = Fn.func (13 : Nat) ∧ (↑n : Int) = (↑n : Int) ∧ Fn.func (13 : Nat) = Fn.func (13 : Nat) ∧ ty = ty ∧ cs = cs ∧ (22 : Nat) = (22 : Nat) ∧ off = off ∧ n = n ∧ True)) ∧ (((intAt cs (off + Int.toNat i * 5) == (6 : Int)) == true) = false → Q (ari BinOp.add IntKind.i64 i (1 : Int)) ∧ CallKind.normal = CallKind.normal ∧ TodoOk (ren 1 [(1, 1)]) mH0 mH0 ∧ off = off ∧ n = n ∧ Fn.func (13 : Nat) = Fn.func (13 : Nat) ∧ (↑n : Int) = (↑n : Int) ∧ ari BinOp.add IntKind.i64 i (1 : Int) = ari BinOp.add IntKind.i64 i (1 : Int) ∧ off = off ∧ n = n ∧ CallKind.normal = CallKind.normal ∧ TodoOk (ren 1 [(1, 1)]) mT1 mT1 ∧ off = off ∧ n = n ∧ Fn.func (13 : Nat) = Fn.func (13 : Nat) ∧ off = off ∧ n = n ∧ Fn.func (13 : Nat) = Fn.func (13 : Nat) ∧ CallKind.normal = CallKind.normal ∧ TodoOk (ren 1 [(1, 1)]) mT2 mT2 ∧ off = off ∧ n = n ∧ Fn.func (13 : Nat) = Fn.func (13 : Nat) ∧ decide ((↑n : Int) ≤ (64 : Int)) = decide ((↑n : Int) ≤ (64 : Int)) ∧ off = off ∧ n = n ∧ off = off ∧ n = n ∧ Fn.func (13 : Nat) = Fn.func (13 : Nat) ∧ (↑n : Int) = (↑n : Int) ∧ Fn.func (13 : Nat) = Fn.func (13 : Nat) ∧ ty = ty ∧ cs = cs ∧ (22 : Nat) = (22 : Nat) ∧ off = off ∧ n = n ∧ True)) ∧ ((decide ((if intAt cs (off + Int.toNat i * 5 + 3) > if intAt cs (off + Int.toNat i * 5 + 2) > intAt cs (off + Int.toNat i * 5 + 1) then intAt cs (off + Int.toNat i * 5 + 2) else intAt cs (off + Int.toNat i * 5 + 1) then intAt cs (off + Int.toNat i * 5 + 3) else if intAt cs (off + Int.toNat i * 5 + 2) > intAt cs (off + Int.toNat i * 5 + 1) then intAt cs (off + Int.toNat i * 5 + 2) else intAt cs (off + Int.toNat i * 5 + 1)) ≥ (8 : Int)) == false) = false → (!decide (i ≥ (0 : Int))) = r)) ∧ (((!decide (intAt cs (off + Int.toNat i * 5) ≤ (38 : Int))) == false) = false → (!decide (i ≥ (0 : Int))) = r)) ∧ ((decide (intAt cs (off + Int.toNat i * 5) > (16 : Int)) == true) = false → (!decide (i ≥ (0 : Int))) = r)) ∧ ((decide (intAt cs (off + Int.toNat i * 5) ≤ (6 : Int)) == false) = false → ((decide ((if intAt cs (off + Int.toNat i * 5 + 3) > if intAt cs (off + Int.toNat i * 5 + 2) > intAt cs (off + Int.toNat i * 5 + 1) then intAt cs (off + Int.toNat i * 5 + 2) else intAt cs (off + Int.toNat i * 5 + 1) then intAt cs (off + Int.toNat i * 5 + 3) else if intAt cs (off + Int.toNat i * 5 + 2) > intAt cs (off + Int.toNat i * 5 + 1) then intAt cs (off + Int.toNat i * 5 + 2) else intAt cs (off + Int.toNat i * 5 + 1)) ≥ (8 : Int)) == false) = true → (((intAt cs (off + Int.toNat i * 5) == (6 : Int)) == true) = true → (decide (IntKind.wrap IntKind.i64 (intAt cs (off + Int.toNat i * 5 + 4)) ≥ (↑n : Int)) = true → (!decide (i ≥ (0 : Int))) = r) ∧ (decide (IntKind.wrap IntKind.i64 (intAt cs (off + Int.toNat i * 5 + 4)) ≥ (↑n : Int)) = false → Q (ari BinOp.add IntKind.i64 i (1 : Int)) ∧ CallKind.normal = CallKind.normal ∧ TodoOk (ren 1 [(1, 1)]) mH0 mH0 ∧ off = off ∧ n = n ∧ Fn.func (13 : Nat) = Fn.func (13 : Nat) ∧ (↑n : Int) = (↑n : Int) ∧ ari BinOp.add IntKind.i64 i (1 : Int) = ari BinOp.add IntKind.i64 i (1 : Int) ∧ off = off ∧ n = n ∧ CallKind.normal = CallKind.normal ∧ TodoOk (ren 1 [(1, 1)]) mT1 mT1 ∧ off = off ∧ n = n ∧ Fn.func (13 : Nat) = Fn.func (13 : Nat) ∧ off = off ∧ n = n ∧ Fn.func (13 : Nat) = Fn.func (13 : Nat) ∧ CallKind.normal = CallKind.normal ∧ TodoOk (ren 1 [(1, 1)]) mT2 mT2 ∧ off = off ∧ n = n ∧ Fn.func (13 : Nat) = Fn.func (13 : Nat) ∧ decide ((↑n : Int) ≤ (64 : Int)) = decide ((↑n : Int) ≤ (64 : Int)) ∧ off = off ∧ n = n ∧ off = off ∧ n = n ∧ Fn.func (13 : Nat) = Fn.func (13 : Nat) ∧ (↑n : Int) = (↑n : Int) ∧ Fn.func (13 : Nat) = Fn.func (13 : Nat) ∧ ty = ty ∧ cs = cs ∧ (22 : Nat) = (22 : Nat) ∧ off = off ∧ n = n ∧ True)) ∧ (((intAt cs (off + Int.toNat i * 5) == (6 : Int)) == true) = false → Q (ari BinOp.add IntKind.i64 i (1 : Int)) ∧ CallKind.normal = CallKind.normal ∧ TodoOk (ren 1 [(1, 1)]) mH0 mH0 ∧ off = off ∧ n = n ∧ Fn.func (13 : Nat) = Fn.func (13 : Nat) ∧ (↑n : Int) = (↑n : Int) ∧ ari BinOp.add IntKind.i64 i (1 : Int) = ari BinOp.add IntKind.i64 i (1 : Int) ∧ off = off ∧ n = n ∧ CallKind.normal = CallKind.normal ∧ TodoOk (ren 1 [(1, 1)]) mT1 mT1 ∧ off = off ∧ n = n ∧ Fn.func (13 : Nat) = Fn.func (13 : Nat) ∧ off = off ∧ n = n ∧ Fn.func (13 : Nat) = Fn.func (13 : Nat) ∧ CallKind.normal = CallKind.normal ∧ TodoOk (ren 1 [(1, 1)]) mT2 mT2 ∧ off = off ∧ n = n ∧ Fn.func (13 : Nat) = Fn.func (13 : Nat) ∧ decide ((↑n : Int) ≤ (64 : Int)) = decide ((↑n : Int) ≤ (64 : Int)) ∧ off = off ∧ n = n ∧ off = off ∧ n = n ∧ Fn.func (13 : Nat) = Fn.func (13 : Nat) ∧ (↑n : Int) = (↑n : Int) ∧ Fn.func (13 : Nat) = Fn.func (13 : Nat) ∧ ty = ty ∧ cs = cs ∧ (22 : Nat) = (22 : Nat) ∧ off = off ∧ n = n ∧ True)) ∧ ((decide ((if intAt cs (off + Int.toNat i * 5 + 3) > if intAt cs (off + Int.toNat i * 5 + 2) > intAt cs (off + Int.toNat i * 5 + 1) then intAt cs (off + Int.toNat i * 5 + 2) else intAt cs (off + Int.toNat i * 5 + 1) then intAt cs (off + Int.toNat i * 5 + 3) else if intAt cs (off + Int.toNat i * 5 + 2) > intAt cs (off + Int.toNat i * 5 + 1) then intAt cs (off + Int.toNat i * 5 + 2) else intAt cs (off + Int.toNat i * 5 + 1)) ≥ (8 : Int)) == false) = false → (!decide (i ≥ (0 : Int))) = r))) ∧ (((intAt cs (off + Int.toNat i * 5) == (5 : Int)) == false) = false → ((decide (intAt cs (off + Int.toNat i * 5) ≤ (6 : Int)) == false) = true → ((decide (intAt cs (off + Int.toNat i * 5) > (16 : Int)) == true) = true → (((!decide (intAt cs (off + Int.toNat i * 5) ≤ (38 : Int))) == false) = true → ((decide ((if intAt cs (off + Int.toNat i * 5 + 3) > if intAt cs (off + Int.toNat i * 5 + 2) > intAt cs (off + Int.toNat i * 5 + 1) then intAt cs (off + Int.toNat i * 5 + 2) else intAt cs (off + Int.toNat i * 5 + 1) then intAt cs (off + Int.toNat i * 5 + 3) else if intAt cs (off + Int.toNat i * 5 + 2) > intAt cs (off + Int.toNat i * 5 + 1) then intAt cs (off + Int.toNat i * 5 + 2) else intAt cs (off + Int.toNat i * 5 + 1)) ≥ (8 : Int)) == false) = true → (decide (IntKind.wrap IntKind.i64 (intAt cs (off + Int.toNat i * 5 + 4)) ≥ (↑n : Int)) = true → (!decide (i ≥ (0 : Int))) = r) ∧ (decide (IntKind.wrap IntKind.i64 (intAt cs (off + Int.toNat i * 5 + 4)) ≥ (↑n : Int)) = false → Q (ari BinOp.add IntKind.i64 i (1 : Int)) ∧ CallKind.normal = CallKind.normal ∧ TodoOk (ren 1 [(1, 1)]) mH0 mH0 ∧ off = off ∧ n = n ∧ Fn.func (13 : Nat) = Fn.func (13 : Nat) ∧ (↑n : Int) = (↑n : Int) ∧ ari BinOp.add IntKind.i64 i (1 : Int) = ari BinOp.add IntKind.i64 i (1 : Int) ∧ off = off ∧ n = n ∧ CallKind.normal = CallKind.normal ∧ TodoOk (ren 1 [(1, 1)]) mT1 mT1 ∧ off = off ∧ n = n ∧ Fn.func (13 : Nat) = Fn.func (13 : Nat) ∧ off = off ∧ n = n ∧ Fn.func (13 : Nat) = Fn.func (13 : Nat) ∧ CallKind.normal = CallKind.normal ∧ TodoOk (ren 1 [(1, 1)]) mT2 mT2 ∧ off = off ∧ n = n ∧ Fn.func (13 : Nat) = Fn.func (13 : Nat) ∧ decide ((↑n : Int) ≤ (64 : Int)) = decide ((↑n : Int) ≤ (64 : Int)) ∧ off = off ∧ n = n ∧ off = off ∧ n = n ∧ Fn.func (13 : Nat) = Fn.func (13 : Nat) ∧ (↑n : Int) = (↑n : Int) ∧ Fn.func (13 : Nat) = Fn.func (13 : Nat) ∧ ty = ty ∧ cs = cs ∧ (22 : Nat) = (22 : Nat) ∧ off = off ∧ n = n ∧ True)) ∧ ((decide ((if intAt cs (off + Int.toNat i * 5 + 3) > if intAt cs (off + Int.toNat i * 5 + 2) > intAt cs (off + Int.toNat i * 5 + 1) then intAt cs (off + Int.toNat i * 5 + 2) else intAt cs (off + Int.toNat i * 5 + 1) then intAt cs (off + Int.toNat i * 5 + 3) else if intAt cs (off + Int.toNat i * 5 + 2) > intAt cs (off + Int.toNat i * 5 + 1) then intAt cs (off + Int.toNat i * 5 + 2) else intAt cs (off + Int.toNat i * 5 + 1)) ≥ (8 : Int)) == false) = false → (!decide (i ≥ (0 : Int))) = r)) ∧ (((!decide (intAt cs (off + Int.toNat i * 5) ≤ (38 : Int))) == false) = false → (!decide (i ≥ (0 : Int))) = r)) ∧ ((decide (intAt cs (off + Int.toNat i * 5) > (16 : Int)) == true) = false → (!decide (i ≥ (0 : Int))) = r)) ∧ ((decide (intAt cs (off + Int.toNat i * 5) ≤ (6 : Int)) == false) = false → ((decide ((if intAt cs (off + Int.toNat i * 5 + 3) > if intAt cs (off + Int.toNat i * 5 + 2) > intAt cs (off + Int.toNat i * 5 + 1) then intAt cs (off + Int.toNat i * 5 + 2) else intAt cs (off + Int.toNat i * 5 + 1) then intAt cs (off + Int.toNat i * 5 + 3) else if intAt cs (off + Int.toNat i * 5 + 2) > intAt cs (off + Int.toNat i * 5 + 1) then intAt cs (off + Int.toNat i * 5 + 2) else intAt cs (off + Int.toNat i * 5 + 1)) ≥ (8 : Int)) == false) = true → (decide (IntKind.wrap IntKind.i64 (intAt cs (off + Int.toNat i * 5 + 4)) ≥ (↑n : Int)) = true → (!decide (i ≥ (0 : Int))) = r) ∧ (decide (IntKind.wrap IntKind.i64 (intAt cs (off + Int.toNat i * 5 + 4)) ≥ (↑n : Int)) = false → Q (ari BinOp.add IntKind.i64 i (1 : Int)) ∧ CallKind.normal = CallKind.normal ∧ TodoOk (ren 1 [(1, 1)]) mH0 mH0 ∧ off = off ∧ n = n ∧ Fn.func (13 : Nat) = Fn.func (13 : Nat) ∧ (↑n : Int) = (↑n : Int) ∧ ari BinOp.add IntKind.i64 i (1 : Int) = ari BinOp.add IntKind.i64 i (1 : Int) ∧ off = off ∧ n = n ∧ CallKind.normal = CallKind.normal ∧ TodoOk (ren 1 [(1, 1)]) mT1 mT1 ∧ off = off ∧ n = n ∧ Fn.func (13 : Nat) = Fn.func (13 : Nat) ∧ off = off ∧ n = n ∧ Fn.func (13 : Nat) = Fn.func (13 : Nat) ∧ CallKind.normal = CallKind.normal ∧ TodoOk (ren 1 [(1, 1)]) mT2 mT2 ∧ off = off ∧ n = n ∧ Fn.func (13 : Nat) = Fn.func (13 : Nat) ∧ decide ((↑n : Int) ≤ (64 : Int)) = decide ((↑n : Int) ≤ (64 : Int)) ∧ off = off ∧ n = n ∧ off = off ∧ n = n ∧ Fn.func (13 : Nat) = Fn.func (13 : Nat) ∧ (↑n : Int) = (↑n : Int) ∧ Fn.func (13 : Nat) = Fn.func (13 : Nat) ∧ ty = ty ∧ cs = cs ∧ (22 : Nat) = (22 : Nat) ∧ off = off ∧ n = n ∧ True)) ∧ ((decide ((if intAt cs (off + Int.toNat i * 5 + 3) > if intAt cs (off + Int.toNat i * 5 + 2) > intAt cs (off + Int.toNat i * 5 + 1) then intAt cs (off + Int.toNat i * 5 + 2) else intAt cs (off + Int.toNat i * 5 + 1) then intAt cs (off + Int.toNat i * 5 + 3) else if intAt cs (off + Int.toNat i * 5 + 2) > intAt cs (off + Int.toNat i * 5 + 1) then intAt cs (off + Int.toNat i * 5 + 2) else intAt cs (off + Int.toNat i * 5 + 1)) ≥ (8 : Int)) == false) = false → (!decide (i ≥ (0 : Int))) = r)))) ∧ (decide (i < (↑n : Int)) = false → (!decide ((-1 : Int) ≥ (0 : Int))) = r)) := by kernel_rfl
end Go.Proofs.Ytaagmmljhgabfaa
/- Of code: instructions, and what May answers. No condition. -/
namespace Go.Proofs.Ytaagmmljhgabfaa
set_option maxRecDepth 100000
structure Ins where
  o : Int
  a : Int
  b : Int
  c : Int
  n : Int
theorem Ins.ext' {x y : Ins} (h1 : x.o = y.o) (h2 : x.a = y.a) (h3 : x.b = y.b) (h4 : x.c = y.c) (h5 : x.n = y.n) : x = y := by cases x; cases y; simp_all
def ins (cs : Array Value) (off i : Nat) : Ins := ⟨intAt cs (off + i * 5), intAt cs (off + i * 5 + 1), intAt cs (off + i * 5 + 2), intAt cs (off + i * 5 + 3), intAt cs (off + i * 5 + 4)⟩
/-- An instruction's numbers are in their kinds' ranges. -/
def Ins.In (x : Ins) : Prop := (0 ≤ x.o ∧ x.o ≤ 255) ∧ (0 ≤ x.a ∧ x.a ≤ 255) ∧ (0 ≤ x.b ∧ x.b ≤ 255) ∧ (0 ≤ x.c ∧ x.c ≤ 255) ∧ (0 ≤ x.n ∧ x.n ≤ 65535)
def InsAt (cs : Array Value) (p : Nat) : Prop := IsInt .u8 cs p ∧ IsInt .u8 cs (p + 1) ∧ IsInt .u8 cs (p + 2) ∧ IsInt .u8 cs (p + 3) ∧ IsInt .u16 cs (p + 4)
def InsOk (cs : Array Value) (off n : Nat) : Prop := n < 9223372036854775807 ∧ ∀ i, i < n → InsAt cs (off + i * 5) ∧ (ins cs off i).In
def Ins.okN (x : Ins) (n : Nat) : Bool := decide ((x.o ≤ 6 ∨ (16 < x.o ∧ x.o ≤ 38)) ∧ x.a < 8 ∧ x.b < 8 ∧ x.c < 8 ∧ ¬ ((x.o = 5 ∨ x.o = 6) ∧ (n : Int) ≤ x.n))
theorem Ins.okN_iff {x : Ins} {n : Nat} : x.okN n = true ↔ (x.o ≤ 6 ∨ (16 < x.o ∧ x.o ≤ 38)) ∧ x.a < 8 ∧ x.b < 8 ∧ x.c < 8 ∧ ¬ ((x.o = 5 ∨ x.o = 6) ∧ (n : Int) ≤ x.n) := by unfold Ins.okN; rw [decide_eq_true_eq]
def allOk (cs : Array Value) (off N : Nat) : Nat → Bool
  | 0 => true
  | k + 1 => allOk cs off N k && (ins cs off k).okN N
theorem allOk_iff {cs : Array Value} {off N : Nat} : ∀ {k : Nat}, allOk cs off N k = true ↔ ∀ i, i < k → (ins cs off i).okN N = true
  | 0 => by simp [allOk]
  | k + 1 => by
    unfold allOk
    rw [Bool.and_eq_true, allOk_iff]
    refine ⟨fun h i hi => ?_, fun h => ⟨fun i hi => h i (by omega), h k (by omega)⟩⟩
    by_cases e : i = k
    · rw [e]; exact h.2
    · exact h.1 i (by omega)
def mayV (cs : Array Value) (off n : Nat) : Bool := decide (n ≤ 64) && allOk cs off n n
theorem mayV_iff {cs : Array Value} {off n : Nat} : mayV cs off n = true ↔ n ≤ 64 ∧ ∀ i, i < n → (ins cs off i).okN n = true := by
  unfold mayV
  rw [Bool.and_eq_true, decide_eq_true_eq, allOk_iff]
theorem i64_nat {k : Nat} (h : k < 9223372036854775807) : IntKind.i64.wrap ((k : Int) + 1) = ((k + 1 : Nat) : Int) := by
  rw [Go.IntWalk.i64_in _ (by omega)]; rfl
theorem mayN_good {h v : Bool} {off n : Nat} {cs : Array Value} {ty : TypeId} {A : SV → SMem → Prop} {Q : Int → Prop} (hg : ∀ i, Q i → Good EM.P A 1 (gH EM 1 (mayC off n) (prM v cs ty) [(8, i64 (.o i))]) (gM EM 1 (mayC off n) (prM v cs ty) [])) {fs : List SFr} {m : SMem} (hb : mayN h v off n cs ty Q fs m) : Good EM.P A 1 fs m := by
  unfold mayN at hb
  split at hb
  · split at hb
    · exact gN_good hb.2 (hg _ hb.1)
    · exact hb.elim
  · exact hb.elim
theorem mT0_ok : TodoOk (ren 1 [(1, 1)]) mT0 mT0 := TodoOk.same (by kernel_rfl)
theorem mH0_ok : TodoOk (ren 1 [(1, 1)]) mH0 mH0 := TodoOk.same (by kernel_rfl)
theorem mT1_ok : TodoOk (ren 1 [(1, 1)]) mT1 mT1 := TodoOk.same (by kernel_rfl)
theorem mT2_ok : TodoOk (ren 1 [(1, 1)]) mT2 mT2 := TodoOk.same (by kernel_rfl)
theorem max3 {a b c : Int} : (if c > if b > a then b else a then c else if b > a then b else a) ≥ 8 ↔ ¬ (a < 8 ∧ b < 8 ∧ c < 8) := by
  split <;> split <;> omega
theorem eqI {b : Bool} : ((b == true) = true) = (b = true) := by cases b <;> rfl
theorem gM_may (v : Bool) (off n : Nat) (cs : Array Value) (ty : TypeId) : gM EM 1 (mayC off n) (prM v cs ty) [] = gM EM 1 (mayC off n) (prM v cs ty) [] := rfl
section
variable (off n : Nat) (cs : Array Value) (ty : TypeId) (hI : InsOk cs off n)
include hI
theorem may_round {v : Bool} (hn : n ≤ 64)
    (step : ∀ (r : Bool) (i : Int) (Q : Int → Prop), (gS EM 1 (mayC off n) (prM v cs ty) [(8, i64 (.o i))] []).vc (boolR r) (mayN true v off n cs ty Q) = (gS EM 1 (mayC off n) (prM true cs ty) [(8, i64 (.o i))] []).vc (boolR r) (mayN true true off n cs ty Q)) :
    ∀ (k i : Nat), n - i < k → i ≤ n → (∀ j, j < i → (ins cs off j).okN n = true) → Good EM.P (boolR (mayV cs off n)) 1 (gH EM 1 (mayC off n) (prM v cs ty) [(8, i64 (.o i))]) (gM EM 1 (mayC off n) (prM v cs ty) []) := by
  intro k
  induction k with
  | zero => intro i h; omega
  | succ k ih =>
    intro i hk hi hd
    refine past_vc EM_ok 1000 ((step (mayV cs off n) i (fun i' => ∃ j : Nat, i' = j ∧ n - j < k ∧ j ≤ n ∧ ∀ t, t < j → (ins cs off t).okN n = true)).trans (may_step_r off n cs ty (mayV cs off n) i _)) ?_ (fun _ _ h => h)
      (fun fs m hb => mayN_good (fun i' ⟨j, e, k1, k2, k3⟩ => by rw [e]; exact ih j k1 k2 k3) hb)
    have hn64 : n < 9223372036854775807 := hI.1
    refine ⟨fun h => ?_, fun h => ?_⟩
    · have hlt : i < n := by simpa using h
      obtain ⟨⟨i1, i2, i3, i4, i5⟩, r1, r2, r3, r4, r5⟩ := hI.2 i hlt
      rw [Int.toNat_natCast]
      refine ⟨⟨⟨by omega, by omega⟩, trivial⟩, ⟨i1, i2, i3, i4, i5, trivial⟩, ?_⟩
      have hyes : (ins cs off i).okN n = true → ∃ j : Nat, ((i + 1 : Nat) : Int) = j ∧ n - j < k ∧ j ≤ n ∧ ∀ t, t < j → (ins cs off t).okN n = true := fun h => ⟨i + 1, rfl, by omega, by omega, fun t ht => by
        by_cases e : t = i
        · rw [e]; exact h
        · exact hd t (by omega)⟩
      have hno : ¬ (ins cs off i).okN n = true → (!decide ((i : Int) ≥ 0)) = mayV cs off n := fun h => by
        have e1 : decide ((i : Int) ≥ 0) = true := by simp
        have e2 : mayV cs off n = false := by
          cases e : mayV cs off n with
          | false => rfl
          | true => exact (h ((mayV_iff.1 e).2 i hlt)).elim
        rw [e1, e2]; rfl
      have eA : ari BinOp.add IntKind.i64 (i : Int) 1 = ((i + 1 : Nat) : Int) := by rw [ari_add, i64_nat (show i < 9223372036854775807 by omega)]
      rw [eA]
      generalize hYe : (∃ j : Nat, ((i + 1 : Nat) : Int) = j ∧ n - j < k ∧ j ≤ n ∧ ∀ t, t < j → (ins cs off t).okN n = true) = Y at hyes ⊢
      generalize hRe : ((!decide ((i : Int) ≥ 0)) = mayV cs off n) = Z at hno ⊢
      rw [Ins.okN_iff] at hyes hno
      simp only [ins] at hyes hno r1 r2 r3 r4 r5
      generalize intAt cs (off + i * 5) = xo at hyes hno r1 r2 r3 r4 r5 ⊢
      generalize intAt cs (off + i * 5 + 1) = xa at hyes hno r1 r2 r3 r4 r5 ⊢
      generalize intAt cs (off + i * 5 + 2) = xb at hyes hno r1 r2 r3 r4 r5 ⊢
      generalize intAt cs (off + i * 5 + 3) = xc at hyes hno r1 r2 r3 r4 r5 ⊢
      generalize intAt cs (off + i * 5 + 4) = xn at hyes hno r1 r2 r3 r4 r5 ⊢
      rw [Go.IntWalk.i64_in xn (by omega)]
      simp only [max3, eqI, beq_iff_eq, beq_eq_false_iff_ne, decide_eq_true_eq, decide_eq_false_iff_not, Bool.not_eq_eq_eq_not, Bool.not_true, Bool.not_false, ne_eq]
      clear hYe hRe step ih hd
      repeat' first | apply And.intro | (intro hh)
      all_goals first | exact trivial | exact mH0_ok | exact mT1_ok | exact mT2_ok | exact rfl | skip
      all_goals first | (refine hyes ?_; omega) | (refine hno ?_; omega) | skip
    · have h1 : ¬ i < n := by simpa using h
      have e : mayV cs off n = true := mayV_iff.2 ⟨hn, fun j hj => hd j (by omega)⟩
      rw [e]
      rfl
end
end Go.Proofs.Ytaagmmljhgabfaa
/- Of code: what the functions promise, and the states of Encode and Decode. No condition. -/
namespace Go.Proofs.Ytaagmmljhgabfaa
noncomputable section
def nilV : SV := .s (.c (.f (.lit (.slice none 0 0))))
/-- A row of instructions. -/
def rowI (m : SMem) (i : Nat) : Option (Array Value) := match getB m.bl i with
  | some ⟨.raw cs, _, _⟩ => some cs
  | some ⟨.pop cs, _, _⟩ => some cs
  | _ => none
def mayT (m : SMem) : SV → Option Tree
  | .s (.c (.f (.lit (.slice none 0 0)))) => some (.ret (sB (.l true)) m)
  | .s (.c (.f .e0)) => some (.ret (sB (.l true)) m)
  | .s (.c (.f (.slice i o n _))) => match rowI m i with
    | some cs => some (needs [InsOk cs o.den n.den] (.ret (sB (.o (mayV cs o.den n.den))) m))
    | none => none
  | _ => none
def con9 (g : FuncId) (l : List SV) (m : SMem) : Option Tree := match g, l with
  | 5, [] => some (needs [] (.ret (sB (.l true)) m))
  | 9, [x] => mayT m x
  | _, _ => none
def E9 : Env := ⟨Try.prog, fnOf, con9, fun _ _ x => isLoop x⟩
/-! Encode. -/
def u8V (n : Int) : Value := .int .u8 n
def six (x : Ins) : List Value := [u8V x.o, u8V x.a, u8V x.b, u8V x.c, u8V (IntKind.u8.wrap x.n), u8V (IntKind.u8.wrap (ari .shr .u16 x.n 8))]
def encC (off n : Nat) : List SFr := [callFr 6 Try.f6.ntmps [prS off n] (Try.f6.body.getD .skip)]
def encF (v : Bool) (off n : Nat) (cs : Array Value) (ty : TypeId) (i : Int) (k : Nat) : List SFr := gF E9 1 (encC off n) (prM v cs ty) [(12, i64 (.o i)), (4, .s (.c (.f (.slice 1 (.l 0) (.o k) (.full 1)))))]
def encM (v : Bool) (cs : Array Value) (ty : TypeId) (bs : Array Value) : SMem := ⟨2, ((Tr.nil : Tr SBlk).set 0 (some ⟨prA v cs, ty, false⟩)).set 1 (some ⟨.pop bs, 5, true⟩), []⟩
def encS (v : Bool) (off n : Nat) (cs : Array Value) (ty : TypeId) (i : Int) (k : Nat) (bs : Array Value) : Tree := stepT E9.go (run E9 1000) 1 (headF (encF v off n cs ty i k)) (encM v cs ty bs)
def encN (v : Bool) (off n : Nat) (cs : Array Value) (ty : TypeId) (Q : Int → Nat → Array Value → Prop) (fs : List SFr) (m : SMem) : Prop := match fs with
  | f :: _ => match rdI f 12, rdS f 4 m with
    | some i, some (some (sid, k, bs)) => Q i k bs ∧ subOk 1 [(1, sid)] (headF (encF v off n cs ty i k)) (encM v cs ty bs) fs m
    | _, _ => False
  | [] => False
def encN0 (v : Bool) (off n : Nat) (cs : Array Value) (ty : TypeId) (Q : Int → Prop) (fs : List SFr) (m : SMem) : Prop := match fs with
  | f :: _ => match rdI f 12 with
    | some i => Q i ∧ gN E9 1 (encC off n) (prM v cs ty) false [(12, i64 (.o i))] [] fs m
    | _ => False
  | [] => False
def strF (x : SF) (b : ByteArray) : Prop := match x with
  | .lit (.string s) => s = b
  | .opq (.string s) => s = b
  | _ => False
def encA (b : ByteArray) (e : Int) (s : SV) (_ : SMem) : Prop := match s with
  | .tup [.c (.f x), .c (.f (.int .i64 y))] => strF x b ∧ y.den = e
  | _ => False
def eT0 : List SIt := headTd (gF E9 1 (encC 0 0) (prM true #[] 41) [])
def eH0 : List SIt := headTd (gH E9 1 (encC 0 0) (prM true #[] 41) [])
end
end Go.Proofs.Ytaagmmljhgabfaa
/- Of code: the states of Decode. No condition. -/
namespace Go.Proofs.Ytaagmmljhgabfaa
noncomputable section
def strV (s : ByteArray) : SV := .s (.c (.f (.opq (.string s))))
def decC (s : ByteArray) : List SFr := [callFr 11 Try.f11.ntmps [strV s] (Try.f11.body.getD .skip)]
def M0 : SMem := ⟨0, .nil, []⟩
def xsA (x0 x1 x2 x3 x4 x5 : Int) : SA := .ls [.f (.int .u8 (.o x0)), .f (.int .u8 (.o x1)), .f (.int .u8 (.o x2)), .f (.int .u8 (.o x3)), .f (.int .u8 (.o x4)), .f (.int .u8 (.o x5))]
def rdX (m : SMem) (id : Nat) : Option (Int × Int × Int × Int × Int × Int) := match getB m.bl id with
  | some ⟨.ls [.f (.int _ a), .f (.int _ b), .f (.int _ c), .f (.int _ d), .f (.int _ e), .f (.int _ g)], _, _⟩ => some (a.den, b.den, c.den, d.den, e.den, g.den)
  | _ => none
/-- With no row yet. -/
def decH0 (s : ByteArray) (i : Int) : List SFr := gH E9 0 (decC s) M0 [(6, i64 (.o i))]
def decM0 (s : ByteArray) (x0 x1 x2 x3 x4 x5 : Int) : SMem := gM E9 0 (decC s) M0 [(0, xsA x0 x1 x2 x3 x4 x5)]
def decH1 (s : ByteArray) (i : Int) (k : Nat) : List SFr := gH E9 0 (decC s) M0 [(6, i64 (.o i)), (4, .s (.c (.f (.slice 1 (.l 0) (.o k) (.full 5)))))]
def decM1 (s : ByteArray) (x0 x1 x2 x3 x4 x5 : Int) (cs : Array Value) : SMem := ⟨2, (decM0 s x0 x1 x2 x3 x4 x5).bl.set 1 (some ⟨.pop cs, 41, true⟩), []⟩
def decS0 (s : ByteArray) (i x0 x1 x2 x3 x4 x5 : Int) : Tree := stepT E9.go (run E9 1000) 0 (decH0 s i) (decM0 s x0 x1 x2 x3 x4 x5)
def decS1 (s : ByteArray) (i x0 x1 x2 x3 x4 x5 : Int) (k : Nat) (cs : Array Value) : Tree := stepT E9.go (run E9 1000) 0 (decH1 s i k) (decM1 s x0 x1 x2 x3 x4 x5 cs)
def decN0 (s : ByteArray) (Q : Int → Prop) (fs : List SFr) (m : SMem) : Prop := match fs with
  | f :: _ => match rdI f 6, rdX m 0 with
    | some i, some (a, b, c, d, e, g) => Q i ∧ subOk 0 [(0, 0)] (gF E9 0 (decC s) M0 [(6, i64 (.o i))]) (decM0 s a b c d e g) fs m
    | _, _ => False
  | [] => False
def decN1 (s : ByteArray) (Q : Int → Nat → Array Value → Prop) (fs : List SFr) (m : SMem) : Prop := match fs with
  | f :: _ => match rdI f 6, rdX m 0, rdS f 4 m with
    | some i, some (a, b, c, d, e, g), some (some (sid, k, cs)) => Q i k cs ∧ subOk 0 [(0, 0), (1, sid)] (decH1 s i k) (decM1 s a b c d e g cs) fs m
    | _, _, _ => False
  | [] => False
/-- What Decode answers: nothing and a number, or a row. -/
def decA (e : Int) (k : Nat) (cs : Array Value) (s : SV) (m : SMem) : Prop := match s with
  | .tup [.c (.f (.lit (.slice none 0 0))), .c (.f (.int .i64 y))] => y.den = 3 ∧ e = 3
  | .tup [.c (.f (.slice sid _ _ _)), .c (.f (.int _ _))] => e = 0 ∧ retOk 0 [(0, sid)] (.tup [.c (.f (.slice 0 (.l 0) (.o k) .any)), .c (.f (.int .i64 (.l 0)))]) ⟨1, Tr.nil.set 0 (some ⟨.pop cs, 41, true⟩), []⟩ s m
  | _ => False
def dT0 : List SIt := headTd (gF E9 0 (decC .empty) M0 [])
def dH0 : List SIt := headTd (gH E9 0 (decC .empty) M0 [])
end
end Go.Proofs.Ytaagmmljhgabfaa
/- Of code: the rounds of Decode, as propositions. No condition. -/
namespace Go.Proofs.Ytaagmmljhgabfaa
set_option maxRecDepth 100000
theorem dec_start (s : ByteArray) (e : Int) (k : Nat) (cs : Array Value) (Q : Int → Prop) : (gR E9 0 (decC s) M0).vc (decA e k cs) (decN0 s Q) =
    ((((ari BinOp.rem IntKind.i64 ((↑(ByteArray.size s) : Int)) (6 : Int) != (0 : Int)) == false) = true → (decide (((↑(ByteArray.size s) : Int)) > (384 : Int)) = true → (3 : Int) = (3 : Int) ∧ e = (3 : Int)) ∧ (decide (((↑(ByteArray.size s) : Int)) > (384 : Int)) = false → Q (0 : Int) ∧ CallKind.normal = CallKind.normal ∧ TodoOk (ren 0 [(0, 0)]) dT0 dT0 ∧ Value.string s = Value.string s ∧ Value.string s = Value.string s ∧ ari BinOp.rem IntKind.i64 ((↑(ByteArray.size s) : Int)) (6 : Int) = ari BinOp.rem IntKind.i64 ((↑(ByteArray.size s) : Int)) (6 : Int) ∧ (((↑(ByteArray.size s) : Int)) = (↑(ByteArray.size s) : Int)) ∧ Value.slice none (0 : Nat) (0 : Nat) = Value.slice none (0 : Nat) (0 : Nat) ∧ Value.slice none (0 : Nat) (0 : Nat) = Value.slice none (0 : Nat) (0 : Nat) ∧ (((↑(ByteArray.size s) : Int)) = (↑(ByteArray.size s) : Int)) ∧ Value.string s = Value.string s ∧ (0 : Int) = (0 : Int) ∧ (ari BinOp.rem IntKind.i64 ((↑(ByteArray.size s) : Int)) (6 : Int) != (0 : Int)) = (ari BinOp.rem IntKind.i64 ((↑(ByteArray.size s) : Int)) (6 : Int) != (0 : Int)) ∧ decide (((↑(ByteArray.size s) : Int)) > (384 : Int)) = decide (((↑(ByteArray.size s) : Int)) > (384 : Int)) ∧ (47 : Nat) = (47 : Nat) ∧ (0 : Int) = (0 : Int) ∧ (0 : Int) = (0 : Int) ∧ (0 : Int) = (0 : Int) ∧ (0 : Int) = (0 : Int) ∧ (0 : Int) = (0 : Int) ∧ (0 : Int) = (0 : Int) ∧ True)) ∧ (((ari BinOp.rem IntKind.i64 ((↑(ByteArray.size s) : Int)) (6 : Int) != (0 : Int)) == false) = false → (3 : Int) = (3 : Int) ∧ e = (3 : Int))) := by kernel_rfl
theorem dec_nil (s : ByteArray) (e : Int) (kF : Nat) (csF : Array Value) (i x0 x1 x2 x3 x4 x5 : Int) (Q : Int → Nat → Array Value → Prop) : (decS0 s i x0 x1 x2 x3 x4 x5).vc (decA e kF csF) (decN1 s Q) =
    ((decide (i < (↑(ByteArray.size s) : Int)) = true → ((0 : Int) ≤ i ∧ (Int.toNat i ≤ ByteArray.size s) ∧ True) ∧ ((6 : Nat) ≤ ByteArray.size (ByteArray.extract s (Int.toNat i) (ByteArray.size s)) ∧ True) ∧ Q (ari BinOp.add IntKind.i64 i (6 : Int)) (1 : Nat) #[Value.int IntKind.u8 (byteAt (ByteArray.extract s (Int.toNat i) (ByteArray.size s)) (0 : Nat)), Value.int IntKind.u8 (byteAt (ByteArray.extract s (Int.toNat i) (ByteArray.size s)) (1 : Nat)), Value.int IntKind.u8 (byteAt (ByteArray.extract s (Int.toNat i) (ByteArray.size s)) (2 : Nat)), Value.int IntKind.u8 (byteAt (ByteArray.extract s (Int.toNat i) (ByteArray.size s)) (3 : Nat)), Value.int IntKind.u16 (ari BinOp.or IntKind.u16 (IntKind.wrap IntKind.u16 (byteAt (ByteArray.extract s (Int.toNat i) (ByteArray.size s)) (4 : Nat))) (ari BinOp.shl IntKind.u16 (IntKind.wrap IntKind.u16 (byteAt (ByteArray.extract s (Int.toNat i) (ByteArray.size s)) (5 : Nat))) (8 : Int)))] ∧ CallKind.normal = CallKind.normal ∧ TodoOk (ren 0 [(0, 0), (1, 2)]) dH0 dH0 ∧ Value.string s = Value.string s ∧ Value.string s = Value.string s ∧ ari BinOp.rem IntKind.i64 ((↑(ByteArray.size s) : Int)) (6 : Int) = ari BinOp.rem IntKind.i64 ((↑(ByteArray.size s) : Int)) (6 : Int) ∧ (((↑(ByteArray.size s) : Int)) = (↑(ByteArray.size s) : Int)) ∧ Value.slice none (0 : Nat) (0 : Nat) = Value.slice none (0 : Nat) (0 : Nat) ∧ (1 : Nat) = (1 : Nat) ∧ (((↑(ByteArray.size s) : Int)) = (↑(ByteArray.size s) : Int)) ∧ Value.string s = Value.string s ∧ ari BinOp.add IntKind.i64 i (6 : Int) = ari BinOp.add IntKind.i64 i (6 : Int) ∧ (ari BinOp.rem IntKind.i64 ((↑(ByteArray.size s) : Int)) (6 : Int) != (0 : Int)) = (ari BinOp.rem IntKind.i64 ((↑(ByteArray.size s) : Int)) (6 : Int) != (0 : Int)) ∧ decide (((↑(ByteArray.size s) : Int)) > (384 : Int)) = decide (((↑(ByteArray.size s) : Int)) > (384 : Int)) ∧ (47 : Nat) = (47 : Nat) ∧ byteAt (ByteArray.extract s (Int.toNat i) (ByteArray.size s)) (0 : Nat) = byteAt (ByteArray.extract s (Int.toNat i) (ByteArray.size s)) (0 : Nat) ∧ byteAt (ByteArray.extract s (Int.toNat i) (ByteArray.size s)) (1 : Nat) = byteAt (ByteArray.extract s (Int.toNat i) (ByteArray.size s)) (1 : Nat) ∧ byteAt (ByteArray.extract s (Int.toNat i) (ByteArray.size s)) (2 : Nat) = byteAt (ByteArray.extract s (Int.toNat i) (ByteArray.size s)) (2 : Nat) ∧ byteAt (ByteArray.extract s (Int.toNat i) (ByteArray.size s)) (3 : Nat) = byteAt (ByteArray.extract s (Int.toNat i) (ByteArray.size s)) (3 : Nat) ∧ byteAt (ByteArray.extract s (Int.toNat i) (ByteArray.size s)) (4 : Nat) = byteAt (ByteArray.extract s (Int.toNat i) (ByteArray.size s)) (4 : Nat) ∧ byteAt (ByteArray.extract s (Int.toNat i) (ByteArray.size s)) (5 : Nat) = byteAt (ByteArray.extract s (Int.toNat i) (ByteArray.size s)) (5 : Nat) ∧ (41 : TypeId) = (41 : Nat) ∧ #[Value.int IntKind.u8 (byteAt (ByteArray.extract s (Int.toNat i) (ByteArray.size s)) (0 : Nat)), Value.int IntKind.u8 (byteAt (ByteArray.extract s (Int.toNat i) (ByteArray.size s)) (1 : Nat)), Value.int IntKind.u8 (byteAt (ByteArray.extract s (Int.toNat i) (ByteArray.size s)) (2 : Nat)), Value.int IntKind.u8 (byteAt (ByteArray.extract s (Int.toNat i) (ByteArray.size s)) (3 : Nat)), Value.int IntKind.u16 (ari BinOp.or IntKind.u16 (IntKind.wrap IntKind.u16 (byteAt (ByteArray.extract s (Int.toNat i) (ByteArray.size s)) (4 : Nat))) (ari BinOp.shl IntKind.u16 (IntKind.wrap IntKind.u16 (byteAt (ByteArray.extract s (Int.toNat i) (ByteArray.size s)) (5 : Nat))) (8 : Int)))] = #[Value.int IntKind.u8 (byteAt (ByteArray.extract s (Int.toNat i) (ByteArray.size s)) (0 : Nat)), Value.int IntKind.u8 (byteAt (ByteArray.extract s (Int.toNat i) (ByteArray.size s)) (1 : Nat)), Value.int IntKind.u8 (byteAt (ByteArray.extract s (Int.toNat i) (ByteArray.size s)) (2 : Nat)), Value.int IntKind.u8 (byteAt (ByteArray.extract s (Int.toNat i) (ByteArray.size s)) (3 : Nat)), Value.int IntKind.u16 (ari BinOp.or IntKind.u16 (IntKind.wrap IntKind.u16 (byteAt (ByteArray.extract s (Int.toNat i) (ByteArray.size s)) (4 : Nat))) (ari BinOp.shl IntKind.u16 (IntKind.wrap IntKind.u16 (byteAt (ByteArray.extract s (Int.toNat i) (ByteArray.size s)) (5 : Nat))) (8 : Int)))] ∧ True) ∧ (decide (i < (↑(ByteArray.size s) : Int)) = false → (0 : Int) = (3 : Int) ∧ e = (3 : Int))) := by kernel_rfl
theorem dec_step (s : ByteArray) (e : Int) (kF : Nat) (csF : Array Value) (i x0 x1 x2 x3 x4 x5 : Int) (k : Nat) (cs : Array Value) (Q : Int → Nat → Array Value → Prop) : (decS1 s i x0 x1 x2 x3 x4 x5 k cs).vc (decA e kF csF) (decN1 s Q) =
    ((decide (i < (↑(ByteArray.size s) : Int)) = true → ((0 : Int) ≤ i ∧ (Int.toNat i ≤ ByteArray.size s) ∧ True) ∧ ((6 : Nat) ≤ ByteArray.size (ByteArray.extract s (Int.toNat i) (ByteArray.size s)) ∧ True) ∧ (((k + 1) * 6 ≤ (140737488355328 : Nat) ∧ k + 1 ≤ (140737488355328 : Nat)) ∧ k * 5 = Array.size cs ∧ True) ∧ Q (ari BinOp.add IntKind.i64 i (6 : Int)) (k + 1) (cs ++ #[Value.int IntKind.u8 (byteAt (ByteArray.extract s (Int.toNat i) (ByteArray.size s)) (0 : Nat)), Value.int IntKind.u8 (byteAt (ByteArray.extract s (Int.toNat i) (ByteArray.size s)) (1 : Nat)), Value.int IntKind.u8 (byteAt (ByteArray.extract s (Int.toNat i) (ByteArray.size s)) (2 : Nat)), Value.int IntKind.u8 (byteAt (ByteArray.extract s (Int.toNat i) (ByteArray.size s)) (3 : Nat)), Value.int IntKind.u16 (ari BinOp.or IntKind.u16 (IntKind.wrap IntKind.u16 (byteAt (ByteArray.extract s (Int.toNat i) (ByteArray.size s)) (4 : Nat))) (ari BinOp.shl IntKind.u16 (IntKind.wrap IntKind.u16 (byteAt (ByteArray.extract s (Int.toNat i) (ByteArray.size s)) (5 : Nat))) (8 : Int)))]) ∧ CallKind.normal = CallKind.normal ∧ TodoOk (ren 0 [(0, 0), (1, 3)]) dH0 dH0 ∧ Value.string s = Value.string s ∧ Value.string s = Value.string s ∧ ari BinOp.rem IntKind.i64 ((↑(ByteArray.size s) : Int)) (6 : Int) = ari BinOp.rem IntKind.i64 ((↑(ByteArray.size s) : Int)) (6 : Int) ∧ (((↑(ByteArray.size s) : Int)) = (↑(ByteArray.size s) : Int)) ∧ Value.slice none (0 : Nat) (0 : Nat) = Value.slice none (0 : Nat) (0 : Nat) ∧ k + 1 = k + 1 ∧ (((↑(ByteArray.size s) : Int)) = (↑(ByteArray.size s) : Int)) ∧ Value.string s = Value.string s ∧ ari BinOp.add IntKind.i64 i (6 : Int) = ari BinOp.add IntKind.i64 i (6 : Int) ∧ (ari BinOp.rem IntKind.i64 ((↑(ByteArray.size s) : Int)) (6 : Int) != (0 : Int)) = (ari BinOp.rem IntKind.i64 ((↑(ByteArray.size s) : Int)) (6 : Int) != (0 : Int)) ∧ decide (((↑(ByteArray.size s) : Int)) > (384 : Int)) = decide (((↑(ByteArray.size s) : Int)) > (384 : Int)) ∧ (47 : Nat) = (47 : Nat) ∧ byteAt (ByteArray.extract s (Int.toNat i) (ByteArray.size s)) (0 : Nat) = byteAt (ByteArray.extract s (Int.toNat i) (ByteArray.size s)) (0 : Nat) ∧ byteAt (ByteArray.extract s (Int.toNat i) (ByteArray.size s)) (1 : Nat) = byteAt (ByteArray.extract s (Int.toNat i) (ByteArray.size s)) (1 : Nat) ∧ byteAt (ByteArray.extract s (Int.toNat i) (ByteArray.size s)) (2 : Nat) = byteAt (ByteArray.extract s (Int.toNat i) (ByteArray.size s)) (2 : Nat) ∧ byteAt (ByteArray.extract s (Int.toNat i) (ByteArray.size s)) (3 : Nat) = byteAt (ByteArray.extract s (Int.toNat i) (ByteArray.size s)) (3 : Nat) ∧ byteAt (ByteArray.extract s (Int.toNat i) (ByteArray.size s)) (4 : Nat) = byteAt (ByteArray.extract s (Int.toNat i) (ByteArray.size s)) (4 : Nat) ∧ byteAt (ByteArray.extract s (Int.toNat i) (ByteArray.size s)) (5 : Nat) = byteAt (ByteArray.extract s (Int.toNat i) (ByteArray.size s)) (5 : Nat) ∧ (41 : TypeId) = (41 : Nat) ∧ cs ++ #[Value.int IntKind.u8 (byteAt (ByteArray.extract s (Int.toNat i) (ByteArray.size s)) (0 : Nat)), Value.int IntKind.u8 (byteAt (ByteArray.extract s (Int.toNat i) (ByteArray.size s)) (1 : Nat)), Value.int IntKind.u8 (byteAt (ByteArray.extract s (Int.toNat i) (ByteArray.size s)) (2 : Nat)), Value.int IntKind.u8 (byteAt (ByteArray.extract s (Int.toNat i) (ByteArray.size s)) (3 : Nat)), Value.int IntKind.u16 (ari BinOp.or IntKind.u16 (IntKind.wrap IntKind.u16 (byteAt (ByteArray.extract s (Int.toNat i) (ByteArray.size s)) (4 : Nat))) (ari BinOp.shl IntKind.u16 (IntKind.wrap IntKind.u16 (byteAt (ByteArray.extract s (Int.toNat i) (ByteArray.size s)) (5 : Nat))) (8 : Int)))] = cs ++ #[Value.int IntKind.u8 (byteAt (ByteArray.extract s (Int.toNat i) (ByteArray.size s)) (0 : Nat)), Value.int IntKind.u8 (byteAt (ByteArray.extract s (Int.toNat i) (ByteArray.size s)) (1 : Nat)), Value.int IntKind.u8 (byteAt (ByteArray.extract s (Int.toNat i) (ByteArray.size s)) (2 : Nat)), Value.int IntKind.u8 (byteAt (ByteArray.extract s (Int.toNat i) (ByteArray.size s)) (3 : Nat)), Value.int IntKind.u16 (ari BinOp.or IntKind.u16 (IntKind.wrap IntKind.u16 (byteAt (ByteArray.extract s (Int.toNat i) (ByteArray.size s)) (4 : Nat))) (ari BinOp.shl IntKind.u16 (IntKind.wrap IntKind.u16 (byteAt (ByteArray.extract s (Int.toNat i) (ByteArray.size s)) (5 : Nat))) (8 : Int)))] ∧ True) ∧ (decide (i < (↑(ByteArray.size s) : Int)) = false → ((k < (9223372036854775807 : Nat) ∧ ∀ (i : Nat), i < k → (IsInt IntKind.u8 cs ((0 : Nat) + i * 5) ∧ IsInt IntKind.u8 cs ((0 : Nat) + i * 5 + 1) ∧ IsInt IntKind.u8 cs ((0 : Nat) + i * 5 + 2) ∧ IsInt IntKind.u8 cs ((0 : Nat) + i * 5 + 3) ∧ IsInt IntKind.u16 cs ((0 : Nat) + i * 5 + 4)) ∧ ((0 : Int) ≤ Ins.o (ins cs (0 : Nat) i) ∧ Ins.o (ins cs (0 : Nat) i) ≤ (255 : Int)) ∧ ((0 : Int) ≤ Ins.a (ins cs (0 : Nat) i) ∧ Ins.a (ins cs (0 : Nat) i) ≤ (255 : Int)) ∧ ((0 : Int) ≤ Ins.b (ins cs (0 : Nat) i) ∧ Ins.b (ins cs (0 : Nat) i) ≤ (255 : Int)) ∧ ((0 : Int) ≤ Ins.c (ins cs (0 : Nat) i) ∧ Ins.c (ins cs (0 : Nat) i) ≤ (255 : Int)) ∧ (0 : Int) ≤ Ins.n (ins cs (0 : Nat) i) ∧ Ins.n (ins cs (0 : Nat) i) ≤ (65535 : Int)) ∧ True) ∧ ((!mayV cs (0 : Nat) k) = true → (3 : Int) = (3 : Int) ∧ e = (3 : Int)) ∧ ((!mayV cs (0 : Nat) k) = false → e = (0 : Int) ∧ kF = k ∧ (41 : TypeId) = (41 : TypeId) ∧ csF = cs ∧ True))) := by kernel_rfl
end Go.Proofs.Ytaagmmljhgabfaa
/- Of code: bytes of numbers. No condition. -/
namespace Go.Proofs.Ytaagmmljhgabfaa
/-! The numbers. -/
def lo (n : Int) : Int := IntKind.u8.wrap n
def hiB (n : Int) : Int := IntKind.u8.wrap (ari .shr .u16 n 8)
def word (a b : Int) : Int := ari .or .u16 (IntKind.u16.wrap a) (ari .shl .u16 (IntKind.u16.wrap b) 8)
def upto (p : Nat → Bool) : Nat → Bool := fun n => Nat.rec true (fun k r => match p k with | true => r | false => false) n
theorem upto_ok {p : Nat → Bool} : ∀ {n : Nat}, upto p n = true → ∀ i, i < n → p i = true
  | 0, _, i, hi => by omega
  | n + 1, h, i, hi => by
    have h : (match p n with | true => upto p n | false => false) = true := h
    split at h
    · rename_i e
      by_cases c : i = n
      · rw [c]; exact e
      · exact upto_ok h i (by omega)
    · cases h
theorem lohi_all : upto (fun a => upto (fun b => decide (word a b = a + 256 * b)) 256) 256 = true := by kernel_rfl
theorem word_eq {a b : Int} (ha : 0 ≤ a ∧ a ≤ 255) (hb : 0 ≤ b ∧ b ≤ 255) : word a b = a + 256 * b := by
  have h := upto_ok (upto_ok lohi_all a.toNat (by omega)) b.toNat (by omega)
  simp only [decide_eq_true_eq] at h
  rw [show ((a.toNat : Nat) : Int) = a by omega, show ((b.toNat : Nat) : Int) = b by omega] at h
  exact h
theorem bytes_all : upto (fun a => upto (fun b => decide (lo (a + 256 * b : Nat) = a) && decide (hiB (a + 256 * b : Nat) = b)) 256) 256 = true := by kernel_rfl
theorem lohi_eq {n : Int} (h : 0 ≤ n ∧ n ≤ 65535) : lo n = n % 256 ∧ hiB n = n / 256 := by
  have h := upto_ok (upto_ok bytes_all (n.toNat % 256) (by omega)) (n.toNat / 256) (by omega)
  simp only [Bool.and_eq_true, decide_eq_true_eq] at h
  rw [show ((n.toNat % 256 + 256 * (n.toNat / 256) : Nat) : Int) = n by omega] at h
  exact ⟨by rw [h.1]; omega, by rw [h.2]; omega⟩
end Go.Proofs.Ytaagmmljhgabfaa
/- Of code: the rounds of Encode, as propositions. No condition. -/
namespace Go.Proofs.Ytaagmmljhgabfaa
set_option maxRecDepth 100000
theorem enc_start_r (off n : Nat) (cs : Array Value) (ty : TypeId) (b : ByteArray) (e : Int) (Q : Int → Prop) : (gR E9 1 (encC off n) (prM true cs ty)).vc (encA b e) (encN0 true off n cs ty Q) =
    (((n < (9223372036854775807 : Nat) ∧ ∀ (i : Nat), i < n → (IsInt IntKind.u8 cs (off + i * 5) ∧ IsInt IntKind.u8 cs (off + i * 5 + 1) ∧ IsInt IntKind.u8 cs (off + i * 5 + 2) ∧ IsInt IntKind.u8 cs (off + i * 5 + 3) ∧ IsInt IntKind.u16 cs (off + i * 5 + 4)) ∧ ((0 : Int) ≤ Ins.o (ins cs off i) ∧ Ins.o (ins cs off i) ≤ (255 : Int)) ∧ ((0 : Int) ≤ Ins.a (ins cs off i) ∧ Ins.a (ins cs off i) ≤ (255 : Int)) ∧ ((0 : Int) ≤ Ins.b (ins cs off i) ∧ Ins.b (ins cs off i) ≤ (255 : Int)) ∧ ((0 : Int) ≤ Ins.c (ins cs off i) ∧ Ins.c (ins cs off i) ≤ (255 : Int)) ∧ (0 : Int) ≤ Ins.n (ins cs off i) ∧ Ins.n (ins cs off i) ≤ (65535 : Int)) ∧ True) ∧ ((!mayV cs off n) = true → ByteArray.mk #[] = b ∧ (3 : Int) = e) ∧ ((!mayV cs off n) = false → Q (0 : Int) ∧ CallKind.normal = CallKind.normal ∧ TodoOk (ren 1 []) eT0 eT0 ∧ off = off ∧ n = n ∧ off = off ∧ n = n ∧ (↑n : Int) = (↑n : Int) ∧ Value.string (ByteArray.mk (Array.mk [])) = Value.string (ByteArray.mk (Array.mk [])) ∧ Value.slice none (0 : Nat) (0 : Nat) = Value.slice none (0 : Nat) (0 : Nat) ∧ mayV cs off n = mayV cs off n ∧ (0 : Int) = (0 : Int) ∧ off = off ∧ n = n ∧ ty = ty ∧ cs = cs ∧ True)) := by kernel_rfl
theorem enc_start_p (off n : Nat) (cs : Array Value) (ty : TypeId) (b : ByteArray) (e : Int) (Q : Int → Prop) : (gR E9 1 (encC off n) (prM false cs ty)).vc (encA b e) (encN0 false off n cs ty Q) =
    (((n < (9223372036854775807 : Nat) ∧ ∀ (i : Nat), i < n → (IsInt IntKind.u8 cs (off + i * 5) ∧ IsInt IntKind.u8 cs (off + i * 5 + 1) ∧ IsInt IntKind.u8 cs (off + i * 5 + 2) ∧ IsInt IntKind.u8 cs (off + i * 5 + 3) ∧ IsInt IntKind.u16 cs (off + i * 5 + 4)) ∧ ((0 : Int) ≤ Ins.o (ins cs off i) ∧ Ins.o (ins cs off i) ≤ (255 : Int)) ∧ ((0 : Int) ≤ Ins.a (ins cs off i) ∧ Ins.a (ins cs off i) ≤ (255 : Int)) ∧ ((0 : Int) ≤ Ins.b (ins cs off i) ∧ Ins.b (ins cs off i) ≤ (255 : Int)) ∧ ((0 : Int) ≤ Ins.c (ins cs off i) ∧ Ins.c (ins cs off i) ≤ (255 : Int)) ∧ (0 : Int) ≤ Ins.n (ins cs off i) ∧ Ins.n (ins cs off i) ≤ (65535 : Int)) ∧ True) ∧ ((!mayV cs off n) = true → ByteArray.mk #[] = b ∧ (3 : Int) = e) ∧ ((!mayV cs off n) = false → Q (0 : Int) ∧ CallKind.normal = CallKind.normal ∧ TodoOk (ren 1 []) eT0 eT0 ∧ off = off ∧ n = n ∧ off = off ∧ n = n ∧ (↑n : Int) = (↑n : Int) ∧ Value.string (ByteArray.mk (Array.mk [])) = Value.string (ByteArray.mk (Array.mk [])) ∧ Value.slice none (0 : Nat) (0 : Nat) = Value.slice none (0 : Nat) (0 : Nat) ∧ mayV cs off n = mayV cs off n ∧ (0 : Int) = (0 : Int) ∧ off = off ∧ n = n ∧ ty = ty ∧ cs = cs ∧ True)) := by kernel_rfl
theorem enc_nil_r (off n : Nat) (cs : Array Value) (ty : TypeId) (b : ByteArray) (e : Int) (i : Int) (Q : Int → Nat → Array Value → Prop) : (gS E9 1 (encC off n) (prM true cs ty) [(12, i64 (.o i))] []).vc (encA b e) (encN true off n cs ty Q) =
    ((decide (i < (↑n : Int)) = true → (((0 : Int) ≤ i ∧ i < (↑n : Int)) ∧ True) ∧ (IsInt IntKind.u8 cs (off + Int.toNat i * 5) ∧ IsInt IntKind.u8 cs (off + Int.toNat i * 5 + 1) ∧ IsInt IntKind.u8 cs (off + Int.toNat i * 5 + 2) ∧ IsInt IntKind.u8 cs (off + Int.toNat i * 5 + 3) ∧ IsInt IntKind.u16 cs (off + Int.toNat i * 5 + 4) ∧ True) ∧ Q (ari BinOp.add IntKind.i64 i (1 : Int)) (6 : Nat) #[Value.int IntKind.u8 (intAt cs (off + Int.toNat i * 5)), Value.int IntKind.u8 (intAt cs (off + Int.toNat i * 5 + 1)), Value.int IntKind.u8 (intAt cs (off + Int.toNat i * 5 + 2)), Value.int IntKind.u8 (intAt cs (off + Int.toNat i * 5 + 3)), Value.int IntKind.u8 (IntKind.wrap IntKind.u8 (intAt cs (off + Int.toNat i * 5 + 4))), Value.int IntKind.u8 (IntKind.wrap IntKind.u8 (ari BinOp.shr IntKind.u16 (intAt cs (off + Int.toNat i * 5 + 4)) (8 : Int)))] ∧ CallKind.normal = CallKind.normal ∧ TodoOk (ren 1 [(1, 3)]) eH0 eH0 ∧ off = off ∧ n = n ∧ off = off ∧ n = n ∧ (↑n : Int) = (↑n : Int) ∧ Value.string (ByteArray.mk (Array.mk [])) = Value.string (ByteArray.mk (Array.mk [])) ∧ (6 : Nat) = (6 : Nat) ∧ mayV cs off n = mayV cs off n ∧ ari BinOp.add IntKind.i64 i (1 : Int) = ari BinOp.add IntKind.i64 i (1 : Int) ∧ off = off ∧ n = n ∧ ty = ty ∧ cs = cs ∧ (5 : TypeId) = (5 : Nat) ∧ #[Value.int IntKind.u8 (intAt cs (off + Int.toNat i * 5)), Value.int IntKind.u8 (intAt cs (off + Int.toNat i * 5 + 1)), Value.int IntKind.u8 (intAt cs (off + Int.toNat i * 5 + 2)), Value.int IntKind.u8 (intAt cs (off + Int.toNat i * 5 + 3)), Value.int IntKind.u8 (IntKind.wrap IntKind.u8 (intAt cs (off + Int.toNat i * 5 + 4))), Value.int IntKind.u8 (IntKind.wrap IntKind.u8 (ari BinOp.shr IntKind.u16 (intAt cs (off + Int.toNat i * 5 + 4)) (8 : Int)))] = #[Value.int IntKind.u8 (intAt cs (off + Int.toNat i * 5)), Value.int IntKind.u8 (intAt cs (off + Int.toNat i * 5 + 1)), Value.int IntKind.u8 (intAt cs (off + Int.toNat i * 5 + 2)), Value.int IntKind.u8 (intAt cs (off + Int.toNat i * 5 + 3)), Value.int IntKind.u8 (IntKind.wrap IntKind.u8 (intAt cs (off + Int.toNat i * 5 + 4))), Value.int IntKind.u8 (IntKind.wrap IntKind.u8 (ari BinOp.shr IntKind.u16 (intAt cs (off + Int.toNat i * 5 + 4)) (8 : Int)))] ∧ True) ∧ (decide (i < (↑n : Int)) = false → ByteArray.empty = b ∧ (0 : Int) = e)) := by kernel_rfl
theorem enc_nil_p (off n : Nat) (cs : Array Value) (ty : TypeId) (b : ByteArray) (e : Int) (i : Int) (Q : Int → Nat → Array Value → Prop) : (gS E9 1 (encC off n) (prM false cs ty) [(12, i64 (.o i))] []).vc (encA b e) (encN false off n cs ty Q) =
    ((decide (i < (↑n : Int)) = true → (((0 : Int) ≤ i ∧ i < (↑n : Int)) ∧ True) ∧ (IsInt IntKind.u8 cs (off + Int.toNat i * 5) ∧ IsInt IntKind.u8 cs (off + Int.toNat i * 5 + 1) ∧ IsInt IntKind.u8 cs (off + Int.toNat i * 5 + 2) ∧ IsInt IntKind.u8 cs (off + Int.toNat i * 5 + 3) ∧ IsInt IntKind.u16 cs (off + Int.toNat i * 5 + 4) ∧ True) ∧ Q (ari BinOp.add IntKind.i64 i (1 : Int)) (6 : Nat) #[Value.int IntKind.u8 (intAt cs (off + Int.toNat i * 5)), Value.int IntKind.u8 (intAt cs (off + Int.toNat i * 5 + 1)), Value.int IntKind.u8 (intAt cs (off + Int.toNat i * 5 + 2)), Value.int IntKind.u8 (intAt cs (off + Int.toNat i * 5 + 3)), Value.int IntKind.u8 (IntKind.wrap IntKind.u8 (intAt cs (off + Int.toNat i * 5 + 4))), Value.int IntKind.u8 (IntKind.wrap IntKind.u8 (ari BinOp.shr IntKind.u16 (intAt cs (off + Int.toNat i * 5 + 4)) (8 : Int)))] ∧ CallKind.normal = CallKind.normal ∧ TodoOk (ren 1 [(1, 3)]) eH0 eH0 ∧ off = off ∧ n = n ∧ off = off ∧ n = n ∧ (↑n : Int) = (↑n : Int) ∧ Value.string (ByteArray.mk (Array.mk [])) = Value.string (ByteArray.mk (Array.mk [])) ∧ (6 : Nat) = (6 : Nat) ∧ mayV cs off n = mayV cs off n ∧ ari BinOp.add IntKind.i64 i (1 : Int) = ari BinOp.add IntKind.i64 i (1 : Int) ∧ off = off ∧ n = n ∧ ty = ty ∧ cs = cs ∧ (5 : TypeId) = (5 : Nat) ∧ #[Value.int IntKind.u8 (intAt cs (off + Int.toNat i * 5)), Value.int IntKind.u8 (intAt cs (off + Int.toNat i * 5 + 1)), Value.int IntKind.u8 (intAt cs (off + Int.toNat i * 5 + 2)), Value.int IntKind.u8 (intAt cs (off + Int.toNat i * 5 + 3)), Value.int IntKind.u8 (IntKind.wrap IntKind.u8 (intAt cs (off + Int.toNat i * 5 + 4))), Value.int IntKind.u8 (IntKind.wrap IntKind.u8 (ari BinOp.shr IntKind.u16 (intAt cs (off + Int.toNat i * 5 + 4)) (8 : Int)))] = #[Value.int IntKind.u8 (intAt cs (off + Int.toNat i * 5)), Value.int IntKind.u8 (intAt cs (off + Int.toNat i * 5 + 1)), Value.int IntKind.u8 (intAt cs (off + Int.toNat i * 5 + 2)), Value.int IntKind.u8 (intAt cs (off + Int.toNat i * 5 + 3)), Value.int IntKind.u8 (IntKind.wrap IntKind.u8 (intAt cs (off + Int.toNat i * 5 + 4))), Value.int IntKind.u8 (IntKind.wrap IntKind.u8 (ari BinOp.shr IntKind.u16 (intAt cs (off + Int.toNat i * 5 + 4)) (8 : Int)))] ∧ True) ∧ (decide (i < (↑n : Int)) = false → ByteArray.empty = b ∧ (0 : Int) = e)) := by kernel_rfl
theorem enc_step_r (off n : Nat) (cs : Array Value) (ty : TypeId) (b : ByteArray) (e : Int) (i : Int) (k : Nat) (bs : Array Value) (Q : Int → Nat → Array Value → Prop) : (encS true off n cs ty i k bs).vc (encA b e) (encN true off n cs ty Q) =
    ((decide (i < (↑n : Int)) = true → (((0 : Int) ≤ i ∧ i < (↑n : Int)) ∧ True) ∧ (IsInt IntKind.u8 cs (off + Int.toNat i * 5) ∧ IsInt IntKind.u8 cs (off + Int.toNat i * 5 + 1) ∧ IsInt IntKind.u8 cs (off + Int.toNat i * 5 + 2) ∧ IsInt IntKind.u8 cs (off + Int.toNat i * 5 + 3) ∧ IsInt IntKind.u16 cs (off + Int.toNat i * 5 + 4) ∧ True) ∧ (((k + 6) * 1 ≤ (140737488355328 : Nat) ∧ k + 6 ≤ (140737488355328 : Nat)) ∧ k * 1 = Array.size bs ∧ True) ∧ Q (ari BinOp.add IntKind.i64 i (1 : Int)) (k + 6) (bs ++ #[Value.int IntKind.u8 (intAt cs (off + Int.toNat i * 5)), Value.int IntKind.u8 (intAt cs (off + Int.toNat i * 5 + 1)), Value.int IntKind.u8 (intAt cs (off + Int.toNat i * 5 + 2)), Value.int IntKind.u8 (intAt cs (off + Int.toNat i * 5 + 3)), Value.int IntKind.u8 (IntKind.wrap IntKind.u8 (intAt cs (off + Int.toNat i * 5 + 4))), Value.int IntKind.u8 (IntKind.wrap IntKind.u8 (ari BinOp.shr IntKind.u16 (intAt cs (off + Int.toNat i * 5 + 4)) (8 : Int)))]) ∧ CallKind.normal = CallKind.normal ∧ TodoOk (ren 1 [(1, 4)]) eH0 eH0 ∧ off = off ∧ n = n ∧ off = off ∧ n = n ∧ (↑n : Int) = (↑n : Int) ∧ Value.string (ByteArray.mk (Array.mk [])) = Value.string (ByteArray.mk (Array.mk [])) ∧ k + 6 = k + 6 ∧ mayV cs off n = mayV cs off n ∧ ari BinOp.add IntKind.i64 i (1 : Int) = ari BinOp.add IntKind.i64 i (1 : Int) ∧ off = off ∧ n = n ∧ ty = ty ∧ cs = cs ∧ (5 : TypeId) = (5 : Nat) ∧ bs ++ #[Value.int IntKind.u8 (intAt cs (off + Int.toNat i * 5)), Value.int IntKind.u8 (intAt cs (off + Int.toNat i * 5 + 1)), Value.int IntKind.u8 (intAt cs (off + Int.toNat i * 5 + 2)), Value.int IntKind.u8 (intAt cs (off + Int.toNat i * 5 + 3)), Value.int IntKind.u8 (IntKind.wrap IntKind.u8 (intAt cs (off + Int.toNat i * 5 + 4))), Value.int IntKind.u8 (IntKind.wrap IntKind.u8 (ari BinOp.shr IntKind.u16 (intAt cs (off + Int.toNat i * 5 + 4)) (8 : Int)))] = bs ++ #[Value.int IntKind.u8 (intAt cs (off + Int.toNat i * 5)), Value.int IntKind.u8 (intAt cs (off + Int.toNat i * 5 + 1)), Value.int IntKind.u8 (intAt cs (off + Int.toNat i * 5 + 2)), Value.int IntKind.u8 (intAt cs (off + Int.toNat i * 5 + 3)), Value.int IntKind.u8 (IntKind.wrap IntKind.u8 (intAt cs (off + Int.toNat i * 5 + 4))), Value.int IntKind.u8 (IntKind.wrap IntKind.u8 (ari BinOp.shr IntKind.u16 (intAt cs (off + Int.toNat i * 5 + 4)) (8 : Int)))] ∧ True) ∧ (decide (i < (↑n : Int)) = false → ((0 : Nat) + k ≤ Array.size bs ∧ (∀ (v : Value), List.Mem v (Array.toList (Array.extract bs (0 : Nat) ((0 : Nat) + k))) → ∃ n, v = Value.int IntKind.u8 n) ∧ True) ∧ strOf (Array.toList (Array.extract bs (0 : Nat) ((0 : Nat) + k))) = b ∧ (0 : Int) = e)) := by kernel_rfl
theorem enc_step_p (off n : Nat) (cs : Array Value) (ty : TypeId) (b : ByteArray) (e : Int) (i : Int) (k : Nat) (bs : Array Value) (Q : Int → Nat → Array Value → Prop) : (encS false off n cs ty i k bs).vc (encA b e) (encN false off n cs ty Q) =
    ((decide (i < (↑n : Int)) = true → (((0 : Int) ≤ i ∧ i < (↑n : Int)) ∧ True) ∧ (IsInt IntKind.u8 cs (off + Int.toNat i * 5) ∧ IsInt IntKind.u8 cs (off + Int.toNat i * 5 + 1) ∧ IsInt IntKind.u8 cs (off + Int.toNat i * 5 + 2) ∧ IsInt IntKind.u8 cs (off + Int.toNat i * 5 + 3) ∧ IsInt IntKind.u16 cs (off + Int.toNat i * 5 + 4) ∧ True) ∧ (((k + 6) * 1 ≤ (140737488355328 : Nat) ∧ k + 6 ≤ (140737488355328 : Nat)) ∧ k * 1 = Array.size bs ∧ True) ∧ Q (ari BinOp.add IntKind.i64 i (1 : Int)) (k + 6) (bs ++ #[Value.int IntKind.u8 (intAt cs (off + Int.toNat i * 5)), Value.int IntKind.u8 (intAt cs (off + Int.toNat i * 5 + 1)), Value.int IntKind.u8 (intAt cs (off + Int.toNat i * 5 + 2)), Value.int IntKind.u8 (intAt cs (off + Int.toNat i * 5 + 3)), Value.int IntKind.u8 (IntKind.wrap IntKind.u8 (intAt cs (off + Int.toNat i * 5 + 4))), Value.int IntKind.u8 (IntKind.wrap IntKind.u8 (ari BinOp.shr IntKind.u16 (intAt cs (off + Int.toNat i * 5 + 4)) (8 : Int)))]) ∧ CallKind.normal = CallKind.normal ∧ TodoOk (ren 1 [(1, 4)]) eH0 eH0 ∧ off = off ∧ n = n ∧ off = off ∧ n = n ∧ (↑n : Int) = (↑n : Int) ∧ Value.string (ByteArray.mk (Array.mk [])) = Value.string (ByteArray.mk (Array.mk [])) ∧ k + 6 = k + 6 ∧ mayV cs off n = mayV cs off n ∧ ari BinOp.add IntKind.i64 i (1 : Int) = ari BinOp.add IntKind.i64 i (1 : Int) ∧ off = off ∧ n = n ∧ ty = ty ∧ cs = cs ∧ (5 : TypeId) = (5 : Nat) ∧ bs ++ #[Value.int IntKind.u8 (intAt cs (off + Int.toNat i * 5)), Value.int IntKind.u8 (intAt cs (off + Int.toNat i * 5 + 1)), Value.int IntKind.u8 (intAt cs (off + Int.toNat i * 5 + 2)), Value.int IntKind.u8 (intAt cs (off + Int.toNat i * 5 + 3)), Value.int IntKind.u8 (IntKind.wrap IntKind.u8 (intAt cs (off + Int.toNat i * 5 + 4))), Value.int IntKind.u8 (IntKind.wrap IntKind.u8 (ari BinOp.shr IntKind.u16 (intAt cs (off + Int.toNat i * 5 + 4)) (8 : Int)))] = bs ++ #[Value.int IntKind.u8 (intAt cs (off + Int.toNat i * 5)), Value.int IntKind.u8 (intAt cs (off + Int.toNat i * 5 + 1)), Value.int IntKind.u8 (intAt cs (off + Int.toNat i * 5 + 2)), Value.int IntKind.u8 (intAt cs (off + Int.toNat i * 5 + 3)), Value.int IntKind.u8 (IntKind.wrap IntKind.u8 (intAt cs (off + Int.toNat i * 5 + 4))), Value.int IntKind.u8 (IntKind.wrap IntKind.u8 (ari BinOp.shr IntKind.u16 (intAt cs (off + Int.toNat i * 5 + 4)) (8 : Int)))] ∧ True) ∧ (decide (i < (↑n : Int)) = false → ((0 : Nat) + k ≤ Array.size bs ∧ (∀ (v : Value), List.Mem v (Array.toList (Array.extract bs (0 : Nat) ((0 : Nat) + k))) → ∃ n, v = Value.int IntKind.u8 n) ∧ True) ∧ strOf (Array.toList (Array.extract bs (0 : Nat) ((0 : Nat) + k))) = b ∧ (0 : Int) = e)) := by kernel_rfl
end Go.Proofs.Ytaagmmljhgabfaa
/- Of code: rows of instructions, and their bytes. No condition. -/
namespace Go.Proofs.Ytaagmmljhgabfaa
def byteOf (v : Value) : UInt8 := UInt8.ofNat (match v with | .int _ n => n.toNat | _ => 0)
theorem strOf_go (vs : List Value) : ∀ r : ByteArray, (vs.foldl (fun r v => r.push (UInt8.ofNat (match v with | .int _ n => n.toNat | _ => 0))) r).data.toList = r.data.toList ++ vs.map byteOf := by
  induction vs with
  | nil => intro r; simp
  | cons v vs ih =>
    intro r
    rw [List.foldl_cons, ih]
    have : ∀ b, (r.push b).data.toList = r.data.toList ++ [b] := fun b => Array.toList_push
    rw [this]
    simp [byteOf]
theorem strOf_list (vs : List Value) : (strOf vs).data.toList = vs.map byteOf := by
  exact (strOf_go vs ByteArray.empty).trans (List.nil_append _)
theorem size_list (s : ByteArray) : s.size = s.data.toList.length := by rw [Array.length_toList]; rfl
theorem strOf_size (vs : List Value) : (strOf vs).size = vs.length := by rw [size_list, strOf_list, List.length_map]
theorem byteAt_list (s : ByteArray) (i : Nat) : byteAt s i = (s.data.toList[i]?.map fun b => (b.toNat : Int)).getD 0 := by
  unfold byteAt
  by_cases h : i < s.size
  · have h2 : i < s.data.toList.length := by rw [← size_list]; exact h
    rw [getElem?_pos s i h, List.getElem?_eq_getElem h2]
    rfl
  · have h2 : ¬ i < s.data.toList.length := by rw [← size_list]; exact h
    rw [getElem?_neg s i h, List.getElem?_eq_none (by omega)]
    rfl
theorem byteAt_range (s : ByteArray) (i : Nat) : 0 ≤ byteAt s i ∧ byteAt s i ≤ 255 := by
  rw [byteAt_list]
  cases s.data.toList[i]? with
  | none => exact ⟨by decide, by decide⟩
  | some b => have := b.toNat_lt; exact ⟨by simp, by simp; omega⟩
theorem byteAt_cut (s : ByteArray) (j i : Nat) : byteAt (s.extract j s.size) i = byteAt s (j + i) := by
  rw [byteAt_list, byteAt_list, ByteArray.data_extract, Array.toList_extract, List.extract_eq_take_drop, List.getElem?_take]
  split
  · rw [List.getElem?_drop]
  · rename_i h
    rw [List.getElem?_eq_none]
    rw [← size_list]; omega
theorem bytes_ext {s t : ByteArray} (hs : s.size = t.size) (h : ∀ i, i < s.size → byteAt s i = byteAt t i) : s = t := by
  apply ByteArray.ext
  rw [← Array.toList_inj]
  apply List.ext_getElem?
  intro i
  by_cases hi : i < s.size
  · have h1 : i < s.data.toList.length := by rw [← size_list]; exact hi
    have h2 : i < t.data.toList.length := by rw [← size_list, ← hs]; exact hi
    have := h i hi
    rw [byteAt_list, byteAt_list, List.getElem?_eq_getElem h1, List.getElem?_eq_getElem h2] at this
    rw [List.getElem?_eq_getElem h1, List.getElem?_eq_getElem h2]
    simp only [Option.map_some, Option.getD_some, Int.natCast_inj] at this
    rw [UInt8.toNat_inj.1 this]
  · rw [List.getElem?_eq_none, List.getElem?_eq_none]
    · rw [← size_list]; omega
    · rw [← size_list]; omega
theorem byteAt_strOf (vs : List Value) (i : Nat) : byteAt (strOf vs) i = (vs[i]?.map fun v => ((byteOf v).toNat : Int)).getD 0 := by
  rw [byteAt_list, strOf_list, List.getElem?_map]
  cases vs[i]? <;> rfl
/-! Rows in equal parts. -/
def parts (f : Nat → List Value) : Nat → List Value
  | 0 => []
  | i + 1 => parts f i ++ f i
theorem parts_len {f : Nat → List Value} {c : Nat} (hf : ∀ i, (f i).length = c) : ∀ n, (parts f n).length = n * c
  | 0 => by simp [parts]
  | n + 1 => by rw [parts, List.length_append, parts_len hf n, hf, Nat.succ_mul]
theorem parts_at {f : Nat → List Value} {c : Nat} (hf : ∀ i, (f i).length = c) : ∀ {n i t : Nat}, i < n → t < c → (parts f n)[i * c + t]? = (f i)[t]?
  | 0, _, _, h, _ => by omega
  | n + 1, i, t, h, ht => by
    unfold parts
    by_cases e : i = n
    · subst e
      rw [List.getElem?_append_right (by rw [parts_len hf]; omega), parts_len hf, Nat.add_sub_cancel_left]
    · have hlt : i * c + t < n * c := by
        have : (i + 1) * c ≤ n * c := Nat.mul_le_mul_right c (by omega)
        rw [Nat.succ_mul] at this
        omega
      rw [List.getElem?_append_left (by rw [parts_len hf]; exact hlt)]
      exact parts_at hf (by omega) ht
theorem place_of {c p n : Nat} (hc : 0 < c) (h : p < n * c) : ∃ i t, i < n ∧ t < c ∧ p = i * c + t :=
  ⟨p / c, p % c, Nat.div_lt_of_lt_mul (by rw [Nat.mul_comm]; exact h), Nat.mod_lt _ hc, by rw [Nat.mul_comm]; exact (Nat.div_add_mod p c).symm⟩
end Go.Proofs.Ytaagmmljhgabfaa
/- Of code: what May and Encode answer, as contracts. No condition. -/
namespace Go.Proofs.Ytaagmmljhgabfaa
set_option maxRecDepth 100000
/-! What only reads a block. -/
theorem Con.ro {E : Env} (hE : EnvOk E) {g : FuncId} {fn : Func} {c : Code} {l l' : List SV} {m ms : SMem} {q : List Prop} {s0 : SV} {A : SV → SMem → Prop} (h1 : E.fn g = some fn) (h2 : fn.body = some c) (hxs : ms.xs = []) (ι : Nat → Nat)
    (hm : ∀ i b, getB ms.bl i = some b → i < ms.next ∧ b.wr = false ∧ ∃ d, getB m.bl (ι i) = some d ∧ b.ty = d.ty ∧ ∀ R cs, d.arr.okM R cs → b.arr.okM (pull ι ms.next R) cs)
    (hl : ∀ R vs, All2 (SV.ok R) l vs → All2 (SV.ok (pull ι ms.next R)) l' vs) (good : (∀ p ∈ q, p) → Good E.P A ms.next [callFr g fn.ntmps l' c] ms)
    (hs : ∀ s m' R R' v, A s m' → s.ok R' v → s0.ok R v) : Con E g l m (needs q (.ret s0 m)) := by
  intro B hB
  obtain ⟨hq, hA⟩ := Tree.sat_needs hB
  refine ⟨fn, h1, by rw [h2]; rfl, fun n0 F w0 w R args ha hR => ?_⟩
  refine (frame_ro (hE.fns _ _ h1).1 h2 (good hq) hxs hm (hl R _ ha) hR).mono ?_
  rintro v w' ⟨k1, k2, s, m', R', k3, k4⟩
  exact ⟨s0, m, R, hA, ⟨fun _ _ h => h, fun _ _ h => .inl h, k2, Nat.le_refl _⟩, k1, hs _ _ _ _ _ k3 k4⟩
theorem needs_br {q : List Prop} {b : Bool} {t e : Tree} {A : SV → SMem → Prop} (h : (needs q (.br b t e)).sat A (fun _ _ => False)) : (b = true → (needs q t).sat A (fun _ _ => False)) ∧ (b = false → (needs q e).sat A (fun _ _ => False)) := by
  cases q with
  | nil => exact ⟨fun x => h.1 x, fun x => h.2 x⟩
  | cons p l => exact ⟨fun x => ⟨h.1, h.2.1 x⟩, fun x => ⟨h.1, h.2.2 x⟩⟩
theorem Con.br {E : Env} {g : FuncId} {l : List SV} {m : SMem} {q : List Prop} {b : Bool} {t e : Tree} (h1 : b = true → Con E g l m (needs q t)) (h2 : b = false → Con E g l m (needs q e)) : Con E g l m (needs q (.br b t e)) := by
  intro A hs
  cases b with
  | true => exact h1 rfl A ((needs_br hs).1 rfl)
  | false => exact h2 rfl A ((needs_br hs).2 rfl)
theorem row_of {m : SMem} {i : Nat} {cs : Array Value} (h : rowI m i = some cs) : ∃ v ty wr, getB m.bl i = some ⟨prA v cs, ty, wr⟩ := by
  unfold rowI at h
  split at h
  · rename_i e; cases h; exact ⟨true, _, _, e⟩
  · rename_i e; cases h; exact ⟨false, _, _, e⟩
  · cases h
theorem prM_get {v : Bool} {cs : Array Value} {ty : TypeId} {i : Nat} {b : SBlk} (h : getB (prM v cs ty).bl i = some b) : i = 0 ∧ b = ⟨prA v cs, ty, false⟩ := by
  unfold getB prM at h
  cases i with
  | zero => cases h; exact ⟨rfl, rfl⟩
  | succ i =>
    have h : ((Tr.node .nil (some ⟨prA v cs, ty, false⟩) .nil : Tr SBlk)).get (i + 1) = some b := h
    rw [Tr.get_succ, Tr.get_nil, ite_self] at h
    cases h
/-- A function of a row of instructions that only reads. -/
theorem Con.row {g : FuncId} {fn : Func} {c : Code} {m : SMem} {i : Nat} {o n : SN} {cap : SK} {cs : Array Value} {q : List Prop} {s0 : SV} {A : SV → SMem → Prop} (h1 : E0.fn g = some fn) (h2 : fn.body = some c) (hr : rowI m i = some cs)
    (good : ∀ v ty, (∀ p ∈ q, p) → Good Try.prog A 1 [callFr g fn.ntmps [prS o.den n.den] c] (prM v cs ty)) (hs : ∀ s m' R R' v, A s m' → s.ok R' v → s0.ok R v) :
    Con E0 g [.s (.c (.f (.slice i o n cap)))] m (needs q (.ret s0 m)) := by
  obtain ⟨v, ty, wr, hb⟩ := row_of hr
  refine Con.ro E0_ok (l' := [prS o.den n.den]) (ms := prM v cs ty) (A := A) h1 h2 rfl (fun _ => i) ?_ ?_ (good v ty) hs
  · intro j b hj
    obtain ⟨rfl, rfl⟩ := prM_get hj
    refine ⟨Nat.zero_lt_one, rfl, _, hb, rfl, fun R cs' h => ?_⟩
    cases v <;> exact h
  · intro R vs ha
    match vs, ha with
    | [x], ha =>
      obtain ⟨⟨gl, cp, e1, e2, e3, e4⟩, _⟩ := ha
      exact ⟨⟨gl, cp, by unfold pull; exact e1, e2, trivial, e4⟩, trivial⟩
/-! May. -/
theorem may_good (v : Bool) (off n : Nat) (cs : Array Value) (ty : TypeId) (hI : InsOk cs off n) : Good Try.prog (boolR (mayV cs off n)) 1 (mayC off n) (prM v cs ty) := by
  have step : ∀ (r : Bool) (i : Int) (Q : Int → Prop), (gS EM 1 (mayC off n) (prM v cs ty) [(8, i64 (.o i))] []).vc (boolR r) (mayN true v off n cs ty Q) = (gS EM 1 (mayC off n) (prM true cs ty) [(8, i64 (.o i))] []).vc (boolR r) (mayN true true off n cs ty Q) := by
    intro r i Q
    cases v with
    | true => rfl
    | false => exact (may_step_p off n cs ty r i Q).trans (may_step_r off n cs ty r i Q).symm
  have start : ∀ (r : Bool) (Q : Int → Prop), (gR EM 1 (mayC off n) (prM v cs ty)).vc (boolR r) (mayN false v off n cs ty Q) = (gR EM 1 (mayC off n) (prM true cs ty)).vc (boolR r) (mayN false true off n cs ty Q) := by
    intro r Q
    cases v with
    | true => rfl
    | false => exact (may_start_p off n cs ty r Q).trans (may_start_r off n cs ty r Q).symm
  refine run_vc EM_ok 1000 ((start (mayV cs off n) (fun i => i = 0 ∧ n ≤ 64)).trans (may_start_r off n cs ty _ _)) ?_ (fun _ _ h => h)
    (fun fs m hb => mayN_good (fun i ⟨e, hn⟩ => by rw [e]; exact may_round off n cs ty hI hn step (n + 1) 0 (by omega) (by omega) (fun j hj => by omega)) hb)
  refine ⟨fun h => ?_, fun h => ?_⟩
  · have : n ≤ 64 := by simp at h; omega
    repeat' first | exact this | exact trivial | exact mT0_ok | exact mT1_ok | exact mT2_ok | apply And.intro | exact rfl
  · have : ¬ n ≤ 64 := by simp at h; omega
    unfold mayV
    rw [decide_eq_false this]; rfl
theorem fn9 : E0.fn 9 = some Try.f9 := by kernel_rfl
theorem body9 : Try.f9.body = some (Try.f9.body.getD .skip) := by kernel_rfl
theorem may_con {m : SMem} {i : Nat} {o n : SN} {cap : SK} {cs : Array Value} (hr : rowI m i = some cs) : Con E0 9 [.s (.c (.f (.slice i o n cap)))] m (needs [InsOk cs o.den n.den] (.ret (sB (.o (mayV cs o.den n.den))) m)) := by
  refine Con.row fn9 body9 hr (A := boolR (mayV cs o.den n.den)) (fun v ty hq => may_good v o.den n.den cs ty (hq _ (List.mem_cons_self ..))) ?_
  intro s m' R R' v h hv
  unfold boolR at h
  split at h
  · have hv : v = .bool _ := hv
    rw [hv, h]; rfl
  · exact h.elim
theorem may_nil : (run E0 1000 0 [callFr 9 Try.f9.ntmps [nilV] (Try.f9.body.getD .skip)] ⟨0, .nil, []⟩).allTrue = true := by kernel_rfl
theorem may_e0 : (run E0 1000 0 [callFr 9 Try.f9.ntmps [.s (.c (.f .e0))] (Try.f9.body.getD .skip)] ⟨0, .nil, []⟩).allTrue = true := by kernel_rfl
theorem mayT_ok {m : SMem} {x : SV} {t : Tree} (h : mayT m x = some t) : Con E0 9 [x] m t := by
  unfold mayT at h
  split at h
  · cases h
    exact Con.pure (q := []) E0_ok fn9 body9 (by kernel_rfl) (by kernel_rfl) fun _ => good_true E0_ok may_nil
  · cases h
    exact Con.pure (q := []) E0_ok fn9 body9 (by kernel_rfl) (by kernel_rfl) fun _ => good_true E0_ok may_e0
  · split at h
    · rename_i cs e
      cases h
      exact may_con e
    · cases h
  · cases h
theorem wakes_true : (run E0 100000 0 [callFr 5 Try.f5.ntmps [] (Try.f5.body.getD .skip)] ⟨0, .nil, []⟩).allTrue = true := by kernel_rfl
theorem wakes_fn : E0.fn 5 = some Try.f5 := by kernel_rfl
theorem wakes_body : Try.f5.body = some (Try.f5.body.getD .skip) := by kernel_rfl
theorem wakes_con (m : SMem) : Con E0 5 [] m (needs [] (.ret (sB (.l true)) m)) :=
  Con.pure E0_ok wakes_fn wakes_body (by kernel_rfl) (by kernel_rfl) fun _ => good_true E0_ok wakes_true
theorem con9_ok (g : FuncId) (l : List SV) (m : SMem) (t : Tree) (h : con9 g l m = some t) : Con E0 g l m t := by
  unfold con9 at h
  split at h
  · cases h; exact wakes_con m
  · exact mayT_ok h
  · cases h
theorem E9_ok : EnvOk E9 := EnvOk.with E0_ok _ _ con9_ok
end Go.Proofs.Ytaagmmljhgabfaa
/- Of code: what Encode answers. No condition. -/
namespace Go.Proofs.Ytaagmmljhgabfaa
set_option maxRecDepth 100000
def encL (cs : Array Value) (off : Nat) : Nat → List Value := parts fun i => six (ins cs off i)
def encB (cs : Array Value) (off n : Nat) : ByteArray := strOf (encL cs off n)
theorem encL_len (cs : Array Value) (off n : Nat) : (encL cs off n).length = n * 6 := parts_len (f := fun i => six (ins cs off i)) (fun _ => rfl) n
theorem encL_more (cs : Array Value) (off i : Nat) : (encL cs off i).toArray ++ (six (ins cs off i)).toArray = (encL cs off (i + 1)).toArray := by
  show _ = (encL cs off i ++ six (ins cs off i)).toArray
  rw [List.append_toArray]
theorem encL_u8 (cs : Array Value) (off : Nat) : ∀ n, AllU8 (encL cs off n)
  | 0 => fun v hv => by cases hv
  | n + 1 => fun v hv => by
    have hv : v ∈ encL cs off n ++ six (ins cs off n) := hv
    rcases List.mem_append.1 hv with h | h
    · exact encL_u8 cs off n v h
    · simp only [six, u8V, List.mem_cons, List.not_mem_nil, or_false] at h
      rcases h with h | h | h | h | h | h <;> exact ⟨_, h⟩
theorem eT0_ok : TodoOk (ren 1 []) eT0 eT0 := TodoOk.same (by kernel_rfl)
theorem eH0_3 : TodoOk (ren 1 [(1, 3)]) eH0 eH0 := TodoOk.same (by kernel_rfl)
theorem eH0_4 : TodoOk (ren 1 [(1, 4)]) eH0 eH0 := TodoOk.same (by kernel_rfl)
theorem encN_good {v : Bool} {off n : Nat} {cs : Array Value} {ty : TypeId} {A : SV → SMem → Prop} {Q : Int → Nat → Array Value → Prop} (hg : ∀ i k bs, Q i k bs → Good E9.P A 1 (headF (encF v off n cs ty i k)) (encM v cs ty bs)) {fs : List SFr} {m : SMem} (hb : encN v off n cs ty Q fs m) : Good E9.P A 1 fs m := by
  unfold encN at hb
  split at hb
  · split at hb
    · exact Good.of_sub hb.2 (hg _ _ _ hb.1)
    · exact hb.elim
  · exact hb.elim
theorem encN0_good {v : Bool} {off n : Nat} {cs : Array Value} {ty : TypeId} {A : SV → SMem → Prop} {Q : Int → Prop} (hg : ∀ i, Q i → Good E9.P A 1 (gH E9 1 (encC off n) (prM v cs ty) [(12, i64 (.o i))]) (gM E9 1 (encC off n) (prM v cs ty) [])) {fs : List SFr} {m : SMem} (hb : encN0 v off n cs ty Q fs m) : Good E9.P A 1 fs m := by
  unfold encN0 at hb
  split at hb
  · split at hb
    · exact gN_good hb.2 (hg _ hb.1)
    · exact hb.elim
  · exact hb.elim
section
variable (v : Bool) (off n : Nat) (cs : Array Value) (ty : TypeId)
theorem enc_step_v (b : ByteArray) (e i : Int) (k : Nat) (bs : Array Value) (Q : Int → Nat → Array Value → Prop) : (encS v off n cs ty i k bs).vc (encA b e) (encN v off n cs ty Q) = (encS true off n cs ty i k bs).vc (encA b e) (encN true off n cs ty Q) := by
  cases v with
  | true => rfl
  | false => exact (enc_step_p off n cs ty b e i k bs Q).trans (enc_step_r off n cs ty b e i k bs Q).symm
theorem enc_nil_v (b : ByteArray) (e i : Int) (Q : Int → Nat → Array Value → Prop) : (gS E9 1 (encC off n) (prM v cs ty) [(12, i64 (.o i))] []).vc (encA b e) (encN v off n cs ty Q) = (gS E9 1 (encC off n) (prM true cs ty) [(12, i64 (.o i))] []).vc (encA b e) (encN true off n cs ty Q) := by
  cases v with
  | true => rfl
  | false => exact (enc_nil_p off n cs ty b e i Q).trans (enc_nil_r off n cs ty b e i Q).symm
theorem enc_start_v (b : ByteArray) (e : Int) (Q : Int → Prop) : (gR E9 1 (encC off n) (prM v cs ty)).vc (encA b e) (encN0 v off n cs ty Q) = (gR E9 1 (encC off n) (prM true cs ty)).vc (encA b e) (encN0 true off n cs ty Q) := by
  cases v with
  | true => rfl
  | false => exact (enc_start_p off n cs ty b e Q).trans (enc_start_r off n cs ty b e Q).symm
variable (hI : InsOk cs off n)
include hI
theorem enc_round (hn : n ≤ 64) : ∀ (K i : Nat), n - i < K → 1 ≤ i → i ≤ n → Good Try.prog (encA (encB cs off n) 0) 1 (headF (encF v off n cs ty i (6 * i))) (encM v cs ty (encL cs off i).toArray) := by
  intro K
  induction K with
  | zero => intro i h; omega
  | succ K ih =>
    intro i hk h1 hi
    refine past_vc E9_ok 1000 ((enc_step_v v off n cs ty (encB cs off n) 0 i (6 * i) (encL cs off i).toArray (fun i' k bs => ∃ j : Nat, i' = j ∧ n - j < K ∧ 1 ≤ j ∧ j ≤ n ∧ k = 6 * j ∧ bs = (encL cs off j).toArray)).trans (enc_step_r off n cs ty _ _ _ _ _ _)) ?_ (fun _ _ h => h)
      (fun fs m hb => encN_good (fun i' k bs ⟨j, e, k1, k2, k3, k4, k5⟩ => by rw [e, k4, k5]; exact ih j k1 k2 k3) hb)
    have hsz : (encL cs off i).toArray.size = i * 6 := by rw [List.size_toArray, encL_len]
    refine ⟨fun h => ?_, fun h => ?_⟩
    · have hlt : i < n := by simp at h; omega
      obtain ⟨⟨i1, i2, i3, i4, i5⟩, _⟩ := hI.2 i hlt
      have eA : ari BinOp.add IntKind.i64 (i : Int) 1 = ((i + 1 : Nat) : Int) := by rw [ari_add, i64_nat (show i < 9223372036854775807 by omega)]
      rw [Int.toNat_natCast, eA]
      refine ⟨⟨⟨by omega, by omega⟩, trivial⟩, ⟨i1, i2, i3, i4, i5, trivial⟩, ⟨⟨by omega, by omega⟩, by rw [hsz]; omega, trivial⟩, ⟨i + 1, rfl, by omega, by omega, by omega, by omega, encL_more cs off i⟩, ?_⟩
      repeat' first | exact trivial | exact eH0_4 | apply And.intro | exact rfl
    · have e : i = n := by simp at h; omega
      subst e
      have ex : (Array.extract (encL cs off i).toArray 0 (0 + 6 * i)).toList = encL cs off i := by
        rw [List.extract_toArray, List.extract_eq_take_drop]
        simp only [List.drop_zero, Nat.sub_zero, Nat.zero_add]
        rw [List.take_of_length_le]
        rw [encL_len]; omega
      rw [ex]
      exact ⟨⟨by rw [hsz]; omega, encL_u8 cs off i, trivial⟩, rfl, rfl⟩
theorem enc_first (hn : n ≤ 64) : Good Try.prog (encA (encB cs off n) 0) 1 (gH E9 1 (encC off n) (prM v cs ty) [(12, i64 (.o 0))]) (gM E9 1 (encC off n) (prM v cs ty) []) := by
  refine past_vc E9_ok 1000 ((enc_nil_v v off n cs ty (encB cs off n) 0 0 (fun i' k bs => 0 < n ∧ i' = 1 ∧ k = 6 ∧ bs = (encL cs off 1).toArray)).trans (enc_nil_r off n cs ty _ _ _ _)) ?_ (fun _ _ h => h)
    (fun fs m hb => encN_good (fun i' k bs ⟨e0, e, k4, k5⟩ => by rw [e, k4, k5]; exact enc_round v off n cs ty hI hn (n + 1) 1 (by omega) (by omega) (by omega)) hb)
  refine ⟨fun h => ?_, fun h => ?_⟩
  · have hlt : 0 < n := by simp at h; omega
    obtain ⟨⟨i1, i2, i3, i4, i5⟩, _⟩ := hI.2 0 hlt
    refine ⟨⟨⟨by omega, by omega⟩, trivial⟩, ⟨i1, i2, i3, i4, i5, trivial⟩, ⟨hlt, rfl, rfl, rfl⟩, ?_⟩
    repeat' first | exact trivial | exact eH0_3 | apply And.intro | exact rfl
  · have e : n = 0 := by simp at h; omega
    subst e
    exact ⟨rfl, rfl⟩
theorem enc_good (hm : mayV cs off n = true) : Good Try.prog (encA (encB cs off n) 0) 1 (encC off n) (prM v cs ty) := by
  refine run_vc E9_ok 1000 ((enc_start_v v off n cs ty (encB cs off n) 0 (fun i => i = 0)).trans (enc_start_r off n cs ty _ _ _)) ?_ (fun _ _ h => h)
    (fun fs m hb => encN0_good (fun i e => by rw [e]; exact enc_first v off n cs ty hI (mayV_iff.1 hm).1) hb)
  rw [hm]
  refine ⟨⟨hI, trivial⟩, ⟨fun h => (by cases h), fun _ => ?_⟩⟩
  repeat' first | exact trivial | exact eT0_ok | apply And.intro | exact rfl
theorem enc_bad (hm : mayV cs off n = false) : Good Try.prog (encA .empty 3) 1 (encC off n) (prM v cs ty) := by
  refine run_vc E9_ok 1000 ((enc_start_v v off n cs ty .empty 3 (fun i => False)).trans (enc_start_r off n cs ty _ _ _)) ?_ (fun _ _ h => h)
    (fun fs m hb => encN0_good (fun i e => e.elim) hb)
  rw [hm]
  exact ⟨⟨hI, trivial⟩, ⟨fun _ => ⟨rfl, rfl⟩, fun h => by cases h⟩⟩
end
noncomputable section
def tupV (s : ByteArray) (l : Bool) (e : Int) : SV := .tup [.c (.f (cond l (.lit (.string s)) (.opq (.string s)))), .c (.f (.int .i64 (.l e)))]
def encT (m : SMem) : SV → Option Tree
  | .s (.c (.f (.lit (.slice none 0 0)))) => some (.ret (tupV .empty true 0) m)
  | .s (.c (.f .e0)) => some (.ret (tupV .empty true 0) m)
  | .s (.c (.f (.slice i o n _))) => match rowI m i with
    | some cs => some (needs [InsOk cs o.den n.den] (.br (mayV cs o.den n.den) (.ret (tupV (encB cs o.den n.den) false 0) m) (.ret (tupV .empty true 3) m)))
    | none => none
  | _ => none
end
theorem fn6 : E0.fn 6 = some Try.f6 := by kernel_rfl
theorem body6 : Try.f6.body = some (Try.f6.body.getD .skip) := by kernel_rfl
theorem tup_ok {b : ByteArray} {e : Int} (l : Bool) {s : SV} {m' : SMem} {R R' : Ren} {v : Value} (h : encA b e s m') (hv : s.ok R' v) : (tupV b l e).ok R v := by
  unfold encA at h
  split at h
  case h_2 => exact h.elim
  rename_i x y
  obtain ⟨h1, h2⟩ := h
  obtain ⟨vs, rfl, hl⟩ := hv
  match hvs : vs.toList, hl with
  | [a, c], hl =>
    refine ⟨vs, rfl, ?_⟩
    rw [hvs]
    obtain ⟨ha, hc, _⟩ := hl
    refine ⟨?_, ?_, trivial⟩
    · unfold strF at h1
      split at h1
      · subst h1; cases l <;> exact ha
      · subst h1; cases l <;> exact ha
      · exact h1.elim
    · have hc : c = .int .i64 y.den := hc
      rw [h2] at hc
      exact hc
theorem enc_con {m : SMem} {i : Nat} {o n : SN} {cap : SK} {cs : Array Value} (hr : rowI m i = some cs) : Con E0 6 [.s (.c (.f (.slice i o n cap)))] m (needs [InsOk cs o.den n.den] (.br (mayV cs o.den n.den) (.ret (tupV (encB cs o.den n.den) false 0) m) (.ret (tupV .empty true 3) m))) := by
  refine Con.br (fun h => ?_) fun h => ?_
  · exact Con.row fn6 body6 hr (fun v ty hq => enc_good v o.den n.den cs ty (hq _ (List.mem_cons_self ..)) h) fun _ _ _ _ _ => tup_ok false
  · exact Con.row fn6 body6 hr (fun v ty hq => enc_bad v o.den n.den cs ty (hq _ (List.mem_cons_self ..)) h) fun _ _ _ _ _ => tup_ok true
end Go.Proofs.Ytaagmmljhgabfaa
/- Of code: what Decode answers. No condition. -/
namespace Go.Proofs.Ytaagmmljhgabfaa
set_option linter.unusedSectionVars false
set_option maxRecDepth 100000
def five (s : ByteArray) (i : Nat) : List Value := [u8V (byteAt s (6 * i)), u8V (byteAt s (6 * i + 1)), u8V (byteAt s (6 * i + 2)), u8V (byteAt s (6 * i + 3)), .int .u16 (word (byteAt s (6 * i + 4)) (byteAt s (6 * i + 5)))]
def decL (s : ByteArray) : Nat → List Value := parts (five s)
def insD (s : ByteArray) (i : Nat) : Ins := ⟨byteAt s (6 * i), byteAt s (6 * i + 1), byteAt s (6 * i + 2), byteAt s (6 * i + 3), word (byteAt s (6 * i + 4)) (byteAt s (6 * i + 5))⟩
theorem decL_len (s : ByteArray) (n : Nat) : (decL s n).length = n * 5 := parts_len (f := five s) (fun _ => rfl) n
theorem decL_more (s : ByteArray) (i : Nat) : (decL s i).toArray ++ (five s i).toArray = (decL s (i + 1)).toArray := by
  show _ = (decL s i ++ five s i).toArray
  rw [List.append_toArray]
theorem decL_at (s : ByteArray) {n i t : Nat} (hi : i < n) (ht : t < 5) : (decL s n).toArray[0 + i * 5 + t]? = (five s i)[t]? := by
  rw [List.getElem?_toArray, Nat.zero_add]
  exact parts_at (f := five s) (fun _ => rfl) hi ht
theorem intAt_is {cs : Array Value} {p : Nat} {k : IntKind} {n : Int} (h : cs[p]? = some (.int k n)) : intAt cs p = n ∧ IsInt k cs p := by
  have e : intAt cs p = n := by unfold intAt; rw [h]
  exact ⟨e, by unfold IsInt; rw [e]; exact h⟩
theorem ins_dec (s : ByteArray) {n i : Nat} (hi : i < n) : ins (decL s n).toArray 0 i = insD s i ∧ InsAt (decL s n).toArray (0 + i * 5) := by
  obtain ⟨a0, b0⟩ := intAt_is (decL_at s (t := 0) hi (by decide))
  obtain ⟨a1, b1⟩ := intAt_is (decL_at s (t := 1) hi (by decide))
  obtain ⟨a2, b2⟩ := intAt_is (decL_at s (t := 2) hi (by decide))
  obtain ⟨a3, b3⟩ := intAt_is (decL_at s (t := 3) hi (by decide))
  obtain ⟨a4, b4⟩ := intAt_is (decL_at s (t := 4) hi (by decide))
  exact ⟨Ins.ext' a0 a1 a2 a3 a4, b0, b1, b2, b3, b4⟩
theorem insD_in (s : ByteArray) (i : Nat) : (insD s i).In := by
  have h := fun j => byteAt_range s j
  refine ⟨h _, h _, h _, h _, ?_⟩
  show 0 ≤ word _ _ ∧ word _ _ ≤ 65535
  rw [word_eq (h _) (h _)]
  have h1 := h (6 * i + 4)
  have h2 := h (6 * i + 5)
  omega
theorem dec_insOk (s : ByteArray) {n : Nat} (hn : n < 9223372036854775807) : InsOk (decL s n).toArray 0 n :=
  ⟨hn, fun i hi => ⟨(ins_dec s hi).2, by rw [(ins_dec s hi).1]; exact insD_in s i⟩⟩
def decOk (s : ByteArray) : Bool := decide (s.size % 6 = 0 ∧ s.size ≤ 384) && mayV (decL s (s.size / 6)).toArray 0 (s.size / 6)
theorem dT0_ok : TodoOk (ren 0 [(0, 0)]) dT0 dT0 := TodoOk.same (by kernel_rfl)
theorem dH0_2 : TodoOk (ren 0 [(0, 0), (1, 2)]) dH0 dH0 := TodoOk.same (by kernel_rfl)
theorem dH0_3 : TodoOk (ren 0 [(0, 0), (1, 3)]) dH0 dH0 := TodoOk.same (by kernel_rfl)
theorem decN0_good {s : ByteArray} {A : SV → SMem → Prop} {Q : Int → Prop} (hg : ∀ i a b c d e g, Q i → Good E9.P A 0 (decH0 s i) (decM0 s a b c d e g)) {fs : List SFr} {m : SMem} (hb : decN0 s Q fs m) : Good E9.P A 0 fs m := by
  unfold decN0 at hb
  split at hb
  · split at hb
    · exact Good.of_sub hb.2 (Good.head (hg _ _ _ _ _ _ _ hb.1))
    · exact hb.elim
  · exact hb.elim
theorem decN1_good {s : ByteArray} {A : SV → SMem → Prop} {Q : Int → Nat → Array Value → Prop} (hg : ∀ i a b c d e g k cs, Q i k cs → Good E9.P A 0 (decH1 s i k) (decM1 s a b c d e g cs)) {fs : List SFr} {m : SMem} (hb : decN1 s Q fs m) : Good E9.P A 0 fs m := by
  unfold decN1 at hb
  split at hb
  · split at hb
    · exact Good.of_sub hb.2 (hg _ _ _ _ _ _ _ _ _ hb.1)
    · exact hb.elim
  · exact hb.elim
def resE (s : ByteArray) : Int := if decOk s = true then 0 else 3
section
variable (s : ByteArray) (h6 : s.size % 6 = 0) (hsz : s.size ≤ 384) (h0 : s.size ≠ 0)
include h6 hsz h0
omit h6 hsz h0 in
theorem dec_five (j : Nat) : [Value.int .u8 (byteAt (s.extract (6 * j) s.size) 0), Value.int .u8 (byteAt (s.extract (6 * j) s.size) 1), Value.int .u8 (byteAt (s.extract (6 * j) s.size) 2), Value.int .u8 (byteAt (s.extract (6 * j) s.size) 3), Value.int .u16 (ari .or .u16 (IntKind.u16.wrap (byteAt (s.extract (6 * j) s.size) 4)) (ari .shl .u16 (IntKind.u16.wrap (byteAt (s.extract (6 * j) s.size) 5)) 8))] = five s j := by
  simp only [byteAt_cut]
  rfl
theorem dec_round : ∀ (K j : Nat), s.size / 6 - j < K → 1 ≤ j → 6 * j ≤ s.size → ∀ a b c d e g, Good Try.prog (decA (resE s) (s.size / 6) (decL s (s.size / 6)).toArray) 0 (decH1 s ((6 * j : Nat) : Int) j) (decM1 s a b c d e g (decL s j).toArray) := by
  intro K
  induction K with
  | zero => intro j h; omega
  | succ K ih =>
    intro j hk h1 hj a b c d e g
    refine past_vc E9_ok 1000 (dec_step s (resE s) (s.size / 6) (decL s (s.size / 6)).toArray ((6 * j : Nat) : Int) a b c d e g j (decL s j).toArray (fun i' k cs => ∃ t : Nat, i' = ((6 * t : Nat) : Int) ∧ s.size / 6 - t < K ∧ 1 ≤ t ∧ 6 * t ≤ s.size ∧ k = t ∧ cs = (decL s t).toArray)) ?_ (fun _ _ h => h)
      (fun fs m hb => decN1_good (fun i' a b c d e g k cs ⟨t, e1, k1, k2, k3, k4, k5⟩ => by rw [e1, k4, k5]; exact ih t k1 k2 k3 a b c d e g) hb)
    have hls : (decL s j).toArray.size = j * 5 := by rw [List.size_toArray, decL_len]
    refine ⟨fun h => ?_, fun h => ?_⟩
    · have hlt : 6 * j < s.size := by simp at h; omega
      have eA : ari BinOp.add IntKind.i64 ((6 * j : Nat) : Int) 6 = ((6 * (j + 1) : Nat) : Int) := by rw [ari_add, Go.IntWalk.i64_in _ (by omega)]; omega
      rw [Int.toNat_natCast, eA]
      have hext : (s.extract (6 * j) s.size).size = s.size - 6 * j := by rw [ByteArray.size_extract]; omega
      refine ⟨⟨by omega, by omega, trivial⟩, ⟨by rw [hext]; omega, trivial⟩, ⟨⟨by omega, by omega⟩, by rw [hls], trivial⟩, ⟨j + 1, rfl, by omega, by omega, by omega, rfl, ?_⟩, ?_⟩
      · rw [← decL_more, ← dec_five s j]
      repeat' first | exact trivial | exact dH0_3 | apply And.intro | exact rfl
    · have e : j = s.size / 6 := by simp at h; omega
      have hI := dec_insOk s (n := j) (by omega)
      have hr : resE s = if mayV (decL s j).toArray 0 j = true then 0 else 3 := by
        unfold resE decOk
        rw [← e, decide_eq_true ⟨h6, hsz⟩, Bool.true_and]
      rw [← e]
      refine ⟨⟨hI, trivial⟩, ⟨fun hm => ⟨rfl, ?_⟩, fun hm => ?_⟩⟩
      · rw [hr, if_neg]
        simpa using hm
      · have hm : mayV (decL s j).toArray 0 j = true := by simpa using hm
        rw [hr, if_pos hm]
        exact ⟨rfl, rfl, rfl, rfl, trivial⟩
theorem dec_first (a b c d e g : Int) : Good Try.prog (decA (resE s) (s.size / 6) (decL s (s.size / 6)).toArray) 0 (decH0 s 0) (decM0 s a b c d e g) := by
  refine past_vc E9_ok 1000 (dec_nil s (resE s) (s.size / 6) (decL s (s.size / 6)).toArray 0 a b c d e g (fun i' k cs => i' = ((6 * 1 : Nat) : Int) ∧ k = 1 ∧ cs = (decL s 1).toArray)) ?_ (fun _ _ h => h)
    (fun fs m hb => decN1_good (fun i' a b c d e g k cs ⟨e1, k4, k5⟩ => by rw [e1, k4, k5]; exact dec_round s h6 hsz h0 (s.size + 1) 1 (by omega) (by omega) (by omega) a b c d e g) hb)
  refine ⟨fun h => ?_, fun h => ?_⟩
  · have hext : (s.extract 0 s.size).size = s.size := by rw [ByteArray.size_extract]; omega
    refine ⟨⟨by omega, by rw [show Int.toNat 0 = 0 from rfl]; omega, trivial⟩, ⟨by rw [show Int.toNat 0 = 0 from rfl, hext]; omega, trivial⟩, ⟨rfl, rfl, ?_⟩, ?_⟩
    · have := dec_five s 0
      exact congrArg List.toArray this
    repeat' first | exact trivial | exact dH0_2 | apply And.intro | exact rfl
  · have := of_decide_eq_false h; omega
omit h0 in
theorem rem6 : (ari .rem .i64 (s.size : Int) 6 != 0) = false := by
  rw [ari_rem]
  have : (s.size : Int).tmod 6 = 0 := by
    rw [Int.tmod_eq_emod_of_nonneg (by omega)]; omega
  rw [this]; rfl
theorem dec_all : Good Try.prog (decA (resE s) (s.size / 6) (decL s (s.size / 6)).toArray) 0 (decC s) M0 := by
  refine run_vc E9_ok 1000 (dec_start s (resE s) (s.size / 6) (decL s (s.size / 6)).toArray (fun i => i = 0)) ?_ (fun _ _ h => h)
    (fun fs m hb => decN0_good (fun i a b c d e g hi => by rw [hi]; exact dec_first s h6 hsz h0 a b c d e g) hb)
  rw [rem6 s h6 hsz]
  refine ⟨fun _ => ⟨fun h => ?_, fun h => ?_⟩, fun h => ?_⟩
  · simp at h; omega
  · repeat' first | exact trivial | exact dT0_ok | apply And.intro | exact rfl
  · cases h
end
theorem dec_no (s : ByteArray) (h : ¬ (s.size % 6 = 0 ∧ s.size ≤ 384)) (hl : s.size < 9223372036854775807) : Good Try.prog (decA 3 0 #[]) 0 (decC s) M0 := by
  refine run_vc E9_ok 1000 (dec_start s 3 0 #[] (fun i => False)) ?_ (fun _ _ h => h) (fun fs m hb => decN0_good (fun i a b c d e g hi => hi.elim) hb)
  refine ⟨fun h1 => ⟨fun _ => ⟨rfl, rfl⟩, fun h2 => ?_⟩, fun _ => ⟨rfl, rfl⟩⟩
  exfalso
  rw [ari_rem, Int.tmod_eq_emod_of_nonneg (by omega)] at h1
  simp at h1 h2
  omega
end Go.Proofs.Ytaagmmljhgabfaa
/- Of code: what is asked of the empty ones. No condition. -/
namespace Go.Proofs.Ytaagmmljhgabfaa
noncomputable section
def dec0A (e : Int) (s : SV) (_ : SMem) : Prop := match s with
  | .tup [.c (.f (.lit (.slice none 0 0))), .c (.f (.int .i64 y))] => y.den = e
  | _ => False
end
end Go.Proofs.Ytaagmmljhgabfaa
/- Of code: what the empty ones come to, as propositions. No condition. -/
namespace Go.Proofs.Ytaagmmljhgabfaa
set_option maxRecDepth 100000
theorem dec_lit (e : Int) : (run E0 1000 0 [callFr 11 Try.f11.ntmps [.s (.c (.f (.lit (.string ⟨⟨[]⟩⟩))))] (Try.f11.body.getD .skip)] ⟨0, .nil, []⟩).vc (dec0A e) (fun _ _ => False) =
    ((0 : Int) = e) := by kernel_rfl
theorem enc_lit0 (e : Int) : (run E0 1000 0 [callFr 6 Try.f6.ntmps [nilV] (Try.f6.body.getD .skip)] ⟨0, .nil, []⟩).vc (encA .empty e) (fun _ _ => False) =
    (ByteArray.empty = ByteArray.empty ∧ (0 : Int) = e) := by kernel_rfl
theorem enc_lit1 (e : Int) : (run E0 1000 0 [callFr 6 Try.f6.ntmps [.s (.c (.f .e0))] (Try.f6.body.getD .skip)] ⟨0, .nil, []⟩).vc (encA .empty e) (fun _ _ => False) =
    (ByteArray.empty = ByteArray.empty ∧ (0 : Int) = e) := by kernel_rfl
end Go.Proofs.Ytaagmmljhgabfaa
/- Of code: the contracts of Encode and Decode together. No condition. -/
namespace Go.Proofs.Ytaagmmljhgabfaa
set_option maxRecDepth 100000
/-- A function that makes a row of its own, and answers a number with it. -/
theorem Con.freshT {E : Env} (hE : EnvOk E) {g : FuncId} {l : List SV} {m : SMem} {q : List Prop} {k : SN} {cap : SK} {a : SA} {ty : TypeId} {e : Int} {fn : Func} {c : Code} (h1 : E.fn g = some fn) (h2 : fn.body = some c) (hl0 : allB noIds l = true) (ha : freeA a = true)
    (h : (∀ p ∈ q, p) → Good E.P (fun s m' => s = .tup [.c (.f (.slice 0 (.l 0) k cap)), .c (.f (.int .i64 (.l e)))] ∧ m' = ⟨1, Tr.nil.set 0 (some ⟨a, ty, true⟩), []⟩) 0 [callFr g fn.ntmps l c] ⟨0, .nil, []⟩) :
    Con E g l m (needs q (.ret (.tup [.c (.f (.slice m.next (.l 0) k cap)), .c (.f (.int .i64 (.l e)))]) (m.new a ty))) := by
  intro A hs
  obtain ⟨hq, hA⟩ := Tree.sat_needs hs
  refine ⟨fn, h1, by rw [h2]; rfl, fun n0 F w0 w R args hl hR => ?_⟩
  refine (answers_of_good (m := ⟨0, .nil, []⟩) (hE.fns _ _ h1).1 h2 (h hq) (ok_anys hl0 hl) hR.none).mono ?_
  rintro v w' ⟨s, m', R', ⟨rfl, rfl⟩, hX, hR', hv⟩
  have hb0 : getB (Tr.nil.set 0 (some ⟨a, ty, true⟩)) 0 = some ⟨a, ty, true⟩ := rfl
  obtain ⟨gl, cs, fz, e1, e2, e3, e4, e5⟩ := hR'.blk 0 _ hb0
  obtain ⟨e6, rfl⟩ := e5 rfl
  have e7 : w.heap.size ≤ gl.b := e6.resolve_right fun x => x
  obtain ⟨R2, k1, k2, k3⟩ := hR.grow hR'.fr.to e7 (hR'.lt 0 gl e1) e2 e3 (free_ok (R' := R) ha e4)
  obtain ⟨vs, rfl, hv⟩ := hv
  match hvs : vs.toList, hv with
  | [x, y], hv =>
    obtain ⟨⟨g, cp, f1, rfl, f2, f3⟩, hy, _⟩ := hv
    rw [e1] at f1
    cases f1
    refine ⟨_, _, R2, hA, k1, k3, vs, rfl, ?_⟩
    rw [hvs]
    exact ⟨⟨gl, cp, k2, rfl, f2, f3⟩, hy, trivial⟩
noncomputable section
def nil3 : SV := .tup [.c (.f (.lit (.slice none 0 0))), .c (.f (.int .i64 (.l 3)))]
def nil0 : SV := .tup [.c (.f (.lit (.slice none 0 0))), .c (.f (.int .i64 (.l 0)))]
def rowD (s : ByteArray) : Array Value := (decL s (s.size / 6)).toArray
def sizeD (s : ByteArray) : Nat := s.size / 6
def decT (m : SMem) : SV → Option Tree
  | .s (.c (.f (.lit (.string ⟨⟨[]⟩⟩)))) => some (.ret nil0 m)
  | .s (.c (.f (.opq (.string s)))) => some (needs [s.size ≠ 0, s.size < 9223372036854775807] (.br (decOk s) (.ret (.tup [.c (.f (.slice m.next (.l 0) (.o (sizeD s)) .any)), .c (.f (.int .i64 (.l 0)))]) (m.new (.pop (rowD s)) 41)) (.ret nil3 m)))
  | _ => none
def conE (g : FuncId) (l : List SV) (m : SMem) : Option Tree := match g, l with
  | 5, [] => some (needs [] (.ret (sB (.l true)) m))
  | 9, [x] => mayT m x
  | 6, [x] => encT m x
  | 11, [x] => decT m x
  | _, _ => none
def EC : Env := ⟨Try.prog, fnOf, conE, fun _ _ x => isLoop x⟩
/-- No loop is passed over. -/
def EL : Env := ⟨Try.prog, fnOf, conE, fun _ _ _ => false⟩
end
theorem fn11 : E0.fn 11 = some Try.f11 := by kernel_rfl
theorem body11 : Try.f11.body = some (Try.f11.body.getD .skip) := by kernel_rfl
theorem strV_ok {s : ByteArray} {R R' : Ren} {vs : List Value} (h : All2 (SV.ok R) [strV s] vs) : All2 (SV.ok R') [strV s] vs := by
  match vs, h with
  | [x], h => exact ⟨h.1, trivial⟩
theorem nil3_ok {k : Nat} {cs : Array Value} {s : SV} {m' : SMem} {R R' : Ren} {v : Value} (h : decA 3 k cs s m') (hv : s.ok R' v) : nil3.ok R v := by
  unfold decA at h
  split at h
  · rename_i y
    obtain ⟨h1, _⟩ := h
    obtain ⟨vs, rfl, hl⟩ := hv
    match hvs : vs.toList, hl with
    | [a, c], hl =>
      refine ⟨vs, rfl, ?_⟩
      rw [hvs]
      obtain ⟨ha, hc, _⟩ := hl
      have hc : c = .int .i64 y.den := hc
      rw [h1] at hc
      exact ⟨ha, hc, trivial⟩
  · exact absurd h.1 (by decide)
  · exact h.elim
theorem Con.none {g : FuncId} {fn : Func} {c : Code} {l : List SV} {m : SMem} {s0 : SV} {A : SV → SMem → Prop} (h1 : E0.fn g = some fn) (h2 : fn.body = some c) (hl : allB noIds l = true) (good : Good Try.prog A 0 [callFr g fn.ntmps l c] M0)
    (hs : ∀ s m' R R' v, A s m' → s.ok R' v → s0.ok R v) : Con E0 g l m (.ret s0 m) :=
  Con.ro E0_ok (l := l) (l' := l) (ms := M0) (m := m) (q := []) h1 h2 rfl (fun i => i) (fun i b hb => by
    have hb : (Tr.nil : Tr SBlk).get i = some b := hb
    rw [Tr.get_nil] at hb; cases hb) (fun R vs ha => ok_anys hl ha) (fun _ => good) hs
theorem nil0_ok {s : SV} {m' : SMem} {R R' : Ren} {v : Value} (h : dec0A 0 s m') (hv : s.ok R' v) : nil0.ok R v := by
  unfold dec0A at h
  split at h
  · rename_i y
    obtain ⟨vs, rfl, hl⟩ := hv
    match hvs : vs.toList, hl with
    | [a, c], hl =>
      refine ⟨vs, rfl, ?_⟩
      rw [hvs]
      obtain ⟨ha, hc, _⟩ := hl
      have hc : c = .int .i64 y.den := hc
      rw [h] at hc
      exact ⟨ha, hc, trivial⟩
  · exact h.elim
theorem encT_ok {m : SMem} {x : SV} {t : Tree} (h : encT m x = some t) : Con E0 6 [x] m t := by
  unfold encT at h
  split at h
  · cases h
    exact Con.none fn6 body6 (by kernel_rfl) (run_vc E0_ok 1000 (enc_lit0 0) ⟨rfl, rfl⟩ (fun s m h => h) fun _ _ h => h.elim) fun _ _ _ _ _ => tup_ok true
  · cases h
    exact Con.none fn6 body6 (by kernel_rfl) (run_vc E0_ok 1000 (enc_lit1 0) ⟨rfl, rfl⟩ (fun s m h => h) fun _ _ h => h.elim) fun _ _ _ _ _ => tup_ok true
  · split at h
    · rename_i cs e
      cases h
      exact enc_con e
    · cases h
  · cases h
theorem dec_yes (s : ByteArray) (h0 : s.size ≠ 0) (hd : decOk s = true) : Good Try.prog (fun r m' => r = .tup [.c (.f (.slice 0 (.l 0) (.o (sizeD s)) .any)), .c (.f (.int .i64 (.l 0)))] ∧ m' = ⟨1, Tr.nil.set 0 (some ⟨.pop (rowD s), 41, true⟩), []⟩) 0 (decC s) M0 := by
  have hc : s.size % 6 = 0 ∧ s.size ≤ 384 := by unfold decOk at hd; simp at hd; exact hd.1
  refine Good.retX ((dec_all s hc.1 hc.2 h0).mono ?_)
  intro r m' h
  have he : resE s = 0 := by unfold resE; rw [if_pos hd]
  rw [he] at h
  unfold decA at h
  split at h
  · exact absurd h.2 (by decide)
  · exact ⟨_, h.2⟩
  · exact h.elim
theorem dec_not (s : ByteArray) (h0 : s.size ≠ 0) (hl : s.size < 9223372036854775807) (hd : decOk s = false) : ∃ k cs, Good Try.prog (decA 3 k cs) 0 (decC s) M0 := by
  by_cases hc : s.size % 6 = 0 ∧ s.size ≤ 384
  · have he : resE s = 3 := by unfold resE; rw [hd]; rfl
    exact ⟨_, _, he ▸ dec_all s hc.1 hc.2 h0⟩
  · exact ⟨_, _, dec_no s hc hl⟩
theorem decT_ok {m : SMem} {x : SV} {t : Tree} (h : decT m x = some t) : Con E0 11 [x] m t := by
  unfold decT at h
  split at h
  · cases h
    exact Con.none fn11 body11 (by kernel_rfl) (run_vc E0_ok 1000 (dec_lit 0) rfl (fun s m h => h) fun _ _ h => h.elim) fun _ _ _ _ _ => nil0_ok
  · rename_i s
    cases h
    refine Con.br (fun hd => ?_) fun hd => ?_
    · exact Con.freshT E0_ok fn11 body11 (by kernel_rfl) rfl fun hq => dec_yes s (hq _ (by simp)) hd
    · intro B hB
      obtain ⟨hq, _⟩ := Tree.sat_needs hB
      obtain ⟨k, cs, hg⟩ := dec_not s (hq _ (by simp)) (hq _ (by simp)) hd
      exact Con.ro E0_ok (l := [strV s]) (l' := [strV s]) (ms := M0) (m := m) (q := _) fn11 body11 rfl (fun i => i) (fun i b hb => by
        have hb : (Tr.nil : Tr SBlk).get i = some b := hb
        rw [Tr.get_nil] at hb; cases hb) (fun R vs ha => strV_ok ha) (fun _ => hg) (fun _ _ _ _ _ => nil3_ok) B hB
  · cases h
theorem conE_ok (g : FuncId) (l : List SV) (m : SMem) (t : Tree) (h : conE g l m = some t) : Con E0 g l m t := by
  unfold conE at h
  split at h
  · cases h; exact wakes_con m
  · exact mayT_ok h
  · exact encT_ok h
  · exact decT_ok h
  · cases h
theorem EC_ok : EnvOk EC := EnvOk.with E0_ok _ _ conE_ok
theorem EL_ok : EnvOk EL := EnvOk.with E0_ok _ _ conE_ok
end Go.Proofs.Ytaagmmljhgabfaa
/- Of code: CodeBack's states. No condition. -/
namespace Go.Proofs.Ytaagmmljhgabfaa
noncomputable section
def Eh (a c : Bool) : Env := ⟨Try.prog, fnOf, conE, fun _ _ x => isLoop x && ((a && Nat.beq (loopId x) 11) || (c && Nat.beq (loopId x) 20))⟩
def e0V : SV := .s (.c (.f .e0))
def litE : SV := .s (.c (.f (.lit (.string ⟨⟨[]⟩⟩))))
def M1 : SMem := ⟨1, .nil, []⟩
def backC (x y : SV) : List SFr := [callFr 4 Try.f4.ntmps [x, y] (Try.f4.body.getD .skip)]
def bk (w : Bool) (off n : Nat) (cs : Array Value) (ty : TypeId) (b : ByteArray) : Tree := run (Eh true w) 1000 1 (backC (prS off n) (cond w (strV b) litE)) (prM true cs ty)
def b11F (w : Bool) (off n : Nat) (cs : Array Value) (ty : TypeId) (b : ByteArray) (i : Int) : List SFr := setSl [(9, i64 (.o i))] (((bk w off n cs ty b).fsAt 11).map SFr.bare)
def b11M (w : Bool) (off n : Nat) (cs : Array Value) (ty : TypeId) (b : ByteArray) : SMem := ((bk w off n cs ty b).memAt 11).bare
def b20F (b : ByteArray) (i e : Int) (s : ByteArray) (k : Nat) : List SFr := setSl [(1, strV b), (10, .s (.c (.f (.slice 1 (.l 0) (.o k) .any)))), (12, strV s), (13, i64 (.o e)), (14, i64 (.o i))]
  (dropSl (List.range 150) (((run (Eh false true) 1000 1 (backC e0V (strV b)) M1).fsAt 20).map SFr.bare))
def b20M (cs : Array Value) : SMem := ⟨2, Tr.nil.set 1 (some ⟨.pop cs, 41, true⟩), []⟩
def lid : List SFr → Nat
  | f :: _ => match f.todo with
    | x :: _ => loopId x
    | [] => 0
  | [] => 0
def n20 (h : Bool) (b : ByteArray) (Q : Int → Int → ByteArray → Nat → Array Value → Prop) (fs : List SFr) (m : SMem) : Prop := match fs with
  | f :: _ => match rdI f 14, rdI f 13, f.tm.get 12, rdS f 10 m with
    | some i, some e, some x, some (some (sid, k, cs)) => match strS x with
      | some (_, s) => Q i e s k cs ∧ subOk 1 [(1, sid)] ((cond h headF id) (b20F b i e s k)) (b20M cs) fs m
      | none => False
    | _, _, _, _ => False
  | [] => False
def n11 (h w : Bool) (off n : Nat) (cs : Array Value) (ty : TypeId) (b : ByteArray) (Q : Int → Prop) (fs : List SFr) (m : SMem) : Prop := match fs with
  | f :: _ => match rdI f 9 with
    | some i => Q i ∧ subOk 1 [(1, 1)] ((cond h headF id) (b11F w off n cs ty b i)) (b11M w off n cs ty b) fs m
    | none => False
  | [] => False
def nB (h w : Bool) (off n : Nat) (cs : Array Value) (ty : TypeId) (b : ByteArray) (Q : Int → Prop) (Q2 : Int → Int → ByteArray → Nat → Array Value → Prop) (fs : List SFr) (m : SMem) : Prop := match Nat.beq (lid fs) 11 with
  | true => n11 h w off n cs ty b Q fs m
  | false => n20 false b Q2 fs m
def bT11 : List SIt := headTd (b11F true 0 0 #[] 0 .empty 0)
def bH11 : List SIt := headTd (headF (b11F true 0 0 #[] 0 .empty 0))
def bT20 : List SIt := headTd (b20F .empty 0 0 .empty 0)
def bH20 : List SIt := headTd (headF (b20F .empty 0 0 .empty 0))
end
end Go.Proofs.Ytaagmmljhgabfaa
/- Of code: the rounds of CodeBack, as propositions. No condition. -/
namespace Go.Proofs.Ytaagmmljhgabfaa
set_option maxRecDepth 100000
theorem bk_s2 (b : ByteArray) (r : Bool) (Q : Int → Int → ByteArray → Nat → Array Value → Prop) : (run (Eh false true) 1000 1 (backC e0V (strV b)) M1).vc (boolR r) (n20 false b Q) =
    ((decide (((↑(ByteArray.size b) : Int)) > (1000 : Int)) = true → true = r) ∧ (decide (((↑(ByteArray.size b) : Int)) > (1000 : Int)) = false → (ByteArray.size b ≠ (0 : Nat) ∧ ByteArray.size b < (9223372036854775807 : Nat) ∧ True) ∧ (decOk b = true → (InsOk (rowD b) (0 : Nat) (sizeD b) ∧ True) ∧ (mayV (rowD b) (0 : Nat) (sizeD b) = true → Q (0 : Int) (0 : Int) (encB (rowD b) (0 : Nat) (sizeD b)) (sizeD b) (rowD b) ∧ CallKind.normal = CallKind.normal ∧ TodoOk (ren 1 [(1, 1)]) bT20 bT20 ∧ Value.string b = Value.string b ∧ (0 : Int) = (0 : Int) ∧ Value.string ((List.brecOn.go (motive := fun x => ByteArray → ByteArray) (encL (rowD b) (0 : Nat) (sizeD b)) (List.foldl._f fun r v => ByteArray.push r (UInt8.ofNat (match v with | Value.int k n => Int.toNat n | x => (0 : Nat))))).1 ByteArray.empty) = Value.string ((List.brecOn.go (motive := fun x => ByteArray → ByteArray) (encL (rowD b) (0 : Nat) (sizeD b)) (List.foldl._f fun r v => ByteArray.push r (UInt8.ofNat (match v with | Value.int k n => Int.toNat n | x => (0 : Nat))))).1 ByteArray.empty) ∧ sizeD b = sizeD b ∧ (0 : Int) = (0 : Int) ∧ (41 : TypeId) = (41 : TypeId) ∧ rowD b = rowD b ∧ True) ∧ (mayV (rowD b) (0 : Nat) (sizeD b) = false → Q (0 : Int) (3 : Int) ByteArray.empty (sizeD b) (rowD b) ∧ CallKind.normal = CallKind.normal ∧ TodoOk (ren 1 [(1, 1)]) bT20 bT20 ∧ Value.string b = Value.string b ∧ (3 : Int) = (3 : Int) ∧ Value.string (ByteArray.mk (Array.mk [])) = Value.string (ByteArray.mk (Array.mk [])) ∧ sizeD b = sizeD b ∧ (0 : Int) = (0 : Int) ∧ (41 : TypeId) = (41 : TypeId) ∧ rowD b = rowD b ∧ True)) ∧ (decOk b = false → true = r))) := by kernel_rfl
theorem bk_s3 (off n : Nat) (cs : Array Value) (ty : TypeId) (b : ByteArray) (r : Bool) (Q : Int → Prop) (Q2 : Int → Int → ByteArray → Nat → Array Value → Prop) : (bk false off n cs ty b).vc (boolR r) (nB false false off n cs ty b Q Q2) =
    (((decide ((↑n : Int) > (200 : Int)) == false) = true → (InsOk cs off n ∧ True) ∧ (mayV cs off n = true → (InsOk cs off n ∧ True) ∧ ((!((0 : Int) == (0 : Int)) == mayV cs off n) = true → false = r) ∧ ((!((0 : Int) == (0 : Int)) == mayV cs off n) = false → (ByteArray.size (encB cs off n) ≠ (0 : Nat) ∧ ByteArray.size (encB cs off n) < (9223372036854775807 : Nat) ∧ True) ∧ (decOk (encB cs off n) = true → (((↑(sizeD (encB cs off n)) : Int) != (↑n : Int)) = true → false = r) ∧ (((↑(sizeD (encB cs off n)) : Int) != (↑n : Int)) = false → Q (0 : Int) ∧ CallKind.normal = CallKind.normal ∧ TodoOk (ren 1 [(1, 1)]) bT11 bT11 ∧ off = off ∧ n = n ∧ Value.string (ByteArray.mk (Array.mk [])) = Value.string (ByteArray.mk (Array.mk [])) ∧ sizeD (encB cs off n) = sizeD (encB cs off n) ∧ off = off ∧ n = n ∧ off = off ∧ n = n ∧ (↑n : Int) = (↑n : Int) ∧ sizeD (encB cs off n) = sizeD (encB cs off n) ∧ Value.string (ByteArray.mk (Array.mk [])) = Value.string (ByteArray.mk (Array.mk [])) ∧ Value.string ((List.brecOn.go (motive := fun x => ByteArray → ByteArray) (encL cs off n) (List.foldl._f fun r v => ByteArray.push r (UInt8.ofNat (match v with | Value.int k n => Int.toNat n | x => (0 : Nat))))).1 ByteArray.empty) = Value.string ((List.brecOn.go (motive := fun x => ByteArray → ByteArray) (encL cs off n) (List.foldl._f fun r v => ByteArray.push r (UInt8.ofNat (match v with | Value.int k n => Int.toNat n | x => (0 : Nat))))).1 ByteArray.empty) ∧ Value.string ((List.brecOn.go (motive := fun x => ByteArray → ByteArray) (encL cs off n) (List.foldl._f fun r v => ByteArray.push r (UInt8.ofNat (match v with | Value.int k n => Int.toNat n | x => (0 : Nat))))).1 ByteArray.empty) = Value.string ((List.brecOn.go (motive := fun x => ByteArray → ByteArray) (encL cs off n) (List.foldl._f fun r v => ByteArray.push r (UInt8.ofNat (match v with | Value.int k n => Int.toNat n | x => (0 : Nat))))).1 ByteArray.empty) ∧ (0 : Int) = (0 : Int) ∧ decide ((↑n : Int) > (200 : Int)) = decide ((↑n : Int) > (200 : Int)) ∧ off = off ∧ n = n ∧ Value.string ((List.brecOn.go (motive := fun x => ByteArray → ByteArray) (encL cs off n) (List.foldl._f fun r v => ByteArray.push r (UInt8.ofNat (match v with | Value.int k n => Int.toNat n | x => (0 : Nat))))).1 ByteArray.empty) = Value.string ((List.brecOn.go (motive := fun x => ByteArray → ByteArray) (encL cs off n) (List.foldl._f fun r v => ByteArray.push r (UInt8.ofNat (match v with | Value.int k n => Int.toNat n | x => (0 : Nat))))).1 ByteArray.empty) ∧ (↑(sizeD (encB cs off n)) : Int) = (↑(sizeD (encB cs off n)) : Int) ∧ (↑n : Int) = (↑n : Int) ∧ mayV cs off n = mayV cs off n ∧ ((↑(sizeD (encB cs off n)) : Int) != (↑n : Int)) = ((↑(sizeD (encB cs off n)) : Int) != (↑n : Int)) ∧ Value.string ((List.brecOn.go (motive := fun x => ByteArray → ByteArray) (encL cs off n) (List.foldl._f fun r v => ByteArray.push r (UInt8.ofNat (match v with | Value.int k n => Int.toNat n | x => (0 : Nat))))).1 ByteArray.empty) = Value.string ((List.brecOn.go (motive := fun x => ByteArray → ByteArray) (encL cs off n) (List.foldl._f fun r v => ByteArray.push r (UInt8.ofNat (match v with | Value.int k n => Int.toNat n | x => (0 : Nat))))).1 ByteArray.empty) ∧ sizeD (encB cs off n) = sizeD (encB cs off n) ∧ sizeD (encB cs off n) = sizeD (encB cs off n) ∧ Value.string ((List.brecOn.go (motive := fun x => ByteArray → ByteArray) (encL cs off n) (List.foldl._f fun r v => ByteArray.push r (UInt8.ofNat (match v with | Value.int k n => Int.toNat n | x => (0 : Nat))))).1 ByteArray.empty) = Value.string ((List.brecOn.go (motive := fun x => ByteArray → ByteArray) (encL cs off n) (List.foldl._f fun r v => ByteArray.push r (UInt8.ofNat (match v with | Value.int k n => Int.toNat n | x => (0 : Nat))))).1 ByteArray.empty) ∧ sizeD (encB cs off n) = sizeD (encB cs off n) ∧ off = off ∧ n = n ∧ ty = ty ∧ cs = cs ∧ (41 : TypeId) = (41 : TypeId) ∧ rowD (encB cs off n) = rowD (encB cs off n) ∧ True)) ∧ (decOk (encB cs off n) = false → false = r))) ∧ (mayV cs off n = false → (InsOk cs off n ∧ True) ∧ ((!((3 : Int) == (0 : Int)) == mayV cs off n) = true → false = r) ∧ ((!((3 : Int) == (0 : Int)) == mayV cs off n) = false → true = r))) ∧ ((decide ((↑n : Int) > (200 : Int)) == false) = false → true = r)) := by kernel_rfl
theorem bk_s4 (off n : Nat) (cs : Array Value) (ty : TypeId) (b : ByteArray) (r : Bool) (Q : Int → Prop) (Q2 : Int → Int → ByteArray → Nat → Array Value → Prop) : (bk true off n cs ty b).vc (boolR r) (nB false true off n cs ty b Q Q2) =
    (((decide ((↑n : Int) > (200 : Int)) == false) = true → (decide (((↑(ByteArray.size b) : Int)) > (1000 : Int)) = true → true = r) ∧ (decide (((↑(ByteArray.size b) : Int)) > (1000 : Int)) = false → (InsOk cs off n ∧ True) ∧ (mayV cs off n = true → (InsOk cs off n ∧ True) ∧ ((!((0 : Int) == (0 : Int)) == mayV cs off n) = true → false = r) ∧ ((!((0 : Int) == (0 : Int)) == mayV cs off n) = false → (ByteArray.size (encB cs off n) ≠ (0 : Nat) ∧ ByteArray.size (encB cs off n) < (9223372036854775807 : Nat) ∧ True) ∧ (decOk (encB cs off n) = true → (((↑(sizeD (encB cs off n)) : Int) != (↑n : Int)) = true → false = r) ∧ (((↑(sizeD (encB cs off n)) : Int) != (↑n : Int)) = false → Q (0 : Int) ∧ CallKind.normal = CallKind.normal ∧ TodoOk (ren 1 [(1, 1)]) bT11 bT11 ∧ off = off ∧ n = n ∧ Value.string b = Value.string b ∧ sizeD (encB cs off n) = sizeD (encB cs off n) ∧ off = off ∧ n = n ∧ off = off ∧ n = n ∧ (↑n : Int) = (↑n : Int) ∧ sizeD (encB cs off n) = sizeD (encB cs off n) ∧ Value.string b = Value.string b ∧ Value.string ((List.brecOn.go (motive := fun x => ByteArray → ByteArray) (encL cs off n) (List.foldl._f fun r v => ByteArray.push r (UInt8.ofNat (match v with | Value.int k n => Int.toNat n | x => (0 : Nat))))).1 ByteArray.empty) = Value.string ((List.brecOn.go (motive := fun x => ByteArray → ByteArray) (encL cs off n) (List.foldl._f fun r v => ByteArray.push r (UInt8.ofNat (match v with | Value.int k n => Int.toNat n | x => (0 : Nat))))).1 ByteArray.empty) ∧ Value.string ((List.brecOn.go (motive := fun x => ByteArray → ByteArray) (encL cs off n) (List.foldl._f fun r v => ByteArray.push r (UInt8.ofNat (match v with | Value.int k n => Int.toNat n | x => (0 : Nat))))).1 ByteArray.empty) = Value.string ((List.brecOn.go (motive := fun x => ByteArray → ByteArray) (encL cs off n) (List.foldl._f fun r v => ByteArray.push r (UInt8.ofNat (match v with | Value.int k n => Int.toNat n | x => (0 : Nat))))).1 ByteArray.empty) ∧ (0 : Int) = (0 : Int) ∧ decide ((↑n : Int) > (200 : Int)) = decide ((↑n : Int) > (200 : Int)) ∧ off = off ∧ n = n ∧ decide (((↑(ByteArray.size b) : Int)) > (1000 : Int)) = decide (((↑(ByteArray.size b) : Int)) > (1000 : Int)) ∧ Value.string ((List.brecOn.go (motive := fun x => ByteArray → ByteArray) (encL cs off n) (List.foldl._f fun r v => ByteArray.push r (UInt8.ofNat (match v with | Value.int k n => Int.toNat n | x => (0 : Nat))))).1 ByteArray.empty) = Value.string ((List.brecOn.go (motive := fun x => ByteArray → ByteArray) (encL cs off n) (List.foldl._f fun r v => ByteArray.push r (UInt8.ofNat (match v with | Value.int k n => Int.toNat n | x => (0 : Nat))))).1 ByteArray.empty) ∧ (↑(sizeD (encB cs off n)) : Int) = (↑(sizeD (encB cs off n)) : Int) ∧ (↑n : Int) = (↑n : Int) ∧ mayV cs off n = mayV cs off n ∧ ((↑(sizeD (encB cs off n)) : Int) != (↑n : Int)) = ((↑(sizeD (encB cs off n)) : Int) != (↑n : Int)) ∧ Value.string ((List.brecOn.go (motive := fun x => ByteArray → ByteArray) (encL cs off n) (List.foldl._f fun r v => ByteArray.push r (UInt8.ofNat (match v with | Value.int k n => Int.toNat n | x => (0 : Nat))))).1 ByteArray.empty) = Value.string ((List.brecOn.go (motive := fun x => ByteArray → ByteArray) (encL cs off n) (List.foldl._f fun r v => ByteArray.push r (UInt8.ofNat (match v with | Value.int k n => Int.toNat n | x => (0 : Nat))))).1 ByteArray.empty) ∧ (((↑(ByteArray.size b) : Int)) = (↑(ByteArray.size b) : Int)) ∧ sizeD (encB cs off n) = sizeD (encB cs off n) ∧ sizeD (encB cs off n) = sizeD (encB cs off n) ∧ Value.string ((List.brecOn.go (motive := fun x => ByteArray → ByteArray) (encL cs off n) (List.foldl._f fun r v => ByteArray.push r (UInt8.ofNat (match v with | Value.int k n => Int.toNat n | x => (0 : Nat))))).1 ByteArray.empty) = Value.string ((List.brecOn.go (motive := fun x => ByteArray → ByteArray) (encL cs off n) (List.foldl._f fun r v => ByteArray.push r (UInt8.ofNat (match v with | Value.int k n => Int.toNat n | x => (0 : Nat))))).1 ByteArray.empty) ∧ sizeD (encB cs off n) = sizeD (encB cs off n) ∧ off = off ∧ n = n ∧ ty = ty ∧ cs = cs ∧ (41 : TypeId) = (41 : TypeId) ∧ rowD (encB cs off n) = rowD (encB cs off n) ∧ True)) ∧ (decOk (encB cs off n) = false → false = r))) ∧ (mayV cs off n = false → (InsOk cs off n ∧ True) ∧ ((!((3 : Int) == (0 : Int)) == mayV cs off n) = true → false = r) ∧ ((!((3 : Int) == (0 : Int)) == mayV cs off n) = false → (ByteArray.size b ≠ (0 : Nat) ∧ ByteArray.size b < (9223372036854775807 : Nat) ∧ True) ∧ (decOk b = true → (InsOk (rowD b) (0 : Nat) (sizeD b) ∧ True) ∧ (mayV (rowD b) (0 : Nat) (sizeD b) = true → Q2 (0 : Int) (0 : Int) (encB (rowD b) (0 : Nat) (sizeD b)) (sizeD b) (rowD b) ∧ CallKind.normal = CallKind.normal ∧ TodoOk (ren 1 [(1, 1)]) bT20 bT20 ∧ Value.string b = Value.string b ∧ (0 : Int) = (0 : Int) ∧ Value.string ((List.brecOn.go (motive := fun x => ByteArray → ByteArray) (encL (rowD b) (0 : Nat) (sizeD b)) (List.foldl._f fun r v => ByteArray.push r (UInt8.ofNat (match v with | Value.int k n => Int.toNat n | x => (0 : Nat))))).1 ByteArray.empty) = Value.string ((List.brecOn.go (motive := fun x => ByteArray → ByteArray) (encL (rowD b) (0 : Nat) (sizeD b)) (List.foldl._f fun r v => ByteArray.push r (UInt8.ofNat (match v with | Value.int k n => Int.toNat n | x => (0 : Nat))))).1 ByteArray.empty) ∧ sizeD b = sizeD b ∧ (0 : Int) = (0 : Int) ∧ (41 : TypeId) = (41 : TypeId) ∧ rowD b = rowD b ∧ True) ∧ (mayV (rowD b) (0 : Nat) (sizeD b) = false → Q2 (0 : Int) (3 : Int) ByteArray.empty (sizeD b) (rowD b) ∧ CallKind.normal = CallKind.normal ∧ TodoOk (ren 1 [(1, 1)]) bT20 bT20 ∧ Value.string b = Value.string b ∧ (3 : Int) = (3 : Int) ∧ Value.string (ByteArray.mk (Array.mk [])) = Value.string (ByteArray.mk (Array.mk [])) ∧ sizeD b = sizeD b ∧ (0 : Int) = (0 : Int) ∧ (41 : TypeId) = (41 : TypeId) ∧ rowD b = rowD b ∧ True)) ∧ (decOk b = false → true = r))))) ∧ ((decide ((↑n : Int) > (200 : Int)) == false) = false → true = r)) := by kernel_rfl
theorem bk_t3 (off n : Nat) (cs : Array Value) (ty : TypeId) (b : ByteArray) (i : Int) (r : Bool) (Q : Int → Prop) (Q2 : Int → Int → ByteArray → Nat → Array Value → Prop) : (stepT (Eh true false).go (run (Eh true false) 1000) 1 (headF (b11F false off n cs ty b i)) (b11M false off n cs ty b)).vc (boolR r) (nB true false off n cs ty b Q Q2) =
    ((decide (i < (↑n : Int)) = true → (((0 : Int) ≤ i ∧ i < (↑(sizeD (encB cs off n)) : Int)) ∧ True) ∧ (IsInt IntKind.u8 (rowD (encB cs off n)) ((0 : Nat) + Int.toNat i * 5) ∧ IsInt IntKind.u8 (rowD (encB cs off n)) ((0 : Nat) + Int.toNat i * 5 + 1) ∧ IsInt IntKind.u8 (rowD (encB cs off n)) ((0 : Nat) + Int.toNat i * 5 + 2) ∧ IsInt IntKind.u8 (rowD (encB cs off n)) ((0 : Nat) + Int.toNat i * 5 + 3) ∧ IsInt IntKind.u16 (rowD (encB cs off n)) ((0 : Nat) + Int.toNat i * 5 + 4) ∧ True) ∧ (((0 : Int) ≤ i ∧ i < (↑n : Int)) ∧ True) ∧ (IsInt IntKind.u8 cs (off + Int.toNat i * 5) ∧ IsInt IntKind.u8 cs (off + Int.toNat i * 5 + 1) ∧ IsInt IntKind.u8 cs (off + Int.toNat i * 5 + 2) ∧ IsInt IntKind.u8 cs (off + Int.toNat i * 5 + 3) ∧ IsInt IntKind.u16 cs (off + Int.toNat i * 5 + 4) ∧ True) ∧ ((!(intAt (rowD (encB cs off n)) ((0 : Nat) + Int.toNat i * 5) == intAt cs (off + Int.toNat i * 5) && (intAt (rowD (encB cs off n)) ((0 : Nat) + Int.toNat i * 5 + 1) == intAt cs (off + Int.toNat i * 5 + 1) && (intAt (rowD (encB cs off n)) ((0 : Nat) + Int.toNat i * 5 + 2) == intAt cs (off + Int.toNat i * 5 + 2) && (intAt (rowD (encB cs off n)) ((0 : Nat) + Int.toNat i * 5 + 3) == intAt cs (off + Int.toNat i * 5 + 3) && intAt (rowD (encB cs off n)) ((0 : Nat) + Int.toNat i * 5 + 4) == intAt cs (off + Int.toNat i * 5 + 4)))))) = true → false = r) ∧ ((!(intAt (rowD (encB cs off n)) ((0 : Nat) + Int.toNat i * 5) == intAt cs (off + Int.toNat i * 5) && (intAt (rowD (encB cs off n)) ((0 : Nat) + Int.toNat i * 5 + 1) == intAt cs (off + Int.toNat i * 5 + 1) && (intAt (rowD (encB cs off n)) ((0 : Nat) + Int.toNat i * 5 + 2) == intAt cs (off + Int.toNat i * 5 + 2) && (intAt (rowD (encB cs off n)) ((0 : Nat) + Int.toNat i * 5 + 3) == intAt cs (off + Int.toNat i * 5 + 3) && intAt (rowD (encB cs off n)) ((0 : Nat) + Int.toNat i * 5 + 4) == intAt cs (off + Int.toNat i * 5 + 4)))))) = false → Q (ari BinOp.add IntKind.i64 i (1 : Int)) ∧ CallKind.normal = CallKind.normal ∧ TodoOk (ren 1 [(1, 1)]) bH11 bH11 ∧ off = off ∧ n = n ∧ Value.string (ByteArray.mk (Array.mk [])) = Value.string (ByteArray.mk (Array.mk [])) ∧ sizeD (encB cs off n) = sizeD (encB cs off n) ∧ off = off ∧ n = n ∧ off = off ∧ n = n ∧ (↑n : Int) = (↑n : Int) ∧ sizeD (encB cs off n) = sizeD (encB cs off n) ∧ Value.string (ByteArray.mk (Array.mk [])) = Value.string (ByteArray.mk (Array.mk [])) ∧ Value.string ((List.brecOn.go (motive := fun x => ByteArray → ByteArray) (encL cs off n) (List.foldl._f fun r v => ByteArray.push r (UInt8.ofNat (match v with | Value.int k n => Int.toNat n | x => (0 : Nat))))).1 ByteArray.empty) = Value.string ((List.brecOn.go (motive := fun x => ByteArray → ByteArray) (encL cs off n) (List.foldl._f fun r v => ByteArray.push r (UInt8.ofNat (match v with | Value.int k n => Int.toNat n | x => (0 : Nat))))).1 ByteArray.empty) ∧ Value.string ((List.brecOn.go (motive := fun x => ByteArray → ByteArray) (encL cs off n) (List.foldl._f fun r v => ByteArray.push r (UInt8.ofNat (match v with | Value.int k n => Int.toNat n | x => (0 : Nat))))).1 ByteArray.empty) = Value.string ((List.brecOn.go (motive := fun x => ByteArray → ByteArray) (encL cs off n) (List.foldl._f fun r v => ByteArray.push r (UInt8.ofNat (match v with | Value.int k n => Int.toNat n | x => (0 : Nat))))).1 ByteArray.empty) ∧ ari BinOp.add IntKind.i64 i (1 : Int) = ari BinOp.add IntKind.i64 i (1 : Int) ∧ decide ((↑n : Int) > (200 : Int)) = decide ((↑n : Int) > (200 : Int)) ∧ off = off ∧ n = n ∧ Value.string ((List.brecOn.go (motive := fun x => ByteArray → ByteArray) (encL cs off n) (List.foldl._f fun r v => ByteArray.push r (UInt8.ofNat (match v with | Value.int k n => Int.toNat n | x => (0 : Nat))))).1 ByteArray.empty) = Value.string ((List.brecOn.go (motive := fun x => ByteArray → ByteArray) (encL cs off n) (List.foldl._f fun r v => ByteArray.push r (UInt8.ofNat (match v with | Value.int k n => Int.toNat n | x => (0 : Nat))))).1 ByteArray.empty) ∧ (↑(sizeD (encB cs off n)) : Int) = (↑(sizeD (encB cs off n)) : Int) ∧ (↑n : Int) = (↑n : Int) ∧ mayV cs off n = mayV cs off n ∧ ((↑(sizeD (encB cs off n)) : Int) != (↑n : Int)) = ((↑(sizeD (encB cs off n)) : Int) != (↑n : Int)) ∧ Value.string ((List.brecOn.go (motive := fun x => ByteArray → ByteArray) (encL cs off n) (List.foldl._f fun r v => ByteArray.push r (UInt8.ofNat (match v with | Value.int k n => Int.toNat n | x => (0 : Nat))))).1 ByteArray.empty) = Value.string ((List.brecOn.go (motive := fun x => ByteArray → ByteArray) (encL cs off n) (List.foldl._f fun r v => ByteArray.push r (UInt8.ofNat (match v with | Value.int k n => Int.toNat n | x => (0 : Nat))))).1 ByteArray.empty) ∧ sizeD (encB cs off n) = sizeD (encB cs off n) ∧ sizeD (encB cs off n) = sizeD (encB cs off n) ∧ Value.string ((List.brecOn.go (motive := fun x => ByteArray → ByteArray) (encL cs off n) (List.foldl._f fun r v => ByteArray.push r (UInt8.ofNat (match v with | Value.int k n => Int.toNat n | x => (0 : Nat))))).1 ByteArray.empty) = Value.string ((List.brecOn.go (motive := fun x => ByteArray → ByteArray) (encL cs off n) (List.foldl._f fun r v => ByteArray.push r (UInt8.ofNat (match v with | Value.int k n => Int.toNat n | x => (0 : Nat))))).1 ByteArray.empty) ∧ sizeD (encB cs off n) = sizeD (encB cs off n) ∧ off = off ∧ n = n ∧ ty = ty ∧ cs = cs ∧ (41 : TypeId) = (41 : TypeId) ∧ rowD (encB cs off n) = rowD (encB cs off n) ∧ True)) ∧ (decide (i < (↑n : Int)) = false → true = r)) := by kernel_rfl
theorem bk_t4 (off n : Nat) (cs : Array Value) (ty : TypeId) (b : ByteArray) (i : Int) (r : Bool) (Q : Int → Prop) (Q2 : Int → Int → ByteArray → Nat → Array Value → Prop) : (stepT (Eh true true).go (run (Eh true true) 1000) 1 (headF (b11F true off n cs ty b i)) (b11M true off n cs ty b)).vc (boolR r) (nB true true off n cs ty b Q Q2) =
    ((decide (i < (↑n : Int)) = true → (((0 : Int) ≤ i ∧ i < (↑(sizeD (encB cs off n)) : Int)) ∧ True) ∧ (IsInt IntKind.u8 (rowD (encB cs off n)) ((0 : Nat) + Int.toNat i * 5) ∧ IsInt IntKind.u8 (rowD (encB cs off n)) ((0 : Nat) + Int.toNat i * 5 + 1) ∧ IsInt IntKind.u8 (rowD (encB cs off n)) ((0 : Nat) + Int.toNat i * 5 + 2) ∧ IsInt IntKind.u8 (rowD (encB cs off n)) ((0 : Nat) + Int.toNat i * 5 + 3) ∧ IsInt IntKind.u16 (rowD (encB cs off n)) ((0 : Nat) + Int.toNat i * 5 + 4) ∧ True) ∧ (((0 : Int) ≤ i ∧ i < (↑n : Int)) ∧ True) ∧ (IsInt IntKind.u8 cs (off + Int.toNat i * 5) ∧ IsInt IntKind.u8 cs (off + Int.toNat i * 5 + 1) ∧ IsInt IntKind.u8 cs (off + Int.toNat i * 5 + 2) ∧ IsInt IntKind.u8 cs (off + Int.toNat i * 5 + 3) ∧ IsInt IntKind.u16 cs (off + Int.toNat i * 5 + 4) ∧ True) ∧ ((!(intAt (rowD (encB cs off n)) ((0 : Nat) + Int.toNat i * 5) == intAt cs (off + Int.toNat i * 5) && (intAt (rowD (encB cs off n)) ((0 : Nat) + Int.toNat i * 5 + 1) == intAt cs (off + Int.toNat i * 5 + 1) && (intAt (rowD (encB cs off n)) ((0 : Nat) + Int.toNat i * 5 + 2) == intAt cs (off + Int.toNat i * 5 + 2) && (intAt (rowD (encB cs off n)) ((0 : Nat) + Int.toNat i * 5 + 3) == intAt cs (off + Int.toNat i * 5 + 3) && intAt (rowD (encB cs off n)) ((0 : Nat) + Int.toNat i * 5 + 4) == intAt cs (off + Int.toNat i * 5 + 4)))))) = true → false = r) ∧ ((!(intAt (rowD (encB cs off n)) ((0 : Nat) + Int.toNat i * 5) == intAt cs (off + Int.toNat i * 5) && (intAt (rowD (encB cs off n)) ((0 : Nat) + Int.toNat i * 5 + 1) == intAt cs (off + Int.toNat i * 5 + 1) && (intAt (rowD (encB cs off n)) ((0 : Nat) + Int.toNat i * 5 + 2) == intAt cs (off + Int.toNat i * 5 + 2) && (intAt (rowD (encB cs off n)) ((0 : Nat) + Int.toNat i * 5 + 3) == intAt cs (off + Int.toNat i * 5 + 3) && intAt (rowD (encB cs off n)) ((0 : Nat) + Int.toNat i * 5 + 4) == intAt cs (off + Int.toNat i * 5 + 4)))))) = false → Q (ari BinOp.add IntKind.i64 i (1 : Int)) ∧ CallKind.normal = CallKind.normal ∧ TodoOk (ren 1 [(1, 1)]) bH11 bH11 ∧ off = off ∧ n = n ∧ Value.string b = Value.string b ∧ sizeD (encB cs off n) = sizeD (encB cs off n) ∧ off = off ∧ n = n ∧ off = off ∧ n = n ∧ (↑n : Int) = (↑n : Int) ∧ sizeD (encB cs off n) = sizeD (encB cs off n) ∧ Value.string b = Value.string b ∧ Value.string ((List.brecOn.go (motive := fun x => ByteArray → ByteArray) (encL cs off n) (List.foldl._f fun r v => ByteArray.push r (UInt8.ofNat (match v with | Value.int k n => Int.toNat n | x => (0 : Nat))))).1 ByteArray.empty) = Value.string ((List.brecOn.go (motive := fun x => ByteArray → ByteArray) (encL cs off n) (List.foldl._f fun r v => ByteArray.push r (UInt8.ofNat (match v with | Value.int k n => Int.toNat n | x => (0 : Nat))))).1 ByteArray.empty) ∧ Value.string ((List.brecOn.go (motive := fun x => ByteArray → ByteArray) (encL cs off n) (List.foldl._f fun r v => ByteArray.push r (UInt8.ofNat (match v with | Value.int k n => Int.toNat n | x => (0 : Nat))))).1 ByteArray.empty) = Value.string ((List.brecOn.go (motive := fun x => ByteArray → ByteArray) (encL cs off n) (List.foldl._f fun r v => ByteArray.push r (UInt8.ofNat (match v with | Value.int k n => Int.toNat n | x => (0 : Nat))))).1 ByteArray.empty) ∧ ari BinOp.add IntKind.i64 i (1 : Int) = ari BinOp.add IntKind.i64 i (1 : Int) ∧ decide ((↑n : Int) > (200 : Int)) = decide ((↑n : Int) > (200 : Int)) ∧ off = off ∧ n = n ∧ decide (((↑(ByteArray.size b) : Int)) > (1000 : Int)) = decide (((↑(ByteArray.size b) : Int)) > (1000 : Int)) ∧ Value.string ((List.brecOn.go (motive := fun x => ByteArray → ByteArray) (encL cs off n) (List.foldl._f fun r v => ByteArray.push r (UInt8.ofNat (match v with | Value.int k n => Int.toNat n | x => (0 : Nat))))).1 ByteArray.empty) = Value.string ((List.brecOn.go (motive := fun x => ByteArray → ByteArray) (encL cs off n) (List.foldl._f fun r v => ByteArray.push r (UInt8.ofNat (match v with | Value.int k n => Int.toNat n | x => (0 : Nat))))).1 ByteArray.empty) ∧ (↑(sizeD (encB cs off n)) : Int) = (↑(sizeD (encB cs off n)) : Int) ∧ (↑n : Int) = (↑n : Int) ∧ mayV cs off n = mayV cs off n ∧ ((↑(sizeD (encB cs off n)) : Int) != (↑n : Int)) = ((↑(sizeD (encB cs off n)) : Int) != (↑n : Int)) ∧ Value.string ((List.brecOn.go (motive := fun x => ByteArray → ByteArray) (encL cs off n) (List.foldl._f fun r v => ByteArray.push r (UInt8.ofNat (match v with | Value.int k n => Int.toNat n | x => (0 : Nat))))).1 ByteArray.empty) = Value.string ((List.brecOn.go (motive := fun x => ByteArray → ByteArray) (encL cs off n) (List.foldl._f fun r v => ByteArray.push r (UInt8.ofNat (match v with | Value.int k n => Int.toNat n | x => (0 : Nat))))).1 ByteArray.empty) ∧ (((↑(ByteArray.size b) : Int)) = (↑(ByteArray.size b) : Int)) ∧ sizeD (encB cs off n) = sizeD (encB cs off n) ∧ sizeD (encB cs off n) = sizeD (encB cs off n) ∧ Value.string ((List.brecOn.go (motive := fun x => ByteArray → ByteArray) (encL cs off n) (List.foldl._f fun r v => ByteArray.push r (UInt8.ofNat (match v with | Value.int k n => Int.toNat n | x => (0 : Nat))))).1 ByteArray.empty) = Value.string ((List.brecOn.go (motive := fun x => ByteArray → ByteArray) (encL cs off n) (List.foldl._f fun r v => ByteArray.push r (UInt8.ofNat (match v with | Value.int k n => Int.toNat n | x => (0 : Nat))))).1 ByteArray.empty) ∧ sizeD (encB cs off n) = sizeD (encB cs off n) ∧ off = off ∧ n = n ∧ ty = ty ∧ cs = cs ∧ (41 : TypeId) = (41 : TypeId) ∧ rowD (encB cs off n) = rowD (encB cs off n) ∧ True)) ∧ (decide (i < (↑n : Int)) = false → (ByteArray.size b ≠ (0 : Nat) ∧ ByteArray.size b < (9223372036854775807 : Nat) ∧ True) ∧ (decOk b = true → (InsOk (rowD b) (0 : Nat) (sizeD b) ∧ True) ∧ (mayV (rowD b) (0 : Nat) (sizeD b) = true → Q2 (0 : Int) (0 : Int) (encB (rowD b) (0 : Nat) (sizeD b)) (sizeD b) (rowD b) ∧ CallKind.normal = CallKind.normal ∧ TodoOk (ren 1 [(1, 2)]) bT20 bT20 ∧ Value.string b = Value.string b ∧ (0 : Int) = (0 : Int) ∧ Value.string ((List.brecOn.go (motive := fun x => ByteArray → ByteArray) (encL (rowD b) (0 : Nat) (sizeD b)) (List.foldl._f fun r v => ByteArray.push r (UInt8.ofNat (match v with | Value.int k n => Int.toNat n | x => (0 : Nat))))).1 ByteArray.empty) = Value.string ((List.brecOn.go (motive := fun x => ByteArray → ByteArray) (encL (rowD b) (0 : Nat) (sizeD b)) (List.foldl._f fun r v => ByteArray.push r (UInt8.ofNat (match v with | Value.int k n => Int.toNat n | x => (0 : Nat))))).1 ByteArray.empty) ∧ sizeD b = sizeD b ∧ (0 : Int) = (0 : Int) ∧ (41 : TypeId) = (41 : TypeId) ∧ rowD b = rowD b ∧ True) ∧ (mayV (rowD b) (0 : Nat) (sizeD b) = false → Q2 (0 : Int) (3 : Int) ByteArray.empty (sizeD b) (rowD b) ∧ CallKind.normal = CallKind.normal ∧ TodoOk (ren 1 [(1, 2)]) bT20 bT20 ∧ Value.string b = Value.string b ∧ (3 : Int) = (3 : Int) ∧ Value.string (ByteArray.mk (Array.mk [])) = Value.string (ByteArray.mk (Array.mk [])) ∧ sizeD b = sizeD b ∧ (0 : Int) = (0 : Int) ∧ (41 : TypeId) = (41 : TypeId) ∧ rowD b = rowD b ∧ True)) ∧ (decOk b = false → true = r))) := by kernel_rfl
theorem bk_u (b : ByteArray) (i e : Int) (s : ByteArray) (k : Nat) (cs : Array Value) (r : Bool) (Q : Int → Int → ByteArray → Nat → Array Value → Prop) : (stepT (Eh true true).go (run (Eh true true) 1000) 1 (headF (b20F b i e s k)) (b20M cs)).vc (boolR r) (n20 true b Q) =
    ((decide (i < (↑k : Int)) = true → (((0 : Int) ≤ i ∧ i < (↑k : Int)) ∧ True) ∧ (IsInt IntKind.u8 cs ((0 : Nat) + Int.toNat i * 5) ∧ True) ∧ (((intAt cs ((0 : Nat) + Int.toNat i * 5) == (5 : Int)) == false) = true → (((0 : Int) ≤ i ∧ i < (↑k : Int)) ∧ True) ∧ (IsInt IntKind.u8 cs ((0 : Nat) + Int.toNat i * 5) ∧ True) ∧ (((intAt cs ((0 : Nat) + Int.toNat i * 5) == (6 : Int)) == true) = true → (((0 : Int) ≤ i ∧ i < (↑k : Int)) ∧ True) ∧ (IsInt IntKind.u16 cs ((0 : Nat) + Int.toNat i * 5 + 4) ∧ True) ∧ ((decide (IntKind.wrap IntKind.i64 (intAt cs ((0 : Nat) + Int.toNat i * 5 + 4)) ≥ (↑k : Int)) == false) = true → (((0 : Int) ≤ i ∧ i < (↑k : Int)) ∧ True) ∧ (IsInt IntKind.u8 cs ((0 : Nat) + Int.toNat i * 5 + 1) ∧ True) ∧ ((decide (intAt cs ((0 : Nat) + Int.toNat i * 5 + 1) ≥ (8 : Int)) == false) = true → (((0 : Int) ≤ i ∧ i < (↑k : Int)) ∧ True) ∧ (IsInt IntKind.u8 cs ((0 : Nat) + Int.toNat i * 5 + 2) ∧ True) ∧ ((decide (intAt cs ((0 : Nat) + Int.toNat i * 5 + 2) ≥ (8 : Int)) == false) = true → (((0 : Int) ≤ i ∧ i < (↑k : Int)) ∧ True) ∧ (IsInt IntKind.u8 cs ((0 : Nat) + Int.toNat i * 5 + 3) ∧ True) ∧ (decide (intAt cs ((0 : Nat) + Int.toNat i * 5 + 3) ≥ (8 : Int)) = true → false = r) ∧ (decide (intAt cs ((0 : Nat) + Int.toNat i * 5 + 3) ≥ (8 : Int)) = false → Q (ari BinOp.add IntKind.i64 i (1 : Int)) e s k cs ∧ CallKind.normal = CallKind.normal ∧ TodoOk (ren 1 [(1, 1)]) bH20 bH20 ∧ Value.string b = Value.string b ∧ e = e ∧ Value.string s = Value.string s ∧ k = k ∧ ari BinOp.add IntKind.i64 i (1 : Int) = ari BinOp.add IntKind.i64 i (1 : Int) ∧ (41 : TypeId) = (41 : TypeId) ∧ cs = cs ∧ True)) ∧ ((decide (intAt cs ((0 : Nat) + Int.toNat i * 5 + 2) ≥ (8 : Int)) == false) = false → false = r)) ∧ ((decide (intAt cs ((0 : Nat) + Int.toNat i * 5 + 1) ≥ (8 : Int)) == false) = false → false = r)) ∧ ((decide (IntKind.wrap IntKind.i64 (intAt cs ((0 : Nat) + Int.toNat i * 5 + 4)) ≥ (↑k : Int)) == false) = false → false = r)) ∧ (((intAt cs ((0 : Nat) + Int.toNat i * 5) == (6 : Int)) == true) = false → (((0 : Int) ≤ i ∧ i < (↑k : Int)) ∧ True) ∧ (IsInt IntKind.u8 cs ((0 : Nat) + Int.toNat i * 5 + 1) ∧ True) ∧ ((decide (intAt cs ((0 : Nat) + Int.toNat i * 5 + 1) ≥ (8 : Int)) == false) = true → (((0 : Int) ≤ i ∧ i < (↑k : Int)) ∧ True) ∧ (IsInt IntKind.u8 cs ((0 : Nat) + Int.toNat i * 5 + 2) ∧ True) ∧ ((decide (intAt cs ((0 : Nat) + Int.toNat i * 5 + 2) ≥ (8 : Int)) == false) = true → (((0 : Int) ≤ i ∧ i < (↑k : Int)) ∧ True) ∧ (IsInt IntKind.u8 cs ((0 : Nat) + Int.toNat i * 5 + 3) ∧ True) ∧ (decide (intAt cs ((0 : Nat) + Int.toNat i * 5 + 3) ≥ (8 : Int)) = true → false = r) ∧ (decide (intAt cs ((0 : Nat) + Int.toNat i * 5 + 3) ≥ (8 : Int)) = false → Q (ari BinOp.add IntKind.i64 i (1 : Int)) e s k cs ∧ CallKind.normal = CallKind.normal ∧ TodoOk (ren 1 [(1, 1)]) bH20 bH20 ∧ Value.string b = Value.string b ∧ e = e ∧ Value.string s = Value.string s ∧ k = k ∧ ari BinOp.add IntKind.i64 i (1 : Int) = ari BinOp.add IntKind.i64 i (1 : Int) ∧ (41 : TypeId) = (41 : TypeId) ∧ cs = cs ∧ True)) ∧ ((decide (intAt cs ((0 : Nat) + Int.toNat i * 5 + 2) ≥ (8 : Int)) == false) = false → false = r)) ∧ ((decide (intAt cs ((0 : Nat) + Int.toNat i * 5 + 1) ≥ (8 : Int)) == false) = false → false = r))) ∧ (((intAt cs ((0 : Nat) + Int.toNat i * 5) == (5 : Int)) == false) = false → (((0 : Int) ≤ i ∧ i < (↑k : Int)) ∧ True) ∧ (IsInt IntKind.u16 cs ((0 : Nat) + Int.toNat i * 5 + 4) ∧ True) ∧ ((decide (IntKind.wrap IntKind.i64 (intAt cs ((0 : Nat) + Int.toNat i * 5 + 4)) ≥ (↑k : Int)) == false) = true → (((0 : Int) ≤ i ∧ i < (↑k : Int)) ∧ True) ∧ (IsInt IntKind.u8 cs ((0 : Nat) + Int.toNat i * 5 + 1) ∧ True) ∧ ((decide (intAt cs ((0 : Nat) + Int.toNat i * 5 + 1) ≥ (8 : Int)) == false) = true → (((0 : Int) ≤ i ∧ i < (↑k : Int)) ∧ True) ∧ (IsInt IntKind.u8 cs ((0 : Nat) + Int.toNat i * 5 + 2) ∧ True) ∧ ((decide (intAt cs ((0 : Nat) + Int.toNat i * 5 + 2) ≥ (8 : Int)) == false) = true → (((0 : Int) ≤ i ∧ i < (↑k : Int)) ∧ True) ∧ (IsInt IntKind.u8 cs ((0 : Nat) + Int.toNat i * 5 + 3) ∧ True) ∧ (decide (intAt cs ((0 : Nat) + Int.toNat i * 5 + 3) ≥ (8 : Int)) = true → false = r) ∧ (decide (intAt cs ((0 : Nat) + Int.toNat i * 5 + 3) ≥ (8 : Int)) = false → Q (ari BinOp.add IntKind.i64 i (1 : Int)) e s k cs ∧ CallKind.normal = CallKind.normal ∧ TodoOk (ren 1 [(1, 1)]) bH20 bH20 ∧ Value.string b = Value.string b ∧ e = e ∧ Value.string s = Value.string s ∧ k = k ∧ ari BinOp.add IntKind.i64 i (1 : Int) = ari BinOp.add IntKind.i64 i (1 : Int) ∧ (41 : TypeId) = (41 : TypeId) ∧ cs = cs ∧ True)) ∧ ((decide (intAt cs ((0 : Nat) + Int.toNat i * 5 + 2) ≥ (8 : Int)) == false) = false → false = r)) ∧ ((decide (intAt cs ((0 : Nat) + Int.toNat i * 5 + 1) ≥ (8 : Int)) == false) = false → false = r)) ∧ ((decide (IntKind.wrap IntKind.i64 (intAt cs ((0 : Nat) + Int.toNat i * 5 + 4)) ≥ (↑k : Int)) == false) = false → false = r))) ∧ (decide (i < (↑k : Int)) = false → (((e == (0 : Int)) == true) = true → (((match mkSB (false && false) (ByteArray.toList s == ByteArray.toList b) with | SB.l b => b | SB.o b => b) == true) = true → true = r) ∧ (((match mkSB (false && false) (ByteArray.toList s == ByteArray.toList b) with | SB.l b => b | SB.o b => b) == true) = false → false = r)) ∧ (((e == (0 : Int)) == true) = false → false = r))) := by kernel_rfl
end Go.Proofs.Ytaagmmljhgabfaa
/- Of code: there and back again. No condition. -/
namespace Go.Proofs.Ytaagmmljhgabfaa
set_option linter.unusedSectionVars false
theorem encB_size (cs : Array Value) (off n : Nat) : (encB cs off n).size = 6 * n := by
  unfold encB
  rw [strOf_size, encL_len]; omega
theorem encB_at {cs : Array Value} {off n i t : Nat} {x : Int} (hi : i < n) (ht : t < 6) (hx : (six (ins cs off i))[t]? = some (u8V x)) (hr : 0 ≤ x ∧ x ≤ 255) : byteAt (encB cs off n) (6 * i + t) = x := by
  unfold encB
  rw [byteAt_strOf]
  have h := parts_at (f := fun i => six (ins cs off i)) (c := 6) (fun _ => rfl) hi ht
  have e : (encL cs off n)[6 * i + t]? = some (u8V x) := by
    rw [show 6 * i + t = i * 6 + t by omega, ← hx]
    exact h
  rw [e]
  show ((UInt8.ofNat x.toNat).toNat : Int) = x
  rw [UInt8.toNat_ofNat']
  omega
theorem six_at {cs : Array Value} {off n i : Nat} (hi : i < n) (hr : (ins cs off i).In) : insD (encB cs off n) i = ins cs off i := by
  obtain ⟨r1, r2, r3, r4, r5⟩ := hr
  obtain ⟨e1, e2⟩ := lohi_eq r5
  refine Ins.ext' (encB_at (t := 0) hi (by decide) rfl r1) (encB_at (t := 1) hi (by decide) rfl r2) (encB_at (t := 2) hi (by decide) rfl r3) (encB_at (t := 3) hi (by decide) rfl r4) ?_
  show word _ _ = _
  rw [encB_at (t := 4) (x := lo (ins cs off i).n) hi (by decide) rfl (by omega), encB_at (t := 5) (x := hiB (ins cs off i).n) hi (by decide) rfl (by omega), word_eq (by omega) (by omega)]
  omega
theorem dec_ins {s : ByteArray} {k i : Nat} (hi : i < k) : ins (decL s k).toArray 0 i = insD s i := (ins_dec s hi).1
theorem back_enc {s : ByteArray} {k : Nat} (hs : s.size = 6 * k) : encB (decL s k).toArray 0 k = s := by
  refine bytes_ext (by rw [encB_size, hs]) fun p hp => ?_
  rw [encB_size] at hp
  obtain ⟨i, t, hi, ht, rfl⟩ := place_of (c := 6) (n := k) (by decide) (by omega : p < k * 6)
  rw [show i * 6 + t = 6 * i + t by omega]
  have hd := dec_ins (s := s) hi
  have hb := fun j => byteAt_range s j
  have hw : word (byteAt s (6 * i + 4)) (byteAt s (6 * i + 5)) = _ := word_eq (hb _) (hb _)
  have hb4 := hb (6 * i + 4)
  have hb5 := hb (6 * i + 5)
  obtain ⟨e1, e2⟩ := lohi_eq (n := word (byteAt s (6 * i + 4)) (byteAt s (6 * i + 5))) (by omega)
  match t, ht with
  | 0, _ => exact encB_at hi (by decide) (by rw [hd]; rfl) (hb _)
  | 1, _ => exact encB_at hi (by decide) (by rw [hd]; rfl) (hb _)
  | 2, _ => exact encB_at hi (by decide) (by rw [hd]; rfl) (hb _)
  | 3, _ => exact encB_at hi (by decide) (by rw [hd]; rfl) (hb _)
  | 4, _ =>
    rw [encB_at (x := lo (word (byteAt s (6 * i + 4)) (byteAt s (6 * i + 5)))) hi (by decide) (by rw [hd]; rfl) (by omega), e1, hw]
    omega
  | 5, _ =>
    rw [encB_at (x := hiB (word (byteAt s (6 * i + 4)) (byteAt s (6 * i + 5)))) hi (by decide) (by rw [hd]; rfl) (by omega), e2, hw]
    omega
theorem mayV_congr {cs ds : Array Value} {off off' n : Nat} (h : ∀ i, i < n → ins cs off i = ins ds off' i) : mayV cs off n = mayV ds off' n := by
  rw [Bool.eq_iff_iff, mayV_iff, mayV_iff]
  exact ⟨fun ⟨a, b⟩ => ⟨a, fun i hi => by rw [← h i hi]; exact b i hi⟩, fun ⟨a, b⟩ => ⟨a, fun i hi => by rw [h i hi]; exact b i hi⟩⟩
section
variable {cs : Array Value} {off n : Nat} (hI : InsOk cs off n)
include hI
theorem enc_dec {i : Nat} (hi : i < n) : ins (decL (encB cs off n) n).toArray 0 i = ins cs off i := by
  rw [dec_ins hi, six_at hi (hI.2 i hi).2]
omit hI in
theorem enc_div : (encB cs off n).size / 6 = n := by rw [encB_size]; omega
theorem enc_decOk (hm : mayV cs off n = true) : decOk (encB cs off n) = true := by
  unfold decOk
  have h := (mayV_iff.1 hm).1
  rw [enc_div, decide_eq_true (by rw [encB_size]; omega), Bool.true_and, ← hm]
  exact mayV_congr fun i hi => enc_dec hI hi
end
end Go.Proofs.Ytaagmmljhgabfaa
/- Of code: CodeBack's runs end with true. No condition. -/
namespace Go.Proofs.Ytaagmmljhgabfaa
set_option linter.unusedSectionVars false
set_option maxRecDepth 100000
theorem Eh_ok (a c : Bool) : EnvOk (Eh a c) := EnvOk.with E0_ok _ _ conE_ok
theorem bT11_1 : TodoOk (ren 1 [(1, 1)]) bT11 bT11 := TodoOk.same (by kernel_rfl)
theorem bH11_1 : TodoOk (ren 1 [(1, 1)]) bH11 bH11 := TodoOk.same (by kernel_rfl)
theorem bT20_1 : TodoOk (ren 1 [(1, 1)]) bT20 bT20 := TodoOk.same (by kernel_rfl)
theorem bT20_2 : TodoOk (ren 1 [(1, 2)]) bT20 bT20 := TodoOk.same (by kernel_rfl)
theorem bH20_1 : TodoOk (ren 1 [(1, 1)]) bH20 bH20 := TodoOk.same (by kernel_rfl)
theorem b_facts {b : ByteArray} (hd : decOk b = true) : InsOk (rowD b) 0 (sizeD b) ∧ mayV (rowD b) 0 (sizeD b) = true ∧ encB (rowD b) 0 (sizeD b) = b ∧ sizeD b ≤ 64 := by
  unfold decOk at hd
  rw [Bool.and_eq_true, decide_eq_true_eq] at hd
  obtain ⟨⟨h1, h2⟩, h3⟩ := hd
  have hs : sizeD b = b.size / 6 := rfl
  exact ⟨dec_insOk b (by omega), h3, back_enc (by omega), (mayV_iff.1 h3).1⟩
theorem sub_good {h : Bool} {A : SV → SMem → Prop} {π : List (Nat × Nat)} {fs0 fs : List SFr} {m0 m : SMem} (hb : subOk 1 π ((cond h headF id) fs0) m0 fs m) (hg : Good Try.prog A 1 (headF fs0) m0) : Good Try.prog A 1 fs m := by
  cases h with
  | true => exact Good.of_sub hb hg
  | false => exact Good.of_sub hb (Good.head hg)
theorem n20_good {h : Bool} {b : ByteArray} {A : SV → SMem → Prop} {Q : Int → Int → ByteArray → Nat → Array Value → Prop} (hg : ∀ i e s k cs, Q i e s k cs → Good Try.prog A 1 (headF (b20F b i e s k)) (b20M cs)) {fs : List SFr} {m : SMem} (hb : n20 h b Q fs m) : Good Try.prog A 1 fs m := by
  unfold n20 at hb
  split at hb
  · split at hb
    · split at hb
      · exact sub_good hb.2 (hg _ _ _ _ _ hb.1)
      · exact hb.elim
    · exact hb.elim
  · exact hb.elim
theorem nB_good {h w : Bool} {off n : Nat} {cs : Array Value} {ty : TypeId} {b : ByteArray} {A : SV → SMem → Prop} {Q : Int → Prop} {Q2 : Int → Int → ByteArray → Nat → Array Value → Prop} (hg : ∀ i, Q i → Good Try.prog A 1 (headF (b11F w off n cs ty b i)) (b11M w off n cs ty b))
    (hg2 : ∀ i e s k cs, Q2 i e s k cs → Good Try.prog A 1 (headF (b20F b i e s k)) (b20M cs)) {fs : List SFr} {m : SMem} (hb : nB h w off n cs ty b Q Q2 fs m) : Good Try.prog A 1 fs m := by
  unfold nB at hb
  split at hb
  · unfold n11 at hb
    split at hb
    · split at hb
      · exact sub_good hb.2 (hg _ hb.1)
      · exact hb.elim
    · exact hb.elim
  · exact n20_good hg2 hb
/-- At the second loop's beginning. -/
def Q20 (b : ByteArray) (i e : Int) (s : ByteArray) (k : Nat) (cs : Array Value) : Prop := i = 0 ∧ e = 0 ∧ s = b ∧ k = sizeD b ∧ cs = rowD b ∧ decOk b = true
theorem same_bytes (b : ByteArray) : ((match mkSB (false && false) (ByteArray.toList b == ByteArray.toList b) with | SB.l b => b | SB.o b => b) == true) = true := by
  show ((b.toList == b.toList) == true) = true
  simp
theorem u_round {b : ByteArray} (hd : decOk b = true) : ∀ (K j : Nat), sizeD b - j < K → j ≤ sizeD b → Good Try.prog (boolR true) 1 (headF (b20F b (j : Int) 0 b (sizeD b))) (b20M (rowD b)) := by
  obtain ⟨hI, hm, hE, hk64⟩ := b_facts hd
  intro K
  induction K with
  | zero => intro j h; omega
  | succ K ih =>
    intro j hk hj
    refine past_vc (Eh_ok true true) 1000 (bk_u b j 0 b (sizeD b) (rowD b) true (fun i' e s k cs => ∃ t : Nat, i' = t ∧ sizeD b - t < K ∧ t ≤ sizeD b ∧ e = 0 ∧ s = b ∧ k = sizeD b ∧ cs = rowD b)) ?_ (fun _ _ h => h)
      (fun fs m hb => n20_good (fun i' e s k cs ⟨t, e1, k1, k2, k3, k4, k5, k6⟩ => by rw [e1, k3, k4, k5, k6]; exact ih t k1 k2) hb)
    refine ⟨fun h => ?_, fun h => ?_⟩
    · have hlt : j < sizeD b := by have := of_decide_eq_true h; omega
      obtain ⟨⟨i1, i2, i3, i4, i5⟩, r1, r2, r3, r4, r5⟩ := hI.2 j hlt
      have ho := (mayV_iff.1 hm).2 j hlt
      have eA : ari BinOp.add IntKind.i64 (j : Int) 1 = ((j + 1 : Nat) : Int) := by rw [ari_add, i64_nat (show j < 9223372036854775807 by omega)]
      rw [Int.toNat_natCast, eA]
      have hyes : ∃ t : Nat, ((j + 1 : Nat) : Int) = t ∧ sizeD b - t < K ∧ t ≤ sizeD b ∧ (0 : Int) = 0 ∧ b = b ∧ sizeD b = sizeD b ∧ rowD b = rowD b := ⟨j + 1, rfl, by omega, by omega, rfl, rfl, rfl, rfl⟩
      generalize (∃ t : Nat, ((j + 1 : Nat) : Int) = t ∧ sizeD b - t < K ∧ t ≤ sizeD b ∧ (0 : Int) = 0 ∧ b = b ∧ sizeD b = sizeD b ∧ rowD b = rowD b) = Y at hyes ⊢
      rw [Ins.okN_iff] at ho
      simp only [ins] at ho r1 r2 r3 r4 r5
      generalize sizeD b = k at ho hlt ⊢
      generalize hcs : rowD b = cs at i1 i2 i3 i4 i5 ho r1 r2 r3 r4 r5 ⊢
      clear ih hI hm hE
      generalize intAt cs (0 + j * 5) = xo at ho r1 r2 r3 r4 r5 ⊢
      generalize intAt cs (0 + j * 5 + 1) = xa at ho r1 r2 r3 r4 r5 ⊢
      generalize intAt cs (0 + j * 5 + 2) = xb at ho r1 r2 r3 r4 r5 ⊢
      generalize intAt cs (0 + j * 5 + 3) = xc at ho r1 r2 r3 r4 r5 ⊢
      generalize intAt cs (0 + j * 5 + 4) = xn at ho r1 r2 r3 r4 r5 ⊢
      rw [Go.IntWalk.i64_in xn (by omega)]
      repeat' first | apply And.intro | (intro hh)
      all_goals first | exact trivial | exact bH20_1 | exact rfl | assumption | skip
      all_goals first | omega | (exfalso; simp at *; omega) | skip
    · have e : j = sizeD b := by have := of_decide_eq_false h; omega
      exact ⟨fun _ => ⟨fun _ => rfl, fun h => Bool.noConfusion ((same_bytes b).symm.trans h)⟩, fun h => by cases h⟩
theorem u_good {b : ByteArray} (i e : Int) (s : ByteArray) (k : Nat) (cs : Array Value) (h : Q20 b i e s k cs) : Good Try.prog (boolR true) 1 (headF (b20F b i e s k)) (b20M cs) := by
  obtain ⟨rfl, rfl, rfl, rfl, rfl, hd⟩ := h
  exact u_round hd (sizeD s + 1) 0 (by omega) (by omega)
theorem tail20 {b : ByteArray} (hb0 : b.size ≠ 0) (hbl : b.size < 9223372036854775807) {X Y : Prop} (hX : X) :
    (ByteArray.size b ≠ 0 ∧ ByteArray.size b < 9223372036854775807 ∧ True) ∧ (decOk b = true → (InsOk (rowD b) 0 (sizeD b) ∧ True) ∧ (mayV (rowD b) 0 (sizeD b) = true → Q20 b 0 0 (encB (rowD b) 0 (sizeD b)) (sizeD b) (rowD b) ∧ X) ∧ (mayV (rowD b) 0 (sizeD b) = false → Y)) ∧ (decOk b = false → true = true) := by
  refine ⟨⟨hb0, hbl, trivial⟩, ⟨fun hd => ?_, fun _ => rfl⟩⟩
  obtain ⟨f1, f2, f3, _⟩ := b_facts hd
  refine ⟨⟨f1, trivial⟩, ⟨fun _ => ?_, fun h => ?_⟩⟩
  · rw [f3]
    exact ⟨⟨rfl, rfl, rfl, rfl, rfl, hd⟩, hX⟩
  · rw [f2] at h; cases h
theorem s2_good {b : ByteArray} (hb0 : b.size ≠ 0) : Good Try.prog (boolR true) 1 (backC e0V (strV b)) M1 := by
  refine run_vc (Eh_ok false true) 1000 (bk_s2 b true (Q20 b)) ?_ (fun _ _ h => h) (fun fs m hb => n20_good u_good hb)
  refine ⟨fun _ => rfl, fun h => ?_⟩
  have hbl : b.size < 9223372036854775807 := by have := of_decide_eq_false h; omega
  refine tail20 hb0 hbl ?_
  repeat' first | exact trivial | exact bT20_1 | exact bT20_2 | apply And.intro | exact rfl
section
variable (w : Bool) (off n : Nat) (cs : Array Value) (ty : TypeId) (b : ByteArray) (hI : InsOk cs off n) (hn : n ≠ 0) (hm : mayV cs off n = true) (hb0 : b.size ≠ 0)
include hI hn hm
omit hn hm in
theorem t_eq {i : Nat} (hi : i < n) : (!(intAt (rowD (encB cs off n)) (0 + i * 5) == intAt cs (off + i * 5) && (intAt (rowD (encB cs off n)) (0 + i * 5 + 1) == intAt cs (off + i * 5 + 1) && (intAt (rowD (encB cs off n)) (0 + i * 5 + 2) == intAt cs (off + i * 5 + 2) && (intAt (rowD (encB cs off n)) (0 + i * 5 + 3) == intAt cs (off + i * 5 + 3) && intAt (rowD (encB cs off n)) (0 + i * 5 + 4) == intAt cs (off + i * 5 + 4)))))) = false := by
  have h := enc_dec hI hi
  have e : rowD (encB cs off n) = (decL (encB cs off n) n).toArray := by unfold rowD; rw [enc_div]
  rw [← e] at h
  unfold ins at h
  injection h with h1 h2 h3 h4 h5
  rw [h1, h2, h3, h4, h5]
  simp
omit hn hm in
theorem t_at {i : Nat} (hi : i < n) : InsAt (rowD (encB cs off n)) (0 + i * 5) := by
  have e : rowD (encB cs off n) = (decL (encB cs off n) n).toArray := by unfold rowD; rw [enc_div]
  rw [e]
  exact (ins_dec (encB cs off n) hi).2
theorem t3_round (hbl : b.size < 9223372036854775807) : ∀ (K j : Nat), n - j < K → j ≤ n → Good Try.prog (boolR true) 1 (headF (b11F false off n cs ty b (j : Int))) (b11M false off n cs ty b) := by
  intro K
  induction K with
  | zero => intro j h; omega
  | succ K ih =>
    intro j hk hj
    refine past_vc (Eh_ok true false) 1000 (bk_t3 off n cs ty b j true (fun i' => ∃ t : Nat, i' = t ∧ n - t < K ∧ t ≤ n) (Q20 b)) ?_ (fun _ _ h => h)
      (fun fs m hb => nB_good (fun i' ⟨t, e1, k1, k2⟩ => by rw [e1]; exact ih t k1 k2) u_good hb)
    have hN := (mayV_iff.1 hm).1
    refine ⟨fun h => ?_, fun h => rfl⟩
    have hlt : j < n := by have := of_decide_eq_true h; omega
    obtain ⟨⟨i1, i2, i3, i4, i5⟩, _⟩ := hI.2 j hlt
    obtain ⟨j1, j2, j3, j4, j5⟩ := t_at off n cs hI hlt
    have eA : ari BinOp.add IntKind.i64 (j : Int) 1 = ((j + 1 : Nat) : Int) := by rw [ari_add, i64_nat (show j < 9223372036854775807 by omega)]
    have hs : sizeD (encB cs off n) = n := enc_div
    rw [Int.toNat_natCast, eA, t_eq off n cs hI hlt, hs]
    refine ⟨⟨⟨by omega, by omega⟩, trivial⟩, ⟨j1, j2, j3, j4, j5, trivial⟩, ⟨⟨by omega, by omega⟩, trivial⟩, ⟨i1, i2, i3, i4, i5, trivial⟩, ⟨fun h => (by cases h), fun _ => ⟨⟨j + 1, rfl, by omega, by omega⟩, ?_⟩⟩⟩
    repeat' first | exact trivial | exact bH11_1 | apply And.intro | exact rfl
include hb0 in
theorem t4_round (hbl : b.size < 9223372036854775807) : ∀ (K j : Nat), n - j < K → j ≤ n → Good Try.prog (boolR true) 1 (headF (b11F true off n cs ty b (j : Int))) (b11M true off n cs ty b) := by
  intro K
  induction K with
  | zero => intro j h; omega
  | succ K ih =>
    intro j hk hj
    refine past_vc (Eh_ok true true) 1000 (bk_t4 off n cs ty b j true (fun i' => ∃ t : Nat, i' = t ∧ n - t < K ∧ t ≤ n) (Q20 b)) ?_ (fun _ _ h => h)
      (fun fs m hb => nB_good (fun i' ⟨t, e1, k1, k2⟩ => by rw [e1]; exact ih t k1 k2) u_good hb)
    have hN := (mayV_iff.1 hm).1
    refine ⟨fun h => ?_, fun h => ?_⟩
    · have hlt : j < n := by have := of_decide_eq_true h; omega
      obtain ⟨⟨i1, i2, i3, i4, i5⟩, _⟩ := hI.2 j hlt
      obtain ⟨j1, j2, j3, j4, j5⟩ := t_at off n cs hI hlt
      have eA : ari BinOp.add IntKind.i64 (j : Int) 1 = ((j + 1 : Nat) : Int) := by rw [ari_add, i64_nat (show j < 9223372036854775807 by omega)]
      have hs : sizeD (encB cs off n) = n := enc_div
      rw [Int.toNat_natCast, eA, t_eq off n cs hI hlt, hs]
      refine ⟨⟨⟨by omega, by omega⟩, trivial⟩, ⟨j1, j2, j3, j4, j5, trivial⟩, ⟨⟨by omega, by omega⟩, trivial⟩, ⟨i1, i2, i3, i4, i5, trivial⟩, ⟨fun h => (by cases h), fun _ => ⟨⟨j + 1, rfl, by omega, by omega⟩, ?_⟩⟩⟩
      repeat' first | exact trivial | exact bH11_1 | apply And.intro | exact rfl
    · refine tail20 hb0 hbl ?_
      repeat' first | exact trivial | exact bT20_1 | exact bT20_2 | apply And.intro | exact rfl
end
section
variable (off n : Nat) (cs : Array Value) (ty : TypeId) (b : ByteArray) (hI : InsOk cs off n) (hn : n ≠ 0) (hb0 : b.size ≠ 0)
include hI hn
theorem s3_good : Good Try.prog (boolR true) 1 (backC (prS off n) litE) (prM true cs ty) := by
  refine run_vc (Eh_ok true false) 1000 (bk_s3 off n cs ty .empty true (fun i => i = 0 ∧ mayV cs off n = true) (fun _ _ _ _ _ => False)) ?_ (fun _ _ h => h)
    (fun fs m hb => nB_good (fun i ⟨e, hm⟩ => by rw [e]; exact t3_round off n cs ty .empty hI hn hm (by decide) (n + 1) 0 (by omega) (by omega)) (fun _ _ _ _ _ h => h.elim) hb)
  have hs : sizeD (encB cs off n) = n := enc_div
  refine ⟨fun _ => ⟨⟨hI, trivial⟩, ⟨fun hm => ⟨⟨hI, trivial⟩, ?_⟩, fun hm => ⟨⟨hI, trivial⟩, ?_⟩⟩⟩, fun _ => rfl⟩
  · have hN := (mayV_iff.1 hm).1
    have hz := encB_size cs off n
    rw [hm, hs]
    refine ⟨fun h => (by cases h), fun _ => ⟨⟨by omega, by omega, trivial⟩, ⟨fun _ => ⟨fun h => ?_, fun _ => ⟨⟨rfl, rfl⟩, ?_⟩⟩, fun h => ?_⟩⟩⟩
    · simp at h
    · repeat' first | exact trivial | exact bT11_1 | apply And.intro | exact rfl
    · rw [enc_decOk hI hm] at h; cases h
  · rw [hm]
    exact ⟨fun h => (by cases h), fun _ => rfl⟩
include hb0 in
theorem s4_good : Good Try.prog (boolR true) 1 (backC (prS off n) (strV b)) (prM true cs ty) := by
  by_cases hbl : b.size < 9223372036854775807
  · refine run_vc (Eh_ok true true) 1000 (bk_s4 off n cs ty b true (fun i => i = 0 ∧ mayV cs off n = true) (Q20 b)) ?_ (fun _ _ h => h)
      (fun fs m hb => nB_good (fun i ⟨e, hm⟩ => by rw [e]; exact t4_round off n cs ty b hI hn hm hb0 hbl (n + 1) 0 (by omega) (by omega)) u_good hb)
    have hs : sizeD (encB cs off n) = n := enc_div
    refine ⟨fun _ => ⟨fun _ => rfl, fun _ => ⟨⟨hI, trivial⟩, ⟨fun hm => ⟨⟨hI, trivial⟩, ?_⟩, fun hm => ⟨⟨hI, trivial⟩, ?_⟩⟩⟩⟩, fun _ => rfl⟩
    · have hN := (mayV_iff.1 hm).1
      have hz := encB_size cs off n
      rw [hm, hs]
      refine ⟨fun h => (by cases h), fun _ => ⟨⟨by omega, by omega, trivial⟩, ⟨fun _ => ⟨fun h => ?_, fun _ => ⟨⟨rfl, rfl⟩, ?_⟩⟩, fun h => ?_⟩⟩⟩
      · simp at h
      · repeat' first | exact trivial | exact bT11_1 | apply And.intro | exact rfl
      · rw [enc_decOk hI hm] at h; cases h
    · rw [hm]
      refine ⟨fun h => (by cases h), fun _ => ?_⟩
      refine tail20 hb0 hbl ?_
      repeat' first | exact trivial | exact bT20_1 | exact bT20_2 | apply And.intro | exact rfl
  · refine run_vc (Eh_ok true true) 1000 (bk_s4 off n cs ty b true (fun _ => False) (fun _ _ _ _ _ => False)) ?_ (fun _ _ h => h)
      (fun fs m hb => nB_good (fun i h => h.elim) (fun _ _ _ _ _ h => h.elim) hb)
    refine ⟨fun _ => ⟨fun _ => rfl, fun h => ?_⟩, fun _ => rfl⟩
    have := of_decide_eq_false h
    omega
end
theorem s1_true : (run EL 100000 1 (backC e0V litE) M1).allTrue = true := by kernel_rfl
end Go.Proofs.Ytaagmmljhgabfaa
/- How a call of data enters the symbolic machine, and how what it leaves is told; without package-level variables. No condition. -/
namespace Go.Proofs.Ytaagmmljhgabfaa
noncomputable section
open Go.ChangeShapes Go.WideShapes Go.ChangeAt Go.RowKit Go.Deep

theorem own : ownKnob Try.prog.godebug = none := by kernel_rfl
theorem laidOut : laidOutB Try.prog = true := by kernel_rfl
theorem sub_get {l : List Value} {a b o : Nat} {v : Value} (h : ((l.drop a).take b)[o]? = some v) : l[a + o]? = some v := by
  rw [List.getElem?_take] at h
  split at h
  · rw [List.getElem?_drop] at h; exact h
  · cases h
theorem sub_one {l : List Value} {a b : Nat} {v : Value} (h : (l.drop a).take b = [v]) : l[a]? = some v := by
  have : ((l.drop a).take b)[0]? = some v := by rw [h]; rfl
  exact sub_get this
section
variable {H : Type} {enc : TypeId × Value → H} {P : Program} {w : World} {base : Nat} {spare : Nat → Bool} {held : Bool}
theorem field_of {t : TypeId} {fs : Array Field} {fuel : Nat} {cs : List Value} {x : DataW H × List MemPlace} (ht : P.underlying t = some (.struct fs)) (h : DataW.trod enc P w base spare held fuel t cs = some x)
    (i : Nat) {f : Field} (hf : fs[i]? = some f) : ∃ n y, DataW.trod enc P w base spare held n f.type ((cs.drop f.offset).take (P.cellsOf f.type)) = some y := by
  obtain ⟨ys, n, _, _, _, hyl, hg⟩ := DataW.trod_struct ht h
  have hlt : i < fs.size := (Array.getElem?_eq_some_iff.1 hf).1
  have hys : ys[i]? = some (ys[i]'(by omega)) := List.getElem?_eq_getElem (by omega)
  exact ⟨n, _, (hg i f hf).trans hys⟩
theorem add_none (b off n : Nat) : (⟨b, off, none⟩ : Addr).add n = ⟨b, off + n, none⟩ := by
  unfold Addr.add
  split
  · rename_i e; subst e; rfl
  · rfl
/-- A slice that came in: where it lies, and each element as it reads. -/
theorem slice_cells {t e : TypeId} {base' C : Nat} {fuel : Nat} {A : Option Addr} {len cap : Nat} {x : DataW H × List MemPlace} (ht : P.underlying t = some (.slice e)) (hC : P.cellsOf e = C)
    (hok : Value.okWide P w .any base t (.slice A len cap)) (h : DataW.trod enc P w base' (fun _ => true) held fuel t [.slice A len cap] = some x) :
    (A = none ∧ len = 0 ∧ cap = 0) ∨ ∃ b off cs ty fz, A = some ⟨b, off, none⟩ ∧ len ≤ cap ∧ cap ≤ maxLen ∧ w.heap[b]? = some (.cells cs ty fz) ∧
      ∀ j, j < len → ∃ n y, DataW.trod enc P w base' (fun _ => true) held n e ((cs.toList.drop (off + j * C)).take C) = some y := by
  rcases open_slice ht h with ⟨hcs, hx⟩ | ⟨a, len', cap', m, n, D, Pl, hcs, _, hl, hmx, hm, hx, hi⟩
  · simp at hcs
    exact .inl hcs
  · simp at hcs
    obtain ⟨rfl, rfl, rfl⟩ := hcs
    simp at hm
    subst hm
    obtain ⟨b, off, spot⟩ := a
    simp only [Value.okWide, ht, Cell.okWide, Cell.ok] at hok
    obtain ⟨_, _, _, hs, _, _, hsh, _⟩ := hok
    have hs : spot = none := hs
    subst hs
    cases ho : w.heap[b]? with
    | none => simp [World.shape?, ho] at hsh
    | some o =>
      have hcells : ∃ cs ty fz, o = .cells cs ty fz := by
        cases o <;> first | exact ⟨_, _, _, rfl⟩ | simp [World.shape?, ho] at hsh
      obtain ⟨cs, ty, fz, rfl⟩ := hcells
      refine .inr ⟨b, off, cs, ty, fz, rfl, hl, hmx, ho, fun j hj => ?_⟩
      obtain ⟨cs', hc, ht'⟩ := hi j (by omega)
      rw [hC] at hc
      obtain ⟨_, hcl, hat⟩ := World.cells?_some hc
      refine ⟨n, (D j, Pl j), ?_⟩
      rw [← ht']
      congr 1
      apply List.ext_getElem?
      intro i
      rw [List.getElem?_take]
      by_cases hi' : i < C
      · rw [if_pos hi', ← hat i hi', add_none, add_none]
        simp [World.cell?, ho, Nat.add_assoc]
      · rw [if_neg hi', List.getElem?_eq_none (by omega)]
theorem post_of_below {f : Func} {s : ChangeSpec} {apart fresh handsOn again : Bool} {W W' : World} {args : Array Value} {v : Value} {ds gs : List (DataW H)} {before pa pv : List MemPlace}
    (hW : DataW.Whole enc P f.params.toList s.vars apart W args.toList ds gs before)
    (hres : ∀ (b : Nat) (sp : Nat → Bool) (hd : Bool), DataW.TrodAll enc P W' b sp hd f.resultTypes.toList (v.resultList f.resultTypes.size) (s.fn H (ds ++ gs)).results [])
    (hargs : ∀ sp : Nat → Bool, (∀ p ∈ before, sp p.block = true) → DataW.TrodAll enc P W' 0 sp true f.params.toList args.toList (s.fn H (ds ++ gs)).args pa)
    (hvars : ∀ sp : Nat → Bool, (∀ p ∈ before, sp p.block = true) → DataW.TrodVars enc P W' sp s.vars (s.fn H (ds ++ gs)).vars pv)
    (hps : before = pa ++ pv) (hb : Below W.heap.size W W')
    (hok : ∀ (j : Nat) (t : TypeId) (r : Value), f.resultTypes[j]? = some t → (v.resultList f.resultTypes.size)[j]? = some r → Value.okWide P W' .any 0 t r) :
    s.post enc P f apart fresh handsOn again W args v W' := by
  have hlt : ∀ p ∈ before, p.block < W.heap.size := fun p hp => hW.lt p hp
  have hold : ∀ p ∈ before, (fun b => decide (b < W.heap.size)) p.block = true := fun p hp => by simpa using hlt p hp
  refine ⟨ds, gs, before, [], pa, pv, hW, hres _ _ _, hargs _ hold, hvars _ hold, World.keptBut_mono (fun p hp => ⟨hp, ?_⟩) (hb.frame (· ∈ before)), fun _ => ?_⟩
  · rw [hps, List.mem_append] at hp
    exact Or.inr hp
  · obtain ⟨_, _, _, _, _, hz, hn⟩ := hW
    refine ⟨hok, _, _, ([] ++ pa) ++ pv, ⟨[] ++ pa, pv, trodAll_append (hargs _ (fun _ _ => rfl)) (hres _ _ _), hvars _ (fun _ _ => rfl), rfl, ?_, ?_⟩, ?_⟩
    · intro b off hp
      have hin : MemPlace.cell b off ∈ before := by rw [hps]; simpa using hp
      rw [hb.frozen (hlt _ hin)]
      exact hz b off hin
    · intro ha
      have := hn ha
      rw [hps] at this
      simpa using this
    · intro p hp _
      rw [hps]
      simpa using hp
end
theorem below_of {n0 : Nat} {w0 w : World} (h : BelowF n0 (fun _ => False) w0 w) : Below n0 w0 w := ⟨h.os, h.tape, h.output, h.size, fun k hk => h.block k hk fun x => x⟩
theorem rel_empty (hg : glTab = []) (W : World) (n : Nat) : Rel W.heap.size (fun _ => False) W (fun _ => none) ⟨n, .nil, []⟩ W :=
  ⟨fun _ _ _ _ _ _ h => by (cases h), fun _ _ h => by (cases h), fun _ _ h => by (cases h), fun i b h => by (have h : (Tr.nil : Tr SBlk).get i = some b := h; rw [Tr.get_nil] at h; cases h), Nat.le_refl _, BelowF.refl _ _ _,
    fun _ _ h => by (cases h), fun _ _ _ _ _ _ h => by (cases h), fun g cs h => by rw [hg] at h; cases h⟩
/-- One block came in, at which nothing is written. -/
def oneD (ds : Array Value) (ty : TypeId) : SMem := ⟨1, Tr.node .nil (some ⟨.raw ds, ty, false⟩) .nil, []⟩
theorem one_get {ds : Array Value} {ty : TypeId} {i : Nat} {b : SBlk} (h : getB (oneD ds ty).bl i = some b) : i = 0 ∧ b = ⟨.raw ds, ty, false⟩ := by
  unfold getB oneD at h
  cases i with
  | zero => cases h; exact ⟨rfl, rfl⟩
  | succ i =>
    rw [Tr.get_succ, Tr.get_nil, ite_self] at h
    cases h
theorem rel_one (hg : glTab = []) {W : World} {b : Nat} {cs : Array Value} {ty : TypeId} {fz : Nat × Nat} (hb : W.heap[b]? = some (.cells cs ty fz)) :
    Rel W.heap.size (fun _ => False) W (fun i => if i = 0 then some ⟨b, cs.size⟩ else none) (oneD cs ty) W := by
  have key : ∀ {i : Nat} {g : Loc}, (if i = 0 then some (⟨b, cs.size⟩ : Loc) else none) = some g → i = 0 ∧ g = ⟨b, cs.size⟩ := by
    intro i g h
    split at h
    · rename_i e; cases h; exact ⟨e, rfl⟩
    · cases h
  have hlt : b < W.heap.size := (Array.getElem?_eq_some_iff.1 hb).1
  refine ⟨fun i j g h b c h1 h2 _ _ _ _ => by rw [(key h1).1, (key h2).1], fun i g h => by rw [(key h).2]; exact hlt, fun i g h => by rw [(key h).1]; exact Nat.zero_lt_one, fun i c hc => ?_, Nat.le_refl _, BelowF.refl _ _ _,
    fun _ _ h => by (cases h), fun _ _ _ _ _ _ _ _ _ h => by (cases h), fun g cs h => by rw [hg] at h; cases h⟩
  obtain ⟨rfl, rfl⟩ := one_get hc
  exact ⟨⟨b, cs.size⟩, cs, fz, rfl, hb, rfl, rfl, fun h => by cases h⟩
end
end Go.Proofs.Ytaagmmljhgabfaa
