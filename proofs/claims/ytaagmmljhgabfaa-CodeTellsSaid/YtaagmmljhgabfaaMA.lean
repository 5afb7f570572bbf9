/- Of code: May: its loop's states. No condition. -/
import Derived.Test.YtaagmmljhgabfaaE1
import Derived.Test.YtaagmmljhgabfaaK15
import Derived.Test.YtaagmmljhgabfaaK14c
import Derived.IntWalk
import Derived.Test.YtaagmmljhgabfaaK2
import Derived.Test.YtaagmmljhgabfaaK14b
namespace Go.Proofs.Ytaagmmljhgabfaa
noncomputable section
def EM : Env := ⟨Try.prog, fnOf, fun _ _ _ => none, fun _ f x => Nat.beq f 16 && isLoop x⟩
theorem EM_ok : EnvOk EM := EnvOk.with E0_ok _ _ fun _ _ _ _ h => by cases h
/-- Instructions that only are read: known whole, or as a beginning. -/
def prA (v : Bool) (cs : Array Value) : SA := cond v (.raw cs) (.pop cs)
def prM (v : Bool) (cs : Array Value) (ty : TypeId) : SMem := ⟨1, (Tr.nil : Tr SBlk).set 0 (some ⟨prA v cs, ty, false⟩), []⟩
def prS (off n : Nat) : SV := .s (.c (.f (.slice 0 (.o off) (.o n) .any)))
def mayC (off n : Nat) : List SFr := [callFr 9 Try.f9.ntmps [prS off n] (Try.f9.body.getD .skip)]
def mayN (h v : Bool) (off n : Nat) (cs : Array Value) (ty : TypeId) (Q : Int → Prop) (fs : List SFr) (m : SMem) : Prop := match fs with
  | f :: _ => match rdI f 8 with
    | some i => Q i ∧ gN EM 1 (mayC off n) (prM v cs ty) h [(8, i64 (.o i))] [] fs m
    | none => False
  | [] => False
def boolR (b : Bool) (s : SV) (_ : SMem) : Prop := match s with
  | .s (.c (.f (.bool x))) => x.den = b
  | _ => False
def mT0 : List SIt := headTd (gF EM 1 (mayC 0 0) (prM true #[] 0) [])
def mH0 : List SIt := headTd (gH EM 1 (mayC 0 0) (prM true #[] 0) [])
def mT1 : List SIt := headTd ((gF EM 1 (mayC 0 0) (prM true #[] 0) []).drop 1)
def mT2 : List SIt := headTd ((gF EM 1 (mayC 0 0) (prM true #[] 0) []).drop 2)
end
end Go.Proofs.Ytaagmmljhgabfaa
/- Of code: the rounds of May, as propositions. No condition. -/
namespace Go.Proofs.Ytaagmmljhgabfaa
set_option maxRecDepth 100000
theorem may_start_r (off n : Nat) (cs : Array Value) (ty : TypeId) (r : Bool) (Q : Int → Prop) : (gR EM 1 (mayC off n) (prM true cs ty)).vc (boolR r) (mayN false true off n cs ty Q) =
    (((decide ((↑n : Int) ≤ (64 : Int)) == true) = true → Q (0 : Int) ∧ CallKind.normal = CallKind.normal ∧ TodoOk (ren 1 [(1, 1)]) mT0 mT0 ∧ off = off ∧ n = n ∧ Fn.func (13 : Nat) = Fn.func (13 : Nat) ∧ (↑n : Int) = (↑n : Int) ∧ (0 : Int) = (0 : Int) ∧ off = off ∧ n = n ∧ CallKind.normal = CallKind.normal ∧ TodoOk (ren 1 [(1, 1)]) mT1 mT1 ∧ off = off ∧ n = n ∧ Fn.func (13 : Nat) = Fn.func (13 : Nat) ∧ off = off ∧ n = n ∧ Fn.func (13 : Nat) = Fn.func (13 : Nat) ∧ CallKind.normal = CallKind.normal ∧ TodoOk (ren 1 [(1, 1)]) mT2 mT2 ∧ off = off ∧ n = n ∧ Fn.func (13 : Nat) = Fn.func (13 : Nat) ∧ decide ((↑n : Int) ≤ (64 : Int)) = decide ((↑n : Int) ≤ (64 : Int)) ∧ off = off ∧ n = n ∧ off = off ∧ n = n ∧ Fn.func (13 : Nat) = Fn.func (13 : Nat) ∧ (↑n : Int) = (↑n : Int) ∧ Fn.func (13 : Nat) = Fn.func (13 : Nat) ∧ ty = ty ∧ cs = cs ∧ (22 : Nat) = (22 : Nat) ∧ off = off ∧ n = n ∧ True) ∧ ((decide ((↑n : Int) ≤ (64 : Int)) == true) = false → false = r)) := by kernel_rfl
theorem may_start_p (off n : Nat) (cs : Array Value) (ty : TypeId) (r : Bool) (Q : Int → Prop) : (gR EM 1 (mayC off n) (prM false cs ty)).vc (boolR r) (mayN false false off n cs ty Q) =
    (((decide ((↑n : Int) ≤ (64 : Int)) == true) = true → Q (0 : Int) ∧ CallKind.normal = CallKind.normal ∧ TodoOk (ren 1 [(1, 1)]) mT0 mT0 ∧ off = off ∧ n = n ∧ Fn.func (13 : Nat) = Fn.func (13 : Nat) ∧ (↑n : Int) = (↑n : Int) ∧ (0 : Int) = (0 : Int) ∧ off = off ∧ n = n ∧ CallKind.normal = CallKind.normal ∧ TodoOk (ren 1 [(1, 1)]) mT1 mT1 ∧ off = off ∧ n = n ∧ Fn.func (13 : Nat) = Fn.func (13 : Nat) ∧ off = off ∧ n = n ∧ Fn.func (13 : Nat) = Fn.func (13 : Nat) ∧ CallKind.normal = CallKind.normal ∧ TodoOk (ren 1 [(1, 1)]) mT2 mT2 ∧ off = off ∧ n = n ∧ Fn.func (13 : Nat) = Fn.func (13 : Nat) ∧ decide ((↑n : Int) ≤ (64 : Int)) = decide ((↑n : Int) ≤ (64 : Int)) ∧ off = off ∧ n = n ∧ off = off ∧ n = n ∧ Fn.func (13 : Nat) = Fn.func (13 : Nat) ∧ (↑n : Int) = (↑n : Int) ∧ Fn.func (13 : Nat) = Fn.func (13 : Nat) ∧ ty = ty ∧ cs = cs ∧ (22 : Nat) = (22 : Nat) ∧ off = off ∧ n = n ∧ True) ∧ ((decide ((↑n : Int) ≤ (64 : Int)) == true) = false → false = r)) := by kernel_rfl
theorem may_step_r (off n : Nat) (cs : Array Value) (ty : TypeId) (r : Bool) (i : Int) (Q : Int → Prop) : (gS EM 1 (mayC off n) (prM true cs ty) [(8, i64 (.o i))] []).vc (boolR r) (mayN true true off n cs ty Q) =
    ((decide (i < (↑n : Int)) = true → (((0 : Int) ≤ i ∧ i < (↑n : Int)) ∧ True) ∧ (IsInt IntKind.u8 cs (off + Int.toNat i * 5) ∧ IsInt IntKind.u8 cs (off + Int.toNat i * 5 + 1) ∧ IsInt IntKind.u8 cs (off + Int.toNat i * 5 + 2) ∧ IsInt IntKind.u8 cs (off + Int.toNat i * 5 + 3) ∧ IsInt IntKind.u16 cs (off + Int.toNat i * 5 + 4) ∧ True) ∧ (((intAt cs (off + Int.toNat i * 5) == (5 : Int)) == false) = true → ((decide (intAt cs (off + Int.toNat i * 5) ≤ (6 : Int)) == false) = true → ((decide (intAt cs (off + Int.toNat i * 5) > (16 : Int)) == true) = true → (((!decide (intAt cs (off + Int.toNat i * 5) ≤ (38 : Int))) == false) = true → ((decide ((if intAt cs (off + Int.toNat i * 5 + 3) > if intAt cs (off + Int.toNat i * 5 + 2) > intAt cs (off + Int.toNat i * 5 + 1) then intAt cs (off + Int.toNat i * 5 + 2) else intAt cs (off + Int.toNat i * 5 + 1) then intAt cs (off + Int.toNat i * 5 + 3) else if intAt cs (off + Int.toNat i * 5 + 2) > intAt cs (off + Int.toNat i * 5 + 1) then intAt cs (off + Int.toNat i * 5 + 2) else intAt cs (off + Int.toNat i * 5 + 1)) ≥ (8 : Int)) == false) = true → (((intAt cs (off + Int.toNat i * 5) == (6 : Int)) == true) = true → (decide (IntKind.wrap IntKind.i64 (intAt cs (off + Int.toNat i * 5 + 4)) ≥ (↑n : Int)) = true → (!decide (i ≥ (0 : Int))) = r) ∧ (decide (IntKind.wrap IntKind.i64 (intAt cs (off + Int.toNat i * 5 + 4)) ≥ (↑n : Int)) = false → Q (ari BinOp.add IntKind.i64 i (1 : Int)) ∧ CallKind.normal = CallKind.normal ∧ TodoOk (ren 1 [(1, 1)]) mH0 mH0 ∧ off = off ∧ n = n ∧ Fn.func (13 : Nat) = Fn.func (13 : Nat) ∧ (↑n : Int) = (↑n : Int) ∧ ari BinOp.add IntKind.i64 i (1 : Int) = ari BinOp.add IntKind.i64 i (1 : Int) ∧ off = off ∧ n = n ∧ CallKind.normal = CallKind.normal ∧ TodoOk (ren 1 [(1, 1)]) mT1 mT1 ∧ off = off ∧ n = n ∧ Fn.func (13 : Nat) = Fn.func (13 : Nat) ∧ off = off ∧ n = n ∧ Fn.func (13 : Nat) = Fn.func (13 : Nat) ∧ CallKind.normal = CallKind.normal ∧ TodoOk (ren 1 [(1, 1)]) mT2 mT2 ∧ off = off ∧ n = n ∧ Fn.func (13 : Nat) = Fn.func (13 : Nat) ∧ decide ((↑n : Int) ≤ (64 : Int)) = decide ((↑n : Int) ≤ (64 : Int)) ∧ off = off ∧ n = n ∧ off = off ∧ n = n ∧ Fn.func (13 : Nat) = Fn.func (13 : Nat) ∧ (↑n : Int) = (↑n : Int) ∧ Fn.func (13 : Nat) = Fn.func (13 : Nat) ∧ ty = ty ∧ cs = cs ∧ (22 : Nat) = (22 : Nat) ∧ off = off ∧ n = n ∧ True)) ∧ (((intAt cs (off + Int.toNat i * 5) == (6 : Int)) == true) = false → Q (ari BinOp.add IntKind.i64 i (1 : Int)) ∧ CallKind.normal = CallKind.normal ∧ TodoOk (ren 1 [(1, 1)]) mH0 mH0 ∧ off = off ∧ n = n ∧ Fn.func (13 : Nat) = Fn.func (13 : Nat) ∧ (↑n : Int) = (↑n : Int) ∧ ari BinOp.add IntKind.i64 i (1 : Int) = ari BinOp.add IntKind.i64 i (1 : Int) ∧ off = off ∧ n = n ∧ CallKind.normal = CallKind.normal ∧ TodoOk (ren 1 [(1, 1)]) mT1 mT1 ∧ off = off ∧ n = n ∧ Fn.func (13 : Nat) = Fn.func (13 : Nat) ∧ off = off ∧ n = n ∧ Fn.func (13 : Nat) = Fn.func (13 : Nat) ∧ CallKind.normal = CallKind.normal ∧ TodoOk (ren 1 [(1, 1)]) mT2 mT2 ∧ off = off ∧ n = n ∧ Fn.func (13 : Nat) = Fn.func (13 : Nat) ∧ decide ((↑n : Int) ≤ (64 : Int)) = decide ((↑n : Int) ≤ (64 : Int)) ∧ off = off ∧ n = n ∧ off = off ∧ n = n ∧ Fn.func (13 : Nat) = Fn.func (13 : Nat) ∧ (↑n : Int) = (↑n : Int) ∧ Fn.func (13 : Nat) = Fn.func (13 : Nat) ∧ ty = ty ∧ cs = cs ∧ (22 : Nat) = (22 : Nat) ∧ off = off ∧ n = n ∧ True)) ∧ ((decide ((if intAt cs (off + Int.toNat i * 5 + 3) > if intAt cs (off + Int.toNat i * 5 + 2) > intAt cs (off + Int.toNat i * 5 + 1) then intAt cs (off + Int.toNat i * 5 + 2) else intAt cs (off + Int.toNat i * 5 + 1) then intAt cs (off + Int.toNat i * 5 + 3) else if intAt cs (off + Int.toNat i * 5 + 2) > intAt cs (off + Int.toNat i * 5 + 1) then intAt cs (off + Int.toNat i * 5 + 2) else intAt cs (off + Int.toNat i * 5 + 1)) ≥ (8 : Int)) == false) = false → (!decide (i ≥ (0 : Int))) = r)) ∧ (((!decide (intAt cs (off + Int.toNat i * 5) ≤ (38 : Int))) == false) = false → (!decide (i ≥ (0 : Int))) = r)) ∧ ((decide (intAt cs (off + Int.toNat i * 5) > (16 : Int)) == true) = false → (!decide (i ≥ (0 : Int))) = r)) ∧ ((decide (intAt cs (off + Int.toNat i * 5) ≤ (6 : Int)) == false) = false → ((decide ((if intAt cs (off + Int.toNat i * 5 + 3) > if intAt cs (off + Int.toNat i * 5 + 2) > intAt cs (off + Int.toNat i * 5 + 1) then intAt cs (off + Int.toNat i * 5 + 2) else intAt cs (off + Int.toNat i * 5 + 1) then intAt cs (off + Int.toNat i * 5 + 3) else if intAt cs (off + Int.toNat i * 5 + 2) > intAt cs (off + Int.toNat i * 5 + 1) then intAt cs (off + Int.toNat i * 5 + 2) else intAt cs (off + Int.toNat i * 5 + 1)) ≥ (8 : Int)) == false) = true → (((intAt cs (off + Int.toNat i * 5) == (6 : Int)) == true) = true → (decide (IntKind.wrap IntKind.i64 (intAt cs (off + Int.toNat i * 5 + 4)) ≥ (↑n : Int)) = true → (!decide (i ≥ (0 : Int))) = r) ∧ (decide (IntKind.wrap IntKind.i64 (intAt cs (off + Int.toNat i * 5 + 4)) ≥ (↑n : Int)) = false → Q (ari BinOp.add IntKind.i64 i (1 : Int)) ∧ CallKind.normal = CallKind.normal ∧ TodoOk (ren 1 [(1, 1)]) mH0 mH0 ∧ off = off ∧ n = n ∧ Fn.func (13 : Nat) = Fn.func (13 : Nat) ∧ (↑n : Int) = (↑n : Int) ∧ ari BinOp.add IntKind.i64 i (1 : Int) = ari BinOp.add IntKind.i64 i (1 : Int) ∧ off = off ∧ n = n ∧ CallKind.normal = CallKind.normal ∧ TodoOk (ren 1 [(1, 1)]) mT1 mT1 ∧ off = off ∧ n = n ∧ Fn.func (13 : Nat) = Fn.func (13 : Nat) ∧ off = off ∧ n = n ∧ Fn.func (13 : Nat) = Fn.func (13 : Nat) ∧ CallKind.normal = CallKind.normal ∧ TodoOk (ren 1 [(1, 1)]) mT2 mT2 ∧ off = off ∧ n = n ∧ Fn.func (13 : Nat) = Fn.func (13 : Nat) ∧ decide ((↑n : Int) ≤ (64 : Int)) = decide ((↑n : Int) ≤ (64 : Int)) ∧ off = off ∧ n = n ∧ off = off ∧ n = n ∧ Fn.func (13 : Nat) = Fn.func (13 : Nat) ∧ (↑n : Int) = (↑n : Int) ∧ Fn.func (13 : Nat) = Fn.func (13 : Nat) ∧ ty = ty ∧ cs = cs ∧ (22 : Nat) = (22 : Nat) ∧ off = off ∧ n = n ∧ True)) ∧ (((intAt cs (off + Int.toNat i * 5) == (6 : Int)) == true) = false → Q (ari BinOp.add IntKind.i64 i (1 : Int)) ∧ CallKind.normal = CallKind.normal ∧ TodoOk (ren 1 [(1, 1)]) mH0 mH0 ∧ off = off ∧ n = n ∧ Fn.func (13 : Nat) = Fn.func (13 : Nat) ∧ (↑n : Int) = (↑n : Int) ∧ ari BinOp.add IntKind.i64 i (1 : Int) = ari BinOp.add IntKind.i64 i (1 : Int) ∧ off = off ∧ n = n ∧ CallKind.normal = CallKind.normal ∧ TodoOk (ren 1 [(1, 1)]) mT1 mT1 ∧ off = off ∧ n = n ∧ Fn.func (13 : Nat) = Fn.func (13 : Nat) ∧ off = off ∧ n = n ∧ Fn.func (13 : Nat) = Fn.func (13 : Nat) ∧ CallKind.normal = CallKind.normal ∧ TodoOk (ren 1 [(1, 1)]) mT2 mT2 ∧ off = off ∧ n = n ∧ Fn.func (13 : Nat) = Fn.func (13 : Nat) ∧ decide ((↑n : Int) ≤ (64 : Int)) = decide ((↑n : Int) ≤ (64 : Int)) ∧ off = off ∧ n = n ∧ off = off ∧ n = n ∧ Fn.func (13 : Nat) = Fn.func (13 : Nat) ∧ (↑n : Int) = (↑n : Int) ∧ Fn.func (13 : Nat) = Fn.func (13 : Nat) ∧ ty = ty ∧ cs = cs ∧ (22 : Nat) = (22 : Nat) ∧ off = off ∧ n = n ∧ True)) ∧ ((decide ((if intAt cs (off + Int.toNat i * 5 + 3) > if intAt cs (off + Int.toNat i * 5 + 2) > intAt cs (off + Int.toNat i * 5 + 1) then intAt cs (off + Int.toNat i * 5 + 2) else intAt cs (off + Int.toNat i * 5 + 1) then intAt cs (off + Int.toNat i * 5 + 3) else if intAt cs (off + Int.toNat i * 5 + 2) > intAt cs (off + Int.toNat i * 5 + 1) then intAt cs (off + Int.toNat i * 5 + 2) else intAt cs (off + Int.toNat i * 5 + 1)) ≥ (8 : Int)) == false) = false → (!decide (i ≥ (0 : Int))) = r))) ∧ (((intAt cs (off + Int.toNat i * 5) == (5 : Int)) == false) = false → ((decide (intAt cs (off + Int.toNat i * 5) ≤ (6 : Int)) == false) = true → ((decide (intAt cs (off + Int.toNat i * 5) > (16 : Int)) == true) = true → (((!decide (intAt cs (off + Int.toNat i * 5) ≤ (38 : Int))) == false) = true → ((decide ((if intAt cs (off + Int.toNat i * 5 + 3) > if intAt cs (off + Int.toNat i * 5 + 2) > intAt cs (off + Int.toNat i * 5 + 1) then intAt cs (off + Int.toNat i * 5 + 2) else intAt cs (off + Int.toNat i * 5 + 1) then intAt cs (off + Int.toNat i * 5 + 3) else if intAt cs (off + Int.toNat i * 5 + 2) > intAt cs (off + Int.toNat i * 5 + 1) then intAt cs (off + Int.toNat i * 5 + 2) else intAt cs (off + Int.toNat i * 5 + 1)) ≥ (8 : Int)) == false) = true → (decide (IntKind.wrap IntKind.i64 (intAt cs (off + Int.toNat i * 5 + 4)) ≥ (↑n : Int)) = true → (!decide (i ≥ (0 : Int))) = r) ∧ (decide (IntKind.wrap IntKind.i64 (intAt cs (off + Int.toNat i * 5 + 4)) ≥ (↑n : Int)) = false → Q (ari BinOp.add IntKind.i64 i (1 : Int)) ∧ CallKind.normal = CallKind.normal ∧ TodoOk (ren 1 [(1, 1)]) mH0 mH0 ∧ off = off ∧ n = n ∧ Fn.func (13 : Nat) = Fn.func (13 : Nat) ∧ (↑n : Int) = (↑n : Int) ∧ ari BinOp.add IntKind.i64 i (1 : Int) = ari BinOp.add IntKind.i64 i (1 : Int) ∧ off = off ∧ n = n ∧ CallKind.normal = CallKind.normal ∧ TodoOk (ren 1 [(1, 1)]) mT1 mT1 ∧ off = off ∧ n = n ∧ Fn.func (13 : Nat) = Fn.func (13 : Nat) ∧ off = off ∧ n = n ∧ Fn.func (13 : Nat) = Fn.func (13 : Nat) ∧ CallKind.normal = CallKind.normal ∧ TodoOk (ren 1 [(1, 1)]) mT2 mT2 ∧ off = off ∧ n = n ∧ Fn.func (13 : Nat) = Fn.func (13 : Nat) ∧ decide ((↑n : Int) ≤ (64 : Int)) = decide ((↑n : Int) ≤ (64 : Int)) ∧ off = off ∧ n = n ∧ off = off ∧ n = n ∧ Fn.func (13 : Nat) = Fn.func (13 : Nat) ∧ (↑n : Int) = (↑n : Int) ∧ Fn.func (13 : Nat) = Fn.func (13 : Nat) ∧ ty = ty ∧ cs = cs ∧ (22 : Nat) = (22 : Nat) ∧ off = off ∧ n = n ∧ True)) ∧ ((decide ((if intAt cs (off + Int.toNat i * 5 + 3) > if intAt cs (off + Int.toNat i * 5 + 2) > intAt cs (off + Int.toNat i * 5 + 1) then intAt cs (off + Int.toNat i * 5 + 2) else intAt cs (off + Int.toNat i * 5 + 1) then intAt cs (off + Int.toNat i * 5 + 3) else if intAt cs (off + Int.toNat i * 5 + 2) > intAt cs (off + Int.toNat i * 5 + 1) then intAt cs (off + Int.toNat i * 5 + 2) else intAt cs (off + Int.toNat i * 5 + 1)) ≥ (8 : Int)) == false) = false → (!decide (i ≥ (0 : Int))) = r)) ∧ (((!decide (intAt cs (off + Int.toNat i * 5) ≤ (38 : Int))) == false) = false → (!decide (i ≥ (0 : Int))) = r)) ∧ ((decide (intAt cs (off + Int.toNat i * 5) > (16 : Int)) == true) = false → (!decide (i ≥ (0 : Int))) = r)) ∧ ((decide (intAt cs (off + Int.toNat i * 5) ≤ (6 : Int)) == false) = false → ((decide ((if intAt cs (off + Int.toNat i * 5 + 3) > if intAt cs (off + Int.toNat i * 5 + 2) > intAt cs (off + Int.toNat i * 5 + 1) then intAt cs (off + Int.toNat i * 5 + 2) else intAt cs (off + Int.toNat i * 5 + 1) then intAt cs (off + Int.toNat i * 5 + 3) else if intAt cs (off + Int.toNat i * 5 + 2) > intAt cs (off + Int.toNat i * 5 + 1) then intAt cs (off + Int.toNat i * 5 + 2) else intAt cs (off + Int.toNat i * 5 + 1)) ≥ (8 : Int)) == false) = true → (decide (IntKind.wrap IntKind.i64 (intAt cs (off + Int.toNat i * 5 + 4)) ≥ (↑n : Int)) = true → (!decide (i ≥ (0 : Int))) = r) ∧ (decide (IntKind.wrap IntKind.i64 (intAt cs (off + Int.toNat i * 5 + 4)) ≥ (↑n : Int)) = false → Q (ari BinOp.add IntKind.i64 i (1 : Int)) ∧ CallKind.normal = CallKind.normal ∧ TodoOk (ren 1 [(1, 1)]) mH0 mH0 ∧ off = off ∧ n = n ∧ Fn.func (13 : Nat) = Fn.func (13 : Nat) ∧ (↑n : Int) = (↑n : Int) ∧ ari BinOp.add IntKind.i64 i (1 : Int) = ari BinOp.add IntKind.i64 i (1 : Int) ∧ off = off ∧ n = n ∧ CallKind.normal = CallKind.normal ∧ TodoOk (ren 1 [(1, 1)]) mT1 mT1 ∧ off = off ∧ n = n ∧ Fn.func (13 : Nat) = Fn.func (13 : Nat) ∧ off = off ∧ n = n ∧ Fn.func (13 : Nat) = Fn.func (13 : Nat) ∧ CallKind.normal = CallKind.normal ∧ TodoOk (ren 1 [(1, 1)]) mT2 mT2 ∧ off = off ∧ n = n ∧ Fn.func (13 : Nat) = Fn.func (13 : Nat) ∧ decide ((↑n : Int) ≤ (64 : Int)) = decide ((↑n : Int) ≤ (64 : Int)) ∧ off = off ∧ n = n ∧ off = off ∧ n = n ∧ Fn.func (13 : Nat) = Fn.func (13 : Nat) ∧ (↑n : Int) = (↑n : Int) ∧ Fn.func (13 : Nat) = Fn.func (13 : Nat) ∧ ty = ty ∧ cs = cs ∧ (22 : Nat) = (22 : Nat) ∧ off = off ∧ n = n ∧ True)) ∧ ((decide ((if intAt cs (off + Int.toNat i * 5 + 3) > if intAt cs (off + Int.toNat i * 5 + 2) > intAt cs (off + Int.toNat i * 5 + 1) then intAt cs (off + Int.toNat i * 5 + 2) else intAt cs (off + Int.toNat i * 5 + 1) then intAt cs (off + Int.toNat i * 5 + 3) else if intAt cs (off + Int.toNat i * 5 + 2) > intAt cs (off + Int.toNat i * 5 + 1) then intAt cs (off + Int.toNat i * 5 + 2) else intAt cs (off + Int.toNat i * 5 + 1)) ≥ (8 : Int)) == false) = false → (!decide (i ≥ (0 : Int))) = r)))) ∧ (decide (i < (↑n : Int)) = false → (!decide ((-1 : Int) ≥ (0 : Int))) = r)) := by kernel_rfl
theorem may_step_p (off n : Nat) (cs : Array Value) (ty : TypeId) (r : Bool) (i : Int) (Q : Int → Prop) : (gS EM 1 (mayC off n) (prM false cs ty) [(8, i64 (.o i))] []).vc (boolR r) (mayN true false off n cs ty Q) =
    ((decide (i < (↑n : Int)) = true → (((0 : Int) ≤ i ∧ i < (↑n : Int)) ∧ True) ∧ (IsInt IntKind.u8 cs (off + Int.toNat i * 5) ∧ IsInt IntKind.u8 cs (off + Int.toNat i * 5 + 1) ∧ IsInt IntKind.u8 cs (off + Int.toNat i * 5 + 2) ∧ IsInt IntKind.u8 cs (off + Int.toNat i * 5 + 3) ∧ IsInt IntKind.u16 cs (off + Int.toNat i * 5 + 4) ∧ True) ∧ (((intAt cs (off + Int.toNat i * 5) == (5 : Int)) == false) = true → ((decide (intAt cs (off + Int.toNat i * 5) ≤ (6 : Int)) == false) = true → ((decide (intAt cs (off + Int.toNat i * 5) > (16 : Int)) == true) = true → (((!decide (intAt cs (off + Int.toNat i * 5) ≤ (38 : Int))) == false) = true → ((decide ((if intAt cs (off + Int.toNat i * 5 + 3) > if intAt cs (off + Int.toNat i * 5 + 2) > intAt cs (off + Int.toNat i * 5 + 1) then intAt cs (off + Int.toNat i * 5 + 2) else intAt cs (off + Int.toNat i * 5 + 1) then intAt cs (off + Int.toNat i * 5 + 3) else if intAt cs (off + Int.toNat i * 5 + 2) > intAt cs (off + Int.toNat i * 5 + 1) then intAt cs (off + Int.toNat i * 5 + 2) else intAt cs (off + Int.toNat i * 5 + 1)) ≥ (8 : Int)) == false) = true → (((intAt cs (off + Int.toNat i * 5) == (6 : Int)) == true) = true → (decide (IntKind.wrap IntKind.i64 (intAt cs (off + Int.toNat i * 5 + 4)) ≥ (↑n : Int)) = true → (!decide (i ≥ (0 : Int))) = r) ∧ (decide (IntKind.wrap IntKind.i64 (intAt cs (off + Int.toNat i * 5 + 4)) ≥ (↑n : Int)) = false → Q (ari BinOp.add IntKind.i64 i (1 : Int)) ∧ CallKind.normal = CallKind.normal ∧ TodoOk (ren 1 [(1, 1)]) mH0 mH0 ∧ off = off ∧ n = n ∧ Fn.func (13 : Nat) = Fn.func (13 : Nat) ∧ (↑n : Int) = (↑n : Int) ∧ ari BinOp.add IntKind.i64 i (1 : Int) = ari BinOp.add IntKind.i64 i (1 : Int) ∧ off = off ∧ n = n ∧ CallKind.normal = CallKind.normal ∧ TodoOk (ren 1 [(1, 1)]) mT1 mT1 ∧ off = off ∧ n = n ∧ Fn.func (13 : Nat) = Fn.func (13 : Nat) ∧ off = off ∧ n = n ∧ Fn.func (13 : Nat) = Fn.func (13 : Nat) ∧ CallKind.normal = CallKind.normal ∧ TodoOk (ren 1 [(1, 1)]) mT2 mT2 ∧ off = off ∧ n = n ∧ Fn.func (13 : Nat) = Fn.func (13 : Nat) ∧ decide ((↑n : Int) ≤ (64 : Int)) = decide ((↑n : Int) ≤ (64 : Int)) ∧ off = off ∧ n = n ∧ off = off ∧ n = n ∧ Fn.func (13 : Nat) = Fn.func (13 : Nat) ∧ (↑n : Int) = (↑n : Int) ∧ Fn.func (13 : Nat) = Fn.func (13 : Nat) ∧ ty = ty ∧ cs = cs ∧ (22 : Nat) = (22 : Nat) ∧ off = off ∧ n = n ∧ True)) ∧ (((intAt cs (off + Int.toNat i * 5) == (6 : Int)) == true) = false → Q (ari BinOp.add IntKind.i64 i (1 : Int)) ∧ CallKind.normal = CallKind.normal ∧ TodoOk (ren 1 [(1, 1)]) mH0 mH0 ∧ off = off ∧ n = n ∧ Fn.func (13 : Nat) = Fn.func (13 : Nat) ∧ (↑n : Int) = (↑n : Int) ∧ ari BinOp.add IntKind.i64 i (1 : Int) = ari BinOp.add IntKind.i64 i (1 : Int) ∧ off = off ∧ n = n ∧ CallKind.normal = CallKind.normal ∧ TodoOk (ren 1 [(1, 1)]) mT1 mT1 ∧ off = off ∧ n = n ∧ Fn.func (13 : Nat) = Fn.func (13 : Nat) ∧ off = off ∧ n = n ∧ Fn.func (13 : Nat) = Fn.func (13 : Nat) ∧ CallKind.normal = CallKind.normal ∧ TodoOk (ren 1 [(1, 1)]) mT2 mT2 ∧ off = off ∧ n = n ∧ Fn.func (13 : Nat) = Fn.func (13 : Nat) ∧ decide ((↑n : Int) ≤ (64 : Int)) = decide ((↑n : Int) ≤ (64 : Int)) ∧ off = off ∧ n = n ∧ off = off ∧ n = n ∧ Fn.func (13 : Nat) = Fn.func (13 : Nat) ∧ (↑n : Int) = (↑n : Int) ∧ Fn.func (13 : Nat) = Fn.func (13 : Nat) ∧ ty = ty ∧ cs = cs ∧ (22 : Nat) = (22 : Nat) ∧ off = off ∧ n = n ∧ True)) ∧ ((decide ((if intAt cs (off + Int.toNat i * 5 + 3) > if intAt cs (off + Int.toNat i * 5 + 2) > intAt cs (off + Int.toNat i * 5 + 1) then intAt cs (off + Int.toNat i * 5 + 2) else intAt cs (off + Int.toNat i * 5 + 1) then intAt cs (off + Int.toNat i * 5 + 3) else if intAt cs (off + Int.toNat i * 5 + 2) > intAt cs (off + Int.toNat i * 5 + 1) then intAt cs (off + Int.toNat i * 5 + 2) else intAt cs (off + Int.toNat i * 5 + 1)) ≥ (8 : Int)) == false) = false → (!decide (i ≥ (0 : Int))) = r)) ∧ (((!decide (intAt cs (off + Int.toNat i * 5) ≤ (38 : Int))) == false) = false → (!decide (i ≥ (0 : Int))) = r)) ∧ ((decide (intAt cs (off + Int.toNat i * 5) > (16 : Int)) == true) = false → (!decide (i ≥ (0 : Int))) = r)) ∧ ((decide (intAt cs (off + Int.toNat i * 5) ≤ (6 : Int)) == false) = false → ((decide ((if intAt cs (off + Int.toNat i * 5 + 3) > if intAt cs (off + Int.toNat i * 5 + 2) > intAt cs (off + Int.toNat i * 5 + 1) then intAt cs (off + Int.toNat i * 5 + 2) else intAt cs (off + Int.toNat i * 5 + 1) then intAt cs (off + Int.toNat i * 5 + 3) else if intAt cs (off + Int.toNat i * 5 + 2) > intAt cs (off + Int.toNat i * 5 + 1) then intAt cs (off + Int.toNat i * 5 + 2) else intAt cs (off + Int.toNat i * 5 + 1)) ≥ (8 : Int)) == false) = true → (((intAt cs (off + Int.toNat i * 5) == (6 : Int)) == true) = true → (decide (IntKind.wrap IntKind.i64 (intAt cs (off + Int.toNat i * 5 + 4)) ≥ (↑n : Int)) = true → (!decide (i ≥ (0 : Int))) = r) ∧ (decide (IntKind.wrap IntKind.i64 (intAt cs (off + Int.toNat i * 5 + 4)) ≥ (↑n : Int)) = false → Q (ari BinOp.add IntKind.i64 i (1 : Int)) ∧ CallKind.normal = CallKind.normal ∧ TodoOk (ren 1 [(1, 1)]) mH0 mH0 ∧ off = off ∧ n = n ∧ Fn.func (13 : Nat) = Fn.func (13 : Nat) ∧ (↑n : Int) = (↑n : Int) ∧ ari BinOp.add IntKind.i64 i (1 : Int) = ari BinOp.add IntKind.i64 i (1 : Int) ∧ off = off ∧ n = n ∧ CallKind.normal = CallKind.normal ∧ TodoOk (ren 1 [(1, 1)]) mT1 mT1 ∧ off = off ∧ n = n ∧ Fn.func (13 : Nat) = Fn.func (13 : Nat) ∧ off = off ∧ n = n ∧ Fn.func (13 : Nat) = Fn.func (13 : Nat) ∧ CallKind.normal = CallKind.normal ∧ TodoOk (ren 1 [(1, 1)]) mT2 mT2 ∧ off = off ∧ n = n ∧ Fn.func (13 : Nat) = Fn.func (13 : Nat) ∧ decide ((↑n : Int) ≤ (64 : Int)) = decide ((↑n : Int) ≤ (64 : Int)) ∧ off = off ∧ n = n ∧ off = off ∧ n = n ∧ Fn.func (13 : Nat) = Fn.func (13 : Nat) ∧ (↑n : Int) = (↑n : Int) ∧ Fn.func (13 : Nat) = Fn.func (13 : Nat) ∧ ty = ty ∧ cs = cs ∧ (22 : Nat) = (22 : Nat) ∧ off = off ∧ n = n ∧ True)) ∧ (((intAt cs (off + Int.toNat i * 5) == (6 : Int)) == true) = false → Q (ari BinOp.add IntKind.i64 i (1 : Int)) ∧ CallKind.normal = CallKind.normal ∧ TodoOk (ren 1 [(1, 1)]) mH0 mH0 ∧ off = off ∧ n = n ∧ Fn.func (13 : Nat) = Fn.func (13 : Nat) ∧ (↑n : Int) = (↑n : Int) ∧ ari BinOp.add IntKind.i64 i (1 : Int) = ari BinOp.add IntKind.i64 i (1 : Int) ∧ off = off ∧ n = n ∧ CallKind.normal = CallKind.normal ∧ TodoOk (ren 1 [(1, 1)]) mT1 mT1 ∧ off = off ∧ n = n ∧ Fn.func (13 : Nat) = Fn.func (13 : Nat) ∧ off = off ∧ n = n ∧ Fn.func (13 : Nat) = Fn.func (13 : Nat) ∧ CallKind.normal = CallKind.normal ∧ TodoOk (ren 1 [(1, 1)]) mT2 mT2 ∧ off = off ∧ n = n ∧ Fn.func (13 : Nat) = Fn.func (13 : Nat) ∧ decide ((↑n : Int) ≤ (64 : Int)) = decide ((↑n : Int) ≤ (64 : Int)) ∧ off = off ∧ n = n ∧ off = off ∧ n = n ∧ Fn.func (13 : Nat) = Fn.func (13 : Nat) ∧ (↑n : Int) = (↑n : Int) ∧ Fn.func (13 : Nat) = Fn.func (13 : Nat) ∧ ty = ty ∧ cs = cs ∧ (22 : Nat) = (22 : Nat) ∧ off = off ∧ n = n ∧ True)) ∧ ((decide ((if intAt cs (off + Int.toNat i * 5 + 3) > if intAt cs (off + Int.toNat i * 5 + 2) > intAt cs (off + Int.toNat i * 5 + 1) then intAt cs (off + Int.toNat i * 5 + 2) else intAt cs (off + Int.toNat i * 5 + 1) then intAt cs (off + Int.toNat i * 5 + 3) else if intAt cs (off + Int.toNat i * 5 + 2) > intAt cs (off + Int.toNat i * 5 + 1) then intAt cs (off + Int.toNat i * 5 + 2) else intAt cs (off + Int.toNat i * 5 + 1)) ≥ (8 : Int)) == false) = false → (!decide (i ≥ (0 : Int))) = r))) ∧ (((intAt cs (off + Int.toNat i * 5) == (5 : Int)) == false) = false → ((decide (intAt cs (off + Int.toNat i * 5) ≤ (6 : Int)) == false) = true → ((decide (intAt cs (off + Int.toNat i * 5) > (16 : Int)) == true) = true → (((!decide (intAt cs (off + Int.toNat i * 5) ≤ (38 : Int))) == false) = true → ((decide ((if intAt cs (off + Int.toNat i * 5 + 3) > if intAt cs (off + Int.toNat i * 5 + 2) > intAt cs (off + Int.toNat i * 5 + 1) then intAt cs (off + Int.toNat i * 5 + 2) else intAt cs (off + Int.toNat i * 5 + 1) then intAt cs (off + Int.toNat i * 5 + 3) else if intAt cs (off + Int.toNat i * 5 + 2) > intAt cs (off + Int.toNat i * 5 + 1) then intAt cs (off + Int.toNat i * 5 + 2) else intAt cs (off + Int.toNat i * 5 + 1)) ≥ (8 : Int)) == false) = true → (decide (IntKind.wrap IntKind.i64 (intAt cs (off + Int.toNat i * 5 + 4)) ≥ (↑n : Int)) = true → (!decide (i ≥ (0 : Int))) = r) ∧ (decide (IntKind.wrap IntKind.i64 (intAt cs (off + Int.toNat i * 5 + 4)) ≥ (↑n : Int)) = false → Q (ari BinOp.add IntKind.i64 i (1 : Int)) ∧ CallKind.normal = CallKind.normal ∧ TodoOk (ren 1 [(1, 1)]) mH0 mH0 ∧ off = off ∧ n = n ∧ Fn.func (13 : Nat) = Fn.func (13 : Nat) ∧ (↑n : Int) = (↑n : Int) ∧ ari BinOp.add IntKind.i64 i (1 : Int) = ari BinOp.add IntKind.i64 i (1 : Int) ∧ off = off ∧ n = n ∧ CallKind.normal = CallKind.normal ∧ TodoOk (ren 1 [(1, 1)]) mT1 mT1 ∧ off = off ∧ n = n ∧ Fn.func (13 : Nat) = Fn.func (13 : Nat) ∧ off = off ∧ n = n ∧ Fn.func (13 : Nat) = Fn.func (13 : Nat) ∧ CallKind.normal = CallKind.normal ∧ TodoOk (ren 1 [(1, 1)]) mT2 mT2 ∧ off = off ∧ n = n ∧ Fn.func (13 : Nat) = Fn.func (13 : Nat) ∧ decide ((↑n : Int) ≤ (64 : Int)) = decide ((↑n : Int) ≤ (64 : Int)) ∧ off = off ∧ n = n ∧ off = off ∧ n = n ∧ Fn.func (13 : Nat) = Fn.func (13 : Nat) ∧ (↑n : Int) = (↑n : Int) ∧ Fn.func (13 : Nat) = Fn.func (13 : Nat) ∧ ty = ty ∧ cs = cs ∧ (22 : Nat) = (22 : Nat) ∧ off = off ∧ n = n ∧ True)) ∧ ((decide ((if intAt cs (off + Int.toNat i * 5 + 3) > if intAt cs (off + Int.toNat i * 5 + 2) > intAt cs (off + Int.toNat i * 5 + 1) then intAt cs (off + Int.toNat i * 5 + 2) else intAt cs (off + Int.toNat i * 5 + 1) then intAt cs (off + Int.toNat i * 5 + 3) else if intAt cs (off + Int.toNat i * 5 + 2) > intAt cs (off + Int.toNat i * 5 + 1) then intAt cs (off + Int.toNat i * 5 + 2) else intAt cs (off + Int.toNat i * 5 + 1)) ≥ (8 : Int)) == false) = false → (!decide (i ≥ (0 : Int))) = r)) ∧ (((!decide (intAt cs (off + Int.toNat i * 5) ≤ (38 : Int))) == false) = false → (!decide (i ≥ (0 : Int))) = r)) ∧ ((decide (intAt cs (off + Int.toNat i * 5) > (16 : Int)) == true) = false → (!decide (i ≥ (0 : Int))) = r)) ∧ ((decide (intAt cs (off + Int.toNat i * 5) ≤ (6 : Int)) == false) = false → ((decide ((if intAt cs (off + Int.toNat i * 5 + 3) > if intAt cs (off + Int.toNat i * 5 + 2) > intAt cs (off + Int.toNat i * 5 + 1) then intAt cs (off + Int.toNat i * 5 + 2) else intAt cs (off + Int.toNat i * 5 + 1) then intAt cs (off + Int.toNat i * 5 + 3) else if intAt cs (off + Int.toNat i * 5 + 2) > intAt cs (off + Int.toNat i * 5 + 1) then intAt cs (off + Int.toNat i * 5 + 2) else intAt cs (off + Int.toNat i * 5 + 1)) ≥ (8 : Int)) == false) = true → (decide (IntKind.wrap IntKind.i64 (intAt cs (off + Int.toNat i * 5 + 4)) ≥ (↑n : Int)) = true → (!decide (i ≥ (0 : Int))) = r) ∧ (decide (IntKind.wrap IntKind.i64 (intAt cs (off + Int.toNat i * 5 + 4)) ≥ (↑n : Int)) = false → Q (ari BinOp.add IntKind.i64 i (1 : Int)) ∧ CallKind.normal = CallKind.normal ∧ TodoOk (ren 1 [(1, 1)]) mH0 mH0 ∧ off = off ∧ n = n ∧ Fn.func (13 : Nat) = Fn.func (13 : Nat) ∧ (↑n : Int) = (↑n : Int) ∧ ari BinOp.add IntKind.i64 i (1 : Int) = ari BinOp.add IntKind.i64 i (1 : Int) ∧ off = off ∧ n = n ∧ CallKind.normal = CallKind.normal ∧ TodoOk (ren 1 [(1, 1)]) mT1 mT1 ∧ off = off ∧ n = n ∧ Fn.func (13 : Nat) = Fn.func (13 : Nat) ∧ off = off ∧ n = n ∧ Fn.func (13 : Nat) = Fn.func (13 : Nat) ∧ CallKind.normal = CallKind.normal ∧ TodoOk (ren 1 [(1, 1)]) mT2 mT2 ∧ off = off ∧ n = n ∧ Fn.func (13 : Nat) = Fn.func (13 : Nat) ∧ decide ((↑n : Int) ≤ (64 : Int)) = decide ((↑n : Int) ≤ (64 : Int)) ∧ off = off ∧ n = n ∧ off = off ∧ n = n ∧ Fn.func (13 : Nat) = Fn.func (13 : Nat) ∧ (↑n : Int) = (↑n : Int) ∧ Fn.func (13 : Nat) = Fn.func (13 : Nat) ∧ ty = ty ∧ cs = cs ∧ (22 : Nat) = (22 : Nat) ∧ off = off ∧ n = n ∧ True)) ∧ ((decide ((if intAt cs (off + Int.toNat i * 5 + 3) > if intAt cs (off + Int.toNat i * 5 + 2) > intAt cs (off + Int.toNat i * 5 + 1) then intAt cs (off + Int.toNat i * 5 + 2) else intAt cs (off + Int.toNat i * 5 + 1) then intAt cs (off + Int.toNat i * 5 + 3) else if intAt cs (off + Int.toNat i * 5 + 2) > intAt cs (off + Int.toNat i * 5 + 1) then intAt cs (off + Int.toNat i * 5 + 2) else intAt cs (off + Int.toNat i * 5 + 1)) ≥ (8 : Int)) == false) = false → (!decide (i ≥ (0 : Int))) = r)))) ∧ (decide (i < (↑n : Int)) = false → (!decide ((-1 : Int) ≥ (0 : Int))) = r)) := by kernel_rfl
end Go.Proofs.Ytaagmmljhgabfaa
/- Of code: instructions, and what May answers. No condition. -/
namespace Go.Proofs.Ytaagmmljhgabfaa
set_option maxRecDepth 100000
structure Ins where
  o : Int
  a : Int
  b : Int
  c : Int
  n : Int
theorem Ins.ext' {x y : Ins} (h1 : x.o = y.o) (h2 : x.a = y.a) (h3 : x.b = y.b) (h4 : x.c = y.c) (h5 : x.n = y.n) : x = y := by cases x; cases y; simp_all
def ins (cs : Array Value) (off i : Nat) : Ins := ⟨intAt cs (off + i * 5), intAt cs (off + i * 5 + 1), intAt cs (off + i * 5 + 2), intAt cs (off + i * 5 + 3), intAt cs (off + i * 5 + 4)⟩
/-- An instruction's numbers are in their kinds' ranges. -/
def Ins.In (x : Ins) : Prop := (0 ≤ x.o ∧ x.o ≤ 255) ∧ (0 ≤ x.a ∧ x.a ≤ 255) ∧ (0 ≤ x.b ∧ x.b ≤ 255) ∧ (0 ≤ x.c ∧ x.c ≤ 255) ∧ (0 ≤ x.n ∧ x.n ≤ 65535)
def InsAt (cs : Array Value) (p : Nat) : Prop := IsInt .u8 cs p ∧ IsInt .u8 cs (p + 1) ∧ IsInt .u8 cs (p + 2) ∧ IsInt .u8 cs (p + 3) ∧ IsInt .u16 cs (p + 4)
def InsOk (cs : Array Value) (off n : Nat) : Prop := n < 9223372036854775807 ∧ ∀ i, i < n → InsAt cs (off + i * 5) ∧ (ins cs off i).In
def Ins.okN (x : Ins) (n : Nat) : Bool := decide ((x.o ≤ 6 ∨ (16 < x.o ∧ x.o ≤ 38)) ∧ x.a < 8 ∧ x.b < 8 ∧ x.c < 8 ∧ ¬ ((x.o = 5 ∨ x.o = 6) ∧ (n : Int) ≤ x.n))
theorem Ins.okN_iff {x : Ins} {n : Nat} : x.okN n = true ↔ (x.o ≤ 6 ∨ (16 < x.o ∧ x.o ≤ 38)) ∧ x.a < 8 ∧ x.b < 8 ∧ x.c < 8 ∧ ¬ ((x.o = 5 ∨ x.o = 6) ∧ (n : Int) ≤ x.n) := by unfold Ins.okN; rw [decide_eq_true_eq]
def allOk (cs : Array Value) (off N : Nat) : Nat → Bool
  | 0 => true
  | k + 1 => allOk cs off N k && (ins cs off k).okN N
theorem allOk_iff {cs : Array Value} {off N : Nat} : ∀ {k : Nat}, allOk cs off N k = true ↔ ∀ i, i < k → (ins cs off i).okN N = true
  | 0 => by simp [allOk]
  | k + 1 => by
    unfold allOk
    rw [Bool.and_eq_true, allOk_iff]
    refine ⟨fun h i hi => ?_, fun h => ⟨fun i hi => h i (by omega), h k (by omega)⟩⟩
    by_cases e : i = k
    · rw [e]; exact h.2
    · exact h.1 i (by omega)
def mayV (cs : Array Value) (off n : Nat) : Bool := decide (n ≤ 64) && allOk cs off n n
theorem mayV_iff {cs : Array Value} {off n : Nat} : mayV cs off n = true ↔ n ≤ 64 ∧ ∀ i, i < n → (ins cs off i).okN n = true := by
  unfold mayV
  rw [Bool.and_eq_true, decide_eq_true_eq, allOk_iff]
theorem i64_nat {k : Nat} (h : k < 9223372036854775807) : IntKind.i64.wrap ((k : Int) + 1) = ((k + 1 : Nat) : Int) := by
  rw [Go.IntWalk.i64_in _ (by omega)]; rfl
theorem mayN_good {h v : Bool} {off n : Nat} {cs : Array Value} {ty : TypeId} {A : SV → SMem → Prop} {Q : Int → Prop} (hg : ∀ i, Q i → Good EM.P A 1 (gH EM 1 (mayC off n) (prM v cs ty) [(8, i64 (.o i))]) (gM EM 1 (mayC off n) (prM v cs ty) [])) {fs : List SFr} {m : SMem} (hb : mayN h v off n cs ty Q fs m) : Good EM.P A 1 fs m := by
  unfold mayN at hb
  split at hb
  · split at hb
    · exact gN_good hb.2 (hg _ hb.1)
    · exact hb.elim
  · exact hb.elim
theorem mT0_ok : TodoOk (ren 1 [(1, 1)]) mT0 mT0 := TodoOk.same (by kernel_rfl)
theorem mH0_ok : TodoOk (ren 1 [(1, 1)]) mH0 mH0 := TodoOk.same (by kernel_rfl)
theorem mT1_ok : TodoOk (ren 1 [(1, 1)]) mT1 mT1 := TodoOk.same (by kernel_rfl)
theorem mT2_ok : TodoOk (ren 1 [(1, 1)]) mT2 mT2 := TodoOk.same (by kernel_rfl)
theorem max3 {a b c : Int} : (if c > if b > a then b else a then c else if b > a then b else a) ≥ 8 ↔ ¬ (a < 8 ∧ b < 8 ∧ c < 8) := by
  split <;> split <;> omega
theorem eqI {b : Bool} : ((b == true) = true) = (b = true) := by cases b <;> rfl
theorem gM_may (v : Bool) (off n : Nat) (cs : Array Value) (ty : TypeId) : gM EM 1 (mayC off n) (prM v cs ty) [] = gM EM 1 (mayC off n) (prM v cs ty) [] := rfl
section
variable (off n : Nat) (cs : Array Value) (ty : TypeId) (hI : InsOk cs off n)
include hI
theorem may_round {v : Bool} (hn : n ≤ 64)
    (step : ∀ (r : Bool) (i : Int) (Q : Int → Prop), (gS EM 1 (mayC off n) (prM v cs ty) [(8, i64 (.o i))] []).vc (boolR r) (mayN true v off n cs ty Q) = (gS EM 1 (mayC off n) (prM true cs ty) [(8, i64 (.o i))] []).vc (boolR r) (mayN true true off n cs ty Q)) :
    ∀ (k i : Nat), n - i < k → i ≤ n → (∀ j, j < i → (ins cs off j).okN n = true) → Good EM.P (boolR (mayV cs off n)) 1 (gH EM 1 (mayC off n) (prM v cs ty) [(8, i64 (.o i))]) (gM EM 1 (mayC off n) (prM v cs ty) []) := by
  intro k
  induction k with
  | zero => intro i h; omega
  | succ k ih =>
    intro i hk hi hd
    refine past_vc EM_ok 1000 ((step (mayV cs off n) i (fun i' => ∃ j : Nat, i' = j ∧ n - j < k ∧ j ≤ n ∧ ∀ t, t < j → (ins cs off t).okN n = true)).trans (may_step_r off n cs ty (mayV cs off n) i _)) ?_ (fun _ _ h => h)
      (fun fs m hb => mayN_good (fun i' ⟨j, e, k1, k2, k3⟩ => by rw [e]; exact ih j k1 k2 k3) hb)
    have hn64 : n < 9223372036854775807 := hI.1
    refine ⟨fun h => ?_, fun h => ?_⟩
    · have hlt : i < n := by simpa using h
      obtain ⟨⟨i1, i2, i3, i4, i5⟩, r1, r2, r3, r4, r5⟩ := hI.2 i hlt
      rw [Int.toNat_natCast]
      refine ⟨⟨⟨by omega, by omega⟩, trivial⟩, ⟨i1, i2, i3, i4, i5, trivial⟩, ?_⟩
      have hyes : (ins cs off i).okN n = true → ∃ j : Nat, ((i + 1 : Nat) : Int) = j ∧ n - j < k ∧ j ≤ n ∧ ∀ t, t < j → (ins cs off t).okN n = true := fun h => ⟨i + 1, rfl, by omega, by omega, fun t ht => by
        by_cases e : t = i
        · rw [e]; exact h
        · exact hd t (by omega)⟩
      have hno : ¬ (ins cs off i).okN n = true → (!decide ((i : Int) ≥ 0)) = mayV cs off n := fun h => by
        have e1 : decide ((i : Int) ≥ 0) = true := by simp
        have e2 : mayV cs off n = false := by
          cases e : mayV cs off n with
          | false => rfl
          | true => exact (h ((mayV_iff.1 e).2 i hlt)).elim
        rw [e1, e2]; rfl
      have eA : ari BinOp.add IntKind.i64 (i : Int) 1 = ((i + 1 : Nat) : Int) := by rw [ari_add, i64_nat (show i < 9223372036854775807 by omega)]
      rw [eA]
      generalize hYe : (∃ j : Nat, ((i + 1 : Nat) : Int) = j ∧ n - j < k ∧ j ≤ n ∧ ∀ t, t < j → (ins cs off t).okN n = true) = Y at hyes ⊢
      generalize hRe : ((!decide ((i : Int) ≥ 0)) = mayV cs off n) = Z at hno ⊢
      rw [Ins.okN_iff] at hyes hno
      simp only [ins] at hyes hno r1 r2 r3 r4 r5
      generalize intAt cs (off + i * 5) = xo at hyes hno r1 r2 r3 r4 r5 ⊢
      generalize intAt cs (off + i * 5 + 1) = xa at hyes hno r1 r2 r3 r4 r5 ⊢
      generalize intAt cs (off + i * 5 + 2) = xb at hyes hno r1 r2 r3 r4 r5 ⊢
      generalize intAt cs (off + i * 5 + 3) = xc at hyes hno r1 r2 r3 r4 r5 ⊢
      generalize intAt cs (off + i * 5 + 4) = xn at hyes hno r1 r2 r3 r4 r5 ⊢
      rw [Go.IntWalk.i64_in xn (by omega)]
      simp only [max3, eqI, beq_iff_eq, beq_eq_false_iff_ne, decide_eq_true_eq, decide_eq_false_iff_not, Bool.not_eq_eq_eq_not, Bool.not_true, Bool.not_false, ne_eq]
      clear hYe hRe step ih hd
      repeat' first | apply And.intro | (intro hh)
      all_goals first | exact trivial | exact mH0_ok | exact mT1_ok | exact mT2_ok | exact rfl | skip
      all_goals first | (refine hyes ?_; omega) | (refine hno ?_; omega) | skip
    · have h1 : ¬ i < n := by simpa using h
      have e : mayV cs off n = true := mayV_iff.2 ⟨hn, fun j hj => hd j (by omega)⟩
      rw [e]
      rfl
end
end Go.Proofs.Ytaagmmljhgabfaa
/- Of code: what the functions promise, and the states of Encode and Decode. No condition. -/
namespace Go.Proofs.Ytaagmmljhgabfaa
noncomputable section
def nilV : SV := .s (.c (.f (.lit (.slice none 0 0))))
/-- A row of instructions. -/
def rowI (m : SMem) (i : Nat) : Option (Array Value) := match getB m.bl i with
  | some ⟨.raw cs, _, _⟩ => some cs
  | some ⟨.pop cs, _, _⟩ => some cs
  | _ => none
def mayT (m : SMem) : SV → Option Tree
  | .s (.c (.f (.lit (.slice none 0 0)))) => some (.ret (sB (.l true)) m)
  | .s (.c (.f .e0)) => some (.ret (sB (.l true)) m)
  | .s (.c (.f (.slice i o n _))) => match rowI m i with
    | some cs => some (needs [InsOk cs o.den n.den] (.ret (sB (.o (mayV cs o.den n.den))) m))
    | none => none
  | _ => none
def con9 (g : FuncId) (l : List SV) (m : SMem) : Option Tree := match g, l with
  | 5, [] => some (needs [] (.ret (sB (.l true)) m))
  | 9, [x] => mayT m x
  | _, _ => none
def E9 : Env := ⟨Try.prog, fnOf, con9, fun _ _ x => isLoop x⟩
/-! Encode. -/
def u8V (n : Int) : Value := .int .u8 n
def six (x : Ins) : List Value := [u8V x.o, u8V x.a, u8V x.b, u8V x.c, u8V (IntKind.u8.wrap x.n), u8V (IntKind.u8.wrap (ari .shr .u16 x.n 8))]
def encC (off n : Nat) : List SFr := [callFr 6 Try.f6.ntmps [prS off n] (Try.f6.body.getD .skip)]
def encF (v : Bool) (off n : Nat) (cs : Array Value) (ty : TypeId) (i : Int) (k : Nat) : List SFr := gF E9 1 (encC off n) (prM v cs ty) [(12, i64 (.o i)), (4, .s (.c (.f (.slice 1 (.l 0) (.o k) (.full 1)))))]
def encM (v : Bool) (cs : Array Value) (ty : TypeId) (bs : Array Value) : SMem := ⟨2, ((Tr.nil : Tr SBlk).set 0 (some ⟨prA v cs, ty, false⟩)).set 1 (some ⟨.pop bs, 5, true⟩), []⟩
def encS (v : Bool) (off n : Nat) (cs : Array Value) (ty : TypeId) (i : Int) (k : Nat) (bs : Array Value) : Tree := stepT E9.go (run E9 1000) 1 (headF (encF v off n cs ty i k)) (encM v cs ty bs)
def encN (v : Bool) (off n : Nat) (cs : Array Value) (ty : TypeId) (Q : Int → Nat → Array Value → Prop) (fs : List SFr) (m : SMem) : Prop := match fs with
  | f :: _ => match rdI f 12, rdS f 4 m with
    | some i, some (some (sid, k, bs)) => Q i k bs ∧ subOk 1 [(1, sid)] (headF (encF v off n cs ty i k)) (encM v cs ty bs) fs m
    | _, _ => False
  | [] => False
def encN0 (v : Bool) (off n : Nat) (cs : Array Value) (ty : TypeId) (Q : Int → Prop) (fs : List SFr) (m : SMem) : Prop := match fs with
  | f :: _ => match rdI f 12 with
    | some i => Q i ∧ gN E9 1 (encC off n) (prM v cs ty) false [(12, i64 (.o i))] [] fs m
    | _ => False
  | [] => False
def strF (x : SF) (b : ByteArray) : Prop := match x with
  | .lit (.string s) => s = b
  | .opq (.string s) => s = b
  | _ => False
def encA (b : ByteArray) (e : Int) (s : SV) (_ : SMem) : Prop := match s with
  | .tup [.c (.f x), .c (.f (.int .i64 y))] => strF x b ∧ y.den = e
  | _ => False
def eT0 : List SIt := headTd (gF E9 1 (encC 0 0) (prM true #[] 41) [])
def eH0 : List SIt := headTd (gH E9 1 (encC 0 0) (prM true #[] 41) [])
end
end Go.Proofs.Ytaagmmljhgabfaa
/- Of code: the states of Decode. No condition. -/
namespace Go.Proofs.Ytaagmmljhgabfaa
noncomputable section
def strV (s : ByteArray) : SV := .s (.c (.f (.opq (.string s))))
def decC (s : ByteArray) : List SFr := [callFr 11 Try.f11.ntmps [strV s] (Try.f11.body.getD .skip)]
def M0 : SMem := ⟨0, .nil, []⟩
def xsA (x0 x1 x2 x3 x4 x5 : Int) : SA := .ls [.f (.int .u8 (.o x0)), .f (.int .u8 (.o x1)), .f (.int .u8 (.o x2)), .f (.int .u8 (.o x3)), .f (.int .u8 (.o x4)), .f (.int .u8 (.o x5))]
def rdX (m : SMem) (id : Nat) : Option (Int × Int × Int × Int × Int × Int) := match getB m.bl id with
  | some ⟨.ls [.f (.int _ a), .f (.int _ b), .f (.int _ c), .f (.int _ d), .f (.int _ e), .f (.int _ g)], _, _⟩ => some (a.den, b.den, c.den, d.den, e.den, g.den)
  | _ => none
/-- With no row yet. -/
def decH0 (s : ByteArray) (i : Int) : List SFr := gH E9 0 (decC s) M0 [(6, i64 (.o i))]
def decM0 (s : ByteArray) (x0 x1 x2 x3 x4 x5 : Int) : SMem := gM E9 0 (decC s) M0 [(0, xsA x0 x1 x2 x3 x4 x5)]
def decH1 (s : ByteArray) (i : Int) (k : Nat) : List SFr := gH E9 0 (decC s) M0 [(6, i64 (.o i)), (4, .s (.c (.f (.slice 1 (.l 0) (.o k) (.full 5)))))]
def decM1 (s : ByteArray) (x0 x1 x2 x3 x4 x5 : Int) (cs : Array Value) : SMem := ⟨2, (decM0 s x0 x1 x2 x3 x4 x5).bl.set 1 (some ⟨.pop cs, 41, true⟩), []⟩
def decS0 (s : ByteArray) (i x0 x1 x2 x3 x4 x5 : Int) : Tree := stepT E9.go (run E9 1000) 0 (decH0 s i) (decM0 s x0 x1 x2 x3 x4 x5)
def decS1 (s : ByteArray) (i x0 x1 x2 x3 x4 x5 : Int) (k : Nat) (cs : Array Value) : Tree := stepT E9.go (run E9 1000) 0 (decH1 s i k) (decM1 s x0 x1 x2 x3 x4 x5 cs)
def decN0 (s : ByteArray) (Q : Int → Prop) (fs : List SFr) (m : SMem) : Prop := match fs with
  | f :: _ => match rdI f 6, rdX m 0 with
    | some i, some (a, b, c, d, e, g) => Q i ∧ subOk 0 [(0, 0)] (gF E9 0 (decC s) M0 [(6, i64 (.o i))]) (decM0 s a b c d e g) fs m
    | _, _ => False
  | [] => False
def decN1 (s : ByteArray) (Q : Int → Nat → Array Value → Prop) (fs : List SFr) (m : SMem) : Prop := match fs with
  | f :: _ => match rdI f 6, rdX m 0, rdS f 4 m with
    | some i, some (a, b, c, d, e, g), some (some (sid, k, cs)) => Q i k cs ∧ subOk 0 [(0, 0), (1, sid)] (decH1 s i k) (decM1 s a b c d e g cs) fs m
    | _, _, _ => False
  | [] => False
/-- What Decode answers: nothing and a number, or a row. -/
def decA (e : Int) (k : Nat) (cs : Array Value) (s : SV) (m : SMem) : Prop := match s with
  | .tup [.c (.f (.lit (.slice none 0 0))), .c (.f (.int .i64 y))] => y.den = 3 ∧ e = 3
  | .tup [.c (.f (.slice sid _ _ _)), .c (.f (.int _ _))] => e = 0 ∧ retOk 0 [(0, sid)] (.tup [.c (.f (.slice 0 (.l 0) (.o k) .any)), .c (.f (.int .i64 (.l 0)))]) ⟨1, Tr.nil.set 0 (some ⟨.pop cs, 41, true⟩), []⟩ s m
  | _ => False
def dT0 : List SIt := headTd (gF E9 0 (decC .empty) M0 [])
def dH0 : List SIt := headTd (gH E9 0 (decC .empty) M0 [])
end
end Go.Proofs.Ytaagmmljhgabfaa
/- Of code: the reference's functions: their states. No condition. -/
namespace Go.Proofs.Ytaagmmljhgabfaa
noncomputable section
def i64V (n : Int) : Value := .int .i64 n
/-! Of. -/
def fiveR (x : Ins) : List Value := [i64V (IntKind.i64.wrap x.o), i64V (IntKind.i64.wrap x.a), i64V (IntKind.i64.wrap x.b), i64V (IntKind.i64.wrap x.c), i64V (IntKind.i64.wrap x.n)]
def ofC (off n : Nat) : List SFr := [callFr 8 Try.f8.ntmps [prS off n] (Try.f8.body.getD .skip)]
def ofF (v : Bool) (off n : Nat) (cs : Array Value) (ty : TypeId) (i : Int) (k : Nat) : List SFr := gF E9 1 (ofC off n) (prM v cs ty) [(4, i64 (.o i)), (3, .s (.c (.f (.slice 1 (.l 0) (.o k) (.full 5)))))]
def ofM (v : Bool) (cs : Array Value) (ty : TypeId) (rs : Array Value) : SMem := ⟨2, ((Tr.nil : Tr SBlk).set 0 (some ⟨prA v cs, ty, false⟩)).set 1 (some ⟨.pop rs, 37, true⟩), []⟩
def ofS (v : Bool) (off n : Nat) (cs : Array Value) (ty : TypeId) (i : Int) (k : Nat) (rs : Array Value) : Tree := stepT E9.go (run E9 1000) 1 (headF (ofF v off n cs ty i k)) (ofM v cs ty rs)
def ofN (v : Bool) (off n : Nat) (cs : Array Value) (ty : TypeId) (Q : Int → Nat → Array Value → Prop) (fs : List SFr) (m : SMem) : Prop := match fs with
  | f :: _ => match rdI f 4, rdS f 3 m with
    | some i, some (some (sid, k, rs)) => Q i k rs ∧ subOk 1 [(1, sid)] (headF (ofF v off n cs ty i k)) (ofM v cs ty rs) fs m
    | _, _ => False
  | [] => False
def ofN0 (v : Bool) (off n : Nat) (cs : Array Value) (ty : TypeId) (Q : Int → Prop) (fs : List SFr) (m : SMem) : Prop := match fs with
  | f :: _ => match rdI f 4 with
    | some i => Q i ∧ gN E9 1 (ofC off n) (prM v cs ty) false [(4, i64 (.o i))] [] fs m
    | _ => False
  | [] => False
def ofA (k : Nat) (rs : Array Value) (s : SV) (m : SMem) : Prop := match s with
  | .s (.c (.f (.slice sid _ _ _))) => retOk 1 [(1, sid)] (.s (.c (.f (.slice 1 (.l 0) (.o k) .any)))) ⟨2, Tr.nil.set 1 (some ⟨.pop rs, 37, true⟩), []⟩ s m
  | _ => False
def nilA (e : Int) (s : SV) (_ : SMem) : Prop := match s with
  | .s (.c (.f (.lit (.slice none 0 0)))) => e = 0
  | _ => False
/-! The reference's May. -/
def rmC (off n : Nat) : List SFr := [callFr 7 Try.f7.ntmps [prS off n] (Try.f7.body.getD .skip)]
def rmN (h : Bool) (off n : Nat) (cs : Array Value) (ty : TypeId) (Q : Int → Prop) (fs : List SFr) (m : SMem) : Prop := match fs with
  | f :: _ => match rdI f 3 with
    | some i => Q i ∧ gN E9 1 (rmC off n) (prM false cs ty) h [(3, i64 (.o i))] [] fs m
    | none => False
  | [] => False
/-! Its Bytes. -/
def sixR (x : Ins) : List Value := [u8V (IntKind.u8.wrap x.o), u8V (IntKind.u8.wrap x.a), u8V (IntKind.u8.wrap x.b), u8V (IntKind.u8.wrap x.c), u8V (IntKind.u8.wrap (ari .rem .i64 x.n 256)), u8V (IntKind.u8.wrap (ari .quo .i64 x.n 256))]
def byC (off n : Nat) : List SFr := [callFr 10 Try.f10.ntmps [prS off n] (Try.f10.body.getD .skip)]
def byN (h : Bool) (off n : Nat) (cs : Array Value) (ty : TypeId) (Q : Int → ByteArray → Prop) (fs : List SFr) (m : SMem) : Prop := match fs with
  | f :: _ => match rdI f 4, f.tm.get 3 with
    | some i, some x => match strS x with
      | some (_, s) => Q i s ∧ gN E9 1 (byC off n) (prM false cs ty) h [(4, i64 (.o i)), (3, strV s)] [] fs m
      | none => False
    | _, _ => False
  | [] => False
def strA (b : ByteArray) (s : SV) (_ : SMem) : Prop := match s with
  | .s (.c (.f x)) => strF x b
  | _ => False
/-! Its Decode. -/
def RowOk (cs : Array Value) (off n : Nat) : Prop := n < 9223372036854775807 ∧ ∀ i, i < n → IsInt .i64 cs (off + i * 5) ∧ IsInt .i64 cs (off + i * 5 + 1) ∧ IsInt .i64 cs (off + i * 5 + 2) ∧ IsInt .i64 cs (off + i * 5 + 3) ∧ IsInt .i64 cs (off + i * 5 + 4)
def rowR (m : SMem) (i : Nat) : Option (Array Value) := match getB m.bl i with
  | some ⟨.pop cs, _, _⟩ => some cs
  | _ => none
def mayRT (m : SMem) : SV → Option Tree
  | .s (.c (.f (.lit (.slice none 0 0)))) => some (.ret (sB (.l true)) m)
  | .s (.c (.f (.slice i o n _))) => match rowR m i with
    | some cs => some (needs [RowOk cs o.den n.den] (.ret (sB (.o (mayV cs o.den n.den))) m))
    | none => none
  | _ => none
def con7 (g : FuncId) (l : List SV) (m : SMem) : Option Tree := match g, l with
  | 7, [x] => mayRT m x
  | _, _ => none
def E7 : Env := ⟨Try.prog, fnOf, con7, fun _ _ x => isLoop x⟩
def rdC (s : ByteArray) : List SFr := [callFr 12 Try.f12.ntmps [strV s] (Try.f12.body.getD .skip)]
def rdH0 (s t : ByteArray) : List SFr := gH E7 0 (rdC s) M0 [(0, strV t)]
def rdH1 (s t : ByteArray) (k : Nat) : List SFr := gH E7 0 (rdC s) M0 [(0, strV t), (4, .s (.c (.f (.slice 0 (.l 0) (.o k) (.full 5)))))]
def rdM1 (rs : Array Value) : SMem := ⟨1, Tr.nil.set 0 (some ⟨.pop rs, 37, true⟩), []⟩
def rdN0 (s : ByteArray) (Q : ByteArray → Prop) (fs : List SFr) (m : SMem) : Prop := match fs with
  | f :: _ => match f.tm.get 0 with
    | some x => match strS x with
      | some (_, t) => Q t ∧ subOk 0 [] (gF E7 0 (rdC s) M0 [(0, strV t)]) M0 fs m
      | none => False
    | _ => False
  | [] => False
def rdN1 (s : ByteArray) (Q : ByteArray → Nat → Array Value → Prop) (fs : List SFr) (m : SMem) : Prop := match fs with
  | f :: _ => match f.tm.get 0, rdS f 4 m with
    | some x, some (some (sid, k, rs)) => match strS x with
      | some (_, t) => Q t k rs ∧ subOk 0 [(0, sid)] (rdH1 s t k) (rdM1 rs) fs m
      | none => False
    | _, _ => False
  | [] => False
def rdAn (ok : Bool) (k : Nat) (rs : Array Value) (s : SV) (m : SMem) : Prop := match s with
  | .tup [.c (.f (.lit (.slice none 0 0))), .c (.f (.bool y))] => y.den = false ∧ ok = false
  | .tup [.c (.f (.slice sid _ _ _)), .c (.f (.bool _))] => ok = true ∧ retOk 0 [(0, sid)] (.tup [.c (.f (.slice 0 (.l 0) (.o k) .any)), .c (.f (.bool (.l true)))]) (rdM1 rs) s m
  | _ => False
def rd0A (y : Bool) (s : SV) (_ : SMem) : Prop := match s with
  | .tup [.c (.f (.lit (.slice none 0 0))), .c (.f (.bool z))] => z.den = y
  | _ => False
def oT0 : List SIt := headTd (gF E9 1 (ofC 0 0) (prM true #[] 0) [])
def oH0 : List SIt := headTd (gH E9 1 (ofC 0 0) (prM true #[] 0) [])
def rmT0 : List SIt := headTd (gF E9 1 (rmC 0 0) (prM false #[] 0) [])
def rmH0 : List SIt := headTd (gH E9 1 (rmC 0 0) (prM false #[] 0) [])
def byT0 : List SIt := headTd (gF E9 1 (byC 0 0) (prM false #[] 0) [])
def byH0 : List SIt := headTd (gH E9 1 (byC 0 0) (prM false #[] 0) [])
def rdT0 : List SIt := headTd (gF E7 0 (rdC .empty) M0 [])
def rdH00 : List SIt := headTd (gH E7 0 (rdC .empty) M0 [])
end
end Go.Proofs.Ytaagmmljhgabfaa
/- Of code: the reference's functions' rounds, as propositions. No condition. -/
namespace Go.Proofs.Ytaagmmljhgabfaa
set_option maxRecDepth 100000
theorem of_start_r (off n : Nat) (cs : Array Value) (ty : TypeId) (kF : Nat) (rF : Array Value) (Q : Int → Prop) : (gR E9 1 (ofC off n) (prM true cs ty)).vc (ofA kF rF) (ofN0 true off n cs ty Q) =
    (Q (0 : Int) ∧ CallKind.normal = CallKind.normal ∧ TodoOk (ren 1 []) oT0 oT0 ∧ off = off ∧ n = n ∧ Value.slice none (0 : Nat) (0 : Nat) = Value.slice none (0 : Nat) (0 : Nat) ∧ Value.slice none (0 : Nat) (0 : Nat) = Value.slice none (0 : Nat) (0 : Nat) ∧ (0 : Int) = (0 : Int) ∧ ty = ty ∧ cs = cs ∧ True) := by kernel_rfl
theorem of_start_p (off n : Nat) (cs : Array Value) (ty : TypeId) (kF : Nat) (rF : Array Value) (Q : Int → Prop) : (gR E9 1 (ofC off n) (prM false cs ty)).vc (ofA kF rF) (ofN0 false off n cs ty Q) =
    (Q (0 : Int) ∧ CallKind.normal = CallKind.normal ∧ TodoOk (ren 1 []) oT0 oT0 ∧ off = off ∧ n = n ∧ Value.slice none (0 : Nat) (0 : Nat) = Value.slice none (0 : Nat) (0 : Nat) ∧ Value.slice none (0 : Nat) (0 : Nat) = Value.slice none (0 : Nat) (0 : Nat) ∧ (0 : Int) = (0 : Int) ∧ ty = ty ∧ cs = cs ∧ True) := by kernel_rfl
theorem of_nil_r (off n : Nat) (cs : Array Value) (ty : TypeId) (kF : Nat) (rF : Array Value) (i : Int) (Q : Int → Nat → Array Value → Prop) : (gS E9 1 (ofC off n) (prM true cs ty) [(4, i64 (.o i))] []).vc (ofA kF rF) (ofN true off n cs ty Q) =
    ((decide (i < (↑n : Int)) = true → (((0 : Int) ≤ i ∧ i < (↑n : Int)) ∧ True) ∧ (IsInt IntKind.u8 cs (off + Int.toNat i * 5) ∧ IsInt IntKind.u8 cs (off + Int.toNat i * 5 + 1) ∧ IsInt IntKind.u8 cs (off + Int.toNat i * 5 + 2) ∧ IsInt IntKind.u8 cs (off + Int.toNat i * 5 + 3) ∧ IsInt IntKind.u16 cs (off + Int.toNat i * 5 + 4) ∧ True) ∧ Q (ari BinOp.add IntKind.i64 i (1 : Int)) (1 : Nat) #[Value.int IntKind.i64 (IntKind.wrap IntKind.i64 (intAt cs (off + Int.toNat i * 5))), Value.int IntKind.i64 (IntKind.wrap IntKind.i64 (intAt cs (off + Int.toNat i * 5 + 1))), Value.int IntKind.i64 (IntKind.wrap IntKind.i64 (intAt cs (off + Int.toNat i * 5 + 2))), Value.int IntKind.i64 (IntKind.wrap IntKind.i64 (intAt cs (off + Int.toNat i * 5 + 3))), Value.int IntKind.i64 (IntKind.wrap IntKind.i64 (intAt cs (off + Int.toNat i * 5 + 4)))] ∧ CallKind.normal = CallKind.normal ∧ TodoOk (ren 1 [(1, 3)]) oH0 oH0 ∧ off = off ∧ n = n ∧ (1 : Nat) = (1 : Nat) ∧ Value.slice none (0 : Nat) (0 : Nat) = Value.slice none (0 : Nat) (0 : Nat) ∧ ari BinOp.add IntKind.i64 i (1 : Int) = ari BinOp.add IntKind.i64 i (1 : Int) ∧ ty = ty ∧ cs = cs ∧ (37 : TypeId) = (37 : Nat) ∧ #[Value.int IntKind.i64 (IntKind.wrap IntKind.i64 (intAt cs (off + Int.toNat i * 5))), Value.int IntKind.i64 (IntKind.wrap IntKind.i64 (intAt cs (off + Int.toNat i * 5 + 1))), Value.int IntKind.i64 (IntKind.wrap IntKind.i64 (intAt cs (off + Int.toNat i * 5 + 2))), Value.int IntKind.i64 (IntKind.wrap IntKind.i64 (intAt cs (off + Int.toNat i * 5 + 3))), Value.int IntKind.i64 (IntKind.wrap IntKind.i64 (intAt cs (off + Int.toNat i * 5 + 4)))] = #[Value.int IntKind.i64 (IntKind.wrap IntKind.i64 (intAt cs (off + Int.toNat i * 5))), Value.int IntKind.i64 (IntKind.wrap IntKind.i64 (intAt cs (off + Int.toNat i * 5 + 1))), Value.int IntKind.i64 (IntKind.wrap IntKind.i64 (intAt cs (off + Int.toNat i * 5 + 2))), Value.int IntKind.i64 (IntKind.wrap IntKind.i64 (intAt cs (off + Int.toNat i * 5 + 3))), Value.int IntKind.i64 (IntKind.wrap IntKind.i64 (intAt cs (off + Int.toNat i * 5 + 4)))] ∧ True) ∧ (decide (i < (↑n : Int)) = false → False)) := by kernel_rfl
theorem of_nil_p (off n : Nat) (cs : Array Value) (ty : TypeId) (kF : Nat) (rF : Array Value) (i : Int) (Q : Int → Nat → Array Value → Prop) : (gS E9 1 (ofC off n) (prM false cs ty) [(4, i64 (.o i))] []).vc (ofA kF rF) (ofN false off n cs ty Q) =
    ((decide (i < (↑n : Int)) = true → (((0 : Int) ≤ i ∧ i < (↑n : Int)) ∧ True) ∧ (IsInt IntKind.u8 cs (off + Int.toNat i * 5) ∧ IsInt IntKind.u8 cs (off + Int.toNat i * 5 + 1) ∧ IsInt IntKind.u8 cs (off + Int.toNat i * 5 + 2) ∧ IsInt IntKind.u8 cs (off + Int.toNat i * 5 + 3) ∧ IsInt IntKind.u16 cs (off + Int.toNat i * 5 + 4) ∧ True) ∧ Q (ari BinOp.add IntKind.i64 i (1 : Int)) (1 : Nat) #[Value.int IntKind.i64 (IntKind.wrap IntKind.i64 (intAt cs (off + Int.toNat i * 5))), Value.int IntKind.i64 (IntKind.wrap IntKind.i64 (intAt cs (off + Int.toNat i * 5 + 1))), Value.int IntKind.i64 (IntKind.wrap IntKind.i64 (intAt cs (off + Int.toNat i * 5 + 2))), Value.int IntKind.i64 (IntKind.wrap IntKind.i64 (intAt cs (off + Int.toNat i * 5 + 3))), Value.int IntKind.i64 (IntKind.wrap IntKind.i64 (intAt cs (off + Int.toNat i * 5 + 4)))] ∧ CallKind.normal = CallKind.normal ∧ TodoOk (ren 1 [(1, 3)]) oH0 oH0 ∧ off = off ∧ n = n ∧ (1 : Nat) = (1 : Nat) ∧ Value.slice none (0 : Nat) (0 : Nat) = Value.slice none (0 : Nat) (0 : Nat) ∧ ari BinOp.add IntKind.i64 i (1 : Int) = ari BinOp.add IntKind.i64 i (1 : Int) ∧ ty = ty ∧ cs = cs ∧ (37 : TypeId) = (37 : Nat) ∧ #[Value.int IntKind.i64 (IntKind.wrap IntKind.i64 (intAt cs (off + Int.toNat i * 5))), Value.int IntKind.i64 (IntKind.wrap IntKind.i64 (intAt cs (off + Int.toNat i * 5 + 1))), Value.int IntKind.i64 (IntKind.wrap IntKind.i64 (intAt cs (off + Int.toNat i * 5 + 2))), Value.int IntKind.i64 (IntKind.wrap IntKind.i64 (intAt cs (off + Int.toNat i * 5 + 3))), Value.int IntKind.i64 (IntKind.wrap IntKind.i64 (intAt cs (off + Int.toNat i * 5 + 4)))] = #[Value.int IntKind.i64 (IntKind.wrap IntKind.i64 (intAt cs (off + Int.toNat i * 5))), Value.int IntKind.i64 (IntKind.wrap IntKind.i64 (intAt cs (off + Int.toNat i * 5 + 1))), Value.int IntKind.i64 (IntKind.wrap IntKind.i64 (intAt cs (off + Int.toNat i * 5 + 2))), Value.int IntKind.i64 (IntKind.wrap IntKind.i64 (intAt cs (off + Int.toNat i * 5 + 3))), Value.int IntKind.i64 (IntKind.wrap IntKind.i64 (intAt cs (off + Int.toNat i * 5 + 4)))] ∧ True) ∧ (decide (i < (↑n : Int)) = false → False)) := by kernel_rfl
theorem of_step_r (off n : Nat) (cs : Array Value) (ty : TypeId) (kF : Nat) (rF : Array Value) (i : Int) (k : Nat) (rs : Array Value) (Q : Int → Nat → Array Value → Prop) : (ofS true off n cs ty i k rs).vc (ofA kF rF) (ofN true off n cs ty Q) =
    ((decide (i < (↑n : Int)) = true → (((0 : Int) ≤ i ∧ i < (↑n : Int)) ∧ True) ∧ (IsInt IntKind.u8 cs (off + Int.toNat i * 5) ∧ IsInt IntKind.u8 cs (off + Int.toNat i * 5 + 1) ∧ IsInt IntKind.u8 cs (off + Int.toNat i * 5 + 2) ∧ IsInt IntKind.u8 cs (off + Int.toNat i * 5 + 3) ∧ IsInt IntKind.u16 cs (off + Int.toNat i * 5 + 4) ∧ True) ∧ (((k + 1) * 40 ≤ (140737488355328 : Nat) ∧ k + 1 ≤ (140737488355328 : Nat)) ∧ k * 5 = Array.size rs ∧ True) ∧ Q (ari BinOp.add IntKind.i64 i (1 : Int)) (k + 1) (rs ++ #[Value.int IntKind.i64 (IntKind.wrap IntKind.i64 (intAt cs (off + Int.toNat i * 5))), Value.int IntKind.i64 (IntKind.wrap IntKind.i64 (intAt cs (off + Int.toNat i * 5 + 1))), Value.int IntKind.i64 (IntKind.wrap IntKind.i64 (intAt cs (off + Int.toNat i * 5 + 2))), Value.int IntKind.i64 (IntKind.wrap IntKind.i64 (intAt cs (off + Int.toNat i * 5 + 3))), Value.int IntKind.i64 (IntKind.wrap IntKind.i64 (intAt cs (off + Int.toNat i * 5 + 4)))]) ∧ CallKind.normal = CallKind.normal ∧ TodoOk (ren 1 [(1, 4)]) oH0 oH0 ∧ off = off ∧ n = n ∧ k + 1 = k + 1 ∧ Value.slice none (0 : Nat) (0 : Nat) = Value.slice none (0 : Nat) (0 : Nat) ∧ ari BinOp.add IntKind.i64 i (1 : Int) = ari BinOp.add IntKind.i64 i (1 : Int) ∧ ty = ty ∧ cs = cs ∧ (37 : TypeId) = (37 : Nat) ∧ rs ++ #[Value.int IntKind.i64 (IntKind.wrap IntKind.i64 (intAt cs (off + Int.toNat i * 5))), Value.int IntKind.i64 (IntKind.wrap IntKind.i64 (intAt cs (off + Int.toNat i * 5 + 1))), Value.int IntKind.i64 (IntKind.wrap IntKind.i64 (intAt cs (off + Int.toNat i * 5 + 2))), Value.int IntKind.i64 (IntKind.wrap IntKind.i64 (intAt cs (off + Int.toNat i * 5 + 3))), Value.int IntKind.i64 (IntKind.wrap IntKind.i64 (intAt cs (off + Int.toNat i * 5 + 4)))] = rs ++ #[Value.int IntKind.i64 (IntKind.wrap IntKind.i64 (intAt cs (off + Int.toNat i * 5))), Value.int IntKind.i64 (IntKind.wrap IntKind.i64 (intAt cs (off + Int.toNat i * 5 + 1))), Value.int IntKind.i64 (IntKind.wrap IntKind.i64 (intAt cs (off + Int.toNat i * 5 + 2))), Value.int IntKind.i64 (IntKind.wrap IntKind.i64 (intAt cs (off + Int.toNat i * 5 + 3))), Value.int IntKind.i64 (IntKind.wrap IntKind.i64 (intAt cs (off + Int.toNat i * 5 + 4)))] ∧ True) ∧ (decide (i < (↑n : Int)) = false → kF = k ∧ (37 : TypeId) = (37 : TypeId) ∧ rF = rs ∧ True)) := by kernel_rfl
theorem of_step_p (off n : Nat) (cs : Array Value) (ty : TypeId) (kF : Nat) (rF : Array Value) (i : Int) (k : Nat) (rs : Array Value) (Q : Int → Nat → Array Value → Prop) : (ofS false off n cs ty i k rs).vc (ofA kF rF) (ofN false off n cs ty Q) =
    ((decide (i < (↑n : Int)) = true → (((0 : Int) ≤ i ∧ i < (↑n : Int)) ∧ True) ∧ (IsInt IntKind.u8 cs (off + Int.toNat i * 5) ∧ IsInt IntKind.u8 cs (off + Int.toNat i * 5 + 1) ∧ IsInt IntKind.u8 cs (off + Int.toNat i * 5 + 2) ∧ IsInt IntKind.u8 cs (off + Int.toNat i * 5 + 3) ∧ IsInt IntKind.u16 cs (off + Int.toNat i * 5 + 4) ∧ True) ∧ (((k + 1) * 40 ≤ (140737488355328 : Nat) ∧ k + 1 ≤ (140737488355328 : Nat)) ∧ k * 5 = Array.size rs ∧ True) ∧ Q (ari BinOp.add IntKind.i64 i (1 : Int)) (k + 1) (rs ++ #[Value.int IntKind.i64 (IntKind.wrap IntKind.i64 (intAt cs (off + Int.toNat i * 5))), Value.int IntKind.i64 (IntKind.wrap IntKind.i64 (intAt cs (off + Int.toNat i * 5 + 1))), Value.int IntKind.i64 (IntKind.wrap IntKind.i64 (intAt cs (off + Int.toNat i * 5 + 2))), Value.int IntKind.i64 (IntKind.wrap IntKind.i64 (intAt cs (off + Int.toNat i * 5 + 3))), Value.int IntKind.i64 (IntKind.wrap IntKind.i64 (intAt cs (off + Int.toNat i * 5 + 4)))]) ∧ CallKind.normal = CallKind.normal ∧ TodoOk (ren 1 [(1, 4)]) oH0 oH0 ∧ off = off ∧ n = n ∧ k + 1 = k + 1 ∧ Value.slice none (0 : Nat) (0 : Nat) = Value.slice none (0 : Nat) (0 : Nat) ∧ ari BinOp.add IntKind.i64 i (1 : Int) = ari BinOp.add IntKind.i64 i (1 : Int) ∧ ty = ty ∧ cs = cs ∧ (37 : TypeId) = (37 : Nat) ∧ rs ++ #[Value.int IntKind.i64 (IntKind.wrap IntKind.i64 (intAt cs (off + Int.toNat i * 5))), Value.int IntKind.i64 (IntKind.wrap IntKind.i64 (intAt cs (off + Int.toNat i * 5 + 1))), Value.int IntKind.i64 (IntKind.wrap IntKind.i64 (intAt cs (off + Int.toNat i * 5 + 2))), Value.int IntKind.i64 (IntKind.wrap IntKind.i64 (intAt cs (off + Int.toNat i * 5 + 3))), Value.int IntKind.i64 (IntKind.wrap IntKind.i64 (intAt cs (off + Int.toNat i * 5 + 4)))] = rs ++ #[Value.int IntKind.i64 (IntKind.wrap IntKind.i64 (intAt cs (off + Int.toNat i * 5))), Value.int IntKind.i64 (IntKind.wrap IntKind.i64 (intAt cs (off + Int.toNat i * 5 + 1))), Value.int IntKind.i64 (IntKind.wrap IntKind.i64 (intAt cs (off + Int.toNat i * 5 + 2))), Value.int IntKind.i64 (IntKind.wrap IntKind.i64 (intAt cs (off + Int.toNat i * 5 + 3))), Value.int IntKind.i64 (IntKind.wrap IntKind.i64 (intAt cs (off + Int.toNat i * 5 + 4)))] ∧ True) ∧ (decide (i < (↑n : Int)) = false → kF = k ∧ (37 : TypeId) = (37 : TypeId) ∧ rF = rs ∧ True)) := by kernel_rfl
theorem rm_start (off n : Nat) (cs : Array Value) (ty : TypeId) (r : Bool) (Q : Int → Prop) : (gR E9 1 (rmC off n) (prM false cs ty)).vc (boolR r) (rmN false off n cs ty Q) =
    ((decide ((↑n : Int) > (64 : Int)) = true → false = r) ∧ (decide ((↑n : Int) > (64 : Int)) = false → Q (0 : Int) ∧ CallKind.normal = CallKind.normal ∧ TodoOk (ren 1 []) rmT0 rmT0 ∧ off = off ∧ n = n ∧ (0 : Int) = (0 : Int) ∧ off = off ∧ n = n ∧ (↑n : Int) = (↑n : Int) ∧ ty = ty ∧ cs = cs ∧ True)) := by kernel_rfl
theorem rm_step (off n : Nat) (cs : Array Value) (ty : TypeId) (r : Bool) (i : Int) (Q : Int → Prop) : (gS E9 1 (rmC off n) (prM false cs ty) [(3, i64 (.o i))] []).vc (boolR r) (rmN true off n cs ty Q) =
    ((decide (i < (↑n : Int)) = true → (((0 : Int) ≤ i ∧ i < (↑n : Int)) ∧ True) ∧ (IsInt IntKind.i64 cs (off + Int.toNat i * 5) ∧ IsInt IntKind.i64 cs (off + Int.toNat i * 5 + 1) ∧ IsInt IntKind.i64 cs (off + Int.toNat i * 5 + 2) ∧ IsInt IntKind.i64 cs (off + Int.toNat i * 5 + 3) ∧ IsInt IntKind.i64 cs (off + Int.toNat i * 5 + 4) ∧ True) ∧ ((decide (intAt cs (off + Int.toNat i * 5) > (6 : Int)) == true) = true → ((decide (intAt cs (off + Int.toNat i * 5) < (17 : Int)) == false) = true → ((decide (intAt cs (off + Int.toNat i * 5) > (38 : Int)) == false) = true → ((decide (intAt cs (off + Int.toNat i * 5 + 1) > (7 : Int)) == false) = true → ((decide (intAt cs (off + Int.toNat i * 5 + 2) > (7 : Int)) == false) = true → ((decide (intAt cs (off + Int.toNat i * 5 + 3) > (7 : Int)) == false) = true → (((intAt cs (off + Int.toNat i * 5) == (5 : Int)) == false) = true → (((intAt cs (off + Int.toNat i * 5) == (6 : Int)) == true) = true → (decide (intAt cs (off + Int.toNat i * 5 + 4) ≥ (↑n : Int)) = true → false = r) ∧ (decide (intAt cs (off + Int.toNat i * 5 + 4) ≥ (↑n : Int)) = false → Q (ari BinOp.add IntKind.i64 i (1 : Int)) ∧ CallKind.normal = CallKind.normal ∧ TodoOk (ren 1 []) rmH0 rmH0 ∧ off = off ∧ n = n ∧ ari BinOp.add IntKind.i64 i (1 : Int) = ari BinOp.add IntKind.i64 i (1 : Int) ∧ off = off ∧ n = n ∧ (↑n : Int) = (↑n : Int) ∧ ty = ty ∧ cs = cs ∧ True)) ∧ (((intAt cs (off + Int.toNat i * 5) == (6 : Int)) == true) = false → Q (ari BinOp.add IntKind.i64 i (1 : Int)) ∧ CallKind.normal = CallKind.normal ∧ TodoOk (ren 1 []) rmH0 rmH0 ∧ off = off ∧ n = n ∧ ari BinOp.add IntKind.i64 i (1 : Int) = ari BinOp.add IntKind.i64 i (1 : Int) ∧ off = off ∧ n = n ∧ (↑n : Int) = (↑n : Int) ∧ ty = ty ∧ cs = cs ∧ True)) ∧ (((intAt cs (off + Int.toNat i * 5) == (5 : Int)) == false) = false → (decide (intAt cs (off + Int.toNat i * 5 + 4) ≥ (↑n : Int)) = true → false = r) ∧ (decide (intAt cs (off + Int.toNat i * 5 + 4) ≥ (↑n : Int)) = false → Q (ari BinOp.add IntKind.i64 i (1 : Int)) ∧ CallKind.normal = CallKind.normal ∧ TodoOk (ren 1 []) rmH0 rmH0 ∧ off = off ∧ n = n ∧ ari BinOp.add IntKind.i64 i (1 : Int) = ari BinOp.add IntKind.i64 i (1 : Int) ∧ off = off ∧ n = n ∧ (↑n : Int) = (↑n : Int) ∧ ty = ty ∧ cs = cs ∧ True))) ∧ ((decide (intAt cs (off + Int.toNat i * 5 + 3) > (7 : Int)) == false) = false → false = r)) ∧ ((decide (intAt cs (off + Int.toNat i * 5 + 2) > (7 : Int)) == false) = false → false = r)) ∧ ((decide (intAt cs (off + Int.toNat i * 5 + 1) > (7 : Int)) == false) = false → false = r)) ∧ ((decide (intAt cs (off + Int.toNat i * 5) > (38 : Int)) == false) = false → false = r)) ∧ ((decide (intAt cs (off + Int.toNat i * 5) < (17 : Int)) == false) = false → false = r)) ∧ ((decide (intAt cs (off + Int.toNat i * 5) > (6 : Int)) == true) = false → ((decide (intAt cs (off + Int.toNat i * 5) > (38 : Int)) == false) = true → ((decide (intAt cs (off + Int.toNat i * 5 + 1) > (7 : Int)) == false) = true → ((decide (intAt cs (off + Int.toNat i * 5 + 2) > (7 : Int)) == false) = true → ((decide (intAt cs (off + Int.toNat i * 5 + 3) > (7 : Int)) == false) = true → (((intAt cs (off + Int.toNat i * 5) == (5 : Int)) == false) = true → (((intAt cs (off + Int.toNat i * 5) == (6 : Int)) == true) = true → (decide (intAt cs (off + Int.toNat i * 5 + 4) ≥ (↑n : Int)) = true → false = r) ∧ (decide (intAt cs (off + Int.toNat i * 5 + 4) ≥ (↑n : Int)) = false → Q (ari BinOp.add IntKind.i64 i (1 : Int)) ∧ CallKind.normal = CallKind.normal ∧ TodoOk (ren 1 []) rmH0 rmH0 ∧ off = off ∧ n = n ∧ ari BinOp.add IntKind.i64 i (1 : Int) = ari BinOp.add IntKind.i64 i (1 : Int) ∧ off = off ∧ n = n ∧ (↑n : Int) = (↑n : Int) ∧ ty = ty ∧ cs = cs ∧ True)) ∧ (((intAt cs (off + Int.toNat i * 5) == (6 : Int)) == true) = false → Q (ari BinOp.add IntKind.i64 i (1 : Int)) ∧ CallKind.normal = CallKind.normal ∧ TodoOk (ren 1 []) rmH0 rmH0 ∧ off = off ∧ n = n ∧ ari BinOp.add IntKind.i64 i (1 : Int) = ari BinOp.add IntKind.i64 i (1 : Int) ∧ off = off ∧ n = n ∧ (↑n : Int) = (↑n : Int) ∧ ty = ty ∧ cs = cs ∧ True)) ∧ (((intAt cs (off + Int.toNat i * 5) == (5 : Int)) == false) = false → (decide (intAt cs (off + Int.toNat i * 5 + 4) ≥ (↑n : Int)) = true → false = r) ∧ (decide (intAt cs (off + Int.toNat i * 5 + 4) ≥ (↑n : Int)) = false → Q (ari BinOp.add IntKind.i64 i (1 : Int)) ∧ CallKind.normal = CallKind.normal ∧ TodoOk (ren 1 []) rmH0 rmH0 ∧ off = off ∧ n = n ∧ ari BinOp.add IntKind.i64 i (1 : Int) = ari BinOp.add IntKind.i64 i (1 : Int) ∧ off = off ∧ n = n ∧ (↑n : Int) = (↑n : Int) ∧ ty = ty ∧ cs = cs ∧ True))) ∧ ((decide (intAt cs (off + Int.toNat i * 5 + 3) > (7 : Int)) == false) = false → false = r)) ∧ ((decide (intAt cs (off + Int.toNat i * 5 + 2) > (7 : Int)) == false) = false → false = r)) ∧ ((decide (intAt cs (off + Int.toNat i * 5 + 1) > (7 : Int)) == false) = false → false = r)) ∧ ((decide (intAt cs (off + Int.toNat i * 5) > (38 : Int)) == false) = false → false = r))) ∧ (decide (i < (↑n : Int)) = false → true = r)) := by kernel_rfl
theorem by_start (off n : Nat) (cs : Array Value) (ty : TypeId) (b : ByteArray) (Q : Int → ByteArray → Prop) : (gR E9 1 (byC off n) (prM false cs ty)).vc (strA b) (byN false off n cs ty Q) =
    (Q (0 : Int) (ByteArray.mk #[]) ∧ CallKind.normal = CallKind.normal ∧ TodoOk (ren 1 []) byT0 byT0 ∧ off = off ∧ n = n ∧ Value.string (ByteArray.mk #[]) = Value.string (ByteArray.mk #[]) ∧ Value.string (ByteArray.mk #[]) = Value.string (ByteArray.mk #[]) ∧ (0 : Int) = (0 : Int) ∧ ty = ty ∧ cs = cs ∧ True) := by kernel_rfl
theorem by_step (off n : Nat) (cs : Array Value) (ty : TypeId) (b : ByteArray) (i : Int) (s : ByteArray) (Q : Int → ByteArray → Prop) : (gS E9 1 (byC off n) (prM false cs ty) [(4, i64 (.o i)), (3, strV s)] []).vc (strA b) (byN true off n cs ty Q) =
    ((decide (i < (↑n : Int)) = true → (((0 : Int) ≤ i ∧ i < (↑n : Int)) ∧ True) ∧ (IsInt IntKind.i64 cs (off + Int.toNat i * 5) ∧ IsInt IntKind.i64 cs (off + Int.toNat i * 5 + 1) ∧ IsInt IntKind.i64 cs (off + Int.toNat i * 5 + 2) ∧ IsInt IntKind.i64 cs (off + Int.toNat i * 5 + 3) ∧ IsInt IntKind.i64 cs (off + Int.toNat i * 5 + 4) ∧ True) ∧ ((↑(ByteArray.size s + ByteArray.size (strOf [Value.int IntKind.u8 (IntKind.wrap IntKind.u8 (intAt cs (off + Int.toNat i * 5))), Value.int IntKind.u8 (IntKind.wrap IntKind.u8 (intAt cs (off + Int.toNat i * 5 + 1))), Value.int IntKind.u8 (IntKind.wrap IntKind.u8 (intAt cs (off + Int.toNat i * 5 + 2))), Value.int IntKind.u8 (IntKind.wrap IntKind.u8 (intAt cs (off + Int.toNat i * 5 + 3))), Value.int IntKind.u8 (IntKind.wrap IntKind.u8 (ari BinOp.rem IntKind.i64 (intAt cs (off + Int.toNat i * 5 + 4)) (256 : Int))), Value.int IntKind.u8 (IntKind.wrap IntKind.u8 (ari BinOp.quo IntKind.i64 (intAt cs (off + Int.toNat i * 5 + 4)) (256 : Int)))])) : Int) ≤ (9223372036854775807 : Int) ∧ True) ∧ Q (ari BinOp.add IntKind.i64 i (1 : Int)) (s ++ strOf [Value.int IntKind.u8 (IntKind.wrap IntKind.u8 (intAt cs (off + Int.toNat i * 5))), Value.int IntKind.u8 (IntKind.wrap IntKind.u8 (intAt cs (off + Int.toNat i * 5 + 1))), Value.int IntKind.u8 (IntKind.wrap IntKind.u8 (intAt cs (off + Int.toNat i * 5 + 2))), Value.int IntKind.u8 (IntKind.wrap IntKind.u8 (intAt cs (off + Int.toNat i * 5 + 3))), Value.int IntKind.u8 (IntKind.wrap IntKind.u8 (ari BinOp.rem IntKind.i64 (intAt cs (off + Int.toNat i * 5 + 4)) (256 : Int))), Value.int IntKind.u8 (IntKind.wrap IntKind.u8 (ari BinOp.quo IntKind.i64 (intAt cs (off + Int.toNat i * 5 + 4)) (256 : Int)))]) ∧ CallKind.normal = CallKind.normal ∧ TodoOk (ren 1 []) byH0 byH0 ∧ off = off ∧ n = n ∧ Value.string (s ++ strOf [Value.int IntKind.u8 (IntKind.wrap IntKind.u8 (intAt cs (off + Int.toNat i * 5))), Value.int IntKind.u8 (IntKind.wrap IntKind.u8 (intAt cs (off + Int.toNat i * 5 + 1))), Value.int IntKind.u8 (IntKind.wrap IntKind.u8 (intAt cs (off + Int.toNat i * 5 + 2))), Value.int IntKind.u8 (IntKind.wrap IntKind.u8 (intAt cs (off + Int.toNat i * 5 + 3))), Value.int IntKind.u8 (IntKind.wrap IntKind.u8 (ari BinOp.rem IntKind.i64 (intAt cs (off + Int.toNat i * 5 + 4)) (256 : Int))), Value.int IntKind.u8 (IntKind.wrap IntKind.u8 (ari BinOp.quo IntKind.i64 (intAt cs (off + Int.toNat i * 5 + 4)) (256 : Int)))]) = Value.string (s ++ strOf [Value.int IntKind.u8 (IntKind.wrap IntKind.u8 (intAt cs (off + Int.toNat i * 5))), Value.int IntKind.u8 (IntKind.wrap IntKind.u8 (intAt cs (off + Int.toNat i * 5 + 1))), Value.int IntKind.u8 (IntKind.wrap IntKind.u8 (intAt cs (off + Int.toNat i * 5 + 2))), Value.int IntKind.u8 (IntKind.wrap IntKind.u8 (intAt cs (off + Int.toNat i * 5 + 3))), Value.int IntKind.u8 (IntKind.wrap IntKind.u8 (ari BinOp.rem IntKind.i64 (intAt cs (off + Int.toNat i * 5 + 4)) (256 : Int))), Value.int IntKind.u8 (IntKind.wrap IntKind.u8 (ari BinOp.quo IntKind.i64 (intAt cs (off + Int.toNat i * 5 + 4)) (256 : Int)))]) ∧ Value.string (ByteArray.mk #[]) = Value.string (ByteArray.mk #[]) ∧ ari BinOp.add IntKind.i64 i (1 : Int) = ari BinOp.add IntKind.i64 i (1 : Int) ∧ ty = ty ∧ cs = cs ∧ True) ∧ (decide (i < (↑n : Int)) = false → s = b)) := by kernel_rfl
theorem rd_start (s : ByteArray) (ok : Bool) (kF : Nat) (rF : Array Value) (Q : ByteArray → Prop) : (gR E7 0 (rdC s) M0).vc (rdAn ok kF rF) (rdN0 s Q) =
    (Q s ∧ CallKind.normal = CallKind.normal ∧ TodoOk (ren 0 []) rdT0 rdT0 ∧ Value.string s = Value.string s ∧ Value.slice none (0 : Nat) (0 : Nat) = Value.slice none (0 : Nat) (0 : Nat) ∧ Value.slice none (0 : Nat) (0 : Nat) = Value.slice none (0 : Nat) (0 : Nat) ∧ True) := by kernel_rfl
theorem rd_nil (s t : ByteArray) (ok : Bool) (kF : Nat) (rF : Array Value) (Q : ByteArray → Nat → Array Value → Prop) : (stepT E7.go (run E7 1000) 0 (rdH0 s t) M0).vc (rdAn ok kF rF) (rdN1 s Q) =
    ((decide (((↑(ByteArray.size t) : Int)) ≥ (6 : Int)) = true → (((0 : Int) ≤ (0 : Int) ∧ (0 : Int) < (↑(ByteArray.size t) : Int)) ∧ True) ∧ (((0 : Int) ≤ (1 : Int) ∧ (1 : Int) < (↑(ByteArray.size t) : Int)) ∧ True) ∧ (((0 : Int) ≤ (2 : Int) ∧ (2 : Int) < (↑(ByteArray.size t) : Int)) ∧ True) ∧ (((0 : Int) ≤ (3 : Int) ∧ (3 : Int) < (↑(ByteArray.size t) : Int)) ∧ True) ∧ (((0 : Int) ≤ (4 : Int) ∧ (4 : Int) < (↑(ByteArray.size t) : Int)) ∧ True) ∧ (((0 : Int) ≤ (5 : Int) ∧ (5 : Int) < (↑(ByteArray.size t) : Int)) ∧ True) ∧ (((6 : Nat) ≤ ByteArray.size t) ∧ True) ∧ Q (ByteArray.extract t (6 : Nat) (ByteArray.size t)) (1 : Nat) #[Value.int IntKind.i64 (IntKind.wrap IntKind.i64 (byteAt t (0 : Nat))), Value.int IntKind.i64 (IntKind.wrap IntKind.i64 (byteAt t (1 : Nat))), Value.int IntKind.i64 (IntKind.wrap IntKind.i64 (byteAt t (2 : Nat))), Value.int IntKind.i64 (IntKind.wrap IntKind.i64 (byteAt t (3 : Nat))), Value.int IntKind.i64 (ari BinOp.add IntKind.i64 (IntKind.wrap IntKind.i64 (byteAt t (4 : Nat))) (ari BinOp.mul IntKind.i64 (256 : Int) (IntKind.wrap IntKind.i64 (byteAt t (5 : Nat)))))] ∧ CallKind.normal = CallKind.normal ∧ TodoOk (ren 0 [(0, 1)]) rdH00 rdH00 ∧ Value.string (ByteArray.extract t (6 : Nat) (ByteArray.size t)) = Value.string (ByteArray.extract t (6 : Nat) (ByteArray.size t)) ∧ Value.slice none (0 : Nat) (0 : Nat) = Value.slice none (0 : Nat) (0 : Nat) ∧ (1 : Nat) = (1 : Nat) ∧ (37 : TypeId) = (37 : Nat) ∧ #[Value.int IntKind.i64 (IntKind.wrap IntKind.i64 (byteAt t (0 : Nat))), Value.int IntKind.i64 (IntKind.wrap IntKind.i64 (byteAt t (1 : Nat))), Value.int IntKind.i64 (IntKind.wrap IntKind.i64 (byteAt t (2 : Nat))), Value.int IntKind.i64 (IntKind.wrap IntKind.i64 (byteAt t (3 : Nat))), Value.int IntKind.i64 (ari BinOp.add IntKind.i64 (IntKind.wrap IntKind.i64 (byteAt t (4 : Nat))) (ari BinOp.mul IntKind.i64 (256 : Int) (IntKind.wrap IntKind.i64 (byteAt t (5 : Nat)))))] = #[Value.int IntKind.i64 (IntKind.wrap IntKind.i64 (byteAt t (0 : Nat))), Value.int IntKind.i64 (IntKind.wrap IntKind.i64 (byteAt t (1 : Nat))), Value.int IntKind.i64 (IntKind.wrap IntKind.i64 (byteAt t (2 : Nat))), Value.int IntKind.i64 (IntKind.wrap IntKind.i64 (byteAt t (3 : Nat))), Value.int IntKind.i64 (ari BinOp.add IntKind.i64 (IntKind.wrap IntKind.i64 (byteAt t (4 : Nat))) (ari BinOp.mul IntKind.i64 (256 : Int) (IntKind.wrap IntKind.i64 (byteAt t (5 : Nat)))))] ∧ True) ∧ (decide (((↑(ByteArray.size t) : Int)) ≥ (6 : Int)) = false → ((decide (((↑(ByteArray.size t) : Int)) > (0 : Int)) == false) = true → true = false ∧ ok = false) ∧ ((decide (((↑(ByteArray.size t) : Int)) > (0 : Int)) == false) = false → false = false ∧ ok = false))) := by kernel_rfl
theorem rd_step (s t : ByteArray) (ok : Bool) (kF : Nat) (rF : Array Value) (k : Nat) (rs : Array Value) (Q : ByteArray → Nat → Array Value → Prop) : (stepT E7.go (run E7 1000) 0 (rdH1 s t k) (rdM1 rs)).vc (rdAn ok kF rF) (rdN1 s Q) =
    ((decide (((↑(ByteArray.size t) : Int)) ≥ (6 : Int)) = true → (((0 : Int) ≤ (0 : Int) ∧ (0 : Int) < (↑(ByteArray.size t) : Int)) ∧ True) ∧ (((0 : Int) ≤ (1 : Int) ∧ (1 : Int) < (↑(ByteArray.size t) : Int)) ∧ True) ∧ (((0 : Int) ≤ (2 : Int) ∧ (2 : Int) < (↑(ByteArray.size t) : Int)) ∧ True) ∧ (((0 : Int) ≤ (3 : Int) ∧ (3 : Int) < (↑(ByteArray.size t) : Int)) ∧ True) ∧ (((0 : Int) ≤ (4 : Int) ∧ (4 : Int) < (↑(ByteArray.size t) : Int)) ∧ True) ∧ (((0 : Int) ≤ (5 : Int) ∧ (5 : Int) < (↑(ByteArray.size t) : Int)) ∧ True) ∧ (((k + 1) * 40 ≤ (140737488355328 : Nat) ∧ k + 1 ≤ (140737488355328 : Nat)) ∧ k * 5 = Array.size rs ∧ True) ∧ (((6 : Nat) ≤ ByteArray.size t) ∧ True) ∧ Q (ByteArray.extract t (6 : Nat) (ByteArray.size t)) (k + 1) (rs ++ #[Value.int IntKind.i64 (IntKind.wrap IntKind.i64 (byteAt t (0 : Nat))), Value.int IntKind.i64 (IntKind.wrap IntKind.i64 (byteAt t (1 : Nat))), Value.int IntKind.i64 (IntKind.wrap IntKind.i64 (byteAt t (2 : Nat))), Value.int IntKind.i64 (IntKind.wrap IntKind.i64 (byteAt t (3 : Nat))), Value.int IntKind.i64 (ari BinOp.add IntKind.i64 (IntKind.wrap IntKind.i64 (byteAt t (4 : Nat))) (ari BinOp.mul IntKind.i64 (256 : Int) (IntKind.wrap IntKind.i64 (byteAt t (5 : Nat)))))]) ∧ CallKind.normal = CallKind.normal ∧ TodoOk (ren 0 [(0, 2)]) rdH00 rdH00 ∧ Value.string (ByteArray.extract t (6 : Nat) (ByteArray.size t)) = Value.string (ByteArray.extract t (6 : Nat) (ByteArray.size t)) ∧ Value.slice none (0 : Nat) (0 : Nat) = Value.slice none (0 : Nat) (0 : Nat) ∧ k + 1 = k + 1 ∧ (37 : TypeId) = (37 : Nat) ∧ rs ++ #[Value.int IntKind.i64 (IntKind.wrap IntKind.i64 (byteAt t (0 : Nat))), Value.int IntKind.i64 (IntKind.wrap IntKind.i64 (byteAt t (1 : Nat))), Value.int IntKind.i64 (IntKind.wrap IntKind.i64 (byteAt t (2 : Nat))), Value.int IntKind.i64 (IntKind.wrap IntKind.i64 (byteAt t (3 : Nat))), Value.int IntKind.i64 (ari BinOp.add IntKind.i64 (IntKind.wrap IntKind.i64 (byteAt t (4 : Nat))) (ari BinOp.mul IntKind.i64 (256 : Int) (IntKind.wrap IntKind.i64 (byteAt t (5 : Nat)))))] = rs ++ #[Value.int IntKind.i64 (IntKind.wrap IntKind.i64 (byteAt t (0 : Nat))), Value.int IntKind.i64 (IntKind.wrap IntKind.i64 (byteAt t (1 : Nat))), Value.int IntKind.i64 (IntKind.wrap IntKind.i64 (byteAt t (2 : Nat))), Value.int IntKind.i64 (IntKind.wrap IntKind.i64 (byteAt t (3 : Nat))), Value.int IntKind.i64 (ari BinOp.add IntKind.i64 (IntKind.wrap IntKind.i64 (byteAt t (4 : Nat))) (ari BinOp.mul IntKind.i64 (256 : Int) (IntKind.wrap IntKind.i64 (byteAt t (5 : Nat)))))] ∧ True) ∧ (decide (((↑(ByteArray.size t) : Int)) ≥ (6 : Int)) = false → ((decide (((↑(ByteArray.size t) : Int)) > (0 : Int)) == false) = true → (RowOk rs (0 : Nat) k ∧ True) ∧ ((!mayV rs (0 : Nat) k) = true → false = false ∧ ok = false) ∧ ((!mayV rs (0 : Nat) k) = false → ok = true ∧ kF = k ∧ (37 : TypeId) = (37 : TypeId) ∧ rF = rs ∧ True)) ∧ ((decide (((↑(ByteArray.size t) : Int)) > (0 : Int)) == false) = false → false = false ∧ ok = false))) := by kernel_rfl
theorem of_lit0 (e : Int) : (run E0 1000 0 [callFr 8 Try.f8.ntmps [nilV] (Try.f8.body.getD .skip)] ⟨0, .nil, []⟩).vc (nilA e) (fun _ _ => False) =
    (e = (0 : Int)) := by kernel_rfl
theorem of_lit1 (e : Int) : (run E0 1000 0 [callFr 8 Try.f8.ntmps [.s (.c (.f .e0))] (Try.f8.body.getD .skip)] ⟨0, .nil, []⟩).vc (nilA e) (fun _ _ => False) =
    (e = (0 : Int)) := by kernel_rfl
theorem by_lit (b : ByteArray) : (run E0 1000 0 [callFr 10 Try.f10.ntmps [nilV] (Try.f10.body.getD .skip)] ⟨0, .nil, []⟩).vc (strA b) (fun _ _ => False) =
    (ByteArray.mk #[] = b) := by kernel_rfl
theorem rd_lit (y : Bool) : (run E0 1000 0 [callFr 12 Try.f12.ntmps [.s (.c (.f (.lit (.string ⟨⟨[]⟩⟩))))] (Try.f12.body.getD .skip)] ⟨0, .nil, []⟩).vc (rd0A y) (fun _ _ => False) =
    (true = y) := by kernel_rfl
end Go.Proofs.Ytaagmmljhgabfaa
/- Of code: the rounds of Decode, as propositions. No condition. -/
namespace Go.Proofs.Ytaagmmljhgabfaa
set_option maxRecDepth 100000
theorem dec_start (s : ByteArray) (e : Int) (k : Nat) (cs : Array Value) (Q : Int → Prop) : (gR E9 0 (decC s) M0).vc (decA e k cs) (decN0 s Q) =
    ((((ari BinOp.rem IntKind.i64 ((↑(ByteArray.size s) : Int)) (6 : Int) != (0 : Int)) == false) = true → (decide (((↑(ByteArray.size s) : Int)) > (384 : Int)) = true → (3 : Int) = (3 : Int) ∧ e = (3 : Int)) ∧ (decide (((↑(ByteArray.size s) : Int)) > (384 : Int)) = false → Q (0 : Int) ∧ CallKind.normal = CallKind.normal ∧ TodoOk (ren 0 [(0, 0)]) dT0 dT0 ∧ Value.string s = Value.string s ∧ Value.string s = Value.string s ∧ ari BinOp.rem IntKind.i64 ((↑(ByteArray.size s) : Int)) (6 : Int) = ari BinOp.rem IntKind.i64 ((↑(ByteArray.size s) : Int)) (6 : Int) ∧ (((↑(ByteArray.size s) : Int)) = (↑(ByteArray.size s) : Int)) ∧ Value.slice none (0 : Nat) (0 : Nat) = Value.slice none (0 : Nat) (0 : Nat) ∧ Value.slice none (0 : Nat) (0 : Nat) = Value.slice none (0 : Nat) (0 : Nat) ∧ (((↑(ByteArray.size s) : Int)) = (↑(ByteArray.size s) : Int)) ∧ Value.string s = Value.string s ∧ (0 : Int) = (0 : Int) ∧ (ari BinOp.rem IntKind.i64 ((↑(ByteArray.size s) : Int)) (6 : Int) != (0 : Int)) = (ari BinOp.rem IntKind.i64 ((↑(ByteArray.size s) : Int)) (6 : Int) != (0 : Int)) ∧ decide (((↑(ByteArray.size s) : Int)) > (384 : Int)) = decide (((↑(ByteArray.size s) : Int)) > (384 : Int)) ∧ (47 : Nat) = (47 : Nat) ∧ (0 : Int) = (0 : Int) ∧ (0 : Int) = (0 : Int) ∧ (0 : Int) = (0 : Int) ∧ (0 : Int) = (0 : Int) ∧ (0 : Int) = (0 : Int) ∧ (0 : Int) = (0 : Int) ∧ True)) ∧ (((ari BinOp.rem IntKind.i64 ((↑(ByteArray.size s) : Int)) (6 : Int) != (0 : Int)) == false) = false → (3 : Int) = (3 : Int) ∧ e = (3 : Int))) := by kernel_rfl
theorem dec_nil (s : ByteArray) (e : Int) (kF : Nat) (csF : Array Value) (i x0 x1 x2 x3 x4 x5 : Int) (Q : Int → Nat → Array Value → Prop) : (decS0 s i x0 x1 x2 x3 x4 x5).vc (decA e kF csF) (decN1 s Q) =
    ((decide (i < (↑(ByteArray.size s) : Int)) = true → ((0 : Int) ≤ i ∧ (Int.toNat i ≤ ByteArray.size s) ∧ True) ∧ ((6 : Nat) ≤ ByteArray.size (ByteArray.extract s (Int.toNat i) (ByteArray.size s)) ∧ True) ∧ Q (ari BinOp.add IntKind.i64 i (6 : Int)) (1 : Nat) #[Value.int IntKind.u8 (byteAt (ByteArray.extract s (Int.toNat i) (ByteArray.size s)) (0 : Nat)), Value.int IntKind.u8 (byteAt (ByteArray.extract s (Int.toNat i) (ByteArray.size s)) (1 : Nat)), Value.int IntKind.u8 (byteAt (ByteArray.extract s (Int.toNat i) (ByteArray.size s)) (2 : Nat)), Value.int IntKind.u8 (byteAt (ByteArray.extract s (Int.toNat i) (ByteArray.size s)) (3 : Nat)), Value.int IntKind.u16 (ari BinOp.or IntKind.u16 (IntKind.wrap IntKind.u16 (byteAt (ByteArray.extract s (Int.toNat i) (ByteArray.size s)) (4 : Nat))) (ari BinOp.shl IntKind.u16 (IntKind.wrap IntKind.u16 (byteAt (ByteArray.extract s (Int.toNat i) (ByteArray.size s)) (5 : Nat))) (8 : Int)))] ∧ CallKind.normal = CallKind.normal ∧ TodoOk (ren 0 [(0, 0), (1, 2)]) dH0 dH0 ∧ Value.string s = Value.string s ∧ Value.string s = Value.string s ∧ ari BinOp.rem IntKind.i64 ((↑(ByteArray.size s) : Int)) (6 : Int) = ari BinOp.rem IntKind.i64 ((↑(ByteArray.size s) : Int)) (6 : Int) ∧ (((↑(ByteArray.size s) : Int)) = (↑(ByteArray.size s) : Int)) ∧ Value.slice none (0 : Nat) (0 : Nat) = Value.slice none (0 : Nat) (0 : Nat) ∧ (1 : Nat) = (1 : Nat) ∧ (((↑(ByteArray.size s) : Int)) = (↑(ByteArray.size s) : Int)) ∧ Value.string s = Value.string s ∧ ari BinOp.add IntKind.i64 i (6 : Int) = ari BinOp.add IntKind.i64 i (6 : Int) ∧ (ari BinOp.rem IntKind.i64 ((↑(ByteArray.size s) : Int)) (6 : Int) != (0 : Int)) = (ari BinOp.rem IntKind.i64 ((↑(ByteArray.size s) : Int)) (6 : Int) != (0 : Int)) ∧ decide (((↑(ByteArray.size s) : Int)) > (384 : Int)) = decide (((↑(ByteArray.size s) : Int)) > (384 : Int)) ∧ (47 : Nat) = (47 : Nat) ∧ byteAt (ByteArray.extract s (Int.toNat i) (ByteArray.size s)) (0 : Nat) = byteAt (ByteArray.extract s (Int.toNat i) (ByteArray.size s)) (0 : Nat) ∧ byteAt (ByteArray.extract s (Int.toNat i) (ByteArray.size s)) (1 : Nat) = byteAt (ByteArray.extract s (Int.toNat i) (ByteArray.size s)) (1 : Nat) ∧ byteAt (ByteArray.extract s (Int.toNat i) (ByteArray.size s)) (2 : Nat) = byteAt (ByteArray.extract s (Int.toNat i) (ByteArray.size s)) (2 : Nat) ∧ byteAt (ByteArray.extract s (Int.toNat i) (ByteArray.size s)) (3 : Nat) = byteAt (ByteArray.extract s (Int.toNat i) (ByteArray.size s)) (3 : Nat) ∧ byteAt (ByteArray.extract s (Int.toNat i) (ByteArray.size s)) (4 : Nat) = byteAt (ByteArray.extract s (Int.toNat i) (ByteArray.size s)) (4 : Nat) ∧ byteAt (ByteArray.extract s (Int.toNat i) (ByteArray.size s)) (5 : Nat) = byteAt (ByteArray.extract s (Int.toNat i) (ByteArray.size s)) (5 : Nat) ∧ (41 : TypeId) = (41 : Nat) ∧ #[Value.int IntKind.u8 (byteAt (ByteArray.extract s (Int.toNat i) (ByteArray.size s)) (0 : Nat)), Value.int IntKind.u8 (byteAt (ByteArray.extract s (Int.toNat i) (ByteArray.size s)) (1 : Nat)), Value.int IntKind.u8 (byteAt (ByteArray.extract s (Int.toNat i) (ByteArray.size s)) (2 : Nat)), Value.int IntKind.u8 (byteAt (ByteArray.extract s (Int.toNat i) (ByteArray.size s)) (3 : Nat)), Value.int IntKind.u16 (ari BinOp.or IntKind.u16 (IntKind.wrap IntKind.u16 (byteAt (ByteArray.extract s (Int.toNat i) (ByteArray.size s)) (4 : Nat))) (ari BinOp.shl IntKind.u16 (IntKind.wrap IntKind.u16 (byteAt (ByteArray.extract s (Int.toNat i) (ByteArray.size s)) (5 : Nat))) (8 : Int)))] = #[Value.int IntKind.u8 (byteAt (ByteArray.extract s (Int.toNat i) (ByteArray.size s)) (0 : Nat)), Value.int IntKind.u8 (byteAt (ByteArray.extract s (Int.toNat i) (ByteArray.size s)) (1 : Nat)), Value.int IntKind.u8 (byteAt (ByteArray.extract s (Int.toNat i) (ByteArray.size s)) (2 : Nat)), Value.int IntKind.u8 (byteAt (ByteArray.extract s (Int.toNat i) (ByteArray.size s)) (3 : Nat)), Value.int IntKind.u16 (ari BinOp.or IntKind.u16 (IntKind.wrap IntKind.u16 (byteAt (ByteArray.extract s (Int.toNat i) (ByteArray.size s)) (4 : Nat))) (ari BinOp.shl IntKind.u16 (IntKind.wrap IntKind.u16 (byteAt (ByteArray.extract s (Int.toNat i) (ByteArray.size s)) (5 : Nat))) (8 : Int)))] ∧ True) ∧ (decide (i < (↑(ByteArray.size s) : Int)) = false → (0 : Int) = (3 : Int) ∧ e = (3 : Int))) := by kernel_rfl
theorem dec_step (s : ByteArray) (e : Int) (kF : Nat) (csF : Array Value) (i x0 x1 x2 x3 x4 x5 : Int) (k : Nat) (cs : Array Value) (Q : Int → Nat → Array Value → Prop) : (decS1 s i x0 x1 x2 x3 x4 x5 k cs).vc (decA e kF csF) (decN1 s Q) =
    ((decide (i < (↑(ByteArray.size s) : Int)) = true → ((0 : Int) ≤ i ∧ (Int.toNat i ≤ ByteArray.size s) ∧ True) ∧ ((6 : Nat) ≤ ByteArray.size (ByteArray.extract s (Int.toNat i) (ByteArray.size s)) ∧ True) ∧ (((k + 1) * 6 ≤ (140737488355328 : Nat) ∧ k + 1 ≤ (140737488355328 : Nat)) ∧ k * 5 = Array.size cs ∧ True) ∧ Q (ari BinOp.add IntKind.i64 i (6 : Int)) (k + 1) (cs ++ #[Value.int IntKind.u8 (byteAt (ByteArray.extract s (Int.toNat i) (ByteArray.size s)) (0 : Nat)), Value.int IntKind.u8 (byteAt (ByteArray.extract s (Int.toNat i) (ByteArray.size s)) (1 : Nat)), Value.int IntKind.u8 (byteAt (ByteArray.extract s (Int.toNat i) (ByteArray.size s)) (2 : Nat)), Value.int IntKind.u8 (byteAt (ByteArray.extract s (Int.toNat i) (ByteArray.size s)) (3 : Nat)), Value.int IntKind.u16 (ari BinOp.or IntKind.u16 (IntKind.wrap IntKind.u16 (byteAt (ByteArray.extract s (Int.toNat i) (ByteArray.size s)) (4 : Nat))) (ari BinOp.shl IntKind.u16 (IntKind.wrap IntKind.u16 (byteAt (ByteArray.extract s (Int.toNat i) (ByteArray.size s)) (5 : Nat))) (8 : Int)))]) ∧ CallKind.normal = CallKind.normal ∧ TodoOk (ren 0 [(0, 0), (1, 3)]) dH0 dH0 ∧ Value.string s = Value.string s ∧ Value.string s = Value.string s ∧ ari BinOp.rem IntKind.i64 ((↑(ByteArray.size s) : Int)) (6 : Int) = ari BinOp.rem IntKind.i64 ((↑(ByteArray.size s) : Int)) (6 : Int) ∧ (((↑(ByteArray.size s) : Int)) = (↑(ByteArray.size s) : Int)) ∧ Value.slice none (0 : Nat) (0 : Nat) = Value.slice none (0 : Nat) (0 : Nat) ∧ k + 1 = k + 1 ∧ (((↑(ByteArray.size s) : Int)) = (↑(ByteArray.size s) : Int)) ∧ Value.string s = Value.string s ∧ ari BinOp.add IntKind.i64 i (6 : Int) = ari BinOp.add IntKind.i64 i (6 : Int) ∧ (ari BinOp.rem IntKind.i64 ((↑(ByteArray.size s) : Int)) (6 : Int) != (0 : Int)) = (ari BinOp.rem IntKind.i64 ((↑(ByteArray.size s) : Int)) (6 : Int) != (0 : Int)) ∧ decide (((↑(ByteArray.size s) : Int)) > (384 : Int)) = decide (((↑(ByteArray.size s) : Int)) > (384 : Int)) ∧ (47 : Nat) = (47 : Nat) ∧ byteAt (ByteArray.extract s (Int.toNat i) (ByteArray.size s)) (0 : Nat) = byteAt (ByteArray.extract s (Int.toNat i) (ByteArray.size s)) (0 : Nat) ∧ byteAt (ByteArray.extract s (Int.toNat i) (ByteArray.size s)) (1 : Nat) = byteAt (ByteArray.extract s (Int.toNat i) (ByteArray.size s)) (1 : Nat) ∧ byteAt (ByteArray.extract s (Int.toNat i) (ByteArray.size s)) (2 : Nat) = byteAt (ByteArray.extract s (Int.toNat i) (ByteArray.size s)) (2 : Nat) ∧ byteAt (ByteArray.extract s (Int.toNat i) (ByteArray.size s)) (3 : Nat) = byteAt (ByteArray.extract s (Int.toNat i) (ByteArray.size s)) (3 : Nat) ∧ byteAt (ByteArray.extract s (Int.toNat i) (ByteArray.size s)) (4 : Nat) = byteAt (ByteArray.extract s (Int.toNat i) (ByteArray.size s)) (4 : Nat) ∧ byteAt (ByteArray.extract s (Int.toNat i) (ByteArray.size s)) (5 : Nat) = byteAt (ByteArray.extract s (Int.toNat i) (ByteArray.size s)) (5 : Nat) ∧ (41 : TypeId) = (41 : Nat) ∧ cs ++ #[Value.int IntKind.u8 (byteAt (ByteArray.extract s (Int.toNat i) (ByteArray.size s)) (0 : Nat)), Value.int IntKind.u8 (byteAt (ByteArray.extract s (Int.toNat i) (ByteArray.size s)) (1 : Nat)), Value.int IntKind.u8 (byteAt (ByteArray.extract s (Int.toNat i) (ByteArray.size s)) (2 : Nat)), Value.int IntKind.u8 (byteAt (ByteArray.extract s (Int.toNat i) (ByteArray.size s)) (3 : Nat)), Value.int IntKind.u16 (ari BinOp.or IntKind.u16 (IntKind.wrap IntKind.u16 (byteAt (ByteArray.extract s (Int.toNat i) (ByteArray.size s)) (4 : Nat))) (ari BinOp.shl IntKind.u16 (IntKind.wrap IntKind.u16 (byteAt (ByteArray.extract s (Int.toNat i) (ByteArray.size s)) (5 : Nat))) (8 : Int)))] = cs ++ #[Value.int IntKind.u8 (byteAt (ByteArray.extract s (Int.toNat i) (ByteArray.size s)) (0 : Nat)), Value.int IntKind.u8 (byteAt (ByteArray.extract s (Int.toNat i) (ByteArray.size s)) (1 : Nat)), Value.int IntKind.u8 (byteAt (ByteArray.extract s (Int.toNat i) (ByteArray.size s)) (2 : Nat)), Value.int IntKind.u8 (byteAt (ByteArray.extract s (Int.toNat i) (ByteArray.size s)) (3 : Nat)), Value.int IntKind.u16 (ari BinOp.or IntKind.u16 (IntKind.wrap IntKind.u16 (byteAt (ByteArray.extract s (Int.toNat i) (ByteArray.size s)) (4 : Nat))) (ari BinOp.shl IntKind.u16 (IntKind.wrap IntKind.u16 (byteAt (ByteArray.extract s (Int.toNat i) (ByteArray.size s)) (5 : Nat))) (8 : Int)))] ∧ True) ∧ (decide (i < (↑(ByteArray.size s) : Int)) = false → ((k < (9223372036854775807 : Nat) ∧ ∀ (i : Nat), i < k → (IsInt IntKind.u8 cs ((0 : Nat) + i * 5) ∧ IsInt IntKind.u8 cs ((0 : Nat) + i * 5 + 1) ∧ IsInt IntKind.u8 cs ((0 : Nat) + i * 5 + 2) ∧ IsInt IntKind.u8 cs ((0 : Nat) + i * 5 + 3) ∧ IsInt IntKind.u16 cs ((0 : Nat) + i * 5 + 4)) ∧ ((0 : Int) ≤ Ins.o (ins cs (0 : Nat) i) ∧ Ins.o (ins cs (0 : Nat) i) ≤ (255 : Int)) ∧ ((0 : Int) ≤ Ins.a (ins cs (0 : Nat) i) ∧ Ins.a (ins cs (0 : Nat) i) ≤ (255 : Int)) ∧ ((0 : Int) ≤ Ins.b (ins cs (0 : Nat) i) ∧ Ins.b (ins cs (0 : Nat) i) ≤ (255 : Int)) ∧ ((0 : Int) ≤ Ins.c (ins cs (0 : Nat) i) ∧ Ins.c (ins cs (0 : Nat) i) ≤ (255 : Int)) ∧ (0 : Int) ≤ Ins.n (ins cs (0 : Nat) i) ∧ Ins.n (ins cs (0 : Nat) i) ≤ (65535 : Int)) ∧ True) ∧ ((!mayV cs (0 : Nat) k) = true → (3 : Int) = (3 : Int) ∧ e = (3 : Int)) ∧ ((!mayV cs (0 : Nat) k) = false → e = (0 : Int) ∧ kF = k ∧ (41 : TypeId) = (41 : TypeId) ∧ csF = cs ∧ True))) := by kernel_rfl
end Go.Proofs.Ytaagmmljhgabfaa
/- Of code: bytes of numbers. No condition. -/
namespace Go.Proofs.Ytaagmmljhgabfaa
/-! The numbers. -/
def lo (n : Int) : Int := IntKind.u8.wrap n
def hiB (n : Int) : Int := IntKind.u8.wrap (ari .shr .u16 n 8)
def word (a b : Int) : Int := ari .or .u16 (IntKind.u16.wrap a) (ari .shl .u16 (IntKind.u16.wrap b) 8)
def upto (p : Nat → Bool) : Nat → Bool := fun n => Nat.rec true (fun k r => match p k with | true => r | false => false) n
theorem upto_ok {p : Nat → Bool} : ∀ {n : Nat}, upto p n = true → ∀ i, i < n → p i = true
  | 0, _, i, hi => by omega
  | n + 1, h, i, hi => by
    have h : (match p n with | true => upto p n | false => false) = true := h
    split at h
    · rename_i e
      by_cases c : i = n
      · rw [c]; exact e
      · exact upto_ok h i (by omega)
    · cases h
theorem lohi_all : upto (fun a => upto (fun b => decide (word a b = a + 256 * b)) 256) 256 = true := by kernel_rfl
theorem word_eq {a b : Int} (ha : 0 ≤ a ∧ a ≤ 255) (hb : 0 ≤ b ∧ b ≤ 255) : word a b = a + 256 * b := by
  have h := upto_ok (upto_ok lohi_all a.toNat (by omega)) b.toNat (by omega)
  simp only [decide_eq_true_eq] at h
  rw [show ((a.toNat : Nat) : Int) = a by omega, show ((b.toNat : Nat) : Int) = b by omega] at h
  exact h
theorem bytes_all : upto (fun a => upto (fun b => decide (lo (a + 256 * b : Nat) = a) && decide (hiB (a + 256 * b : Nat) = b)) 256) 256 = true := by kernel_rfl
theorem lohi_eq {n : Int} (h : 0 ≤ n ∧ n ≤ 65535) : lo n = n % 256 ∧ hiB n = n / 256 := by
  have h := upto_ok (upto_ok bytes_all (n.toNat % 256) (by omega)) (n.toNat / 256) (by omega)
  simp only [Bool.and_eq_true, decide_eq_true_eq] at h
  rw [show ((n.toNat % 256 + 256 * (n.toNat / 256) : Nat) : Int) = n by omega] at h
  exact ⟨by rw [h.1]; omega, by rw [h.2]; omega⟩
end Go.Proofs.Ytaagmmljhgabfaa
/- Of code: the rounds of Encode, as propositions. No condition. -/
namespace Go.Proofs.Ytaagmmljhgabfaa
set_option maxRecDepth 100000
theorem enc_start_r (off n : Nat) (cs : Array Value) (ty : TypeId) (b : ByteArray) (e : Int) (Q : Int → Prop) : (gR E9 1 (encC off n) (prM true cs ty)).vc (encA b e) (encN0 true off n cs ty Q) =
    (((n < (9223372036854775807 : Nat) ∧ ∀ (i : Nat), i < n → (IsInt IntKind.u8 cs (off + i * 5) ∧ IsInt IntKind.u8 cs (off + i * 5 + 1) ∧ IsInt IntKind.u8 cs (off + i * 5 + 2) ∧ IsInt IntKind.u8 cs (off + i * 5 + 3) ∧ IsInt IntKind.u16 cs (off + i * 5 + 4)) ∧ ((0 : Int) ≤ Ins.o (ins cs off i) ∧ Ins.o (ins cs off i) ≤ (255 : Int)) ∧ ((0 : Int) ≤ Ins.a (ins cs off i) ∧ Ins.a (ins cs off i) ≤ (255 : Int)) ∧ ((0 : Int) ≤ Ins.b (ins cs off i) ∧ Ins.b (ins cs off i) ≤ (255 : Int)) ∧ ((0 : Int) ≤ Ins.c (ins cs off i) ∧ Ins.c (ins cs off i) ≤ (255 : Int)) ∧ (0 : Int) ≤ Ins.n (ins cs off i) ∧ Ins.n (ins cs off i) ≤ (65535 : Int)) ∧ True) ∧ ((!mayV cs off n) = true → ByteArray.mk #[] = b ∧ (3 : Int) = e) ∧ ((!mayV cs off n) = false → Q (0 : Int) ∧ CallKind.normal = CallKind.normal ∧ TodoOk (ren 1 []) eT0 eT0 ∧ off = off ∧ n = n ∧ off = off ∧ n = n ∧ (↑n : Int) = (↑n : Int) ∧ Value.string (ByteArray.mk (Array.mk [])) = Value.string (ByteArray.mk (Array.mk [])) ∧ Value.slice none (0 : Nat) (0 : Nat) = Value.slice none (0 : Nat) (0 : Nat) ∧ mayV cs off n = mayV cs off n ∧ (0 : Int) = (0 : Int) ∧ off = off ∧ n = n ∧ ty = ty ∧ cs = cs ∧ True)) := by kernel_rfl
theorem enc_start_p (off n : Nat) (cs : Array Value) (ty : TypeId) (b : ByteArray) (e : Int) (Q : Int → Prop) : (gR E9 1 (encC off n) (prM false cs ty)).vc (encA b e) (encN0 false off n cs ty Q) =
    (((n < (9223372036854775807 : Nat) ∧ ∀ (i : Nat), i < n → (IsInt IntKind.u8 cs (off + i * 5) ∧ IsInt IntKind.u8 cs (off + i * 5 + 1) ∧ IsInt IntKind.u8 cs (off + i * 5 + 2) ∧ IsInt IntKind.u8 cs (off + i * 5 + 3) ∧ IsInt IntKind.u16 cs (off + i * 5 + 4)) ∧ ((0 : Int) ≤ Ins.o (ins cs off i) ∧ Ins.o (ins cs off i) ≤ (255 : Int)) ∧ ((0 : Int) ≤ Ins.a (ins cs off i) ∧ Ins.a (ins cs off i) ≤ (255 : Int)) ∧ ((0 : Int) ≤ Ins.b (ins cs off i) ∧ Ins.b (ins cs off i) ≤ (255 : Int)) ∧ ((0 : Int) ≤ Ins.c (ins cs off i) ∧ Ins.c (ins cs off i) ≤ (255 : Int)) ∧ (0 : Int) ≤ Ins.n (ins cs off i) ∧ Ins.n (ins cs off i) ≤ (65535 : Int)) ∧ True) ∧ ((!mayV cs off n) = true → ByteArray.mk #[] = b ∧ (3 : Int) = e) ∧ ((!mayV cs off n) = false → Q (0 : Int) ∧ CallKind.normal = CallKind.normal ∧ TodoOk (ren 1 []) eT0 eT0 ∧ off = off ∧ n = n ∧ off = off ∧ n = n ∧ (↑n : Int) = (↑n : Int) ∧ Value.string (ByteArray.mk (Array.mk [])) = Value.string (ByteArray.mk (Array.mk [])) ∧ Value.slice none (0 : Nat) (0 : Nat) = Value.slice none (0 : Nat) (0 : Nat) ∧ mayV cs off n = mayV cs off n ∧ (0 : Int) = (0 : Int) ∧ off = off ∧ n = n ∧ ty = ty ∧ cs = cs ∧ True)) := by kernel_rfl
theorem enc_nil_r (off n : Nat) (cs : Array Value) (ty : TypeId) (b : ByteArray) (e : Int) (i : Int) (Q : Int → Nat → Array Value → Prop) : (gS E9 1 (encC off n) (prM true cs ty) [(12, i64 (.o i))] []).vc (encA b e) (encN true off n cs ty Q) =
    ((decide (i < (↑n : Int)) = true → (((0 : Int) ≤ i ∧ i < (↑n : Int)) ∧ True) ∧ (IsInt IntKind.u8 cs (off + Int.toNat i * 5) ∧ IsInt IntKind.u8 cs (off + Int.toNat i * 5 + 1) ∧ IsInt IntKind.u8 cs (off + Int.toNat i * 5 + 2) ∧ IsInt IntKind.u8 cs (off + Int.toNat i * 5 + 3) ∧ IsInt IntKind.u16 cs (off + Int.toNat i * 5 + 4) ∧ True) ∧ Q (ari BinOp.add IntKind.i64 i (1 : Int)) (6 : Nat) #[Value.int IntKind.u8 (intAt cs (off + Int.toNat i * 5)), Value.int IntKind.u8 (intAt cs (off + Int.toNat i * 5 + 1)), Value.int IntKind.u8 (intAt cs (off + Int.toNat i * 5 + 2)), Value.int IntKind.u8 (intAt cs (off + Int.toNat i * 5 + 3)), Value.int IntKind.u8 (IntKind.wrap IntKind.u8 (intAt cs (off + Int.toNat i * 5 + 4))), Value.int IntKind.u8 (IntKind.wrap IntKind.u8 (ari BinOp.shr IntKind.u16 (intAt cs (off + Int.toNat i * 5 + 4)) (8 : Int)))] ∧ CallKind.normal = CallKind.normal ∧ TodoOk (ren 1 [(1, 3)]) eH0 eH0 ∧ off = off ∧ n = n ∧ off = off ∧ n = n ∧ (↑n : Int) = (↑n : Int) ∧ Value.string (ByteArray.mk (Array.mk [])) = Value.string (ByteArray.mk (Array.mk [])) ∧ (6 : Nat) = (6 : Nat) ∧ mayV cs off n = mayV cs off n ∧ ari BinOp.add IntKind.i64 i (1 : Int) = ari BinOp.add IntKind.i64 i (1 : Int) ∧ off = off ∧ n = n ∧ ty = ty ∧ cs = cs ∧ (5 : TypeId) = (5 : Nat) ∧ #[Value.int IntKind.u8 (intAt cs (off + Int.toNat i * 5)), Value.int IntKind.u8 (intAt cs (off + Int.toNat i * 5 + 1)), Value.int IntKind.u8 (intAt cs (off + Int.toNat i * 5 + 2)), Value.int IntKind.u8 (intAt cs (off + Int.toNat i * 5 + 3)), Value.int IntKind.u8 (IntKind.wrap IntKind.u8 (intAt cs (off + Int.toNat i * 5 + 4))), Value.int IntKind.u8 (IntKind.wrap IntKind.u8 (ari BinOp.shr IntKind.u16 (intAt cs (off + Int.toNat i * 5 + 4)) (8 : Int)))] = #[Value.int IntKind.u8 (intAt cs (off + Int.toNat i * 5)), Value.int IntKind.u8 (intAt cs (off + Int.toNat i * 5 + 1)), Value.int IntKind.u8 (intAt cs (off + Int.toNat i * 5 + 2)), Value.int IntKind.u8 (intAt cs (off + Int.toNat i * 5 + 3)), Value.int IntKind.u8 (IntKind.wrap IntKind.u8 (intAt cs (off + Int.toNat i * 5 + 4))), Value.int IntKind.u8 (IntKind.wrap IntKind.u8 (ari BinOp.shr IntKind.u16 (intAt cs (off + Int.toNat i * 5 + 4)) (8 : Int)))] ∧ True) ∧ (decide (i < (↑n : Int)) = false → ByteArray.empty = b ∧ (0 : Int) = e)) := by kernel_rfl
theorem enc_nil_p (off n : Nat) (cs : Array Value) (ty : TypeId) (b : ByteArray) (e : Int) (i : Int) (Q : Int → Nat → Array Value → Prop) : (gS E9 1 (encC off n) (prM false cs ty) [(12, i64 (.o i))] []).vc (encA b e) (encN false off n cs ty Q) =
    ((decide (i < (↑n : Int)) = true → (((0 : Int) ≤ i ∧ i < (↑n : Int)) ∧ True) ∧ (IsInt IntKind.u8 cs (off + Int.toNat i * 5) ∧ IsInt IntKind.u8 cs (off + Int.toNat i * 5 + 1) ∧ IsInt IntKind.u8 cs (off + Int.toNat i * 5 + 2) ∧ IsInt IntKind.u8 cs (off + Int.toNat i * 5 + 3) ∧ IsInt IntKind.u16 cs (off + Int.toNat i * 5 + 4) ∧ True) ∧ Q (ari BinOp.add IntKind.i64 i (1 : Int)) (6 : Nat) #[Value.int IntKind.u8 (intAt cs (off + Int.toNat i * 5)), Value.int IntKind.u8 (intAt cs (off + Int.toNat i * 5 + 1)), Value.int IntKind.u8 (intAt cs (off + Int.toNat i * 5 + 2)), Value.int IntKind.u8 (intAt cs (off + Int.toNat i * 5 + 3)), Value.int IntKind.u8 (IntKind.wrap IntKind.u8 (intAt cs (off + Int.toNat i * 5 + 4))), Value.int IntKind.u8 (IntKind.wrap IntKind.u8 (ari BinOp.shr IntKind.u16 (intAt cs (off + Int.toNat i * 5 + 4)) (8 : Int)))] ∧ CallKind.normal = CallKind.normal ∧ TodoOk (ren 1 [(1, 3)]) eH0 eH0 ∧ off = off ∧ n = n ∧ off = off ∧ n = n ∧ (↑n : Int) = (↑n : Int) ∧ Value.string (ByteArray.mk (Array.mk [])) = Value.string (ByteArray.mk (Array.mk [])) ∧ (6 : Nat) = (6 : Nat) ∧ mayV cs off n = mayV cs off n ∧ ari BinOp.add IntKind.i64 i (1 : Int) = ari BinOp.add IntKind.i64 i (1 : Int) ∧ off = off ∧ n = n ∧ ty = ty ∧ cs = cs ∧ (5 : TypeId) = (5 : Nat) ∧ #[Value.int IntKind.u8 (intAt cs (off + Int.toNat i * 5)), Value.int IntKind.u8 (intAt cs (off + Int.toNat i * 5 + 1)), Value.int IntKind.u8 (intAt cs (off + Int.toNat i * 5 + 2)), Value.int IntKind.u8 (intAt cs (off + Int.toNat i * 5 + 3)), Value.int IntKind.u8 (IntKind.wrap IntKind.u8 (intAt cs (off + Int.toNat i * 5 + 4))), Value.int IntKind.u8 (IntKind.wrap IntKind.u8 (ari BinOp.shr IntKind.u16 (intAt cs (off + Int.toNat i * 5 + 4)) (8 : Int)))] = #[Value.int IntKind.u8 (intAt cs (off + Int.toNat i * 5)), Value.int IntKind.u8 (intAt cs (off + Int.toNat i * 5 + 1)), Value.int IntKind.u8 (intAt cs (off + Int.toNat i * 5 + 2)), Value.int IntKind.u8 (intAt cs (off + Int.toNat i * 5 + 3)), Value.int IntKind.u8 (IntKind.wrap IntKind.u8 (intAt cs (off + Int.toNat i * 5 + 4))), Value.int IntKind.u8 (IntKind.wrap IntKind.u8 (ari BinOp.shr IntKind.u16 (intAt cs (off + Int.toNat i * 5 + 4)) (8 : Int)))] ∧ True) ∧ (decide (i < (↑n : Int)) = false → ByteArray.empty = b ∧ (0 : Int) = e)) := by kernel_rfl
theorem enc_step_r (off n : Nat) (cs : Array Value) (ty : TypeId) (b : ByteArray) (e : Int) (i : Int) (k : Nat) (bs : Array Value) (Q : Int → Nat → Array Value → Prop) : (encS true off n cs ty i k bs).vc (encA b e) (encN true off n cs ty Q) =
    ((decide (i < (↑n : Int)) = true → (((0 : Int) ≤ i ∧ i < (↑n : Int)) ∧ True) ∧ (IsInt IntKind.u8 cs (off + Int.toNat i * 5) ∧ IsInt IntKind.u8 cs (off + Int.toNat i * 5 + 1) ∧ IsInt IntKind.u8 cs (off + Int.toNat i * 5 + 2) ∧ IsInt IntKind.u8 cs (off + Int.toNat i * 5 + 3) ∧ IsInt IntKind.u16 cs (off + Int.toNat i * 5 + 4) ∧ True) ∧ (((k + 6) * 1 ≤ (140737488355328 : Nat) ∧ k + 6 ≤ (140737488355328 : Nat)) ∧ k * 1 = Array.size bs ∧ True) ∧ Q (ari BinOp.add IntKind.i64 i (1 : Int)) (k + 6) (bs ++ #[Value.int IntKind.u8 (intAt cs (off + Int.toNat i * 5)), Value.int IntKind.u8 (intAt cs (off + Int.toNat i * 5 + 1)), Value.int IntKind.u8 (intAt cs (off + Int.toNat i * 5 + 2)), Value.int IntKind.u8 (intAt cs (off + Int.toNat i * 5 + 3)), Value.int IntKind.u8 (IntKind.wrap IntKind.u8 (intAt cs (off + Int.toNat i * 5 + 4))), Value.int IntKind.u8 (IntKind.wrap IntKind.u8 (ari BinOp.shr IntKind.u16 (intAt cs (off + Int.toNat i * 5 + 4)) (8 : Int)))]) ∧ CallKind.normal = CallKind.normal ∧ TodoOk (ren 1 [(1, 4)]) eH0 eH0 ∧ off = off ∧ n = n ∧ off = off ∧ n = n ∧ (↑n : Int) = (↑n : Int) ∧ Value.string (ByteArray.mk (Array.mk [])) = Value.string (ByteArray.mk (Array.mk [])) ∧ k + 6 = k + 6 ∧ mayV cs off n = mayV cs off n ∧ ari BinOp.add IntKind.i64 i (1 : Int) = ari BinOp.add IntKind.i64 i (1 : Int) ∧ off = off ∧ n = n ∧ ty = ty ∧ cs = cs ∧ (5 : TypeId) = (5 : Nat) ∧ bs ++ #[Value.int IntKind.u8 (intAt cs (off + Int.toNat i * 5)), Value.int IntKind.u8 (intAt cs (off + Int.toNat i * 5 + 1)), Value.int IntKind.u8 (intAt cs (off + Int.toNat i * 5 + 2)), Value.int IntKind.u8 (intAt cs (off + Int.toNat i * 5 + 3)), Value.int IntKind.u8 (IntKind.wrap IntKind.u8 (intAt cs (off + Int.toNat i * 5 + 4))), Value.int IntKind.u8 (IntKind.wrap IntKind.u8 (ari BinOp.shr IntKind.u16 (intAt cs (off + Int.toNat i * 5 + 4)) (8 : Int)))] = bs ++ #[Value.int IntKind.u8 (intAt cs (off + Int.toNat i * 5)), Value.int IntKind.u8 (intAt cs (off + Int.toNat i * 5 + 1)), Value.int IntKind.u8 (intAt cs (off + Int.toNat i * 5 + 2)), Value.int IntKind.u8 (intAt cs (off + Int.toNat i * 5 + 3)), Value.int IntKind.u8 (IntKind.wrap IntKind.u8 (intAt cs (off + Int.toNat i * 5 + 4))), Value.int IntKind.u8 (IntKind.wrap IntKind.u8 (ari BinOp.shr IntKind.u16 (intAt cs (off + Int.toNat i * 5 + 4)) (8 : Int)))] ∧ True) ∧ (decide (i < (↑n : Int)) = false → ((0 : Nat) + k ≤ Array.size bs ∧ (∀ (v : Value), List.Mem v (Array.toList (Array.extract bs (0 : Nat) ((0 : Nat) + k))) → ∃ n, v = Value.int IntKind.u8 n) ∧ True) ∧ strOf (Array.toList (Array.extract bs (0 : Nat) ((0 : Nat) + k))) = b ∧ (0 : Int) = e)) := by kernel_rfl
theorem enc_step_p (off n : Nat) (cs : Array Value) (ty : TypeId) (b : ByteArray) (e : Int) (i : Int) (k : Nat) (bs : Array Value) (Q : Int → Nat → Array Value → Prop) : (encS false off n cs ty i k bs).vc (encA b e) (encN false off n cs ty Q) =
    ((decide (i < (↑n : Int)) = true → (((0 : Int) ≤ i ∧ i < (↑n : Int)) ∧ True) ∧ (IsInt IntKind.u8 cs (off + Int.toNat i * 5) ∧ IsInt IntKind.u8 cs (off + Int.toNat i * 5 + 1) ∧ IsInt IntKind.u8 cs (off + Int.toNat i * 5 + 2) ∧ IsInt IntKind.u8 cs (off + Int.toNat i * 5 + 3) ∧ IsInt IntKind.u16 cs (off + Int.toNat i * 5 + 4) ∧ True) ∧ (((k + 6) * 1 ≤ (140737488355328 : Nat) ∧ k + 6 ≤ (140737488355328 : Nat)) ∧ k * 1 = Array.size bs ∧ True) ∧ Q (ari BinOp.add IntKind.i64 i (1 : Int)) (k + 6) (bs ++ #[Value.int IntKind.u8 (intAt cs (off + Int.toNat i * 5)), Value.int IntKind.u8 (intAt cs (off + Int.toNat i * 5 + 1)), Value.int IntKind.u8 (intAt cs (off + Int.toNat i * 5 + 2)), Value.int IntKind.u8 (intAt cs (off + Int.toNat i * 5 + 3)), Value.int IntKind.u8 (IntKind.wrap IntKind.u8 (intAt cs (off + Int.toNat i * 5 + 4))), Value.int IntKind.u8 (IntKind.wrap IntKind.u8 (ari BinOp.shr IntKind.u16 (intAt cs (off + Int.toNat i * 5 + 4)) (8 : Int)))]) ∧ CallKind.normal = CallKind.normal ∧ TodoOk (ren 1 [(1, 4)]) eH0 eH0 ∧ off = off ∧ n = n ∧ off = off ∧ n = n ∧ (↑n : Int) = (↑n : Int) ∧ Value.string (ByteArray.mk (Array.mk [])) = Value.string (ByteArray.mk (Array.mk [])) ∧ k + 6 = k + 6 ∧ mayV cs off n = mayV cs off n ∧ ari BinOp.add IntKind.i64 i (1 : Int) = ari BinOp.add IntKind.i64 i (1 : Int) ∧ off = off ∧ n = n ∧ ty = ty ∧ cs = cs ∧ (5 : TypeId) = (5 : Nat) ∧ bs ++ #[Value.int IntKind.u8 (intAt cs (off + Int.toNat i * 5)), Value.int IntKind.u8 (intAt cs (off + Int.toNat i * 5 + 1)), Value.int IntKind.u8 (intAt cs (off + Int.toNat i * 5 + 2)), Value.int IntKind.u8 (intAt cs (off + Int.toNat i * 5 + 3)), Value.int IntKind.u8 (IntKind.wrap IntKind.u8 (intAt cs (off + Int.toNat i * 5 + 4))), Value.int IntKind.u8 (IntKind.wrap IntKind.u8 (ari BinOp.shr IntKind.u16 (intAt cs (off + Int.toNat i * 5 + 4)) (8 : Int)))] = bs ++ #[Value.int IntKind.u8 (intAt cs (off + Int.toNat i * 5)), Value.int IntKind.u8 (intAt cs (off + Int.toNat i * 5 + 1)), Value.int IntKind.u8 (intAt cs (off + Int.toNat i * 5 + 2)), Value.int IntKind.u8 (intAt cs (off + Int.toNat i * 5 + 3)), Value.int IntKind.u8 (IntKind.wrap IntKind.u8 (intAt cs (off + Int.toNat i * 5 + 4))), Value.int IntKind.u8 (IntKind.wrap IntKind.u8 (ari BinOp.shr IntKind.u16 (intAt cs (off + Int.toNat i * 5 + 4)) (8 : Int)))] ∧ True) ∧ (decide (i < (↑n : Int)) = false → ((0 : Nat) + k ≤ Array.size bs ∧ (∀ (v : Value), List.Mem v (Array.toList (Array.extract bs (0 : Nat) ((0 : Nat) + k))) → ∃ n, v = Value.int IntKind.u8 n) ∧ True) ∧ strOf (Array.toList (Array.extract bs (0 : Nat) ((0 : Nat) + k))) = b ∧ (0 : Int) = e)) := by kernel_rfl
end Go.Proofs.Ytaagmmljhgabfaa
/- Of code: rows of instructions, and their bytes. No condition. -/
namespace Go.Proofs.Ytaagmmljhgabfaa
def byteOf (v : Value) : UInt8 := UInt8.ofNat (match v with | .int _ n => n.toNat | _ => 0)
theorem strOf_go (vs : List Value) : ∀ r : ByteArray, (vs.foldl (fun r v => r.push (UInt8.ofNat (match v with | .int _ n => n.toNat | _ => 0))) r).data.toList = r.data.toList ++ vs.map byteOf := by
  induction vs with
  | nil => intro r; simp
  | cons v vs ih =>
    intro r
    rw [List.foldl_cons, ih]
    have : ∀ b, (r.push b).data.toList = r.data.toList ++ [b] := fun b => Array.toList_push
    rw [this]
    simp [byteOf]
theorem strOf_list (vs : List Value) : (strOf vs).data.toList = vs.map byteOf := by
  exact (strOf_go vs ByteArray.empty).trans (List.nil_append _)
theorem size_list (s : ByteArray) : s.size = s.data.toList.length := by rw [Array.length_toList]; rfl
theorem strOf_size (vs : List Value) : (strOf vs).size = vs.length := by rw [size_list, strOf_list, List.length_map]
theorem byteAt_list (s : ByteArray) (i : Nat) : byteAt s i = (s.data.toList[i]?.map fun b => (b.toNat : Int)).getD 0 := by
  unfold byteAt
  by_cases h : i < s.size
  · have h2 : i < s.data.toList.length := by rw [← size_list]; exact h
    rw [getElem?_pos s i h, List.getElem?_eq_getElem h2]
    rfl
  · have h2 : ¬ i < s.data.toList.length := by rw [← size_list]; exact h
    rw [getElem?_neg s i h, List.getElem?_eq_none (by omega)]
    rfl
theorem byteAt_range (s : ByteArray) (i : Nat) : 0 ≤ byteAt s i ∧ byteAt s i ≤ 255 := by
  rw [byteAt_list]
  cases s.data.toList[i]? with
  | none => exact ⟨by decide, by decide⟩
  | some b => have := b.toNat_lt; exact ⟨by simp, by simp; omega⟩
theorem byteAt_cut (s : ByteArray) (j i : Nat) : byteAt (s.extract j s.size) i = byteAt s (j + i) := by
  rw [byteAt_list, byteAt_list, ByteArray.data_extract, Array.toList_extract, List.extract_eq_take_drop, List.getElem?_take]
  split
  · rw [List.getElem?_drop]
  · rename_i h
    rw [List.getElem?_eq_none]
    rw [← size_list]; omega
theorem bytes_ext {s t : ByteArray} (hs : s.size = t.size) (h : ∀ i, i < s.size → byteAt s i = byteAt t i) : s = t := by
  apply ByteArray.ext
  rw [← Array.toList_inj]
  apply List.ext_getElem?
  intro i
  by_cases hi : i < s.size
  · have h1 : i < s.data.toList.length := by rw [← size_list]; exact hi
    have h2 : i < t.data.toList.length := by rw [← size_list, ← hs]; exact hi
    have := h i hi
    rw [byteAt_list, byteAt_list, List.getElem?_eq_getElem h1, List.getElem?_eq_getElem h2] at this
    rw [List.getElem?_eq_getElem h1, List.getElem?_eq_getElem h2]
    simp only [Option.map_some, Option.getD_some, Int.natCast_inj] at this
    rw [UInt8.toNat_inj.1 this]
  · rw [List.getElem?_eq_none, List.getElem?_eq_none]
    · rw [← size_list]; omega
    · rw [← size_list]; omega
theorem byteAt_strOf (vs : List Value) (i : Nat) : byteAt (strOf vs) i = (vs[i]?.map fun v => ((byteOf v).toNat : Int)).getD 0 := by
  rw [byteAt_list, strOf_list, List.getElem?_map]
  cases vs[i]? <;> rfl
/-! Rows in equal parts. -/
def parts (f : Nat → List Value) : Nat → List Value
  | 0 => []
  | i + 1 => parts f i ++ f i
theorem parts_len {f : Nat → List Value} {c : Nat} (hf : ∀ i, (f i).length = c) : ∀ n, (parts f n).length = n * c
  | 0 => by simp [parts]
  | n + 1 => by rw [parts, List.length_append, parts_len hf n, hf, Nat.succ_mul]
theorem parts_at {f : Nat → List Value} {c : Nat} (hf : ∀ i, (f i).length = c) : ∀ {n i t : Nat}, i < n → t < c → (parts f n)[i * c + t]? = (f i)[t]?
  | 0, _, _, h, _ => by omega
  | n + 1, i, t, h, ht => by
    unfold parts
    by_cases e : i = n
    · subst e
      rw [List.getElem?_append_right (by rw [parts_len hf]; omega), parts_len hf, Nat.add_sub_cancel_left]
    · have hlt : i * c + t < n * c := by
        have : (i + 1) * c ≤ n * c := Nat.mul_le_mul_right c (by omega)
        rw [Nat.succ_mul] at this
        omega
      rw [List.getElem?_append_left (by rw [parts_len hf]; exact hlt)]
      exact parts_at hf (by omega) ht
theorem place_of {c p n : Nat} (hc : 0 < c) (h : p < n * c) : ∃ i t, i < n ∧ t < c ∧ p = i * c + t :=
  ⟨p / c, p % c, Nat.div_lt_of_lt_mul (by rw [Nat.mul_comm]; exact h), Nat.mod_lt _ hc, by rw [Nat.mul_comm]; exact (Nat.div_add_mod p c).symm⟩
end Go.Proofs.Ytaagmmljhgabfaa
/- Of code: what May and Encode answer, as contracts. No condition. -/
namespace Go.Proofs.Ytaagmmljhgabfaa
set_option maxRecDepth 100000
/-! What only reads a block. -/
theorem Con.ro {E : Env} (hE : EnvOk E) {g : FuncId} {fn : Func} {c : Code} {l l' : List SV} {m ms : SMem} {q : List Prop} {s0 : SV} {A : SV → SMem → Prop} (h1 : E.fn g = some fn) (h2 : fn.body = some c) (hxs : ms.xs = []) (ι : Nat → Nat)
    (hm : ∀ i b, getB ms.bl i = some b → i < ms.next ∧ b.wr = false ∧ ∃ d, getB m.bl (ι i) = some d ∧ b.ty = d.ty ∧ ∀ R cs, d.arr.okM R cs → b.arr.okM (pull ι ms.next R) cs)
    (hl : ∀ R vs, All2 (SV.ok R) l vs → All2 (SV.ok (pull ι ms.next R)) l' vs) (good : (∀ p ∈ q, p) → Good E.P A ms.next [callFr g fn.ntmps l' c] ms)
    (hs : ∀ s m' R R' v, A s m' → s.ok R' v → s0.ok R v) : Con E g l m (needs q (.ret s0 m)) := by
  intro B hB
  obtain ⟨hq, hA⟩ := Tree.sat_needs hB
  refine ⟨fn, h1, by rw [h2]; rfl, fun n0 F w0 w R args ha hR => ?_⟩
  refine (frame_ro (hE.fns _ _ h1).1 h2 (good hq) hxs hm (hl R _ ha) hR).mono ?_
  rintro v w' ⟨k1, k2, s, m', R', k3, k4⟩
  exact ⟨s0, m, R, hA, ⟨fun _ _ h => h, fun _ _ h => .inl h, k2, Nat.le_refl _⟩, k1, hs _ _ _ _ _ k3 k4⟩
theorem needs_br {q : List Prop} {b : Bool} {t e : Tree} {A : SV → SMem → Prop} (h : (needs q (.br b t e)).sat A (fun _ _ => False)) : (b = true → (needs q t).sat A (fun _ _ => False)) ∧ (b = false → (needs q e).sat A (fun _ _ => False)) := by
  cases q with
  | nil => exact ⟨fun x => h.1 x, fun x => h.2 x⟩
  | cons p l => exact ⟨fun x => ⟨h.1, h.2.1 x⟩, fun x => ⟨h.1, h.2.2 x⟩⟩
theorem Con.br {E : Env} {g : FuncId} {l : List SV} {m : SMem} {q : List Prop} {b : Bool} {t e : Tree} (h1 : b = true → Con E g l m (needs q t)) (h2 : b = false → Con E g l m (needs q e)) : Con E g l m (needs q (.br b t e)) := by
  intro A hs
  cases b with
  | true => exact h1 rfl A ((needs_br hs).1 rfl)
  | false => exact h2 rfl A ((needs_br hs).2 rfl)
theorem row_of {m : SMem} {i : Nat} {cs : Array Value} (h : rowI m i = some cs) : ∃ v ty wr, getB m.bl i = some ⟨prA v cs, ty, wr⟩ := by
  unfold rowI at h
  split at h
  · rename_i e; cases h; exact ⟨true, _, _, e⟩
  · rename_i e; cases h; exact ⟨false, _, _, e⟩
  · cases h
theorem prM_get {v : Bool} {cs : Array Value} {ty : TypeId} {i : Nat} {b : SBlk} (h : getB (prM v cs ty).bl i = some b) : i = 0 ∧ b = ⟨prA v cs, ty, false⟩ := by
  unfold getB prM at h
  cases i with
  | zero => cases h; exact ⟨rfl, rfl⟩
  | succ i =>
    have h : ((Tr.node .nil (some ⟨prA v cs, ty, false⟩) .nil : Tr SBlk)).get (i + 1) = some b := h
    rw [Tr.get_succ, Tr.get_nil, ite_self] at h
    cases h
/-- A function of a row of instructions that only reads. -/
theorem Con.row {g : FuncId} {fn : Func} {c : Code} {m : SMem} {i : Nat} {o n : SN} {cap : SK} {cs : Array Value} {q : List Prop} {s0 : SV} {A : SV → SMem → Prop} (h1 : E0.fn g = some fn) (h2 : fn.body = some c) (hr : rowI m i = some cs)
    (good : ∀ v ty, (∀ p ∈ q, p) → Good Try.prog A 1 [callFr g fn.ntmps [prS o.den n.den] c] (prM v cs ty)) (hs : ∀ s m' R R' v, A s m' → s.ok R' v → s0.ok R v) :
    Con E0 g [.s (.c (.f (.slice i o n cap)))] m (needs q (.ret s0 m)) := by
  obtain ⟨v, ty, wr, hb⟩ := row_of hr
  refine Con.ro E0_ok (l' := [prS o.den n.den]) (ms := prM v cs ty) (A := A) h1 h2 rfl (fun _ => i) ?_ ?_ (good v ty) hs
  · intro j b hj
    obtain ⟨rfl, rfl⟩ := prM_get hj
    refine ⟨Nat.zero_lt_one, rfl, _, hb, rfl, fun R cs' h => ?_⟩
    cases v <;> exact h
  · intro R vs ha
    match vs, ha with
    | [x], ha =>
      obtain ⟨⟨gl, cp, e1, e2, e3, e4⟩, _⟩ := ha
      exact ⟨⟨gl, cp, by unfold pull; exact e1, e2, trivial, e4⟩, trivial⟩
/-! May. -/
theorem may_good (v : Bool) (off n : Nat) (cs : Array Value) (ty : TypeId) (hI : InsOk cs off n) : Good Try.prog (boolR (mayV cs off n)) 1 (mayC off n) (prM v cs ty) := by
  have step : ∀ (r : Bool) (i : Int) (Q : Int → Prop), (gS EM 1 (mayC off n) (prM v cs ty) [(8, i64 (.o i))] []).vc (boolR r) (mayN true v off n cs ty Q) = (gS EM 1 (mayC off n) (prM true cs ty) [(8, i64 (.o i))] []).vc (boolR r) (mayN true true off n cs ty Q) := by
    intro r i Q
    cases v with
    | true => rfl
    | false => exact (may_step_p off n cs ty r i Q).trans (may_step_r off n cs ty r i Q).symm
  have start : ∀ (r : Bool) (Q : Int → Prop), (gR EM 1 (mayC off n) (prM v cs ty)).vc (boolR r) (mayN false v off n cs ty Q) = (gR EM 1 (mayC off n) (prM true cs ty)).vc (boolR r) (mayN false true off n cs ty Q) := by
    intro r Q
    cases v with
    | true => rfl
    | false => exact (may_start_p off n cs ty r Q).trans (may_start_r off n cs ty r Q).symm
  refine run_vc EM_ok 1000 ((start (mayV cs off n) (fun i => i = 0 ∧ n ≤ 64)).trans (may_start_r off n cs ty _ _)) ?_ (fun _ _ h => h)
    (fun fs m hb => mayN_good (fun i ⟨e, hn⟩ => by rw [e]; exact may_round off n cs ty hI hn step (n + 1) 0 (by omega) (by omega) (fun j hj => by omega)) hb)
  refine ⟨fun h => ?_, fun h => ?_⟩
  · have : n ≤ 64 := by simp at h; omega
    repeat' first | exact this | exact trivial | exact mT0_ok | exact mT1_ok | exact mT2_ok | apply And.intro | exact rfl
  · have : ¬ n ≤ 64 := by simp at h; omega
    unfold mayV
    rw [decide_eq_false this]; rfl
theorem fn9 : E0.fn 9 = some Try.f9 := by kernel_rfl
theorem body9 : Try.f9.body = some (Try.f9.body.getD .skip) := by kernel_rfl
theorem may_con {m : SMem} {i : Nat} {o n : SN} {cap : SK} {cs : Array Value} (hr : rowI m i = some cs) : Con E0 9 [.s (.c (.f (.slice i o n cap)))] m (needs [InsOk cs o.den n.den] (.ret (sB (.o (mayV cs o.den n.den))) m)) := by
  refine Con.row fn9 body9 hr (A := boolR (mayV cs o.den n.den)) (fun v ty hq => may_good v o.den n.den cs ty (hq _ (List.mem_cons_self ..))) ?_
  intro s m' R R' v h hv
  unfold boolR at h
  split at h
  · have hv : v = .bool _ := hv
    rw [hv, h]; rfl
  · exact h.elim
theorem may_nil : (run E0 1000 0 [callFr 9 Try.f9.ntmps [nilV] (Try.f9.body.getD .skip)] ⟨0, .nil, []⟩).allTrue = true := by kernel_rfl
theorem may_e0 : (run E0 1000 0 [callFr 9 Try.f9.ntmps [.s (.c (.f .e0))] (Try.f9.body.getD .skip)] ⟨0, .nil, []⟩).allTrue = true := by kernel_rfl
theorem mayT_ok {m : SMem} {x : SV} {t : Tree} (h : mayT m x = some t) : Con E0 9 [x] m t := by
  unfold mayT at h
  split at h
  · cases h
    exact Con.pure (q := []) E0_ok fn9 body9 (by kernel_rfl) (by kernel_rfl) fun _ => good_true E0_ok may_nil
  · cases h
    exact Con.pure (q := []) E0_ok fn9 body9 (by kernel_rfl) (by kernel_rfl) fun _ => good_true E0_ok may_e0
  · split at h
    · rename_i cs e
      cases h
      exact may_con e
    · cases h
  · cases h
theorem wakes_true : (run E0 100000 0 [callFr 5 Try.f5.ntmps [] (Try.f5.body.getD .skip)] ⟨0, .nil, []⟩).allTrue = true := by kernel_rfl
theorem wakes_fn : E0.fn 5 = some Try.f5 := by kernel_rfl
theorem wakes_body : Try.f5.body = some (Try.f5.body.getD .skip) := by kernel_rfl
theorem wakes_con (m : SMem) : Con E0 5 [] m (needs [] (.ret (sB (.l true)) m)) :=
  Con.pure E0_ok wakes_fn wakes_body (by kernel_rfl) (by kernel_rfl) fun _ => good_true E0_ok wakes_true
theorem con9_ok (g : FuncId) (l : List SV) (m : SMem) (t : Tree) (h : con9 g l m = some t) : Con E0 g l m t := by
  unfold con9 at h
  split at h
  · cases h; exact wakes_con m
  · exact mayT_ok h
  · cases h
theorem E9_ok : EnvOk E9 := EnvOk.with E0_ok _ _ con9_ok
end Go.Proofs.Ytaagmmljhgabfaa
/- Of code: what Encode answers. No condition. -/
namespace Go.Proofs.Ytaagmmljhgabfaa
set_option maxRecDepth 100000
def encL (cs : Array Value) (off : Nat) : Nat → List Value := parts fun i => six (ins cs off i)
def encB (cs : Array Value) (off n : Nat) : ByteArray := strOf (encL cs off n)
theorem encL_len (cs : Array Value) (off n : Nat) : (encL cs off n).length = n * 6 := parts_len (f := fun i => six (ins cs off i)) (fun _ => rfl) n
theorem encL_more (cs : Array Value) (off i : Nat) : (encL cs off i).toArray ++ (six (ins cs off i)).toArray = (encL cs off (i + 1)).toArray := by
  show _ = (encL cs off i ++ six (ins cs off i)).toArray
  rw [List.append_toArray]
theorem encL_u8 (cs : Array Value) (off : Nat) : ∀ n, AllU8 (encL cs off n)
  | 0 => fun v hv => by cases hv
  | n + 1 => fun v hv => by
    have hv : v ∈ encL cs off n ++ six (ins cs off n) := hv
    rcases List.mem_append.1 hv with h | h
    · exact encL_u8 cs off n v h
    · simp only [six, u8V, List.mem_cons, List.not_mem_nil, or_false] at h
      rcases h with h | h | h | h | h | h <;> exact ⟨_, h⟩
theorem eT0_ok : TodoOk (ren 1 []) eT0 eT0 := TodoOk.same (by kernel_rfl)
theorem eH0_3 : TodoOk (ren 1 [(1, 3)]) eH0 eH0 := TodoOk.same (by kernel_rfl)
theorem eH0_4 : TodoOk (ren 1 [(1, 4)]) eH0 eH0 := TodoOk.same (by kernel_rfl)
theorem encN_good {v : Bool} {off n : Nat} {cs : Array Value} {ty : TypeId} {A : SV → SMem → Prop} {Q : Int → Nat → Array Value → Prop} (hg : ∀ i k bs, Q i k bs → Good E9.P A 1 (headF (encF v off n cs ty i k)) (encM v cs ty bs)) {fs : List SFr} {m : SMem} (hb : encN v off n cs ty Q fs m) : Good E9.P A 1 fs m := by
  unfold encN at hb
  split at hb
  · split at hb
    · exact Good.of_sub hb.2 (hg _ _ _ hb.1)
    · exact hb.elim
  · exact hb.elim
theorem encN0_good {v : Bool} {off n : Nat} {cs : Array Value} {ty : TypeId} {A : SV → SMem → Prop} {Q : Int → Prop} (hg : ∀ i, Q i → Good E9.P A 1 (gH E9 1 (encC off n) (prM v cs ty) [(12, i64 (.o i))]) (gM E9 1 (encC off n) (prM v cs ty) [])) {fs : List SFr} {m : SMem} (hb : encN0 v off n cs ty Q fs m) : Good E9.P A 1 fs m := by
  unfold encN0 at hb
  split at hb
  · split at hb
    · exact gN_good hb.2 (hg _ hb.1)
    · exact hb.elim
  · exact hb.elim
section
variable (v : Bool) (off n : Nat) (cs : Array Value) (ty : TypeId)
theorem enc_step_v (b : ByteArray) (e i : Int) (k : Nat) (bs : Array Value) (Q : Int → Nat → Array Value → Prop) : (encS v off n cs ty i k bs).vc (encA b e) (encN v off n cs ty Q) = (encS true off n cs ty i k bs).vc (encA b e) (encN true off n cs ty Q) := by
  cases v with
  | true => rfl
  | false => exact (enc_step_p off n cs ty b e i k bs Q).trans (enc_step_r off n cs ty b e i k bs Q).symm
theorem enc_nil_v (b : ByteArray) (e i : Int) (Q : Int → Nat → Array Value → Prop) : (gS E9 1 (encC off n) (prM v cs ty) [(12, i64 (.o i))] []).vc (encA b e) (encN v off n cs ty Q) = (gS E9 1 (encC off n) (prM true cs ty) [(12, i64 (.o i))] []).vc (encA b e) (encN true off n cs ty Q) := by
  cases v with
  | true => rfl
  | false => exact (enc_nil_p off n cs ty b e i Q).trans (enc_nil_r off n cs ty b e i Q).symm
theorem enc_start_v (b : ByteArray) (e : Int) (Q : Int → Prop) : (gR E9 1 (encC off n) (prM v cs ty)).vc (encA b e) (encN0 v off n cs ty Q) = (gR E9 1 (encC off n) (prM true cs ty)).vc (encA b e) (encN0 true off n cs ty Q) := by
  cases v with
  | true => rfl
  | false => exact (enc_start_p off n cs ty b e Q).trans (enc_start_r off n cs ty b e Q).symm
variable (hI : InsOk cs off n)
include hI
theorem enc_round (hn : n ≤ 64) : ∀ (K i : Nat), n - i < K → 1 ≤ i → i ≤ n → Good Try.prog (encA (encB cs off n) 0) 1 (headF (encF v off n cs ty i (6 * i))) (encM v cs ty (encL cs off i).toArray) := by
  intro K
  induction K with
  | zero => intro i h; omega
  | succ K ih =>
    intro i hk h1 hi
    refine past_vc E9_ok 1000 ((enc_step_v v off n cs ty (encB cs off n) 0 i (6 * i) (encL cs off i).toArray (fun i' k bs => ∃ j : Nat, i' = j ∧ n - j < K ∧ 1 ≤ j ∧ j ≤ n ∧ k = 6 * j ∧ bs = (encL cs off j).toArray)).trans (enc_step_r off n cs ty _ _ _ _ _ _)) ?_ (fun _ _ h => h)
      (fun fs m hb => encN_good (fun i' k bs ⟨j, e, k1, k2, k3, k4, k5⟩ => by rw [e, k4, k5]; exact ih j k1 k2 k3) hb)
    have hsz : (encL cs off i).toArray.size = i * 6 := by rw [List.size_toArray, encL_len]
    refine ⟨fun h => ?_, fun h => ?_⟩
    · have hlt : i < n := by simp at h; omega
      obtain ⟨⟨i1, i2, i3, i4, i5⟩, _⟩ := hI.2 i hlt
      have eA : ari BinOp.add IntKind.i64 (i : Int) 1 = ((i + 1 : Nat) : Int) := by rw [ari_add, i64_nat (show i < 9223372036854775807 by omega)]
      rw [Int.toNat_natCast, eA]
      refine ⟨⟨⟨by omega, by omega⟩, trivial⟩, ⟨i1, i2, i3, i4, i5, trivial⟩, ⟨⟨by omega, by omega⟩, by rw [hsz]; omega, trivial⟩, ⟨i + 1, rfl, by omega, by omega, by omega, by omega, encL_more cs off i⟩, ?_⟩
      repeat' first | exact trivial | exact eH0_4 | apply And.intro | exact rfl
    · have e : i = n := by simp at h; omega
      subst e
      have ex : (Array.extract (encL cs off i).toArray 0 (0 + 6 * i)).toList = encL cs off i := by
        rw [List.extract_toArray, List.extract_eq_take_drop]
        simp only [List.drop_zero, Nat.sub_zero, Nat.zero_add]
        rw [List.take_of_length_le]
        rw [encL_len]; omega
      rw [ex]
      exact ⟨⟨by rw [hsz]; omega, encL_u8 cs off i, trivial⟩, rfl, rfl⟩
theorem enc_first (hn : n ≤ 64) : Good Try.prog (encA (encB cs off n) 0) 1 (gH E9 1 (encC off n) (prM v cs ty) [(12, i64 (.o 0))]) (gM E9 1 (encC off n) (prM v cs ty) []) := by
  refine past_vc E9_ok 1000 ((enc_nil_v v off n cs ty (encB cs off n) 0 0 (fun i' k bs => 0 < n ∧ i' = 1 ∧ k = 6 ∧ bs = (encL cs off 1).toArray)).trans (enc_nil_r off n cs ty _ _ _ _)) ?_ (fun _ _ h => h)
    (fun fs m hb => encN_good (fun i' k bs ⟨e0, e, k4, k5⟩ => by rw [e, k4, k5]; exact enc_round v off n cs ty hI hn (n + 1) 1 (by omega) (by omega) (by omega)) hb)
  refine ⟨fun h => ?_, fun h => ?_⟩
  · have hlt : 0 < n := by simp at h; omega
    obtain ⟨⟨i1, i2, i3, i4, i5⟩, _⟩ := hI.2 0 hlt
    refine ⟨⟨⟨by omega, by omega⟩, trivial⟩, ⟨i1, i2, i3, i4, i5, trivial⟩, ⟨hlt, rfl, rfl, rfl⟩, ?_⟩
    repeat' first | exact trivial | exact eH0_3 | apply And.intro | exact rfl
  · have e : n = 0 := by simp at h; omega
    subst e
    exact ⟨rfl, rfl⟩
theorem enc_good (hm : mayV cs off n = true) : Good Try.prog (encA (encB cs off n) 0) 1 (encC off n) (prM v cs ty) := by
  refine run_vc E9_ok 1000 ((enc_start_v v off n cs ty (encB cs off n) 0 (fun i => i = 0)).trans (enc_start_r off n cs ty _ _ _)) ?_ (fun _ _ h => h)
    (fun fs m hb => encN0_good (fun i e => by rw [e]; exact enc_first v off n cs ty hI (mayV_iff.1 hm).1) hb)
  rw [hm]
  refine ⟨⟨hI, trivial⟩, ⟨fun h => (by cases h), fun _ => ?_⟩⟩
  repeat' first | exact trivial | exact eT0_ok | apply And.intro | exact rfl
theorem enc_bad (hm : mayV cs off n = false) : Good Try.prog (encA .empty 3) 1 (encC off n) (prM v cs ty) := by
  refine run_vc E9_ok 1000 ((enc_start_v v off n cs ty .empty 3 (fun i => False)).trans (enc_start_r off n cs ty _ _ _)) ?_ (fun _ _ h => h)
    (fun fs m hb => encN0_good (fun i e => e.elim) hb)
  rw [hm]
  exact ⟨⟨hI, trivial⟩, ⟨fun _ => ⟨rfl, rfl⟩, fun h => by cases h⟩⟩
end
noncomputable section
def tupV (s : ByteArray) (l : Bool) (e : Int) : SV := .tup [.c (.f (cond l (.lit (.string s)) (.opq (.string s)))), .c (.f (.int .i64 (.l e)))]
def encT (m : SMem) : SV → Option Tree
  | .s (.c (.f (.lit (.slice none 0 0)))) => some (.ret (tupV .empty true 0) m)
  | .s (.c (.f .e0)) => some (.ret (tupV .empty true 0) m)
  | .s (.c (.f (.slice i o n _))) => match rowI m i with
    | some cs => some (needs [InsOk cs o.den n.den] (.br (mayV cs o.den n.den) (.ret (tupV (encB cs o.den n.den) false 0) m) (.ret (tupV .empty true 3) m)))
    | none => none
  | _ => none
end
theorem fn6 : E0.fn 6 = some Try.f6 := by kernel_rfl
theorem body6 : Try.f6.body = some (Try.f6.body.getD .skip) := by kernel_rfl
theorem tup_ok {b : ByteArray} {e : Int} (l : Bool) {s : SV} {m' : SMem} {R R' : Ren} {v : Value} (h : encA b e s m') (hv : s.ok R' v) : (tupV b l e).ok R v := by
  unfold encA at h
  split at h
  case h_2 => exact h.elim
  rename_i x y
  obtain ⟨h1, h2⟩ := h
  obtain ⟨vs, rfl, hl⟩ := hv
  match hvs : vs.toList, hl with
  | [a, c], hl =>
    refine ⟨vs, rfl, ?_⟩
    rw [hvs]
    obtain ⟨ha, hc, _⟩ := hl
    refine ⟨?_, ?_, trivial⟩
    · unfold strF at h1
      split at h1
      · subst h1; cases l <;> exact ha
      · subst h1; cases l <;> exact ha
      · exact h1.elim
    · have hc : c = .int .i64 y.den := hc
      rw [h2] at hc
      exact hc
theorem enc_con {m : SMem} {i : Nat} {o n : SN} {cap : SK} {cs : Array Value} (hr : rowI m i = some cs) : Con E0 6 [.s (.c (.f (.slice i o n cap)))] m (needs [InsOk cs o.den n.den] (.br (mayV cs o.den n.den) (.ret (tupV (encB cs o.den n.den) false 0) m) (.ret (tupV .empty true 3) m))) := by
  refine Con.br (fun h => ?_) fun h => ?_
  · exact Con.row fn6 body6 hr (fun v ty hq => enc_good v o.den n.den cs ty (hq _ (List.mem_cons_self ..)) h) fun _ _ _ _ _ => tup_ok false
  · exact Con.row fn6 body6 hr (fun v ty hq => enc_bad v o.den n.den cs ty (hq _ (List.mem_cons_self ..)) h) fun _ _ _ _ _ => tup_ok true
end Go.Proofs.Ytaagmmljhgabfaa
/- Of code: what Decode answers. No condition. -/
namespace Go.Proofs.Ytaagmmljhgabfaa
set_option linter.unusedSectionVars false
set_option maxRecDepth 100000
def five (s : ByteArray) (i : Nat) : List Value := [u8V (byteAt s (6 * i)), u8V (byteAt s (6 * i + 1)), u8V (byteAt s (6 * i + 2)), u8V (byteAt s (6 * i + 3)), .int .u16 (word (byteAt s (6 * i + 4)) (byteAt s (6 * i + 5)))]
def decL (s : ByteArray) : Nat → List Value := parts (five s)
def insD (s : ByteArray) (i : Nat) : Ins := ⟨byteAt s (6 * i), byteAt s (6 * i + 1), byteAt s (6 * i + 2), byteAt s (6 * i + 3), word (byteAt s (6 * i + 4)) (byteAt s (6 * i + 5))⟩
theorem decL_len (s : ByteArray) (n : Nat) : (decL s n).length = n * 5 := parts_len (f := five s) (fun _ => rfl) n
theorem decL_more (s : ByteArray) (i : Nat) : (decL s i).toArray ++ (five s i).toArray = (decL s (i + 1)).toArray := by
  show _ = (decL s i ++ five s i).toArray
  rw [List.append_toArray]
theorem decL_at (s : ByteArray) {n i t : Nat} (hi : i < n) (ht : t < 5) : (decL s n).toArray[0 + i * 5 + t]? = (five s i)[t]? := by
  rw [List.getElem?_toArray, Nat.zero_add]
  exact parts_at (f := five s) (fun _ => rfl) hi ht
theorem intAt_is {cs : Array Value} {p : Nat} {k : IntKind} {n : Int} (h : cs[p]? = some (.int k n)) : intAt cs p = n ∧ IsInt k cs p := by
  have e : intAt cs p = n := by unfold intAt; rw [h]
  exact ⟨e, by unfold IsInt; rw [e]; exact h⟩
theorem ins_dec (s : ByteArray) {n i : Nat} (hi : i < n) : ins (decL s n).toArray 0 i = insD s i ∧ InsAt (decL s n).toArray (0 + i * 5) := by
  obtain ⟨a0, b0⟩ := intAt_is (decL_at s (t := 0) hi (by decide))
  obtain ⟨a1, b1⟩ := intAt_is (decL_at s (t := 1) hi (by decide))
  obtain ⟨a2, b2⟩ := intAt_is (decL_at s (t := 2) hi (by decide))
  obtain ⟨a3, b3⟩ := intAt_is (decL_at s (t := 3) hi (by decide))
  obtain ⟨a4, b4⟩ := intAt_is (decL_at s (t := 4) hi (by decide))
  exact ⟨Ins.ext' a0 a1 a2 a3 a4, b0, b1, b2, b3, b4⟩
theorem insD_in (s : ByteArray) (i : Nat) : (insD s i).In := by
  have h := fun j => byteAt_range s j
  refine ⟨h _, h _, h _, h _, ?_⟩
  show 0 ≤ word _ _ ∧ word _ _ ≤ 65535
  rw [word_eq (h _) (h _)]
  have h1 := h (6 * i + 4)
  have h2 := h (6 * i + 5)
  omega
theorem dec_insOk (s : ByteArray) {n : Nat} (hn : n < 9223372036854775807) : InsOk (decL s n).toArray 0 n :=
  ⟨hn, fun i hi => ⟨(ins_dec s hi).2, by rw [(ins_dec s hi).1]; exact insD_in s i⟩⟩
def decOk (s : ByteArray) : Bool := decide (s.size % 6 = 0 ∧ s.size ≤ 384) && mayV (decL s (s.size / 6)).toArray 0 (s.size / 6)
theorem dT0_ok : TodoOk (ren 0 [(0, 0)]) dT0 dT0 := TodoOk.same (by kernel_rfl)
theorem dH0_2 : TodoOk (ren 0 [(0, 0), (1, 2)]) dH0 dH0 := TodoOk.same (by kernel_rfl)
theorem dH0_3 : TodoOk (ren 0 [(0, 0), (1, 3)]) dH0 dH0 := TodoOk.same (by kernel_rfl)
theorem decN0_good {s : ByteArray} {A : SV → SMem → Prop} {Q : Int → Prop} (hg : ∀ i a b c d e g, Q i → Good E9.P A 0 (decH0 s i) (decM0 s a b c d e g)) {fs : List SFr} {m : SMem} (hb : decN0 s Q fs m) : Good E9.P A 0 fs m := by
  unfold decN0 at hb
  split at hb
  · split at hb
    · exact Good.of_sub hb.2 (Good.head (hg _ _ _ _ _ _ _ hb.1))
    · exact hb.elim
  · exact hb.elim
theorem decN1_good {s : ByteArray} {A : SV → SMem → Prop} {Q : Int → Nat → Array Value → Prop} (hg : ∀ i a b c d e g k cs, Q i k cs → Good E9.P A 0 (decH1 s i k) (decM1 s a b c d e g cs)) {fs : List SFr} {m : SMem} (hb : decN1 s Q fs m) : Good E9.P A 0 fs m := by
  unfold decN1 at hb
  split at hb
  · split at hb
    · exact Good.of_sub hb.2 (hg _ _ _ _ _ _ _ _ _ hb.1)
    · exact hb.elim
  · exact hb.elim
def resE (s : ByteArray) : Int := if decOk s = true then 0 else 3
section
variable (s : ByteArray) (h6 : s.size % 6 = 0) (hsz : s.size ≤ 384) (h0 : s.size ≠ 0)
include h6 hsz h0
omit h6 hsz h0 in
theorem dec_five (j : Nat) : [Value.int .u8 (byteAt (s.extract (6 * j) s.size) 0), Value.int .u8 (byteAt (s.extract (6 * j) s.size) 1), Value.int .u8 (byteAt (s.extract (6 * j) s.size) 2), Value.int .u8 (byteAt (s.extract (6 * j) s.size) 3), Value.int .u16 (ari .or .u16 (IntKind.u16.wrap (byteAt (s.extract (6 * j) s.size) 4)) (ari .shl .u16 (IntKind.u16.wrap (byteAt (s.extract (6 * j) s.size) 5)) 8))] = five s j := by
  simp only [byteAt_cut]
  rfl
theorem dec_round : ∀ (K j : Nat), s.size / 6 - j < K → 1 ≤ j → 6 * j ≤ s.size → ∀ a b c d e g, Good Try.prog (decA (resE s) (s.size / 6) (decL s (s.size / 6)).toArray) 0 (decH1 s ((6 * j : Nat) : Int) j) (decM1 s a b c d e g (decL s j).toArray) := by
  intro K
  induction K with
  | zero => intro j h; omega
  | succ K ih =>
    intro j hk h1 hj a b c d e g
    refine past_vc E9_ok 1000 (dec_step s (resE s) (s.size / 6) (decL s (s.size / 6)).toArray ((6 * j : Nat) : Int) a b c d e g j (decL s j).toArray (fun i' k cs => ∃ t : Nat, i' = ((6 * t : Nat) : Int) ∧ s.size / 6 - t < K ∧ 1 ≤ t ∧ 6 * t ≤ s.size ∧ k = t ∧ cs = (decL s t).toArray)) ?_ (fun _ _ h => h)
      (fun fs m hb => decN1_good (fun i' a b c d e g k cs ⟨t, e1, k1, k2, k3, k4, k5⟩ => by rw [e1, k4, k5]; exact ih t k1 k2 k3 a b c d e g) hb)
    have hls : (decL s j).toArray.size = j * 5 := by rw [List.size_toArray, decL_len]
    refine ⟨fun h => ?_, fun h => ?_⟩
    · have hlt : 6 * j < s.size := by simp at h; omega
      have eA : ari BinOp.add IntKind.i64 ((6 * j : Nat) : Int) 6 = ((6 * (j + 1) : Nat) : Int) := by rw [ari_add, Go.IntWalk.i64_in _ (by omega)]; omega
      rw [Int.toNat_natCast, eA]
      have hext : (s.extract (6 * j) s.size).size = s.size - 6 * j := by rw [ByteArray.size_extract]; omega
      refine ⟨⟨by omega, by omega, trivial⟩, ⟨by rw [hext]; omega, trivial⟩, ⟨⟨by omega, by omega⟩, by rw [hls], trivial⟩, ⟨j + 1, rfl, by omega, by omega, by omega, rfl, ?_⟩, ?_⟩
      · rw [← decL_more, ← dec_five s j]
      repeat' first | exact trivial | exact dH0_3 | apply And.intro | exact rfl
    · have e : j = s.size / 6 := by simp at h; omega
      have hI := dec_insOk s (n := j) (by omega)
      have hr : resE s = if mayV (decL s j).toArray 0 j = true then 0 else 3 := by
        unfold resE decOk
        rw [← e, decide_eq_true ⟨h6, hsz⟩, Bool.true_and]
      rw [← e]
      refine ⟨⟨hI, trivial⟩, ⟨fun hm => ⟨rfl, ?_⟩, fun hm => ?_⟩⟩
      · rw [hr, if_neg]
        simpa using hm
      · have hm : mayV (decL s j).toArray 0 j = true := by simpa using hm
        rw [hr, if_pos hm]
        exact ⟨rfl, rfl, rfl, rfl, trivial⟩
theorem dec_first (a b c d e g : Int) : Good Try.prog (decA (resE s) (s.size / 6) (decL s (s.size / 6)).toArray) 0 (decH0 s 0) (decM0 s a b c d e g) := by
  refine past_vc E9_ok 1000 (dec_nil s (resE s) (s.size / 6) (decL s (s.size / 6)).toArray 0 a b c d e g (fun i' k cs => i' = ((6 * 1 : Nat) : Int) ∧ k = 1 ∧ cs = (decL s 1).toArray)) ?_ (fun _ _ h => h)
    (fun fs m hb => decN1_good (fun i' a b c d e g k cs ⟨e1, k4, k5⟩ => by rw [e1, k4, k5]; exact dec_round s h6 hsz h0 (s.size + 1) 1 (by omega) (by omega) (by omega) a b c d e g) hb)
  refine ⟨fun h => ?_, fun h => ?_⟩
  · have hext : (s.extract 0 s.size).size = s.size := by rw [ByteArray.size_extract]; omega
    refine ⟨⟨by omega, by rw [show Int.toNat 0 = 0 from rfl]; omega, trivial⟩, ⟨by rw [show Int.toNat 0 = 0 from rfl, hext]; omega, trivial⟩, ⟨rfl, rfl, ?_⟩, ?_⟩
    · have := dec_five s 0
      exact congrArg List.toArray this
    repeat' first | exact trivial | exact dH0_2 | apply And.intro | exact rfl
  · have := of_decide_eq_false h; omega
omit h0 in
theorem rem6 : (ari .rem .i64 (s.size : Int) 6 != 0) = false := by
  rw [ari_rem]
  have : (s.size : Int).tmod 6 = 0 := by
    rw [Int.tmod_eq_emod_of_nonneg (by omega)]; omega
  rw [this]; rfl
theorem dec_all : Good Try.prog (decA (resE s) (s.size / 6) (decL s (s.size / 6)).toArray) 0 (decC s) M0 := by
  refine run_vc E9_ok 1000 (dec_start s (resE s) (s.size / 6) (decL s (s.size / 6)).toArray (fun i => i = 0)) ?_ (fun _ _ h => h)
    (fun fs m hb => decN0_good (fun i a b c d e g hi => by rw [hi]; exact dec_first s h6 hsz h0 a b c d e g) hb)
  rw [rem6 s h6 hsz]
  refine ⟨fun _ => ⟨fun h => ?_, fun h => ?_⟩, fun h => ?_⟩
  · simp at h; omega
  · repeat' first | exact trivial | exact dT0_ok | apply And.intro | exact rfl
  · cases h
end
theorem dec_no (s : ByteArray) (h : ¬ (s.size % 6 = 0 ∧ s.size ≤ 384)) (hl : s.size < 9223372036854775807) : Good Try.prog (decA 3 0 #[]) 0 (decC s) M0 := by
  refine run_vc E9_ok 1000 (dec_start s 3 0 #[] (fun i => False)) ?_ (fun _ _ h => h) (fun fs m hb => decN0_good (fun i a b c d e g hi => hi.elim) hb)
  refine ⟨fun h1 => ⟨fun _ => ⟨rfl, rfl⟩, fun h2 => ?_⟩, fun _ => ⟨rfl, rfl⟩⟩
  exfalso
  rw [ari_rem, Int.tmod_eq_emod_of_nonneg (by omega)] at h1
  simp at h1 h2
  omega
end Go.Proofs.Ytaagmmljhgabfaa
/- Of code: what is asked of the empty ones. No condition. -/
namespace Go.Proofs.Ytaagmmljhgabfaa
noncomputable section
def dec0A (e : Int) (s : SV) (_ : SMem) : Prop := match s with
  | .tup [.c (.f (.lit (.slice none 0 0))), .c (.f (.int .i64 y))] => y.den = e
  | _ => False
end
end Go.Proofs.Ytaagmmljhgabfaa
/- Of code: what the empty ones come to, as propositions. No condition. -/
namespace Go.Proofs.Ytaagmmljhgabfaa
set_option maxRecDepth 100000
theorem dec_lit (e : Int) : (run E0 1000 0 [callFr 11 Try.f11.ntmps [.s (.c (.f (.lit (.string ⟨⟨[]⟩⟩))))] (Try.f11.body.getD .skip)] ⟨0, .nil, []⟩).vc (dec0A e) (fun _ _ => False) =
    ((0 : Int) = e) := by kernel_rfl
theorem enc_lit0 (e : Int) : (run E0 1000 0 [callFr 6 Try.f6.ntmps [nilV] (Try.f6.body.getD .skip)] ⟨0, .nil, []⟩).vc (encA .empty e) (fun _ _ => False) =
    (ByteArray.empty = ByteArray.empty ∧ (0 : Int) = e) := by kernel_rfl
theorem enc_lit1 (e : Int) : (run E0 1000 0 [callFr 6 Try.f6.ntmps [.s (.c (.f .e0))] (Try.f6.body.getD .skip)] ⟨0, .nil, []⟩).vc (encA .empty e) (fun _ _ => False) =
    (ByteArray.empty = ByteArray.empty ∧ (0 : Int) = e) := by kernel_rfl
end Go.Proofs.Ytaagmmljhgabfaa
/- Of code: the contracts of Encode and Decode together. No condition. -/
namespace Go.Proofs.Ytaagmmljhgabfaa
set_option maxRecDepth 100000
/-- A function that makes a row of its own, and answers a number with it. -/
theorem Con.freshT {E : Env} (hE : EnvOk E) {g : FuncId} {l : List SV} {m : SMem} {q : List Prop} {k : SN} {cap : SK} {a : SA} {ty : TypeId} {e : Int} {fn : Func} {c : Code} (h1 : E.fn g = some fn) (h2 : fn.body = some c) (hl0 : allB noIds l = true) (ha : freeA a = true)
    (h : (∀ p ∈ q, p) → Good E.P (fun s m' => s = .tup [.c (.f (.slice 0 (.l 0) k cap)), .c (.f (.int .i64 (.l e)))] ∧ m' = ⟨1, Tr.nil.set 0 (some ⟨a, ty, true⟩), []⟩) 0 [callFr g fn.ntmps l c] ⟨0, .nil, []⟩) :
    Con E g l m (needs q (.ret (.tup [.c (.f (.slice m.next (.l 0) k cap)), .c (.f (.int .i64 (.l e)))]) (m.new a ty))) := by
  intro A hs
  obtain ⟨hq, hA⟩ := Tree.sat_needs hs
  refine ⟨fn, h1, by rw [h2]; rfl, fun n0 F w0 w R args hl hR => ?_⟩
  refine (answers_of_good (m := ⟨0, .nil, []⟩) (hE.fns _ _ h1).1 h2 (h hq) (ok_anys hl0 hl) hR.none).mono ?_
  rintro v w' ⟨s, m', R', ⟨rfl, rfl⟩, hX, hR', hv⟩
  have hb0 : getB (Tr.nil.set 0 (some ⟨a, ty, true⟩)) 0 = some ⟨a, ty, true⟩ := rfl
  obtain ⟨gl, cs, fz, e1, e2, e3, e4, e5⟩ := hR'.blk 0 _ hb0
  obtain ⟨e6, rfl⟩ := e5 rfl
  have e7 : w.heap.size ≤ gl.b := e6.resolve_right fun x => x
  obtain ⟨R2, k1, k2, k3⟩ := hR.grow hR'.fr.to e7 (hR'.lt 0 gl e1) e2 e3 (free_ok (R' := R) ha e4)
  obtain ⟨vs, rfl, hv⟩ := hv
  match hvs : vs.toList, hv with
  | [x, y], hv =>
    obtain ⟨⟨g, cp, f1, rfl, f2, f3⟩, hy, _⟩ := hv
    rw [e1] at f1
    cases f1
    refine ⟨_, _, R2, hA, k1, k3, vs, rfl, ?_⟩
    rw [hvs]
    exact ⟨⟨gl, cp, k2, rfl, f2, f3⟩, hy, trivial⟩
noncomputable section
def nil3 : SV := .tup [.c (.f (.lit (.slice none 0 0))), .c (.f (.int .i64 (.l 3)))]
def nil0 : SV := .tup [.c (.f (.lit (.slice none 0 0))), .c (.f (.int .i64 (.l 0)))]
def rowD (s : ByteArray) : Array Value := (decL s (s.size / 6)).toArray
def sizeD (s : ByteArray) : Nat := s.size / 6
def decT (m : SMem) : SV → Option Tree
  | .s (.c (.f (.lit (.string ⟨⟨[]⟩⟩)))) => some (.ret nil0 m)
  | .s (.c (.f (.opq (.string s)))) => some (needs [s.size ≠ 0, s.size < 9223372036854775807] (.br (decOk s) (.ret (.tup [.c (.f (.slice m.next (.l 0) (.o (sizeD s)) .any)), .c (.f (.int .i64 (.l 0)))]) (m.new (.pop (rowD s)) 41)) (.ret nil3 m)))
  | _ => none
def conE (g : FuncId) (l : List SV) (m : SMem) : Option Tree := match g, l with
  | 5, [] => some (needs [] (.ret (sB (.l true)) m))
  | 9, [x] => mayT m x
  | 6, [x] => encT m x
  | 11, [x] => decT m x
  | _, _ => none
def EC : Env := ⟨Try.prog, fnOf, conE, fun _ _ x => isLoop x⟩
/-- No loop is passed over. -/
def EL : Env := ⟨Try.prog, fnOf, conE, fun _ _ _ => false⟩
end
theorem fn11 : E0.fn 11 = some Try.f11 := by kernel_rfl
theorem body11 : Try.f11.body = some (Try.f11.body.getD .skip) := by kernel_rfl
theorem strV_ok {s : ByteArray} {R R' : Ren} {vs : List Value} (h : All2 (SV.ok R) [strV s] vs) : All2 (SV.ok R') [strV s] vs := by
  match vs, h with
  | [x], h => exact ⟨h.1, trivial⟩
theorem nil3_ok {k : Nat} {cs : Array Value} {s : SV} {m' : SMem} {R R' : Ren} {v : Value} (h : decA 3 k cs s m') (hv : s.ok R' v) : nil3.ok R v := by
  unfold decA at h
  split at h
  · rename_i y
    obtain ⟨h1, _⟩ := h
    obtain ⟨vs, rfl, hl⟩ := hv
    match hvs : vs.toList, hl with
    | [a, c], hl =>
      refine ⟨vs, rfl, ?_⟩
      rw [hvs]
      obtain ⟨ha, hc, _⟩ := hl
      have hc : c = .int .i64 y.den := hc
      rw [h1] at hc
      exact ⟨ha, hc, trivial⟩
  · exact absurd h.1 (by decide)
  · exact h.elim
theorem Con.none {g : FuncId} {fn : Func} {c : Code} {l : List SV} {m : SMem} {s0 : SV} {A : SV → SMem → Prop} (h1 : E0.fn g = some fn) (h2 : fn.body = some c) (hl : allB noIds l = true) (good : Good Try.prog A 0 [callFr g fn.ntmps l c] M0)
    (hs : ∀ s m' R R' v, A s m' → s.ok R' v → s0.ok R v) : Con E0 g l m (.ret s0 m) :=
  Con.ro E0_ok (l := l) (l' := l) (ms := M0) (m := m) (q := []) h1 h2 rfl (fun i => i) (fun i b hb => by
    have hb : (Tr.nil : Tr SBlk).get i = some b := hb
    rw [Tr.get_nil] at hb; cases hb) (fun R vs ha => ok_anys hl ha) (fun _ => good) hs
theorem nil0_ok {s : SV} {m' : SMem} {R R' : Ren} {v : Value} (h : dec0A 0 s m') (hv : s.ok R' v) : nil0.ok R v := by
  unfold dec0A at h
  split at h
  · rename_i y
    obtain ⟨vs, rfl, hl⟩ := hv
    match hvs : vs.toList, hl with
    | [a, c], hl =>
      refine ⟨vs, rfl, ?_⟩
      rw [hvs]
      obtain ⟨ha, hc, _⟩ := hl
      have hc : c = .int .i64 y.den := hc
      rw [h] at hc
      exact ⟨ha, hc, trivial⟩
  · exact h.elim
theorem encT_ok {m : SMem} {x : SV} {t : Tree} (h : encT m x = some t) : Con E0 6 [x] m t := by
  unfold encT at h
  split at h
  · cases h
    exact Con.none fn6 body6 (by kernel_rfl) (run_vc E0_ok 1000 (enc_lit0 0) ⟨rfl, rfl⟩ (fun s m h => h) fun _ _ h => h.elim) fun _ _ _ _ _ => tup_ok true
  · cases h
    exact Con.none fn6 body6 (by kernel_rfl) (run_vc E0_ok 1000 (enc_lit1 0) ⟨rfl, rfl⟩ (fun s m h => h) fun _ _ h => h.elim) fun _ _ _ _ _ => tup_ok true
  · split at h
    · rename_i cs e
      cases h
      exact enc_con e
    · cases h
  · cases h
theorem dec_yes (s : ByteArray) (h0 : s.size ≠ 0) (hd : decOk s = true) : Good Try.prog (fun r m' => r = .tup [.c (.f (.slice 0 (.l 0) (.o (sizeD s)) .any)), .c (.f (.int .i64 (.l 0)))] ∧ m' = ⟨1, Tr.nil.set 0 (some ⟨.pop (rowD s), 41, true⟩), []⟩) 0 (decC s) M0 := by
  have hc : s.size % 6 = 0 ∧ s.size ≤ 384 := by unfold decOk at hd; simp at hd; exact hd.1
  refine Good.retX ((dec_all s hc.1 hc.2 h0).mono ?_)
  intro r m' h
  have he : resE s = 0 := by unfold resE; rw [if_pos hd]
  rw [he] at h
  unfold decA at h
  split at h
  · exact absurd h.2 (by decide)
  · exact ⟨_, h.2⟩
  · exact h.elim
theorem dec_not (s : ByteArray) (h0 : s.size ≠ 0) (hl : s.size < 9223372036854775807) (hd : decOk s = false) : ∃ k cs, Good Try.prog (decA 3 k cs) 0 (decC s) M0 := by
  by_cases hc : s.size % 6 = 0 ∧ s.size ≤ 384
  · have he : resE s = 3 := by unfold resE; rw [hd]; rfl
    exact ⟨_, _, he ▸ dec_all s hc.1 hc.2 h0⟩
  · exact ⟨_, _, dec_no s hc hl⟩
theorem decT_ok {m : SMem} {x : SV} {t : Tree} (h : decT m x = some t) : Con E0 11 [x] m t := by
  unfold decT at h
  split at h
  · cases h
    exact Con.none fn11 body11 (by kernel_rfl) (run_vc E0_ok 1000 (dec_lit 0) rfl (fun s m h => h) fun _ _ h => h.elim) fun _ _ _ _ _ => nil0_ok
  · rename_i s
    cases h
    refine Con.br (fun hd => ?_) fun hd => ?_
    · exact Con.freshT E0_ok fn11 body11 (by kernel_rfl) rfl fun hq => dec_yes s (hq _ (by simp)) hd
    · intro B hB
      obtain ⟨hq, _⟩ := Tree.sat_needs hB
      obtain ⟨k, cs, hg⟩ := dec_not s (hq _ (by simp)) (hq _ (by simp)) hd
      exact Con.ro E0_ok (l := [strV s]) (l' := [strV s]) (ms := M0) (m := m) (q := _) fn11 body11 rfl (fun i => i) (fun i b hb => by
        have hb : (Tr.nil : Tr SBlk).get i = some b := hb
        rw [Tr.get_nil] at hb; cases hb) (fun R vs ha => strV_ok ha) (fun _ => hg) (fun _ _ _ _ _ => nil3_ok) B hB
  · cases h
theorem conE_ok (g : FuncId) (l : List SV) (m : SMem) (t : Tree) (h : conE g l m = some t) : Con E0 g l m t := by
  unfold conE at h
  split at h
  · cases h; exact wakes_con m
  · exact mayT_ok h
  · exact encT_ok h
  · exact decT_ok h
  · cases h
theorem EC_ok : EnvOk EC := EnvOk.with E0_ok _ _ conE_ok
theorem EL_ok : EnvOk EL := EnvOk.with E0_ok _ _ conE_ok
end Go.Proofs.Ytaagmmljhgabfaa
/- Of code: there and back again. No condition. -/
namespace Go.Proofs.Ytaagmmljhgabfaa
set_option linter.unusedSectionVars false
theorem encB_size (cs : Array Value) (off n : Nat) : (encB cs off n).size = 6 * n := by
  unfold encB
  rw [strOf_size, encL_len]; omega
theorem encB_at {cs : Array Value} {off n i t : Nat} {x : Int} (hi : i < n) (ht : t < 6) (hx : (six (ins cs off i))[t]? = some (u8V x)) (hr : 0 ≤ x ∧ x ≤ 255) : byteAt (encB cs off n) (6 * i + t) = x := by
  unfold encB
  rw [byteAt_strOf]
  have h := parts_at (f := fun i => six (ins cs off i)) (c := 6) (fun _ => rfl) hi ht
  have e : (encL cs off n)[6 * i + t]? = some (u8V x) := by
    rw [show 6 * i + t = i * 6 + t by omega, ← hx]
    exact h
  rw [e]
  show ((UInt8.ofNat x.toNat).toNat : Int) = x
  rw [UInt8.toNat_ofNat']
  omega
theorem six_at {cs : Array Value} {off n i : Nat} (hi : i < n) (hr : (ins cs off i).In) : insD (encB cs off n) i = ins cs off i := by
  obtain ⟨r1, r2, r3, r4, r5⟩ := hr
  obtain ⟨e1, e2⟩ := lohi_eq r5
  refine Ins.ext' (encB_at (t := 0) hi (by decide) rfl r1) (encB_at (t := 1) hi (by decide) rfl r2) (encB_at (t := 2) hi (by decide) rfl r3) (encB_at (t := 3) hi (by decide) rfl r4) ?_
  show word _ _ = _
  rw [encB_at (t := 4) (x := lo (ins cs off i).n) hi (by decide) rfl (by omega), encB_at (t := 5) (x := hiB (ins cs off i).n) hi (by decide) rfl (by omega), word_eq (by omega) (by omega)]
  omega
theorem dec_ins {s : ByteArray} {k i : Nat} (hi : i < k) : ins (decL s k).toArray 0 i = insD s i := (ins_dec s hi).1
theorem back_enc {s : ByteArray} {k : Nat} (hs : s.size = 6 * k) : encB (decL s k).toArray 0 k = s := by
  refine bytes_ext (by rw [encB_size, hs]) fun p hp => ?_
  rw [encB_size] at hp
  obtain ⟨i, t, hi, ht, rfl⟩ := place_of (c := 6) (n := k) (by decide) (by omega : p < k * 6)
  rw [show i * 6 + t = 6 * i + t by omega]
  have hd := dec_ins (s := s) hi
  have hb := fun j => byteAt_range s j
  have hw : word (byteAt s (6 * i + 4)) (byteAt s (6 * i + 5)) = _ := word_eq (hb _) (hb _)
  have hb4 := hb (6 * i + 4)
  have hb5 := hb (6 * i + 5)
  obtain ⟨e1, e2⟩ := lohi_eq (n := word (byteAt s (6 * i + 4)) (byteAt s (6 * i + 5))) (by omega)
  match t, ht with
  | 0, _ => exact encB_at hi (by decide) (by rw [hd]; rfl) (hb _)
  | 1, _ => exact encB_at hi (by decide) (by rw [hd]; rfl) (hb _)
  | 2, _ => exact encB_at hi (by decide) (by rw [hd]; rfl) (hb _)
  | 3, _ => exact encB_at hi (by decide) (by rw [hd]; rfl) (hb _)
  | 4, _ =>
    rw [encB_at (x := lo (word (byteAt s (6 * i + 4)) (byteAt s (6 * i + 5)))) hi (by decide) (by rw [hd]; rfl) (by omega), e1, hw]
    omega
  | 5, _ =>
    rw [encB_at (x := hiB (word (byteAt s (6 * i + 4)) (byteAt s (6 * i + 5)))) hi (by decide) (by rw [hd]; rfl) (by omega), e2, hw]
    omega
theorem mayV_congr {cs ds : Array Value} {off off' n : Nat} (h : ∀ i, i < n → ins cs off i = ins ds off' i) : mayV cs off n = mayV ds off' n := by
  rw [Bool.eq_iff_iff, mayV_iff, mayV_iff]
  exact ⟨fun ⟨a, b⟩ => ⟨a, fun i hi => by rw [← h i hi]; exact b i hi⟩, fun ⟨a, b⟩ => ⟨a, fun i hi => by rw [h i hi]; exact b i hi⟩⟩
section
variable {cs : Array Value} {off n : Nat} (hI : InsOk cs off n)
include hI
theorem enc_dec {i : Nat} (hi : i < n) : ins (decL (encB cs off n) n).toArray 0 i = ins cs off i := by
  rw [dec_ins hi, six_at hi (hI.2 i hi).2]
omit hI in
theorem enc_div : (encB cs off n).size / 6 = n := by rw [encB_size]; omega
theorem enc_decOk (hm : mayV cs off n = true) : decOk (encB cs off n) = true := by
  unfold decOk
  have h := (mayV_iff.1 hm).1
  rw [enc_div, decide_eq_true (by rw [encB_size]; omega), Bool.true_and, ← hm]
  exact mayV_congr fun i hi => enc_dec hI hi
end
end Go.Proofs.Ytaagmmljhgabfaa
/- Of code: what the reference's Of, May and Bytes answer. No condition. -/
namespace Go.Proofs.Ytaagmmljhgabfaa
set_option linter.unusedSectionVars false
set_option maxRecDepth 100000
def ofL (cs : Array Value) (off : Nat) : Nat → List Value := parts fun i => fiveR (ins cs off i)
def ofRow (cs : Array Value) (off n : Nat) : Array Value := (ofL cs off n).toArray
theorem ofL_len (cs : Array Value) (off n : Nat) : (ofL cs off n).length = n * 5 := parts_len (f := fun i => fiveR (ins cs off i)) (fun _ => rfl) n
theorem ofL_more (cs : Array Value) (off i : Nat) : (ofL cs off i).toArray ++ (fiveR (ins cs off i)).toArray = (ofL cs off (i + 1)).toArray := by
  show _ = (ofL cs off i ++ fiveR (ins cs off i)).toArray
  rw [List.append_toArray]
theorem ofL_at (cs : Array Value) (off : Nat) {n i t : Nat} (hi : i < n) (ht : t < 5) : (ofRow cs off n)[0 + i * 5 + t]? = (fiveR (ins cs off i))[t]? := by
  unfold ofRow
  rw [List.getElem?_toArray, Nat.zero_add]
  exact parts_at (f := fun i => fiveR (ins cs off i)) (fun _ => rfl) hi ht
theorem w64 {x : Int} (h : 0 ≤ x ∧ x ≤ 65535) : IntKind.i64.wrap x = x := Go.IntWalk.i64_in _ (by omega)
theorem of_row {cs : Array Value} {off n : Nat} (hI : InsOk cs off n) : RowOk (ofRow cs off n) 0 n ∧ ∀ i, i < n → ins (ofRow cs off n) 0 i = ins cs off i := by
  have key : ∀ i, i < n → (IsInt .i64 (ofRow cs off n) (0 + i * 5) ∧ IsInt .i64 (ofRow cs off n) (0 + i * 5 + 1) ∧ IsInt .i64 (ofRow cs off n) (0 + i * 5 + 2) ∧ IsInt .i64 (ofRow cs off n) (0 + i * 5 + 3) ∧ IsInt .i64 (ofRow cs off n) (0 + i * 5 + 4)) ∧ ins (ofRow cs off n) 0 i = ins cs off i := by
    intro i hi
    obtain ⟨_, r1, r2, r3, r4, r5⟩ := hI.2 i hi
    obtain ⟨a0, b0⟩ := intAt_is (ofL_at cs off (t := 0) hi (by decide))
    obtain ⟨a1, b1⟩ := intAt_is (ofL_at cs off (t := 1) hi (by decide))
    obtain ⟨a2, b2⟩ := intAt_is (ofL_at cs off (t := 2) hi (by decide))
    obtain ⟨a3, b3⟩ := intAt_is (ofL_at cs off (t := 3) hi (by decide))
    obtain ⟨a4, b4⟩ := intAt_is (ofL_at cs off (t := 4) hi (by decide))
    exact ⟨⟨b0, b1, b2, b3, b4⟩, Ins.ext' (a0.trans (w64 (by omega))) (a1.trans (w64 (by omega))) (a2.trans (w64 (by omega))) (a3.trans (w64 (by omega))) (a4.trans (w64 (by omega)))⟩
  exact ⟨⟨hI.1, fun i hi => (key i hi).1⟩, fun i hi => (key i hi).2⟩
theorem oT0_ok : TodoOk (ren 1 []) oT0 oT0 := TodoOk.same (by kernel_rfl)
theorem oH0_3 : TodoOk (ren 1 [(1, 3)]) oH0 oH0 := TodoOk.same (by kernel_rfl)
theorem oH0_4 : TodoOk (ren 1 [(1, 4)]) oH0 oH0 := TodoOk.same (by kernel_rfl)
theorem ofN_good {v : Bool} {off n : Nat} {cs : Array Value} {ty : TypeId} {A : SV → SMem → Prop} {Q : Int → Nat → Array Value → Prop} (hg : ∀ i k rs, Q i k rs → Good E9.P A 1 (headF (ofF v off n cs ty i k)) (ofM v cs ty rs)) {fs : List SFr} {m : SMem} (hb : ofN v off n cs ty Q fs m) : Good E9.P A 1 fs m := by
  unfold ofN at hb
  split at hb
  · split at hb
    · exact Good.of_sub hb.2 (hg _ _ _ hb.1)
    · exact hb.elim
  · exact hb.elim
theorem ofN0_good {v : Bool} {off n : Nat} {cs : Array Value} {ty : TypeId} {A : SV → SMem → Prop} {Q : Int → Prop} (hg : ∀ i, Q i → Good E9.P A 1 (gH E9 1 (ofC off n) (prM v cs ty) [(4, i64 (.o i))]) (gM E9 1 (ofC off n) (prM v cs ty) [])) {fs : List SFr} {m : SMem} (hb : ofN0 v off n cs ty Q fs m) : Good E9.P A 1 fs m := by
  unfold ofN0 at hb
  split at hb
  · split at hb
    · exact gN_good hb.2 (hg _ hb.1)
    · exact hb.elim
  · exact hb.elim
section
variable (v : Bool) (off n : Nat) (cs : Array Value) (ty : TypeId)
theorem of_step_v (kF : Nat) (rF : Array Value) (i : Int) (k : Nat) (rs : Array Value) (Q : Int → Nat → Array Value → Prop) : (ofS v off n cs ty i k rs).vc (ofA kF rF) (ofN v off n cs ty Q) = (ofS true off n cs ty i k rs).vc (ofA kF rF) (ofN true off n cs ty Q) := by
  cases v with
  | true => rfl
  | false => exact (of_step_p off n cs ty kF rF i k rs Q).trans (of_step_r off n cs ty kF rF i k rs Q).symm
theorem of_nil_v (kF : Nat) (rF : Array Value) (i : Int) (Q : Int → Nat → Array Value → Prop) : (gS E9 1 (ofC off n) (prM v cs ty) [(4, i64 (.o i))] []).vc (ofA kF rF) (ofN v off n cs ty Q) = (gS E9 1 (ofC off n) (prM true cs ty) [(4, i64 (.o i))] []).vc (ofA kF rF) (ofN true off n cs ty Q) := by
  cases v with
  | true => rfl
  | false => exact (of_nil_p off n cs ty kF rF i Q).trans (of_nil_r off n cs ty kF rF i Q).symm
theorem of_start_v (kF : Nat) (rF : Array Value) (Q : Int → Prop) : (gR E9 1 (ofC off n) (prM v cs ty)).vc (ofA kF rF) (ofN0 v off n cs ty Q) = (gR E9 1 (ofC off n) (prM true cs ty)).vc (ofA kF rF) (ofN0 true off n cs ty Q) := by
  cases v with
  | true => rfl
  | false => exact (of_start_p off n cs ty kF rF Q).trans (of_start_r off n cs ty kF rF Q).symm
variable (hI : InsOk cs off n) (h0 : n ≠ 0) (hn : n ≤ 200)
include hI h0 hn
theorem of_round : ∀ (K i : Nat), n - i < K → 1 ≤ i → i ≤ n → Good Try.prog (ofA n (ofRow cs off n)) 1 (headF (ofF v off n cs ty i i)) (ofM v cs ty (ofL cs off i).toArray) := by
  intro K
  induction K with
  | zero => intro i h; omega
  | succ K ih =>
    intro i hk h1 hi
    refine past_vc E9_ok 1000 ((of_step_v v off n cs ty n (ofRow cs off n) i i (ofL cs off i).toArray (fun i' k bs => ∃ j : Nat, i' = j ∧ n - j < K ∧ 1 ≤ j ∧ j ≤ n ∧ k = j ∧ bs = (ofL cs off j).toArray)).trans (of_step_r off n cs ty _ _ _ _ _ _)) ?_ (fun _ _ h => h)
      (fun fs m hb => ofN_good (fun i' k bs ⟨j, e, k1, k2, k3, k4, k5⟩ => by rw [e, k4, k5]; exact ih j k1 k2 k3) hb)
    have hsz : (ofL cs off i).toArray.size = i * 5 := by rw [List.size_toArray, ofL_len]
    refine ⟨fun h => ?_, fun h => ?_⟩
    · have hlt : i < n := by have := of_decide_eq_true h; omega
      obtain ⟨⟨i1, i2, i3, i4, i5⟩, _⟩ := hI.2 i hlt
      have eA : ari BinOp.add IntKind.i64 (i : Int) 1 = ((i + 1 : Nat) : Int) := by rw [ari_add, i64_nat (show i < 9223372036854775807 by omega)]
      rw [Int.toNat_natCast, eA]
      refine ⟨⟨⟨by omega, by omega⟩, trivial⟩, ⟨i1, i2, i3, i4, i5, trivial⟩, ⟨⟨by omega, by omega⟩, by rw [hsz], trivial⟩, ⟨i + 1, rfl, by omega, by omega, by omega, rfl, ofL_more cs off i⟩, ?_⟩
      repeat' first | exact trivial | exact oH0_4 | apply And.intro | exact rfl
    · have e : i = n := by have := of_decide_eq_false h; omega
      subst e
      repeat' first | exact trivial | apply And.intro | exact rfl
theorem of_first : Good Try.prog (ofA n (ofRow cs off n)) 1 (gH E9 1 (ofC off n) (prM v cs ty) [(4, i64 (.o 0))]) (gM E9 1 (ofC off n) (prM v cs ty) []) := by
  refine past_vc E9_ok 1000 ((of_nil_v v off n cs ty n (ofRow cs off n) 0 (fun i' k bs => i' = 1 ∧ k = 1 ∧ bs = (ofL cs off 1).toArray)).trans (of_nil_r off n cs ty _ _ _ _)) ?_ (fun _ _ h => h)
    (fun fs m hb => ofN_good (fun i' k bs ⟨e, k4, k5⟩ => by rw [e, k4, k5]; exact of_round v off n cs ty hI h0 hn (n + 1) 1 (by omega) (by omega) (by omega)) hb)
  refine ⟨fun h => ?_, fun h => ?_⟩
  · obtain ⟨⟨i1, i2, i3, i4, i5⟩, _⟩ := hI.2 0 (by omega)
    refine ⟨⟨⟨by omega, by omega⟩, trivial⟩, ⟨i1, i2, i3, i4, i5, trivial⟩, ⟨rfl, rfl, rfl⟩, ?_⟩
    repeat' first | exact trivial | exact oH0_3 | apply And.intro | exact rfl
  · have := of_decide_eq_false h; omega
theorem of_good : Good Try.prog (fun s m' => s = .s (.c (.f (.slice 1 (.l 0) (.o n) .any))) ∧ m' = ⟨2, Tr.nil.set 1 (some ⟨.pop (ofRow cs off n), 37, true⟩), []⟩) 1 (ofC off n) (prM v cs ty) := by
  refine Good.retX (Good.mono (run_vc E9_ok 1000 ((of_start_v v off n cs ty n (ofRow cs off n) (fun i => i = 0)).trans (of_start_r off n cs ty _ _ _)) ?_ (fun _ _ h => h)
    (fun fs m hb => ofN0_good (fun i e => by rw [e]; exact of_first v off n cs ty hI h0 hn) hb)) ?_)
  · repeat' first | exact trivial | exact oT0_ok | apply And.intro | exact rfl
  · intro s m h
    unfold ofA at h
    split at h
    · exact ⟨_, h⟩
    · exact h.elim
end
/-! The reference's May. -/
theorem rmT0_ok : TodoOk (ren 1 []) rmT0 rmT0 := TodoOk.same (by kernel_rfl)
theorem rmH0_ok : TodoOk (ren 1 []) rmH0 rmH0 := TodoOk.same (by kernel_rfl)
theorem rmN_good {h : Bool} {off n : Nat} {cs : Array Value} {ty : TypeId} {A : SV → SMem → Prop} {Q : Int → Prop} (hg : ∀ i, Q i → Good E9.P A 1 (gH E9 1 (rmC off n) (prM false cs ty) [(3, i64 (.o i))]) (gM E9 1 (rmC off n) (prM false cs ty) [])) {fs : List SFr} {m : SMem} (hb : rmN h off n cs ty Q fs m) : Good E9.P A 1 fs m := by
  unfold rmN at hb
  split at hb
  · split at hb
    · exact gN_good hb.2 (hg _ hb.1)
    · exact hb.elim
  · exact hb.elim
section
variable (off n : Nat) (cs : Array Value) (ty : TypeId) (hR : RowOk cs off n)
include hR
theorem rm_round (hn : n ≤ 64) : ∀ (k i : Nat), n - i < k → i ≤ n → (∀ j, j < i → (ins cs off j).okN n = true) → Good E9.P (boolR (mayV cs off n)) 1 (gH E9 1 (rmC off n) (prM false cs ty) [(3, i64 (.o i))]) (gM E9 1 (rmC off n) (prM false cs ty) []) := by
  intro k
  induction k with
  | zero => intro i h; omega
  | succ k ih =>
    intro i hk hi hd
    refine past_vc E9_ok 1000 (rm_step off n cs ty (mayV cs off n) i (fun i' => ∃ j : Nat, i' = j ∧ n - j < k ∧ j ≤ n ∧ ∀ t, t < j → (ins cs off t).okN n = true)) ?_ (fun _ _ h => h)
      (fun fs m hb => rmN_good (fun i' ⟨j, e, k1, k2, k3⟩ => by rw [e]; exact ih j k1 k2 k3) hb)
    refine ⟨fun h => ?_, fun h => ?_⟩
    · have hlt : i < n := by have := of_decide_eq_true h; omega
      obtain ⟨i1, i2, i3, i4, i5⟩ := hR.2 i hlt
      rw [Int.toNat_natCast]
      refine ⟨⟨⟨by omega, by omega⟩, trivial⟩, ⟨i1, i2, i3, i4, i5, trivial⟩, ?_⟩
      have hyes : (ins cs off i).okN n = true → ∃ j : Nat, ((i + 1 : Nat) : Int) = j ∧ n - j < k ∧ j ≤ n ∧ ∀ t, t < j → (ins cs off t).okN n = true := fun h => ⟨i + 1, rfl, by omega, by omega, fun t ht => by
        by_cases e : t = i
        · rw [e]; exact h
        · exact hd t (by omega)⟩
      have hno : ¬ (ins cs off i).okN n = true → false = mayV cs off n := fun h => by
        cases e : mayV cs off n with
        | false => rfl
        | true => exact (h ((mayV_iff.1 e).2 i hlt)).elim
      have eA : ari BinOp.add IntKind.i64 (i : Int) 1 = ((i + 1 : Nat) : Int) := by rw [ari_add, i64_nat (show i < 9223372036854775807 by omega)]
      rw [eA]
      generalize hYe : (∃ j : Nat, ((i + 1 : Nat) : Int) = j ∧ n - j < k ∧ j ≤ n ∧ ∀ t, t < j → (ins cs off t).okN n = true) = Y at hyes ⊢
      generalize hRe : (false = mayV cs off n) = Z at hno ⊢
      rw [Ins.okN_iff] at hyes hno
      simp only [ins] at hyes hno
      generalize intAt cs (off + i * 5) = xo at hyes hno ⊢
      generalize intAt cs (off + i * 5 + 1) = xa at hyes hno ⊢
      generalize intAt cs (off + i * 5 + 2) = xb at hyes hno ⊢
      generalize intAt cs (off + i * 5 + 3) = xc at hyes hno ⊢
      generalize intAt cs (off + i * 5 + 4) = xn at hyes hno ⊢
      simp only [eqI, beq_iff_eq, beq_eq_false_iff_ne, decide_eq_true_eq, decide_eq_false_iff_not, Bool.not_eq_eq_eq_not, Bool.not_true, Bool.not_false, ne_eq]
      clear hYe hRe ih hd
      repeat' first | apply And.intro | (intro hh)
      all_goals first | exact trivial | exact rmH0_ok | exact rfl | skip
      all_goals first | (refine hyes ?_; omega) | (refine hno ?_; omega) | skip
    · have h1 : ¬ i < n := by have := of_decide_eq_false h; omega
      exact (mayV_iff.2 ⟨hn, fun j hj => hd j (by omega)⟩).symm
theorem rm_good : Good Try.prog (boolR (mayV cs off n)) 1 (rmC off n) (prM false cs ty) := by
  refine run_vc E9_ok 1000 (rm_start off n cs ty (mayV cs off n) (fun i => i = 0 ∧ n ≤ 64)) ?_ (fun _ _ h => h)
    (fun fs m hb => rmN_good (fun i ⟨e, hn⟩ => by rw [e]; exact rm_round off n cs ty hR hn (n + 1) 0 (by omega) (by omega) (fun j hj => by omega)) hb)
  refine ⟨fun h => ?_, fun h => ?_⟩
  · have : ¬ n ≤ 64 := by have := of_decide_eq_true h; omega
    unfold mayV
    rw [decide_eq_false this]; rfl
  · have : n ≤ 64 := by have := of_decide_eq_false h; omega
    repeat' first | exact this | exact trivial | exact rmT0_ok | apply And.intro | exact rfl
end
/-! Its Bytes. -/
def byB (cs : Array Value) (off n : Nat) : ByteArray := strOf (parts (fun i => sixR (ins cs off i)) n)
theorem byB_size (cs : Array Value) (off n : Nat) : (byB cs off n).size = n * 6 := by
  unfold byB
  rw [strOf_size, parts_len (f := fun i => sixR (ins cs off i)) (c := 6) (fun _ => rfl)]
theorem strOf_append (a b : List Value) : strOf a ++ strOf b = strOf (a ++ b) := by
  apply ByteArray.ext
  rw [← Array.toList_inj, ByteArray.data_append, Array.toList_append, strOf_list, strOf_list, strOf_list, List.map_append]
theorem byB_more (cs : Array Value) (off i : Nat) : byB cs off i ++ strOf (sixR (ins cs off i)) = byB cs off (i + 1) := strOf_append _ _
theorem byT0_ok : TodoOk (ren 1 []) byT0 byT0 := TodoOk.same (by kernel_rfl)
theorem byH0_ok : TodoOk (ren 1 []) byH0 byH0 := TodoOk.same (by kernel_rfl)
theorem byN_good {h : Bool} {off n : Nat} {cs : Array Value} {ty : TypeId} {A : SV → SMem → Prop} {Q : Int → ByteArray → Prop} (hg : ∀ i s, Q i s → Good E9.P A 1 (gH E9 1 (byC off n) (prM false cs ty) [(4, i64 (.o i)), (3, strV s)]) (gM E9 1 (byC off n) (prM false cs ty) [])) {fs : List SFr} {m : SMem} (hb : byN h off n cs ty Q fs m) : Good E9.P A 1 fs m := by
  unfold byN at hb
  split at hb
  · split at hb
    · split at hb
      · exact gN_good hb.2 (hg _ _ hb.1)
      · exact hb.elim
    · exact hb.elim
  · exact hb.elim
section
variable (off n : Nat) (cs : Array Value) (ty : TypeId) (hR : RowOk cs off n) (hn : n ≤ 200)
include hR hn
theorem by_round : ∀ (K i : Nat), n - i < K → i ≤ n → Good E9.P (strA (byB cs off n)) 1 (gH E9 1 (byC off n) (prM false cs ty) [(4, i64 (.o i)), (3, strV (byB cs off i))]) (gM E9 1 (byC off n) (prM false cs ty) []) := by
  intro K
  induction K with
  | zero => intro i h; omega
  | succ K ih =>
    intro i hk hi
    refine past_vc E9_ok 1000 (by_step off n cs ty (byB cs off n) i (byB cs off i) (fun i' s => ∃ j : Nat, i' = j ∧ n - j < K ∧ j ≤ n ∧ s = byB cs off j)) ?_ (fun _ _ h => h)
      (fun fs m hb => byN_good (fun i' s ⟨j, e, k1, k2, k3⟩ => by rw [e, k3]; exact ih j k1 k2) hb)
    refine ⟨fun h => ?_, fun h => ?_⟩
    · have hlt : i < n := by have := of_decide_eq_true h; omega
      obtain ⟨i1, i2, i3, i4, i5⟩ := hR.2 i hlt
      have eA : ari BinOp.add IntKind.i64 (i : Int) 1 = ((i + 1 : Nat) : Int) := by rw [ari_add, i64_nat (show i < 9223372036854775807 by omega)]
      rw [Int.toNat_natCast, eA]
      refine ⟨⟨⟨by omega, by omega⟩, trivial⟩, ⟨i1, i2, i3, i4, i5, trivial⟩, ⟨by rw [byB_size, strOf_size]; simp only [List.length_cons, List.length_nil]; omega, trivial⟩, ⟨i + 1, rfl, by omega, by omega, byB_more cs off i⟩, ?_⟩
      repeat' first | exact trivial | exact byH0_ok | apply And.intro | exact rfl
    · have e : i = n := by have := of_decide_eq_false h; omega
      subst e
      exact rfl
theorem by_good : Good Try.prog (strA (byB cs off n)) 1 (byC off n) (prM false cs ty) := by
  refine run_vc E9_ok 1000 (by_start off n cs ty (byB cs off n) (fun i s => i = 0 ∧ s = byB cs off 0)) ?_ (fun _ _ h => h)
    (fun fs m hb => byN_good (fun i s ⟨e, h⟩ => by rw [e, h]; exact by_round off n cs ty hR hn (n + 1) 0 (by omega) (by omega)) hb)
  repeat' first | exact trivial | exact byT0_ok | apply And.intro | exact rfl
end
theorem by_enc {cs ds : Array Value} {off off' n : Nat} (h : ∀ i, i < n → ins ds off' i = ins cs off i ∧ (ins cs off i).In) : byB ds off' n = encB cs off n := by
  unfold byB encB encL
  congr 1
  induction n with
  | zero => rfl
  | succ n ih =>
    unfold parts
    rw [ih fun i hi => h i (by omega), (h n (by omega)).1]
    obtain ⟨r1, r2, r3, r4, r5⟩ := (h n (by omega)).2
    have u8 : ∀ x : Int, 0 ≤ x ∧ x ≤ 255 → IntKind.u8.wrap x = x := fun x hx => by
      have := (lohi_eq (n := x) (by omega)).1
      rw [show IntKind.u8.wrap x = lo x from rfl, this]; omega
    obtain ⟨e1, e2⟩ := lohi_eq r5
    have e3 : ari .rem .i64 (ins cs off n).n 256 = (ins cs off n).n % 256 := by rw [ari_rem, Int.tmod_eq_emod_of_nonneg (by omega)]
    have e4 : ari .quo .i64 (ins cs off n).n 256 = (ins cs off n).n / 256 := by
      rw [ari_quo, Int.tdiv_eq_ediv_of_nonneg (by omega)]
      exact w64 (by omega)
    have e5 : IntKind.u8.wrap (ins cs off n).n = (ins cs off n).n % 256 := e1
    have e6 : IntKind.u8.wrap (ari .shr .u16 (ins cs off n).n 8) = (ins cs off n).n / 256 := e2
    unfold sixR six
    rw [e3, e4, e5, e6, u8 _ r1, u8 _ r2, u8 _ r3, u8 _ r4, u8 _ (by omega), u8 _ (by omega)]
end Go.Proofs.Ytaagmmljhgabfaa
/- Of code: what the reference's Decode answers. No condition. -/
namespace Go.Proofs.Ytaagmmljhgabfaa
set_option linter.unusedSectionVars false
set_option maxRecDepth 100000
/-! The reference's May, as a contract. -/
theorem rowR_of {m : SMem} {i : Nat} {cs : Array Value} (h : rowR m i = some cs) : ∃ ty wr, getB m.bl i = some ⟨.pop cs, ty, wr⟩ := by
  unfold rowR at h
  split at h
  · rename_i e; cases h; exact ⟨_, _, e⟩
  · cases h
theorem Con.rowR {g : FuncId} {fn : Func} {c : Code} {m : SMem} {i : Nat} {o n : SN} {cap : SK} {cs : Array Value} {q : List Prop} {s0 : SV} {A : SV → SMem → Prop} (h1 : E0.fn g = some fn) (h2 : fn.body = some c) (hr : rowR m i = some cs)
    (good : ∀ ty, (∀ p ∈ q, p) → Good Try.prog A 1 [callFr g fn.ntmps [prS o.den n.den] c] (prM false cs ty)) (hs : ∀ s m' R R' v, A s m' → s.ok R' v → s0.ok R v) :
    Con E0 g [.s (.c (.f (.slice i o n cap)))] m (needs q (.ret s0 m)) := by
  obtain ⟨ty, wr, hb⟩ := rowR_of hr
  refine Con.ro E0_ok (l' := [prS o.den n.den]) (ms := prM false cs ty) (A := A) h1 h2 rfl (fun _ => i) ?_ ?_ (good ty) hs
  · intro j b hj
    obtain ⟨rfl, rfl⟩ := prM_get hj
    exact ⟨Nat.zero_lt_one, rfl, _, hb, rfl, fun R cs' h => h⟩
  · intro R vs ha
    match vs, ha with
    | [x], ha =>
      obtain ⟨⟨gl, cp, e1, e2, e3, e4⟩, _⟩ := ha
      exact ⟨⟨gl, cp, by unfold pull; exact e1, e2, trivial, e4⟩, trivial⟩
theorem fn7 : E0.fn 7 = some Try.f7 := by kernel_rfl
theorem body7 : Try.f7.body = some (Try.f7.body.getD .skip) := by kernel_rfl
theorem rm_nil : (run E0 1000 0 [callFr 7 Try.f7.ntmps [nilV] (Try.f7.body.getD .skip)] ⟨0, .nil, []⟩).allTrue = true := by kernel_rfl
theorem bool_ok {b : Bool} {s : SV} {m' : SMem} {R R' : Ren} {v : Value} (h : boolR b s m') (hv : s.ok R' v) : (sB (.o b)).ok R v := by
  unfold boolR at h
  split at h
  · have hv : v = .bool _ := hv
    rw [hv, h]; rfl
  · exact h.elim
theorem mayRT_ok {m : SMem} {x : SV} {t : Tree} (h : mayRT m x = some t) : Con E0 7 [x] m t := by
  unfold mayRT at h
  split at h
  · cases h
    exact Con.pure (q := []) E0_ok fn7 body7 (by kernel_rfl) (by kernel_rfl) fun _ => good_true E0_ok rm_nil
  · split at h
    · rename_i o n cap _ cs e
      cases h
      exact Con.rowR fn7 body7 e (A := boolR (mayV cs o.den n.den)) (fun ty hq => rm_good o.den n.den cs ty (hq _ (List.mem_cons_self ..))) fun _ _ _ _ _ => bool_ok
    · cases h
  · cases h
theorem con7_ok (g : FuncId) (l : List SV) (m : SMem) (t : Tree) (h : con7 g l m = some t) : Con E0 g l m t := by
  unfold con7 at h
  split at h
  · exact mayRT_ok h
  · cases h
theorem E7_ok : EnvOk E7 := EnvOk.with E0_ok _ _ con7_ok
/-! Its Decode. -/
def fiveD (s : ByteArray) (j : Nat) : List Value := [i64V (IntKind.i64.wrap (byteAt s (6 * j))), i64V (IntKind.i64.wrap (byteAt s (6 * j + 1))), i64V (IntKind.i64.wrap (byteAt s (6 * j + 2))), i64V (IntKind.i64.wrap (byteAt s (6 * j + 3))), i64V (ari .add .i64 (IntKind.i64.wrap (byteAt s (6 * j + 4))) (ari .mul .i64 256 (IntKind.i64.wrap (byteAt s (6 * j + 5)))))]
def rdQ (s : ByteArray) : Nat → List Value := parts (fiveD s)
def rdRow (s : ByteArray) : Array Value := (rdQ s (s.size / 6)).toArray
theorem rdQ_len (s : ByteArray) (n : Nat) : (rdQ s n).length = n * 5 := parts_len (f := fiveD s) (fun _ => rfl) n
theorem rdQ_more (s : ByteArray) (i : Nat) : (rdQ s i).toArray ++ (fiveD s i).toArray = (rdQ s (i + 1)).toArray := by
  show _ = (rdQ s i ++ fiveD s i).toArray
  rw [List.append_toArray]
theorem rdQ_at (s : ByteArray) {n i t : Nat} (hi : i < n) (ht : t < 5) : (rdQ s n).toArray[0 + i * 5 + t]? = (fiveD s i)[t]? := by
  rw [List.getElem?_toArray, Nat.zero_add]
  exact parts_at (f := fiveD s) (fun _ => rfl) hi ht
theorem rd_row (s : ByteArray) {n : Nat} (hn : n < 9223372036854775807) : RowOk (rdQ s n).toArray 0 n ∧ ∀ i, i < n → ins (rdQ s n).toArray 0 i = insD s i := by
  have key : ∀ i, i < n → (IsInt .i64 (rdQ s n).toArray (0 + i * 5) ∧ IsInt .i64 (rdQ s n).toArray (0 + i * 5 + 1) ∧ IsInt .i64 (rdQ s n).toArray (0 + i * 5 + 2) ∧ IsInt .i64 (rdQ s n).toArray (0 + i * 5 + 3) ∧ IsInt .i64 (rdQ s n).toArray (0 + i * 5 + 4)) ∧ ins (rdQ s n).toArray 0 i = insD s i := by
    intro i hi
    have hb := fun j => byteAt_range s j
    have h0 := hb (6 * i)
    have h1 := hb (6 * i + 1)
    have h2 := hb (6 * i + 2)
    have h3 := hb (6 * i + 3)
    have h4 := hb (6 * i + 4)
    have h5 := hb (6 * i + 5)
    obtain ⟨a0, b0⟩ := intAt_is (rdQ_at s (t := 0) hi (by decide))
    obtain ⟨a1, b1⟩ := intAt_is (rdQ_at s (t := 1) hi (by decide))
    obtain ⟨a2, b2⟩ := intAt_is (rdQ_at s (t := 2) hi (by decide))
    obtain ⟨a3, b3⟩ := intAt_is (rdQ_at s (t := 3) hi (by decide))
    obtain ⟨a4, b4⟩ := intAt_is (rdQ_at s (t := 4) hi (by decide))
    refine ⟨⟨b0, b1, b2, b3, b4⟩, Ins.ext' (a0.trans (w64 (by omega))) (a1.trans (w64 (by omega))) (a2.trans (w64 (by omega))) (a3.trans (w64 (by omega))) (a4.trans ?_)⟩
    show _ = word _ _
    rw [word_eq h4 h5, ari_add, ari_mul, w64 (x := byteAt s (6 * i + 4)) (by omega), w64 (x := byteAt s (6 * i + 5)) (by omega), w64 (x := 256 * byteAt s (6 * i + 5)) (by omega), w64 (by omega)]
  exact ⟨⟨hn, fun i hi => (key i hi).1⟩, fun i hi => (key i hi).2⟩
def refOk (s : ByteArray) : Bool := decide (s.size % 6 = 0) && mayV (rdRow s) 0 (s.size / 6)
theorem cut_size (s : ByteArray) (a : Nat) : (s.extract a s.size).size = s.size - a := by rw [ByteArray.size_extract]; omega
theorem cut_cut (s : ByteArray) (a : Nat) : (s.extract a s.size).extract 6 (s.extract a s.size).size = s.extract (a + 6) s.size := by
  refine bytes_ext (by rw [cut_size, cut_size, cut_size]; omega) fun i _ => ?_
  rw [byteAt_cut, byteAt_cut, byteAt_cut, Nat.add_assoc]
theorem rdT0_ok : TodoOk (ren 0 []) rdT0 rdT0 := TodoOk.same (by kernel_rfl)
theorem rdH_1 : TodoOk (ren 0 [(0, 1)]) rdH00 rdH00 := TodoOk.same (by kernel_rfl)
theorem rdH_2 : TodoOk (ren 0 [(0, 2)]) rdH00 rdH00 := TodoOk.same (by kernel_rfl)
theorem rdN0_good {s : ByteArray} {A : SV → SMem → Prop} {Q : ByteArray → Prop} (hg : ∀ t, Q t → Good E7.P A 0 (rdH0 s t) M0) {fs : List SFr} {m : SMem} (hb : rdN0 s Q fs m) : Good E7.P A 0 fs m := by
  unfold rdN0 at hb
  split at hb
  · split at hb
    · split at hb
      · exact Good.of_sub hb.2 (Good.head (hg _ hb.1))
      · exact hb.elim
    · exact hb.elim
  · exact hb.elim
theorem rdN1_good {s : ByteArray} {A : SV → SMem → Prop} {Q : ByteArray → Nat → Array Value → Prop} (hg : ∀ t k rs, Q t k rs → Good E7.P A 0 (rdH1 s t k) (rdM1 rs)) {fs : List SFr} {m : SMem} (hb : rdN1 s Q fs m) : Good E7.P A 0 fs m := by
  unfold rdN1 at hb
  split at hb
  · split at hb
    · split at hb
      · exact Good.of_sub hb.2 (hg _ _ _ hb.1)
      · exact hb.elim
    · exact hb.elim
  · exact hb.elim
section
variable (s : ByteArray) (h0 : s.size ≠ 0) (hs : s.size ≤ 1000)
include h0 hs
theorem rd_round : ∀ (K j : Nat), s.size / 6 - j < K → 1 ≤ j → 6 * j ≤ s.size → Good Try.prog (rdAn (refOk s) (s.size / 6) (rdRow s)) 0 (rdH1 s (s.extract (6 * j) s.size) j) (rdM1 (rdQ s j).toArray) := by
  intro K
  induction K with
  | zero => intro j h; omega
  | succ K ih =>
    intro j hk h1 hj
    refine past_vc E7_ok 1000 (rd_step s (s.extract (6 * j) s.size) (refOk s) (s.size / 6) (rdRow s) j (rdQ s j).toArray (fun t k rs => ∃ i : Nat, t = s.extract (6 * i) s.size ∧ s.size / 6 - i < K ∧ 1 ≤ i ∧ 6 * i ≤ s.size ∧ k = i ∧ rs = (rdQ s i).toArray)) ?_ (fun _ _ h => h)
      (fun fs m hb => rdN1_good (fun t k rs ⟨i, e1, k1, k2, k3, k4, k5⟩ => by rw [e1, k4, k5]; exact ih i k1 k2 k3) hb)
    have hls : (rdQ s j).toArray.size = j * 5 := by rw [List.size_toArray, rdQ_len]
    rw [cut_cut, cut_size]
    simp only [byteAt_cut]
    refine ⟨fun h => ?_, fun h => ?_⟩
    · have hlt : 6 ≤ s.size - 6 * j := by have := of_decide_eq_true h; omega
      refine ⟨⟨⟨by omega, by omega⟩, trivial⟩, ⟨⟨by omega, by omega⟩, trivial⟩, ⟨⟨by omega, by omega⟩, trivial⟩, ⟨⟨by omega, by omega⟩, trivial⟩, ⟨⟨by omega, by omega⟩, trivial⟩, ⟨⟨by omega, by omega⟩, trivial⟩, ⟨⟨by omega, by omega⟩, by rw [hls], trivial⟩, ⟨hlt, trivial⟩, ⟨j + 1, rfl, by omega, by omega, by omega, rfl, rdQ_more s j⟩, ?_⟩
      repeat' first | exact trivial | exact rdH_2 | apply And.intro | exact rfl
    · have hlt : s.size - 6 * j < 6 := by have := of_decide_eq_false h; omega
      have e : j = s.size / 6 := by omega
      refine ⟨fun h2 => ?_, fun h2 => ?_⟩
      · have hz : s.size % 6 = 0 := by
          have h2 : decide (((s.size - 6 * j : Nat) : Int) > 0) = false := by simpa only [beq_iff_eq] using h2
          have := of_decide_eq_false h2
          omega
        have hr : refOk s = mayV (rdQ s j).toArray 0 j := by
          unfold refOk rdRow
          rw [← e, decide_eq_true hz, Bool.true_and]
        have e2 : rdRow s = (rdQ s j).toArray := by unfold rdRow; rw [← e]
        rw [hr, e2, ← e]
        refine ⟨⟨(rd_row s (n := j) (by omega)).1, trivial⟩, ⟨fun hm => ⟨trivial, ?_⟩, fun hm => ⟨?_, ?_⟩⟩⟩
        · simpa using hm
        · simpa using hm
        · repeat' first | exact trivial | apply And.intro | exact rfl
      · have hz : s.size % 6 ≠ 0 := by
          have h2 : decide (((s.size - 6 * j : Nat) : Int) > 0) = true := by
            cases hd : decide (((s.size - 6 * j : Nat) : Int) > 0) with
            | true => rfl
            | false => rw [hd] at h2; cases h2
          have := of_decide_eq_true h2
          omega
        have hr : refOk s = false := by
          unfold refOk
          rw [decide_eq_false hz]; rfl
        exact ⟨trivial, hr⟩
theorem rd_first : Good Try.prog (rdAn (refOk s) (s.size / 6) (rdRow s)) 0 (rdH0 s s) M0 := by
  refine past_vc E7_ok 1000 (rd_nil s s (refOk s) (s.size / 6) (rdRow s) (fun t k rs => 6 ≤ s.size ∧ t = s.extract (6 * 1) s.size ∧ k = 1 ∧ rs = (rdQ s 1).toArray)) ?_ (fun _ _ h => h)
    (fun fs m hb => rdN1_good (fun t k rs ⟨h6, e1, k4, k5⟩ => by rw [e1, k4, k5]; exact rd_round s h0 hs (s.size + 1) 1 (by omega) (by omega) (by omega)) hb)
  refine ⟨fun h => ?_, fun h => ?_⟩
  · have hlt : 6 ≤ s.size := by have := of_decide_eq_true h; omega
    refine ⟨⟨⟨by omega, by omega⟩, trivial⟩, ⟨⟨by omega, by omega⟩, trivial⟩, ⟨⟨by omega, by omega⟩, trivial⟩, ⟨⟨by omega, by omega⟩, trivial⟩, ⟨⟨by omega, by omega⟩, trivial⟩, ⟨⟨by omega, by omega⟩, trivial⟩, ⟨hlt, trivial⟩, ⟨hlt, rfl, rfl, rfl⟩, ?_⟩
    repeat' first | exact trivial | exact rdH_1 | apply And.intro | exact rfl
  · have hlt : s.size < 6 := by have := of_decide_eq_false h; omega
    have hr : refOk s = false := by
      unfold refOk
      rw [decide_eq_false (by omega)]; rfl
    refine ⟨fun h2 => ?_, fun h2 => ⟨rfl, hr⟩⟩
    have h2 : decide ((s.size : Int) > 0) = false := by
      cases hd : decide ((s.size : Int) > 0) with
      | false => rfl
      | true => rw [hd] at h2; cases h2
    have := of_decide_eq_false h2
    omega
theorem rd_all : Good Try.prog (rdAn (refOk s) (s.size / 6) (rdRow s)) 0 (rdC s) M0 := by
  refine run_vc E7_ok 1000 (rd_start s (refOk s) (s.size / 6) (rdRow s) (fun t => t = s)) ?_ (fun _ _ h => h)
    (fun fs m hb => rdN0_good (fun t e => by rw [e]; exact rd_first s h0 hs) hb)
  repeat' first | exact trivial | exact rdT0_ok | apply And.intro | exact rfl
end
theorem refOk_eq (s : ByteArray) (hs : s.size ≤ 1000) : refOk s = decOk s := by
  unfold refOk decOk
  have hm : mayV (rdRow s) 0 (s.size / 6) = mayV (decL s (s.size / 6)).toArray 0 (s.size / 6) :=
    mayV_congr fun i hi => by rw [dec_ins hi]; exact (rd_row s (by omega)).2 i hi
  rw [hm]
  cases e : mayV (decL s (s.size / 6)).toArray 0 (s.size / 6) with
  | false => rw [Bool.and_false, Bool.and_false]
  | true =>
    rw [Bool.and_true, Bool.and_true]
    have := (mayV_iff.1 e).1
    apply decide_eq_decide.2
    omega
end Go.Proofs.Ytaagmmljhgabfaa
/- Of code: CodeBack's states. No condition. -/
namespace Go.Proofs.Ytaagmmljhgabfaa
noncomputable section
def Eh (a c : Bool) : Env := ⟨Try.prog, fnOf, conE, fun _ _ x => isLoop x && ((a && Nat.beq (loopId x) 11) || (c && Nat.beq (loopId x) 20))⟩
def e0V : SV := .s (.c (.f .e0))
def litE : SV := .s (.c (.f (.lit (.string ⟨⟨[]⟩⟩))))
def M1 : SMem := ⟨1, .nil, []⟩
def backC (x y : SV) : List SFr := [callFr 4 Try.f4.ntmps [x, y] (Try.f4.body.getD .skip)]
def bk (w : Bool) (off n : Nat) (cs : Array Value) (ty : TypeId) (b : ByteArray) : Tree := run (Eh true w) 1000 1 (backC (prS off n) (cond w (strV b) litE)) (prM true cs ty)
def b11F (w : Bool) (off n : Nat) (cs : Array Value) (ty : TypeId) (b : ByteArray) (i : Int) : List SFr := setSl [(9, i64 (.o i))] (((bk w off n cs ty b).fsAt 11).map SFr.bare)
def b11M (w : Bool) (off n : Nat) (cs : Array Value) (ty : TypeId) (b : ByteArray) : SMem := ((bk w off n cs ty b).memAt 11).bare
def b20F (b : ByteArray) (i e : Int) (s : ByteArray) (k : Nat) : List SFr := setSl [(1, strV b), (10, .s (.c (.f (.slice 1 (.l 0) (.o k) .any)))), (12, strV s), (13, i64 (.o e)), (14, i64 (.o i))]
  (dropSl (List.range 150) (((run (Eh false true) 1000 1 (backC e0V (strV b)) M1).fsAt 20).map SFr.bare))
def b20M (cs : Array Value) : SMem := ⟨2, Tr.nil.set 1 (some ⟨.pop cs, 41, true⟩), []⟩
def lid : List SFr → Nat
  | f :: _ => match f.todo with
    | x :: _ => loopId x
    | [] => 0
  | [] => 0
def n20 (h : Bool) (b : ByteArray) (Q : Int → Int → ByteArray → Nat → Array Value → Prop) (fs : List SFr) (m : SMem) : Prop := match fs with
  | f :: _ => match rdI f 14, rdI f 13, f.tm.get 12, rdS f 10 m with
    | some i, some e, some x, some (some (sid, k, cs)) => match strS x with
      | some (_, s) => Q i e s k cs ∧ subOk 1 [(1, sid)] ((cond h headF id) (b20F b i e s k)) (b20M cs) fs m
      | none => False
    | _, _, _, _ => False
  | [] => False
def n11 (h w : Bool) (off n : Nat) (cs : Array Value) (ty : TypeId) (b : ByteArray) (Q : Int → Prop) (fs : List SFr) (m : SMem) : Prop := match fs with
  | f :: _ => match rdI f 9 with
    | some i => Q i ∧ subOk 1 [(1, 1)] ((cond h headF id) (b11F w off n cs ty b i)) (b11M w off n cs ty b) fs m
    | none => False
  | [] => False
def nB (h w : Bool) (off n : Nat) (cs : Array Value) (ty : TypeId) (b : ByteArray) (Q : Int → Prop) (Q2 : Int → Int → ByteArray → Nat → Array Value → Prop) (fs : List SFr) (m : SMem) : Prop := match Nat.beq (lid fs) 11 with
  | true => n11 h w off n cs ty b Q fs m
  | false => n20 false b Q2 fs m
def bT11 : List SIt := headTd (b11F true 0 0 #[] 0 .empty 0)
def bH11 : List SIt := headTd (headF (b11F true 0 0 #[] 0 .empty 0))
def bT20 : List SIt := headTd (b20F .empty 0 0 .empty 0)
def bH20 : List SIt := headTd (headF (b20F .empty 0 0 .empty 0))
end
end Go.Proofs.Ytaagmmljhgabfaa
/- Of code: the reference's functions' contracts, and CodeTells' states. No condition. -/
namespace Go.Proofs.Ytaagmmljhgabfaa
set_option linter.unusedSectionVars false
set_option maxRecDepth 100000
noncomputable section
def ofT (m : SMem) : SV → Option Tree
  | .s (.c (.f (.lit (.slice none 0 0)))) => some (.ret nilV m)
  | .s (.c (.f .e0)) => some (.ret nilV m)
  | .s (.c (.f (.slice i o n _))) => match rowI m i with
    | some cs => some (needs [InsOk cs o.den n.den, n.den ≠ 0, n.den ≤ 200] (.ret (.s (.c (.f (.slice m.next (.l 0) (.o n.den) .any)))) (m.new (.pop (ofRow cs o.den n.den)) 37)))
    | none => none
  | _ => none
def byT (m : SMem) : SV → Option Tree
  | .s (.c (.f (.lit (.slice none 0 0)))) => some (.ret litE m)
  | .s (.c (.f (.slice i o n _))) => match rowR m i with
    | some cs => some (needs [RowOk cs o.den n.den, n.den ≤ 200] (.ret (strV (byB cs o.den n.den)) m))
    | none => none
  | _ => none
def nilB (b : Bool) : SV := .tup [.c (.f (.lit (.slice none 0 0))), .c (.f (.bool (.l b)))]
def rdT (m : SMem) : SV → Option Tree
  | .s (.c (.f (.lit (.string ⟨⟨[]⟩⟩)))) => some (.ret (nilB true) m)
  | .s (.c (.f (.opq (.string s)))) => some (needs [s.size ≠ 0, s.size ≤ 1000] (.br (refOk s) (.ret (.tup [.c (.f (.slice m.next (.l 0) (.o (sizeD s)) .any)), .c (.f (.bool (.l true)))]) (m.new (.pop (rdRow s)) 37)) (.ret (nilB false) m)))
  | _ => none
def conT (g : FuncId) (l : List SV) (m : SMem) : Option Tree := match g, l with
  | 5, [] => some (needs [] (.ret (sB (.l true)) m))
  | 9, [x] => mayT m x
  | 6, [x] => encT m x
  | 11, [x] => decT m x
  | 7, [x] => mayRT m x
  | 8, [x] => ofT m x
  | 10, [x] => byT m x
  | 12, [x] => rdT m x
  | _, _ => none
def Et (a : Bool) : Env := ⟨Try.prog, fnOf, conT, fun _ _ x => isLoop x && (a && Nat.beq (loopId x) 13)⟩
def tellC (x y : SV) : List SFr := [callFr 3 Try.f3.ntmps [x, y] (Try.f3.body.getD .skip)]
def tB (b : ByteArray) : List SFr := dropSl (List.range 150) (((run (Et true) 1000 1 (tellC e0V (strV b)) M1).fsAt 13).map SFr.bare)
def tF0 (b : ByteArray) (i : Int) : List SFr := setSl [(10, nilV), (12, nilV), (13, i64 (.o i))] (tB b)
def tF1 (b : ByteArray) (i : Int) (k k' : Nat) : List SFr := setSl [(10, .s (.c (.f (.slice 1 (.l 0) (.o k) .any)))), (12, .s (.c (.f (.slice 2 (.l 0) (.o k') .any)))), (13, i64 (.o i))] (tB b)
def tM (rs ds : Array Value) : SMem := ⟨3, (Tr.nil.set 1 (some ⟨.pop rs, 37, true⟩)).set 2 (some ⟨.pop ds, 37, true⟩), []⟩
def nT (h : Bool) (b : ByteArray) (Q0 : Int → Prop) (Q : Int → Nat → Array Value → Nat → Array Value → Prop) (fs : List SFr) (m : SMem) : Prop := match fs with
  | f :: _ => match rdI f 13, rdS f 10 m, rdS f 12 m with
    | some i, some none, some none => Q0 i ∧ subOk 1 [] ((cond h headF id) (tF0 b i)) M1 fs m
    | some i, some (some (s1, k, rs)), some (some (s2, k', ds)) => Q i k rs k' ds ∧ subOk 1 [(1, s1), (2, s2)] ((cond h headF id) (tF1 b i k k')) (tM rs ds) fs m
    | _, _, _ => False
  | [] => False
def tT0 : List SIt := headTd (tF0 .empty 0)
def tH0 : List SIt := headTd (headF (tF0 .empty 0))
end
end Go.Proofs.Ytaagmmljhgabfaa
