/- Of code: May: its loop's states. No condition. -/
import Derived.Test.YtebkbihhnoellaaE1
import Derived.Test.YtebkbihhnoellaaK15
import Derived.Test.YtebkbihhnoellaaK14c
import Derived.IntWalk
import Derived.Test.YtebkbihhnoellaaK19
import Derived.Test.YtebkbihhnoellaaK24
set_option linter.unusedVariables false
set_option linter.unusedSimpArgs false
namespace Go.Proofs.Ytebkbihhnoellaa
noncomputable section
def EM : Env := ⟨Try.prog, fnOf, fun _ _ _ => none, fun _ f x => Nat.beq f 43 && isLoop x⟩
theorem EM_ok : EnvOk EM := EnvOk.with E0_ok _ _ fun _ _ _ _ h => by cases h
/-- Instructions that only are read: known whole, or as a beginning. -/
def prA (v : Bool) (cs : Array Value) : SA := cond v (.raw cs) (.pop cs)
def prM (v : Bool) (cs : Array Value) (ty : TypeId) : SMem := ⟨1, (Tr.nil : Tr SBlk).set 0 (some ⟨prA v cs, ty, false⟩), []⟩
def prS (off n : Nat) : SV := .s (.c (.f (.slice 0 (.o off) (.o n) .any)))
def mayC (off n : Nat) : List SFr := [callFr 25 Try.f25.ntmps [prS off n] (Try.f25.body.getD .skip)]
def mayN (h v : Bool) (off n : Nat) (cs : Array Value) (ty : TypeId) (Q : Int → Prop) (fs : List SFr) (m : SMem) : Prop := match fs with
  | f :: _ => match rdI f 8 with
    | some i => Q i ∧ gN EM 1 (mayC off n) (prM v cs ty) h [(8, i64 (.o i))] [] fs m
    | none => False
  | [] => False
def boolR (b : Bool) (s : SV) (_ : SMem) : Prop := match s with
  | .s (.c (.f (.bool x))) => x.den = b
  | _ => False
def mT0 : List SIt := headTd (gF EM 1 (mayC 0 0) (prM true #[] 0) [])
def mH0 : List SIt := headTd (gH EM 1 (mayC 0 0) (prM true #[] 0) [])
def mT1 : List SIt := headTd ((gF EM 1 (mayC 0 0) (prM true #[] 0) []).drop 1)
def mT2 : List SIt := headTd ((gF EM 1 (mayC 0 0) (prM true #[] 0) []).drop 2)
end
end Go.Proofs.Ytebkbihhnoellaa
/- Of code: the rounds of May, as propositions. No condition. -/
namespace Go.Proofs.Ytebkbihhnoellaa
set_option maxRecDepth 100000
theorem may_start_r (off n : Nat) (cs : Array Value) (ty : TypeId) (r : Bool) (Q : Int → Prop) : (gR EM 1 (mayC off n) (prM true cs ty)).vc (boolR r) (mayN false true off n cs ty Q) =
    (((decide ((↑n : Int) ≤ (64 : Int)) == true) = true → Q (0 : Int) ∧ CallKind.normal = CallKind.normal ∧ TodoOk (ren 1 [(1, 1)]) mT0 mT0 ∧ off = off ∧ n = n ∧ Fn.func (36 : Nat) = Fn.func (36 : Nat) ∧ (↑n : Int) = (↑n : Int) ∧ (0 : Int) = (0 : Int) ∧ off = off ∧ n = n ∧ CallKind.normal = CallKind.normal ∧ TodoOk (ren 1 [(1, 1)]) mT1 mT1 ∧ off = off ∧ n = n ∧ Fn.func (36 : Nat) = Fn.func (36 : Nat) ∧ off = off ∧ n = n ∧ Fn.func (36 : Nat) = Fn.func (36 : Nat) ∧ CallKind.normal = CallKind.normal ∧ TodoOk (ren 1 [(1, 1)]) mT2 mT2 ∧ off = off ∧ n = n ∧ Fn.func (36 : Nat) = Fn.func (36 : Nat) ∧ decide ((↑n : Int) ≤ (64 : Int)) = decide ((↑n : Int) ≤ (64 : Int)) ∧ off = off ∧ n = n ∧ off = off ∧ n = n ∧ Fn.func (36 : Nat) = Fn.func (36 : Nat) ∧ (↑n : Int) = (↑n : Int) ∧ Fn.func (36 : Nat) = Fn.func (36 : Nat) ∧ ty = ty ∧ cs = cs ∧ (22 : Nat) = (22 : Nat) ∧ off = off ∧ n = n ∧ True) ∧ ((decide ((↑n : Int) ≤ (64 : Int)) == true) = false → false = r)) := by kernel_rfl
theorem may_start_p (off n : Nat) (cs : Array Value) (ty : TypeId) (r : Bool) (Q : Int → Prop) : (gR EM 1 (mayC off n) (prM false cs ty)).vc (boolR r) (mayN false false off n cs ty Q) =
    (((decide ((↑n : Int) ≤ (64 : Int)) == true) = true → Q (0 : Int) ∧ CallKind.normal = CallKind.normal ∧ TodoOk (ren 1 [(1, 1)]) mT0 mT0 ∧ off = off ∧ n = n ∧ Fn.func (36 : Nat) = Fn.func (36 : Nat) ∧ (↑n : Int) = (↑n : Int) ∧ (0 : Int) = (0 : Int) ∧ off = off ∧ n = n ∧ CallKind.normal = CallKind.normal ∧ TodoOk (ren 1 [(1, 1)]) mT1 mT1 ∧ off = off ∧ n = n ∧ Fn.func (36 : Nat) = Fn.func (36 : Nat) ∧ off = off ∧ n = n ∧ Fn.func (36 : Nat) = Fn.func (36 : Nat) ∧ CallKind.normal = CallKind.normal ∧ TodoOk (ren 1 [(1, 1)]) mT2 mT2 ∧ off = off ∧ n = n ∧ Fn.func (36 : Nat) = Fn.func (36 : Nat) ∧ decide ((↑n : Int) ≤ (64 : Int)) = decide ((↑n : Int) ≤ (64 : Int)) ∧ off = off ∧ n = n ∧ off = off ∧ n = n ∧ Fn.func (36 : Nat) = Fn.func (36 : Nat) ∧ (↑n : Int) = (↑n : Int) ∧ Fn.func (36 : Nat) = Fn.func (36 : Nat) ∧ ty = ty ∧ cs = cs ∧ (22 : Nat) = (22 : Nat) ∧ off = off ∧ n = n ∧ True) ∧ ((decide ((↑n : Int) ≤ (64 : Int)) == true) = false → false = r)) := by kernel_rfl
theorem may_step_r (off n : Nat) (cs : Array Value) (ty : TypeId) (r : Bool) (i : Int) (Q : Int → Prop) : (gS EM 1 (mayC off n) (prM true cs ty) [(8, i64 (.o i))] []).vc (boolR r) (mayN true true off n cs ty Q) =
    ((decide (i < (↑n : Int)) = true → (((0 : Int) ≤ i ∧ i < (↑n : Int)) ∧ True) ∧ (IsInt IntKind.u8 cs (off + Int.toNat i * 5) ∧ IsInt IntKind.u8 cs (off + Int.toNat i * 5 + 1) ∧ IsInt IntKind.u8 cs (off + Int.toNat i * 5 + 2) ∧ IsInt IntKind.u8 cs (off + Int.toNat i * 5 + 3) ∧ IsInt IntKind.u16 cs (off + Int.toNat i * 5 + 4) ∧ True) ∧ (((intAt cs (off + Int.toNat i * 5) == (5 : Int)) == false) = true → ((decide (intAt cs (off + Int.toNat i * 5) ≤ (6 : Int)) == false) = true → ((decide (intAt cs (off + Int.toNat i * 5) > (16 : Int)) == true) = true → (((!decide (intAt cs (off + Int.toNat i * 5) ≤ (38 : Int))) == false) = true → ((decide ((if intAt cs (off + Int.toNat i * 5 + 3) > if intAt cs (off + Int.toNat i * 5 + 2) > intAt cs (off + Int.toNat i * 5 + 1) then intAt cs (off + Int.toNat i * 5 + 2) else intAt cs (off + Int.toNat i * 5 + 1) then intAt cs (off + Int.toNat i * 5 + 3) else if intAt cs (off + Int.toNat i * 5 + 2) > intAt cs (off + Int.toNat i * 5 + 1) then intAt cs (off + Int.toNat i * 5 + 2) else intAt cs (off + Int.toNat i * 5 + 1)) ≥ (8 : Int)) == false) = true → (((intAt cs (off + Int.toNat i * 5) == (6 : Int)) == true) = true → (decide (IntKind.wrap IntKind.i64 (intAt cs (off + Int.toNat i * 5 + 4)) ≥ (↑n : Int)) = true → (!decide (i ≥ (0 : Int))) = r) ∧ (decide (IntKind.wrap IntKind.i64 (intAt cs (off + Int.toNat i * 5 + 4)) ≥ (↑n : Int)) = false → Q (ari BinOp.add IntKind.i64 i (1 : Int)) ∧ CallKind.normal = CallKind.normal ∧ TodoOk (ren 1 [(1, 1)]) mH0 mH0 ∧ off = off ∧ n = n ∧ Fn.func (36 : Nat) = Fn.func (36 : Nat) ∧ (↑n : Int) = (↑n : Int) ∧ ari BinOp.add IntKind.i64 i (1 : Int) = ari BinOp.add IntKind.i64 i (1 : Int) ∧ off = off ∧ n = n ∧ CallKind.normal = CallKind.normal ∧ TodoOk (ren 1 [(1, 1)]) mT1 mT1 ∧ off = off ∧ n = n ∧ Fn.func (36 : Nat) = Fn.func (36 : Nat) ∧ off = off ∧ n = n ∧ Fn.func (36 : Nat) = Fn.func (36 : Nat) ∧ CallKind.normal = CallKind.normal ∧ TodoOk (ren 1 [(1, 1)]) mT2 mT2 ∧ off = off ∧ n = n ∧ Fn.func (36 : Nat) = Fn.func (36 : Nat) ∧ decide ((↑n : Int) ≤ (64 : Int)) = decide ((↑n : Int) ≤ (64 : Int)) ∧ off = off ∧ n = n ∧ off = off ∧ n = n ∧ Fn.func (36 : Nat) = Fn.func (36 : Nat) ∧ (↑n : Int) = (↑n : Int) ∧ Fn.func (36 : Nat) = Fn.func (36 : Nat) ∧ ty = ty ∧ cs = cs ∧ (22 : Nat) = (22 : Nat) ∧ off = off ∧ n = n ∧ True)) ∧ (((intAt cs (off + Int.toNat i * 5) == (6 : Int)) == true) = false → Q (ari BinOp.add IntKind.i64 i (1 : Int)) ∧ CallKind.normal = CallKind.normal ∧ TodoOk (ren 1 [(1, 1)]) mH0 mH0 ∧ off = off ∧ n = n ∧ Fn.func (36 : Nat) = Fn.func (36 : Nat) ∧ (↑n : Int) = (↑n : Int) ∧ ari BinOp.add IntKind.i64 i (1 : Int) = ari BinOp.add IntKind.i64 i (1 : Int) ∧ off = off ∧ n = n ∧ CallKind.normal = CallKind.normal ∧ TodoOk (ren 1 [(1, 1)]) mT1 mT1 ∧ off = off ∧ n = n ∧ Fn.func (36 : Nat) = Fn.func (36 : Nat) ∧ off = off ∧ n = n ∧ Fn.func (36 : Nat) = Fn.func (36 : Nat) ∧ CallKind.normal = CallKind.normal ∧ TodoOk (ren 1 [(1, 1)]) mT2 mT2 ∧ off = off ∧ n = n ∧ Fn.func (36 : Nat) = Fn.func (36 : Nat) ∧ decide ((↑n : Int) ≤ (64 : Int)) = decide ((↑n : Int) ≤ (64 : Int)) ∧ off = off ∧ n = n ∧ off = off ∧ n = n ∧ Fn.func (36 : Nat) = Fn.func (36 : Nat) ∧ (↑n : Int) = (↑n : Int) ∧ Fn.func (36 : Nat) = Fn.func (36 : Nat) ∧ ty = ty ∧ cs = cs ∧ (22 : Nat) = (22 : Nat) ∧ off = off ∧ n = n ∧ True)) ∧ ((decide ((if intAt cs (off + Int.toNat i * 5 + 3) > if intAt cs (off + Int.toNat i * 5 + 2) > intAt cs (off + Int.toNat i * 5 + 1) then intAt cs (off + Int.toNat i * 5 + 2) else intAt cs (off + Int.toNat i * 5 + 1) then intAt cs (off + Int.toNat i * 5 + 3) else if intAt cs (off + Int.toNat i * 5 + 2) > intAt cs (off + Int.toNat i * 5 + 1) then intAt cs (off + Int.toNat i * 5 + 2) else intAt cs (off + Int.toNat i * 5 + 1)) ≥ (8 : Int)) == false) = false → (!decide (i ≥ (0 : Int))) = r)) ∧ (((!decide (intAt cs (off + Int.toNat i * 5) ≤ (38 : Int))) == false) = false → (!decide (i ≥ (0 : Int))) = r)) ∧ ((decide (intAt cs (off + Int.toNat i * 5) > (16 : Int)) == true) = false → (!decide (i ≥ (0 : Int))) = r)) ∧ ((decide (intAt cs (off + Int.toNat i * 5) ≤ (6 : Int)) == false) = false → ((decide ((if intAt cs (off + Int.toNat i * 5 + 3) > if intAt cs (off + Int.toNat i * 5 + 2) > intAt cs (off + Int.toNat i * 5 + 1) then intAt cs (off + Int.toNat i * 5 + 2) else intAt cs (off + Int.toNat i * 5 + 1) then intAt cs (off + Int.toNat i * 5 + 3) else if intAt cs (off + Int.toNat i * 5 + 2) > intAt cs (off + Int.toNat i * 5 + 1) then intAt cs (off + Int.toNat i * 5 + 2) else intAt cs (off + Int.toNat i * 5 + 1)) ≥ (8 : Int)) == false) = true → (((intAt cs (off + Int.toNat i * 5) == (6 : Int)) == true) = true → (decide (IntKind.wrap IntKind.i64 (intAt cs (off + Int.toNat i * 5 + 4)) ≥ (↑n : Int)) = true → (!decide (i ≥ (0 : Int))) = r) ∧ (decide (IntKind.wrap IntKind.i64 (intAt cs (off + Int.toNat i * 5 + 4)) ≥ (↑n : Int)) = false → Q (ari BinOp.add IntKind.i64 i (1 : Int)) ∧ CallKind.normal = CallKind.normal ∧ TodoOk (ren 1 [(1, 1)]) mH0 mH0 ∧ off = off ∧ n = n ∧ Fn.func (36 : Nat) = Fn.func (36 : Nat) ∧ (↑n : Int) = (↑n : Int) ∧ ari BinOp.add IntKind.i64 i (1 : Int) = ari BinOp.add IntKind.i64 i (1 : Int) ∧ off = off ∧ n = n ∧ CallKind.normal = CallKind.normal ∧ TodoOk (ren 1 [(1, 1)]) mT1 mT1 ∧ off = off ∧ n = n ∧ Fn.func (36 : Nat) = Fn.func (36 : Nat) ∧ off = off ∧ n = n ∧ Fn.func (36 : Nat) = Fn.func (36 : Nat) ∧ CallKind.normal = CallKind.normal ∧ TodoOk (ren 1 [(1, 1)]) mT2 mT2 ∧ off = off ∧ n = n ∧ Fn.func (36 : Nat) = Fn.func (36 : Nat) ∧ decide ((↑n : Int) ≤ (64 : Int)) = decide ((↑n : Int) ≤ (64 : Int)) ∧ off = off ∧ n = n ∧ off = off ∧ n = n ∧ Fn.func (36 : Nat) = Fn.func (36 : Nat) ∧ (↑n : Int) = (↑n : Int) ∧ Fn.func (36 : Nat) = Fn.func (36 : Nat) ∧ ty = ty ∧ cs = cs ∧ (22 : Nat) = (22 : Nat) ∧ off = off ∧ n = n ∧ True)) ∧ (((intAt cs (off + Int.toNat i * 5) == (6 : Int)) == true) = false → Q (ari BinOp.add IntKind.i64 i (1 : Int)) ∧ CallKind.normal = CallKind.normal ∧ TodoOk (ren 1 [(1, 1)]) mH0 mH0 ∧ off = off ∧ n = n ∧ Fn.func (36 : Nat) = Fn.func (36 : Nat) ∧ (↑n : Int) = (↑n : Int) ∧ ari BinOp.add IntKind.i64 i (1 : Int) = ari BinOp.add IntKind.i64 i (1 : Int) ∧ off = off ∧ n = n ∧ CallKind.normal = CallKind.normal ∧ TodoOk (ren 1 [(1, 1)]) mT1 mT1 ∧ off = off ∧ n = n ∧ Fn.func (36 : Nat) = Fn.func (36 : Nat) ∧ off = off ∧ n = n ∧ Fn.func (36 : Nat) = Fn.func (36 : Nat) ∧ CallKind.normal = CallKind.normal ∧ TodoOk (ren 1 [(1, 1)]) mT2 mT2 ∧ off = off ∧ n = n ∧ Fn.func (36 : Nat) = Fn.func (36 : Nat) ∧ decide ((↑n : Int) ≤ (64 : Int)) = decide ((↑n : Int) ≤ (64 : Int)) ∧ off = off ∧ n = n ∧ off = off ∧ n = n ∧ Fn.func (36 : Nat) = Fn.func (36 : Nat) ∧ (↑n : Int) = (↑n : Int) ∧ Fn.func (36 : Nat) = Fn.func (36 : Nat) ∧ ty = ty ∧ cs = cs ∧ (22 : Nat) = (22 : Nat) ∧ off = off ∧ n = n ∧ True)) ∧ ((decide ((if intAt cs (off + Int.toNat i * 5 + 3) > if intAt cs (off + Int.toNat i * 5 + 2) > intAt cs (off + Int.toNat i * 5 + 1) then intAt cs (off + Int.toNat i * 5 + 2) else intAt cs (off + Int.toNat i * 5 + 1) then intAt cs (off + Int.toNat i * 5 + 3) else if intAt cs (off + Int.toNat i * 5 + 2) > intAt cs (off + Int.toNat i * 5 + 1) then intAt cs (off + Int.toNat i * 5 + 2) else intAt cs (off + Int.toNat i * 5 + 1)) ≥ (8 : Int)) == false) = false → (!decide (i ≥ (0 : Int))) = r))) ∧ (((intAt cs (off + Int.toNat i * 5) == (5 : Int)) == false) = false → ((decide (intAt cs (off + Int.toNat i * 5) ≤ (6 : Int)) == false) = true → ((decide (intAt cs (off + Int.toNat i * 5) > (16 : Int)) == true) = true → (((!decide (intAt cs (off + Int.toNat i * 5) ≤ (38 : Int))) == false) = true → ((decide ((if intAt cs (off + Int.toNat i * 5 + 3) > if intAt cs (off + Int.toNat i * 5 + 2) > intAt cs (off + Int.toNat i * 5 + 1) then intAt cs (off + Int.toNat i * 5 + 2) else intAt cs (off + Int.toNat i * 5 + 1) then intAt cs (off + Int.toNat i * 5 + 3) else if intAt cs (off + Int.toNat i * 5 + 2) > intAt cs (off + Int.toNat i * 5 + 1) then intAt cs (off + Int.toNat i * 5 + 2) else intAt cs (off + Int.toNat i * 5 + 1)) ≥ (8 : Int)) == false) = true → (decide (IntKind.wrap IntKind.i64 (intAt cs (off + Int.toNat i * 5 + 4)) ≥ (↑n : Int)) = true → (!decide (i ≥ (0 : Int))) = r) ∧ (decide (IntKind.wrap IntKind.i64 (intAt cs (off + Int.toNat i * 5 + 4)) ≥ (↑n : Int)) = false → Q (ari BinOp.add IntKind.i64 i (1 : Int)) ∧ CallKind.normal = CallKind.normal ∧ TodoOk (ren 1 [(1, 1)]) mH0 mH0 ∧ off = off ∧ n = n ∧ Fn.func (36 : Nat) = Fn.func (36 : Nat) ∧ (↑n : Int) = (↑n : Int) ∧ ari BinOp.add IntKind.i64 i (1 : Int) = ari BinOp.add IntKind.i64 i (1 : Int) ∧ off = off ∧ n = n ∧ CallKind.normal = CallKind.normal ∧ TodoOk (ren 1 [(1, 1)]) mT1 mT1 ∧ off = off ∧ n = n ∧ Fn.func (36 : Nat) = Fn.func (36 : Nat) ∧ off = off ∧ n = n ∧ Fn.func (36 : Nat) = Fn.func (36 : Nat) ∧ CallKind.normal = CallKind.normal ∧ TodoOk (ren 1 [(1, 1)]) mT2 mT2 ∧ off = off ∧ n = n ∧ Fn.func (36 : Nat) = Fn.func (36 : Nat) ∧ decide ((↑n : Int) ≤ (64 : Int)) = decide ((↑n : Int) ≤ (64 : Int)) ∧ off = off ∧ n = n ∧ off = off ∧ n = n ∧ Fn.func (36 : Nat) = Fn.func (36 : Nat) ∧ (↑n : Int) = (↑n : Int) ∧ Fn.func (36 : Nat) = Fn.func (36 : Nat) ∧ ty = ty ∧ cs = cs ∧ (22 : Nat) = (22 : Nat) ∧ off = off ∧ n = n ∧ True)) ∧ ((decide ((if intAt cs (off + Int.toNat i * 5 + 3) > if intAt cs (off + Int.toNat i * 5 + 2) > intAt cs (off + Int.toNat i * 5 + 1) then intAt cs (off + Int.toNat i * 5 + 2) else intAt cs (off + Int.toNat i * 5 + 1) then intAt cs (off + Int.toNat i * 5 + 3) else if intAt cs (off + Int.toNat i * 5 + 2) > intAt cs (off + Int.toNat i * 5 + 1) then intAt cs (off + Int.toNat i * 5 + 2) else intAt cs (off + Int.toNat i * 5 + 1)) ≥ (8 : Int)) == false) = false → (!decide (i ≥ (0 : Int))) = r)) ∧ (((!decide (intAt cs (off + Int.toNat i * 5) ≤ (38 : Int))) == false) = false → (!decide (i ≥ (0 : Int))) = r)) ∧ ((decide (intAt cs (off + Int.toNat i * 5) > (16 : Int)) == true) = false → (!decide (i ≥ (0 : Int))) = r)) ∧ ((decide (intAt cs (off + Int.toNat i * 5) ≤ (6 : Int)) == false) = false → ((decide ((if intAt cs (off + Int.toNat i * 5 + 3) > if intAt cs (off + Int.toNat i * 5 + 2) > intAt cs (off + Int.toNat i * 5 + 1) then intAt cs (off + Int.toNat i * 5 + 2) else intAt cs (off + Int.toNat i * 5 + 1) then intAt cs (off + Int.toNat i * 5 + 3) else if intAt cs (off + Int.toNat i * 5 + 2) > intAt cs (off + Int.toNat i * 5 + 1) then intAt cs (off + Int.toNat i * 5 + 2) else intAt cs (off + Int.toNat i * 5 + 1)) ≥ (8 : Int)) == false) = true → (decide (IntKind.wrap IntKind.i64 (intAt cs (off + Int.toNat i * 5 + 4)) ≥ (↑n : Int)) = true → (!decide (i ≥ (0 : Int))) = r) ∧ (decide (IntKind.wrap IntKind.i64 (intAt cs (off + Int.toNat i * 5 + 4)) ≥ (↑n : Int)) = false → Q (ari BinOp.add IntKind.i64 i (1 : Int)) ∧ CallKind.normal = CallKind.normal ∧ TodoOk (ren 1 [(1, 1)]) mH0 mH0 ∧ off = off ∧ n = n ∧ Fn.func (36 : Nat) = Fn.func (36 : Nat) ∧ (↑n : Int) = (↑n : Int) ∧ ari BinOp.add IntKind.i64 i (1 : Int) = ari BinOp.add IntKind.i64 i (1 : Int) ∧ off = off ∧ n = n ∧ CallKind.normal = CallKind.normal ∧ TodoOk (ren 1 [(1, 1)]) mT1 mT1 ∧ off = off ∧ n = n ∧ Fn.func (36 : Nat) = Fn.func (36 : Nat) ∧ off = off ∧ n = n ∧ Fn.func (36 : Nat) = Fn.func (36 : Nat) ∧ CallKind.normal = CallKind.normal ∧ TodoOk (ren 1 [(1, 1)]) mT2 mT2 ∧ off = off ∧ n = n ∧ Fn.func (36 : Nat) = Fn.func (36 : Nat) ∧ decide ((↑n : Int) ≤ (64 : Int)) = decide ((↑n : Int) ≤ (64 : Int)) ∧ off = off ∧ n = n ∧ off = off ∧ n = n ∧ Fn.func (36 : Nat) = Fn.func (36 : Nat) ∧ (↑n : Int) = (↑n : Int) ∧ Fn.func (36 : Nat) = Fn.func (36 : Nat) ∧ ty = ty ∧ cs = cs ∧ (22 : Nat) = (22 : Nat) ∧ off = off ∧ n = n ∧ True)) ∧ ((decide ((if intAt cs (off + Int.toNat i * 5 + 3) > if intAt cs (off + Int.toNat i * 5 + 2) > intAt cs (off + Int.toNat i * 5 + 1) then intAt cs (off + Int.toNat i * 5 + 2) else intAt cs (off + Int.toNat i * 5 + 1) then intAt cs (off + Int.toNat i * 5 + 3) else if intAt cs (off + Int.toNat i * 5 + 2) > intAt cs (off + Int.toNat i * 5 + 1) then intAt cs (off + Int.toNat i * 5 + 2) else intAt cs (off + Int.toNat i * 5 + 1)) ≥ (8 : Int)) == false) = false → (!decide (i ≥ (0 : Int))) = r)))) ∧ (decide (i < (↑n : Int)) = false → (!decide ((-1 : Int) ≥ (0 : Int))) = r)) := by kernel_rfl
theorem may_step_p (off n : Nat) (cs : Array Value) (ty : TypeId) (r : Bool) (i : Int) (Q : Int → Prop) : (gS EM 1 (mayC off n) (prM false cs ty) [(8, i64 (.o i))] []).vc (boolR r) (mayN true false off n cs ty Q) =
    ((decide (i < (↑n : Int)) = true → (((0 : Int) ≤ i ∧ i < (↑n : Int)) ∧ True) ∧ (IsInt IntKind.u8 cs (off + Int.toNat i * 5) ∧ IsInt IntKind.u8 cs (off + Int.toNat i * 5 + 1) ∧ IsInt IntKind.u8 cs (off + Int.toNat i * 5 + 2) ∧ IsInt IntKind.u8 cs (off + Int.toNat i * 5 + 3) ∧ IsInt IntKind.u16 cs (off + Int.toNat i * 5 + 4) ∧ True) ∧ (((intAt cs (off + Int.toNat i * 5) == (5 : Int)) == false) = true → ((decide (intAt cs (off + Int.toNat i * 5) ≤ (6 : Int)) == false) = true → ((decide (intAt cs (off + Int.toNat i * 5) > (16 : Int)) == true) = true → (((!decide (intAt cs (off + Int.toNat i * 5) ≤ (38 : Int))) == false) = true → ((decide ((if intAt cs (off + Int.toNat i * 5 + 3) > if intAt cs (off + Int.toNat i * 5 + 2) > intAt cs (off + Int.toNat i * 5 + 1) then intAt cs (off + Int.toNat i * 5 + 2) else intAt cs (off + Int.toNat i * 5 + 1) then intAt cs (off + Int.toNat i * 5 + 3) else if intAt cs (off + Int.toNat i * 5 + 2) > intAt cs (off + Int.toNat i * 5 + 1) then intAt cs (off + Int.toNat i * 5 + 2) else intAt cs (off + Int.toNat i * 5 + 1)) ≥ (8 : Int)) == false) = true → (((intAt cs (off + Int.toNat i * 5) == (6 : Int)) == true) = true → (decide (IntKind.wrap IntKind.i64 (intAt cs (off + Int.toNat i * 5 + 4)) ≥ (↑n : Int)) = true → (!decide (i ≥ (0 : Int))) = r) ∧ (decide (IntKind.wrap IntKind.i64 (intAt cs (off + Int.toNat i * 5 + 4)) ≥ (↑n : Int)) = false → Q (ari BinOp.add IntKind.i64 i (1 : Int)) ∧ CallKind.normal = CallKind.normal ∧ TodoOk (ren 1 [(1, 1)]) mH0 mH0 ∧ off = off ∧ n = n ∧ Fn.func (36 : Nat) = Fn.func (36 : Nat) ∧ (↑n : Int) = (↑n : Int) ∧ ari BinOp.add IntKind.i64 i (1 : Int) = ari BinOp.add IntKind.i64 i (1 : Int) ∧ off = off ∧ n = n ∧ CallKind.normal = CallKind.normal ∧ TodoOk (ren 1 [(1, 1)]) mT1 mT1 ∧ off = off ∧ n = n ∧ Fn.func (36 : Nat) = Fn.func (36 : Nat) ∧ off = off ∧ n = n ∧ Fn.func (36 : Nat) = Fn.func (36 : Nat) ∧ CallKind.normal = CallKind.normal ∧ TodoOk (ren 1 [(1, 1)]) mT2 mT2 ∧ off = off ∧ n = n ∧ Fn.func (36 : Nat) = Fn.func (36 : Nat) ∧ decide ((↑n : Int) ≤ (64 : Int)) = decide ((↑n : Int) ≤ (64 : Int)) ∧ off = off ∧ n = n ∧ off = off ∧ n = n ∧ Fn.func (36 : Nat) = Fn.func (36 : Nat) ∧ (↑n : Int) = (↑n : Int) ∧ Fn.func (36 : Nat) = Fn.func (36 : Nat) ∧ ty = ty ∧ cs = cs ∧ (22 : Nat) = (22 : Nat) ∧ off = off ∧ n = n ∧ True)) ∧ (((intAt cs (off + Int.toNat i * 5) == (6 : Int)) == true) = false → Q (ari BinOp.add IntKind.i64 i (1 : Int)) ∧ CallKind.normal = CallKind.normal ∧ TodoOk (ren 1 [(1, 1)]) mH0 mH0 ∧ off = off ∧ n = n ∧ Fn.func (36 : Nat) = Fn.func (36 : Nat) ∧ (↑n : Int) = (↑n : Int) ∧ ari BinOp.add IntKind.i64 i (1 : Int) = ari BinOp.add IntKind.i64 i (1 : Int) ∧ off = off ∧ n = n ∧ CallKind.normal = CallKind.normal ∧ TodoOk (ren 1 [(1, 1)]) mT1 mT1 ∧ off = off ∧ n = n ∧ Fn.func (36 : Nat) = Fn.func (36 : Nat) ∧ off = off ∧ n = n ∧ Fn.func (36 : Nat) = Fn.func (36 : Nat) ∧ CallKind.normal = CallKind.normal ∧ TodoOk (ren 1 [(1, 1)]) mT2 mT2 ∧ off = off ∧ n = n ∧ Fn.func (36 : Nat) = Fn.func (36 : Nat) ∧ decide ((↑n : Int) ≤ (64 : Int)) = decide ((↑n : Int) ≤ (64 : Int)) ∧ off = off ∧ n = n ∧ off = off ∧ n = n ∧ Fn.func (36 : Nat) = Fn.func (36 : Nat) ∧ (↑n : Int) = (↑n : Int) ∧ Fn.func (36 : Nat) = Fn.func (36 : Nat) ∧ ty = ty ∧ cs = cs ∧ (22 : Nat) = (22 : Nat) ∧ off = off ∧ n = n ∧ True)) ∧ ((decide ((if intAt cs (off + Int.toNat i * 5 + 3) > if intAt cs (off + Int.toNat i * 5 + 2) > intAt cs (off + Int.toNat i * 5 + 1) then intAt cs (off + Int.toNat i * 5 + 2) else intAt cs (off + Int.toNat i * 5 + 1) then intAt cs (off + Int.toNat i * 5 + 3) else if intAt cs (off + Int.toNat i * 5 + 2) > intAt cs (off + Int.toNat i * 5 + 1) then intAt cs (off + Int.toNat i * 5 + 2) else intAt cs (off + Int.toNat i * 5 + 1)) ≥ (8 : Int)) == false) = false → (!decide (i ≥ (0 : Int))) = r)) ∧ (((!decide (intAt cs (off + Int.toNat i * 5) ≤ (38 : Int))) == false) = false → (!decide (i ≥ (0 : Int))) = r)) ∧ ((decide (intAt cs (off + Int.toNat i * 5) > (16 : Int)) == true) = false → (!decide (i ≥ (0 : Int))) = r)) ∧ ((decide (intAt cs (off + Int.toNat i * 5) ≤ (6 : Int)) == false) = false → ((decide ((if intAt cs (off + Int.toNat i * 5 + 3) > if intAt cs (off + Int.toNat i * 5 + 2) > intAt cs (off + Int.toNat i * 5 + 1) then intAt cs (off + Int.toNat i * 5 + 2) else intAt cs (off + Int.toNat i * 5 + 1) then intAt cs (off + Int.toNat i * 5 + 3) else if intAt cs (off + Int.toNat i * 5 + 2) > intAt cs (off + Int.toNat i * 5 + 1) then intAt cs (off + Int.toNat i * 5 + 2) else intAt cs (off + Int.toNat i * 5 + 1)) ≥ (8 : Int)) == false) = true → (((intAt cs (off + Int.toNat i * 5) == (6 : Int)) == true) = true → (decide (IntKind.wrap IntKind.i64 (intAt cs (off + Int.toNat i * 5 + 4)) ≥ (↑n : Int)) = true → (!decide (i ≥ (0 : Int))) = r) ∧ (decide (IntKind.wrap IntKind.i64 (intAt cs (off + Int.toNat i * 5 + 4)) ≥ (↑n : Int)) = false → Q (ari BinOp.add IntKind.i64 i (1 : Int)) ∧ CallKind.normal = CallKind.normal ∧ TodoOk (ren 1 [(1, 1)]) mH0 mH0 ∧ off = off ∧ n = n ∧ Fn.func (36 : Nat) = Fn.func (36 : Nat) ∧ (↑n : Int) = (↑n : Int) ∧ ari BinOp.add IntKind.i64 i (1 : Int) = ari BinOp.add IntKind.i64 i (1 : Int) ∧ off = off ∧ n = n ∧ CallKind.normal = CallKind.normal ∧ TodoOk (ren 1 [(1, 1)]) mT1 mT1 ∧ off = off ∧ n = n ∧ Fn.func (36 : Nat) = Fn.func (36 : Nat) ∧ off = off ∧ n = n ∧ Fn.func (36 : Nat) = Fn.func (36 : Nat) ∧ CallKind.normal = CallKind.normal ∧ TodoOk (ren 1 [(1, 1)]) mT2 mT2 ∧ off = off ∧ n = n ∧ Fn.func (36 : Nat) = Fn.func (36 : Nat) ∧ decide ((↑n : Int) ≤ (64 : Int)) = decide ((↑n : Int) ≤ (64 : Int)) ∧ off = off ∧ n = n ∧ off = off ∧ n = n ∧ Fn.func (36 : Nat) = Fn.func (36 : Nat) ∧ (↑n : Int) = (↑n : Int) ∧ Fn.func (36 : Nat) = Fn.func (36 : Nat) ∧ ty = ty ∧ cs = cs ∧ (22 : Nat) = (22 : Nat) ∧ off = off ∧ n = n ∧ True)) ∧ (((intAt cs (off + Int.toNat i * 5) == (6 : Int)) == true) = false → Q (ari BinOp.add IntKind.i64 i (1 : Int)) ∧ CallKind.normal = CallKind.normal ∧ TodoOk (ren 1 [(1, 1)]) mH0 mH0 ∧ off = off ∧ n = n ∧ Fn.func (36 : Nat) = Fn.func (36 : Nat) ∧ (↑n : Int) = (↑n : Int) ∧ ari BinOp.add IntKind.i64 i (1 : Int) = ari BinOp.add IntKind.i64 i (1 : Int) ∧ off = off ∧ n = n ∧ CallKind.normal = CallKind.normal ∧ TodoOk (ren 1 [(1, 1)]) mT1 mT1 ∧ off = off ∧ n = n ∧ Fn.func (36 : Nat) = Fn.func (36 : Nat) ∧ off = off ∧ n = n ∧ Fn.func (36 : Nat) = Fn.func (36 : Nat) ∧ CallKind.normal = CallKind.normal ∧ TodoOk (ren 1 [(1, 1)]) mT2 mT2 ∧ off = off ∧ n = n ∧ Fn.func (36 : Nat) = Fn.func (36 : Nat) ∧ decide ((↑n : Int) ≤ (64 : Int)) = decide ((↑n : Int) ≤ (64 : Int)) ∧ off = off ∧ n = n ∧ off = off ∧ n = n ∧ Fn.func (36 : Nat) = Fn.func (36 : Nat) ∧ (↑n : Int) = (↑n : Int) ∧ Fn.func (36 : Nat) = Fn.func (36 : Nat) ∧ ty = ty ∧ cs = cs ∧ (22 : Nat) = (22 : Nat) ∧ off = off ∧ n = n ∧ True)) ∧ ((decide ((if intAt cs (off + Int.toNat i * 5 + 3) > if intAt cs (off + Int.toNat i * 5 + 2) > intAt cs (off + Int.toNat i * 5 + 1) then intAt cs (off + Int.toNat i * 5 + 2) else intAt cs (off + Int.toNat i * 5 + 1) then intAt cs (off + Int.toNat i * 5 + 3) else if intAt cs (off + Int.toNat i * 5 + 2) > intAt cs (off + Int.toNat i * 5 + 1) then intAt cs (off + Int.toNat i * 5 + 2) else intAt cs (off + Int.toNat i * 5 + 1)) ≥ (8 : Int)) == false) = false → (!decide (i ≥ (0 : Int))) = r))) ∧ (((intAt cs (off + Int.toNat i * 5) == (5 : Int)) == false) = false → ((decide (intAt cs (off + Int.toNat i * 5) ≤ (6 : Int)) == false) = true → ((decide (intAt cs (off + Int.toNat i * 5) > (16 : Int)) == true) = true → (((!decide (intAt cs (off + Int.toNat i * 5) ≤ (38 : Int))) == false) = true → ((decide ((if intAt cs (off + Int.toNat i * 5 + 3) > if intAt cs (off + Int.toNat i * 5 + 2) > intAt cs (off + Int.toNat i * 5 + 1) then intAt cs (off + Int.toNat i * 5 + 2) else intAt cs (off + Int.toNat i * 5 + 1) then intAt cs (off + Int.toNat i * 5 + 3) else if intAt cs (off + Int.toNat i * 5 + 2) > intAt cs (off + Int.toNat i * 5 + 1) then intAt cs (off + Int.toNat i * 5 + 2) else intAt cs (off + Int.toNat i * 5 + 1)) ≥ (8 : Int)) == false) = true → (decide (IntKind.wrap IntKind.i64 (intAt cs (off + Int.toNat i * 5 + 4)) ≥ (↑n : Int)) = true → (!decide (i ≥ (0 : Int))) = r) ∧ (decide (IntKind.wrap IntKind.i64 (intAt cs (off + Int.toNat i * 5 + 4)) ≥ (↑n : Int)) = false → Q (ari BinOp.add IntKind.i64 i (1 : Int)) ∧ CallKind.normal = CallKind.normal ∧ TodoOk (ren 1 [(1, 1)]) mH0 mH0 ∧ off = off ∧ n = n ∧ Fn.func (36 : Nat) = Fn.func (36 : Nat) ∧ (↑n : Int) = (↑n : Int) ∧ ari BinOp.add IntKind.i64 i (1 : Int) = ari BinOp.add IntKind.i64 i (1 : Int) ∧ off = off ∧ n = n ∧ CallKind.normal = CallKind.normal ∧ TodoOk (ren 1 [(1, 1)]) mT1 mT1 ∧ off = off ∧ n = n ∧ Fn.func (36 : Nat) = Fn.func (36 : Nat) ∧ off = off ∧ n = n ∧ Fn.func (36 : Nat) = Fn.func (36 : Nat) ∧ CallKind.normal = CallKind.normal ∧ TodoOk (ren 1 [(1, 1)]) mT2 mT2 ∧ off = off ∧ n = n ∧ Fn.func (36 : Nat) = Fn.func (36 : Nat) ∧ decide ((↑n : Int) ≤ (64 : Int)) = decide ((↑n : Int) ≤ (64 : Int)) ∧ off = off ∧ n = n ∧ off = off ∧ n = n ∧ Fn.func (36 : Nat) = Fn.func (36 : Nat) ∧ (↑n : Int) = (↑n : Int) ∧ Fn.func (36 : Nat) = Fn.func (36 : Nat) ∧ ty = ty ∧ cs = cs ∧ (22 : Nat) = (22 : Nat) ∧ off = off ∧ n = n ∧ True)) ∧ ((decide ((if intAt cs (off + Int.toNat i * 5 + 3) > if intAt cs (off + Int.toNat i * 5 + 2) > intAt cs (off + Int.toNat i * 5 + 1) then intAt cs (off + Int.toNat i * 5 + 2) else intAt cs (off + Int.toNat i * 5 + 1) then intAt cs (off + Int.toNat i * 5 + 3) else if intAt cs (off + Int.toNat i * 5 + 2) > intAt cs (off + Int.toNat i * 5 + 1) then intAt cs (off + Int.toNat i * 5 + 2) else intAt cs (off + Int.toNat i * 5 + 1)) ≥ (8 : Int)) == false) = false → (!decide (i ≥ (0 : Int))) = r)) ∧ (((!decide (intAt cs (off + Int.toNat i * 5) ≤ (38 : Int))) == false) = false → (!decide (i ≥ (0 : Int))) = r)) ∧ ((decide (intAt cs (off + Int.toNat i * 5) > (16 : Int)) == true) = false → (!decide (i ≥ (0 : Int))) = r)) ∧ ((decide (intAt cs (off + Int.toNat i * 5) ≤ (6 : Int)) == false) = false → ((decide ((if intAt cs (off + Int.toNat i * 5 + 3) > if intAt cs (off + Int.toNat i * 5 + 2) > intAt cs (off + Int.toNat i * 5 + 1) then intAt cs (off + Int.toNat i * 5 + 2) else intAt cs (off + Int.toNat i * 5 + 1) then intAt cs (off + Int.toNat i * 5 + 3) else if intAt cs (off + Int.toNat i * 5 + 2) > intAt cs (off + Int.toNat i * 5 + 1) then intAt cs (off + Int.toNat i * 5 + 2) else intAt cs (off + Int.toNat i * 5 + 1)) ≥ (8 : Int)) == false) = true → (decide (IntKind.wrap IntKind.i64 (intAt cs (off + Int.toNat i * 5 + 4)) ≥ (↑n : Int)) = true → (!decide (i ≥ (0 : Int))) = r) ∧ (decide (IntKind.wrap IntKind.i64 (intAt cs (off + Int.toNat i * 5 + 4)) ≥ (↑n : Int)) = false → Q (ari BinOp.add IntKind.i64 i (1 : Int)) ∧ CallKind.normal = CallKind.normal ∧ TodoOk (ren 1 [(1, 1)]) mH0 mH0 ∧ off = off ∧ n = n ∧ Fn.func (36 : Nat) = Fn.func (36 : Nat) ∧ (↑n : Int) = (↑n : Int) ∧ ari BinOp.add IntKind.i64 i (1 : Int) = ari BinOp.add IntKind.i64 i (1 : Int) ∧ off = off ∧ n = n ∧ CallKind.normal = CallKind.normal ∧ TodoOk (ren 1 [(1, 1)]) mT1 mT1 ∧ off = off ∧ n = n ∧ Fn.func (36 : Nat) = Fn.func (36 : Nat) ∧ off = off ∧ n = n ∧ Fn.func (36 : Nat) = Fn.func (36 : Nat) ∧ CallKind.normal = CallKind.normal ∧ TodoOk (ren 1 [(1, 1)]) mT2 mT2 ∧ off = off ∧ n = n ∧ Fn.func (36 : Nat) = Fn.func (36 : Nat) ∧ decide ((↑n : Int) ≤ (64 : Int)) = decide ((↑n : Int) ≤ (64 : Int)) ∧ off = off ∧ n = n ∧ off = off ∧ n = n ∧ Fn.func (36 : Nat) = Fn.func (36 : Nat) ∧ (↑n : Int) = (↑n : Int) ∧ Fn.func (36 : Nat) = Fn.func (36 : Nat) ∧ ty = ty ∧ cs = cs ∧ (22 : Nat) = (22 : Nat) ∧ off = off ∧ n = n ∧ True)) ∧ ((decide ((if intAt cs (off + Int.toNat i * 5 + 3) > if intAt cs (off + Int.toNat i * 5 + 2) > intAt cs (off + Int.toNat i * 5 + 1) then intAt cs (off + Int.toNat i * 5 + 2) else intAt cs (off + Int.toNat i * 5 + 1) then intAt cs (off + Int.toNat i * 5 + 3) else if intAt cs (off + Int.toNat i * 5 + 2) > intAt cs (off + Int.toNat i * 5 + 1) then intAt cs (off + Int.toNat i * 5 + 2) else intAt cs (off + Int.toNat i * 5 + 1)) ≥ (8 : Int)) == false) = false → (!decide (i ≥ (0 : Int))) = r)))) ∧ (decide (i < (↑n : Int)) = false → (!decide ((-1 : Int) ≥ (0 : Int))) = r)) := by kernel_rfl
end Go.Proofs.Ytebkbihhnoellaa
/- Of code: instructions, and what May answers. No condition. -/
namespace Go.Proofs.Ytebkbihhnoellaa
set_option maxRecDepth 100000
structure Ins where
  o : Int
  a : Int
  b : Int
  c : Int
  n : Int
theorem Ins.ext' {x y : Ins} (h1 : x.o = y.o) (h2 : x.a = y.a) (h3 : x.b = y.b) (h4 : x.c = y.c) (h5 : x.n = y.n) : x = y := by cases x; cases y; simp_all
def ins (cs : Array Value) (off i : Nat) : Ins := ⟨intAt cs (off + i * 5), intAt cs (off + i * 5 + 1), intAt cs (off + i * 5 + 2), intAt cs (off + i * 5 + 3), intAt cs (off + i * 5 + 4)⟩
/-- An instruction's numbers are in their kinds' ranges. -/
def Ins.In (x : Ins) : Prop := (0 ≤ x.o ∧ x.o ≤ 255) ∧ (0 ≤ x.a ∧ x.a ≤ 255) ∧ (0 ≤ x.b ∧ x.b ≤ 255) ∧ (0 ≤ x.c ∧ x.c ≤ 255) ∧ (0 ≤ x.n ∧ x.n ≤ 65535)
def InsAt (cs : Array Value) (p : Nat) : Prop := IsInt .u8 cs p ∧ IsInt .u8 cs (p + 1) ∧ IsInt .u8 cs (p + 2) ∧ IsInt .u8 cs (p + 3) ∧ IsInt .u16 cs (p + 4)
def InsOk (cs : Array Value) (off n : Nat) : Prop := n < 9223372036854775807 ∧ ∀ i, i < n → InsAt cs (off + i * 5) ∧ (ins cs off i).In
def Ins.okN (x : Ins) (n : Nat) : Bool := decide ((x.o ≤ 6 ∨ (16 < x.o ∧ x.o ≤ 38)) ∧ x.a < 8 ∧ x.b < 8 ∧ x.c < 8 ∧ ¬ ((x.o = 5 ∨ x.o = 6) ∧ (n : Int) ≤ x.n))
theorem Ins.okN_iff {x : Ins} {n : Nat} : x.okN n = true ↔ (x.o ≤ 6 ∨ (16 < x.o ∧ x.o ≤ 38)) ∧ x.a < 8 ∧ x.b < 8 ∧ x.c < 8 ∧ ¬ ((x.o = 5 ∨ x.o = 6) ∧ (n : Int) ≤ x.n) := by unfold Ins.okN; rw [decide_eq_true_eq]
def allOk (cs : Array Value) (off N : Nat) : Nat → Bool
  | 0 => true
  | k + 1 => allOk cs off N k && (ins cs off k).okN N
theorem allOk_iff {cs : Array Value} {off N : Nat} : ∀ {k : Nat}, allOk cs off N k = true ↔ ∀ i, i < k → (ins cs off i).okN N = true
  | 0 => by simp [allOk]
  | k + 1 => by
    unfold allOk
    rw [Bool.and_eq_true, allOk_iff]
    refine ⟨fun h i hi => ?_, fun h => ⟨fun i hi => h i (by omega), h k (by omega)⟩⟩
    by_cases e : i = k
    · rw [e]; exact h.2
    · exact h.1 i (by omega)
def mayV (cs : Array Value) (off n : Nat) : Bool := decide (n ≤ 64) && allOk cs off n n
theorem mayV_iff {cs : Array Value} {off n : Nat} : mayV cs off n = true ↔ n ≤ 64 ∧ ∀ i, i < n → (ins cs off i).okN n = true := by
  unfold mayV
  rw [Bool.and_eq_true, decide_eq_true_eq, allOk_iff]
theorem i64_nat {k : Nat} (h : k < 9223372036854775807) : IntKind.i64.wrap ((k : Int) + 1) = ((k + 1 : Nat) : Int) := by
  rw [Go.IntWalk.i64_in _ (by omega)]; rfl
theorem mayN_good {h v : Bool} {off n : Nat} {cs : Array Value} {ty : TypeId} {A : SV → SMem → Prop} {Q : Int → Prop} (hg : ∀ i, Q i → Good EM.P A 1 (gH EM 1 (mayC off n) (prM v cs ty) [(8, i64 (.o i))]) (gM EM 1 (mayC off n) (prM v cs ty) [])) {fs : List SFr} {m : SMem} (hb : mayN h v off n cs ty Q fs m) : Good EM.P A 1 fs m := by
  unfold mayN at hb
  split at hb
  · split at hb
    · exact gN_good hb.2 (hg _ hb.1)
    · exact hb.elim
  · exact hb.elim
theorem mT0_ok : TodoOk (ren 1 [(1, 1)]) mT0 mT0 := TodoOk.same (by kernel_rfl)
theorem mH0_ok : TodoOk (ren 1 [(1, 1)]) mH0 mH0 := TodoOk.same (by kernel_rfl)
theorem mT1_ok : TodoOk (ren 1 [(1, 1)]) mT1 mT1 := TodoOk.same (by kernel_rfl)
theorem mT2_ok : TodoOk (ren 1 [(1, 1)]) mT2 mT2 := TodoOk.same (by kernel_rfl)
theorem max3 {a b c : Int} : (if c > if b > a then b else a then c else if b > a then b else a) ≥ 8 ↔ ¬ (a < 8 ∧ b < 8 ∧ c < 8) := by
  split <;> split <;> omega
theorem eqJ {b : Bool} : ((b == true) = true) = (b = true) := by cases b <;> rfl
theorem gM_may (v : Bool) (off n : Nat) (cs : Array Value) (ty : TypeId) : gM EM 1 (mayC off n) (prM v cs ty) [] = gM EM 1 (mayC off n) (prM v cs ty) [] := rfl
section
variable (off n : Nat) (cs : Array Value) (ty : TypeId) (hI : InsOk cs off n)
include hI
theorem may_round {v : Bool} (hn : n ≤ 64)
    (step : ∀ (r : Bool) (i : Int) (Q : Int → Prop), (gS EM 1 (mayC off n) (prM v cs ty) [(8, i64 (.o i))] []).vc (boolR r) (mayN true v off n cs ty Q) = (gS EM 1 (mayC off n) (prM true cs ty) [(8, i64 (.o i))] []).vc (boolR r) (mayN true true off n cs ty Q)) :
    ∀ (k i : Nat), n - i < k → i ≤ n → (∀ j, j < i → (ins cs off j).okN n = true) → Good EM.P (boolR (mayV cs off n)) 1 (gH EM 1 (mayC off n) (prM v cs ty) [(8, i64 (.o i))]) (gM EM 1 (mayC off n) (prM v cs ty) []) := by
  intro k
  induction k with
  | zero => intro i h; omega
  | succ k ih =>
    intro i hk hi hd
    refine past_vc EM_ok 1000 ((step (mayV cs off n) i (fun i' => ∃ j : Nat, i' = j ∧ n - j < k ∧ j ≤ n ∧ ∀ t, t < j → (ins cs off t).okN n = true)).trans (may_step_r off n cs ty (mayV cs off n) i _)) ?_ (fun _ _ h => h)
      (fun fs m hb => mayN_good (fun i' ⟨j, e, k1, k2, k3⟩ => by rw [e]; exact ih j k1 k2 k3) hb)
    have hn64 : n < 9223372036854775807 := hI.1
    refine ⟨fun h => ?_, fun h => ?_⟩
    · have hlt : i < n := by simpa using h
      obtain ⟨⟨i1, i2, i3, i4, i5⟩, r1, r2, r3, r4, r5⟩ := hI.2 i hlt
      rw [Int.toNat_natCast]
      refine ⟨⟨⟨by omega, by omega⟩, trivial⟩, ⟨i1, i2, i3, i4, i5, trivial⟩, ?_⟩
      have hyes : (ins cs off i).okN n = true → ∃ j : Nat, ((i + 1 : Nat) : Int) = j ∧ n - j < k ∧ j ≤ n ∧ ∀ t, t < j → (ins cs off t).okN n = true := fun h => ⟨i + 1, rfl, by omega, by omega, fun t ht => by
        by_cases e : t = i
        · rw [e]; exact h
        · exact hd t (by omega)⟩
      have hno : ¬ (ins cs off i).okN n = true → (!decide ((i : Int) ≥ 0)) = mayV cs off n := fun h => by
        have e1 : decide ((i : Int) ≥ 0) = true := by simp
        have e2 : mayV cs off n = false := by
          cases e : mayV cs off n with
          | false => rfl
          | true => exact (h ((mayV_iff.1 e).2 i hlt)).elim
        rw [e1, e2]; rfl
      have eA : ari BinOp.add IntKind.i64 (i : Int) 1 = ((i + 1 : Nat) : Int) := by rw [ari_add, i64_nat (show i < 9223372036854775807 by omega)]
      rw [eA]
      generalize hYe : (∃ j : Nat, ((i + 1 : Nat) : Int) = j ∧ n - j < k ∧ j ≤ n ∧ ∀ t, t < j → (ins cs off t).okN n = true) = Y at hyes ⊢
      generalize hRe : ((!decide ((i : Int) ≥ 0)) = mayV cs off n) = Z at hno ⊢
      rw [Ins.okN_iff] at hyes hno
      simp only [ins] at hyes hno r1 r2 r3 r4 r5
      generalize intAt cs (off + i * 5) = xo at hyes hno r1 r2 r3 r4 r5 ⊢
      generalize intAt cs (off + i * 5 + 1) = xa at hyes hno r1 r2 r3 r4 r5 ⊢
      generalize intAt cs (off + i * 5 + 2) = xb at hyes hno r1 r2 r3 r4 r5 ⊢
      generalize intAt cs (off + i * 5 + 3) = xc at hyes hno r1 r2 r3 r4 r5 ⊢
      generalize intAt cs (off + i * 5 + 4) = xn at hyes hno r1 r2 r3 r4 r5 ⊢
      rw [Go.IntWalk.i64_in xn (by omega)]
      simp only [max3, eqJ, beq_iff_eq, beq_eq_false_iff_ne, decide_eq_true_eq, decide_eq_false_iff_not, Bool.not_eq_eq_eq_not, Bool.not_true, Bool.not_false, ne_eq]
      clear hYe hRe step ih hd
      repeat' first | apply And.intro | (intro hh)
      all_goals first | exact trivial | exact mH0_ok | exact mT1_ok | exact mT2_ok | exact rfl | skip
      all_goals first | (refine hyes ?_; omega) | (refine hno ?_; omega) | skip
    · have h1 : ¬ i < n := by simpa using h
      have e : mayV cs off n = true := mayV_iff.2 ⟨hn, fun j hj => hd j (by omega)⟩
      rw [e]
      rfl
end
end Go.Proofs.Ytebkbihhnoellaa
/- Of code: what the functions promise, and the states of Encode and Decode. No condition. -/
namespace Go.Proofs.Ytebkbihhnoellaa
noncomputable section
def nilV : SV := .s (.c (.f (.lit (.slice none 0 0))))
/-- A row of instructions. -/
def rowI (m : SMem) (i : Nat) : Option (Array Value) := match getB m.bl i with
  | some ⟨.raw cs, _, _⟩ => some cs
  | some ⟨.pop cs, _, _⟩ => some cs
  | _ => none
def mayT (m : SMem) : SV → Option Tree
  | .s (.c (.f (.lit (.slice none 0 0)))) => some (.ret (sB (.l true)) m)
  | .s (.c (.f .e0)) => some (.ret (sB (.l true)) m)
  | .s (.c (.f (.slice i o n _))) => match rowI m i with
    | some cs => some (needs [InsOk cs o.den n.den] (.ret (sB (.o (mayV cs o.den n.den))) m))
    | none => none
  | _ => none
def con9 (g : FuncId) (l : List SV) (m : SMem) : Option Tree := match g, l with
  | 6, [] => some (needs [] (.ret (sB (.l true)) m))
  | 25, [x] => mayT m x
  | _, _ => none
def E9 : Env := ⟨Try.prog, fnOf, con9, fun _ _ x => isLoop x⟩
def u8V (n : Int) : Value := .int .u8 n
end
end Go.Proofs.Ytebkbihhnoellaa
/- Of code: rows of instructions, and their bytes. No condition. -/
namespace Go.Proofs.Ytebkbihhnoellaa
def byteOf (v : Value) : UInt8 := UInt8.ofNat (match v with | .int _ n => n.toNat | _ => 0)
theorem strOf_go (vs : List Value) : ∀ r : ByteArray, (vs.foldl (fun r v => r.push (UInt8.ofNat (match v with | .int _ n => n.toNat | _ => 0))) r).data.toList = r.data.toList ++ vs.map byteOf := by
  induction vs with
  | nil => intro r; simp
  | cons v vs ih =>
    intro r
    rw [List.foldl_cons, ih]
    have : ∀ b, (r.push b).data.toList = r.data.toList ++ [b] := fun b => Array.toList_push
    rw [this]
    simp [byteOf]
theorem strOf_list (vs : List Value) : (strOf vs).data.toList = vs.map byteOf := by
  exact (strOf_go vs ByteArray.empty).trans (List.nil_append _)
theorem size_list (s : ByteArray) : s.size = s.data.toList.length := by rw [Array.length_toList]; rfl
theorem strOf_size (vs : List Value) : (strOf vs).size = vs.length := by rw [size_list, strOf_list, List.length_map]
theorem byteAt_list (s : ByteArray) (i : Nat) : byteAt s i = (s.data.toList[i]?.map fun b => (b.toNat : Int)).getD 0 := by
  unfold byteAt
  by_cases h : i < s.size
  · have h2 : i < s.data.toList.length := by rw [← size_list]; exact h
    rw [getElem?_pos s i h, List.getElem?_eq_getElem h2]
    rfl
  · have h2 : ¬ i < s.data.toList.length := by rw [← size_list]; exact h
    rw [getElem?_neg s i h, List.getElem?_eq_none (by omega)]
    rfl
theorem byteAt_range (s : ByteArray) (i : Nat) : 0 ≤ byteAt s i ∧ byteAt s i ≤ 255 := by
  rw [byteAt_list]
  cases s.data.toList[i]? with
  | none => exact ⟨by decide, by decide⟩
  | some b => have := b.toNat_lt; exact ⟨by simp, by simp; omega⟩
theorem byteAt_cut (s : ByteArray) (j i : Nat) : byteAt (s.extract j s.size) i = byteAt s (j + i) := by
  rw [byteAt_list, byteAt_list, ByteArray.data_extract, Array.toList_extract, List.extract_eq_take_drop, List.getElem?_take]
  split
  · rw [List.getElem?_drop]
  · rename_i h
    rw [List.getElem?_eq_none]
    rw [← size_list]; omega
theorem bytes_ext {s t : ByteArray} (hs : s.size = t.size) (h : ∀ i, i < s.size → byteAt s i = byteAt t i) : s = t := by
  apply ByteArray.ext
  rw [← Array.toList_inj]
  apply List.ext_getElem?
  intro i
  by_cases hi : i < s.size
  · have h1 : i < s.data.toList.length := by rw [← size_list]; exact hi
    have h2 : i < t.data.toList.length := by rw [← size_list, ← hs]; exact hi
    have := h i hi
    rw [byteAt_list, byteAt_list, List.getElem?_eq_getElem h1, List.getElem?_eq_getElem h2] at this
    rw [List.getElem?_eq_getElem h1, List.getElem?_eq_getElem h2]
    simp only [Option.map_some, Option.getD_some, Int.natCast_inj] at this
    rw [UInt8.toNat_inj.1 this]
  · rw [List.getElem?_eq_none, List.getElem?_eq_none]
    · rw [← size_list]; omega
    · rw [← size_list]; omega
theorem byteAt_strOf (vs : List Value) (i : Nat) : byteAt (strOf vs) i = (vs[i]?.map fun v => ((byteOf v).toNat : Int)).getD 0 := by
  rw [byteAt_list, strOf_list, List.getElem?_map]
  cases vs[i]? <;> rfl
/-! Rows in equal parts. -/
def parts (f : Nat → List Value) : Nat → List Value
  | 0 => []
  | i + 1 => parts f i ++ f i
theorem parts_len {f : Nat → List Value} {c : Nat} (hf : ∀ i, (f i).length = c) : ∀ n, (parts f n).length = n * c
  | 0 => by simp [parts]
  | n + 1 => by rw [parts, List.length_append, parts_len hf n, hf, Nat.succ_mul]
theorem parts_at {f : Nat → List Value} {c : Nat} (hf : ∀ i, (f i).length = c) : ∀ {n i t : Nat}, i < n → t < c → (parts f n)[i * c + t]? = (f i)[t]?
  | 0, _, _, h, _ => by omega
  | n + 1, i, t, h, ht => by
    unfold parts
    by_cases e : i = n
    · subst e
      rw [List.getElem?_append_right (by rw [parts_len hf]; omega), parts_len hf, Nat.add_sub_cancel_left]
    · have hlt : i * c + t < n * c := by
        have : (i + 1) * c ≤ n * c := Nat.mul_le_mul_right c (by omega)
        rw [Nat.succ_mul] at this
        omega
      rw [List.getElem?_append_left (by rw [parts_len hf]; exact hlt)]
      exact parts_at hf (by omega) ht
theorem place_of {c p n : Nat} (hc : 0 < c) (h : p < n * c) : ∃ i t, i < n ∧ t < c ∧ p = i * c + t :=
  ⟨p / c, p % c, Nat.div_lt_of_lt_mul (by rw [Nat.mul_comm]; exact h), Nat.mod_lt _ hc, by rw [Nat.mul_comm]; exact (Nat.div_add_mod p c).symm⟩
end Go.Proofs.Ytebkbihhnoellaa
/- Of code: what May and Encode answer, as contracts. No condition. -/
namespace Go.Proofs.Ytebkbihhnoellaa
set_option maxRecDepth 100000
/-! What only reads a block. -/
theorem Con.ro {E : Env} (hE : EnvOk E) {g : FuncId} {fn : Func} {c : Code} {l l' : List SV} {m ms : SMem} {q : List Prop} {s0 : SV} {A : SV → SMem → Prop} (h1 : E.fn g = some fn) (h2 : fn.body = some c) (hxs : ms.xs = []) (ι : Nat → Nat)
    (hm : ∀ i b, getB ms.bl i = some b → i < ms.next ∧ b.wr = false ∧ ∃ d, getB m.bl (ι i) = some d ∧ b.ty = d.ty ∧ ∀ R cs, d.arr.okM R cs → b.arr.okM (pull ι ms.next R) cs)
    (hl : ∀ R vs, All2 (SV.ok R) l vs → All2 (SV.ok (pull ι ms.next R)) l' vs) (good : (∀ p ∈ q, p) → Good E.P A ms.next [callFr g fn.ntmps l' c] ms)
    (hs : ∀ s m' R R' v, A s m' → s.ok R' v → s0.ok R v) : Con E g l m (needs q (.ret s0 m)) := by
  intro B hB
  obtain ⟨hq, hA⟩ := Tree.sat_needs hB
  refine ⟨fn, h1, by rw [h2]; rfl, fun n0 F w0 w R args ha hR => ?_⟩
  refine (frame_ro (hE.fns _ _ h1).1 h2 (good hq) hxs hm (hl R _ ha) hR).mono ?_
  rintro v w' ⟨k1, k2, s, m', R', k3, k4⟩
  exact ⟨s0, m, R, hA, ⟨fun _ _ h => h, fun _ _ h => .inl h, k2, Nat.le_refl _⟩, k1, hs _ _ _ _ _ k3 k4⟩
theorem needs_br {q : List Prop} {b : Bool} {t e : Tree} {A : SV → SMem → Prop} (h : (needs q (.br b t e)).sat A (fun _ _ => False)) : (b = true → (needs q t).sat A (fun _ _ => False)) ∧ (b = false → (needs q e).sat A (fun _ _ => False)) := by
  cases q with
  | nil => exact ⟨fun x => h.1 x, fun x => h.2 x⟩
  | cons p l => exact ⟨fun x => ⟨h.1, h.2.1 x⟩, fun x => ⟨h.1, h.2.2 x⟩⟩
theorem Con.br {E : Env} {g : FuncId} {l : List SV} {m : SMem} {q : List Prop} {b : Bool} {t e : Tree} (h1 : b = true → Con E g l m (needs q t)) (h2 : b = false → Con E g l m (needs q e)) : Con E g l m (needs q (.br b t e)) := by
  intro A hs
  cases b with
  | true => exact h1 rfl A ((needs_br hs).1 rfl)
  | false => exact h2 rfl A ((needs_br hs).2 rfl)
theorem row_of {m : SMem} {i : Nat} {cs : Array Value} (h : rowI m i = some cs) : ∃ v ty wr, getB m.bl i = some ⟨prA v cs, ty, wr⟩ := by
  unfold rowI at h
  split at h
  · rename_i e; cases h; exact ⟨true, _, _, e⟩
  · rename_i e; cases h; exact ⟨false, _, _, e⟩
  · cases h
theorem prM_get {v : Bool} {cs : Array Value} {ty : TypeId} {i : Nat} {b : SBlk} (h : getB (prM v cs ty).bl i = some b) : i = 0 ∧ b = ⟨prA v cs, ty, false⟩ := by
  unfold getB prM at h
  cases i with
  | zero => cases h; exact ⟨rfl, rfl⟩
  | succ i =>
    have h : ((Tr.node .nil (some ⟨prA v cs, ty, false⟩) .nil : Tr SBlk)).get (i + 1) = some b := h
    rw [Tr.get_succ, Tr.get_nil, ite_self] at h
    cases h
/-- A function of a row of instructions that only reads. -/
theorem Con.row {g : FuncId} {fn : Func} {c : Code} {m : SMem} {i : Nat} {o n : SN} {cap : SK} {cs : Array Value} {q : List Prop} {s0 : SV} {A : SV → SMem → Prop} (h1 : E0.fn g = some fn) (h2 : fn.body = some c) (hr : rowI m i = some cs)
    (good : ∀ v ty, (∀ p ∈ q, p) → Good Try.prog A 1 [callFr g fn.ntmps [prS o.den n.den] c] (prM v cs ty)) (hs : ∀ s m' R R' v, A s m' → s.ok R' v → s0.ok R v) :
    Con E0 g [.s (.c (.f (.slice i o n cap)))] m (needs q (.ret s0 m)) := by
  obtain ⟨v, ty, wr, hb⟩ := row_of hr
  refine Con.ro E0_ok (l' := [prS o.den n.den]) (ms := prM v cs ty) (A := A) h1 h2 rfl (fun _ => i) ?_ ?_ (good v ty) hs
  · intro j b hj
    obtain ⟨rfl, rfl⟩ := prM_get hj
    refine ⟨Nat.zero_lt_one, rfl, _, hb, rfl, fun R cs' h => ?_⟩
    cases v <;> exact h
  · intro R vs ha
    match vs, ha with
    | [x], ha =>
      obtain ⟨⟨gl, cp, e1, e2, e3, e4⟩, _⟩ := ha
      exact ⟨⟨gl, cp, by unfold pull; exact e1, e2, trivial, e4⟩, trivial⟩
/-! May. -/
theorem may_good (v : Bool) (off n : Nat) (cs : Array Value) (ty : TypeId) (hI : InsOk cs off n) : Good Try.prog (boolR (mayV cs off n)) 1 (mayC off n) (prM v cs ty) := by
  have step : ∀ (r : Bool) (i : Int) (Q : Int → Prop), (gS EM 1 (mayC off n) (prM v cs ty) [(8, i64 (.o i))] []).vc (boolR r) (mayN true v off n cs ty Q) = (gS EM 1 (mayC off n) (prM true cs ty) [(8, i64 (.o i))] []).vc (boolR r) (mayN true true off n cs ty Q) := by
    intro r i Q
    cases v with
    | true => rfl
    | false => exact (may_step_p off n cs ty r i Q).trans (may_step_r off n cs ty r i Q).symm
  have start : ∀ (r : Bool) (Q : Int → Prop), (gR EM 1 (mayC off n) (prM v cs ty)).vc (boolR r) (mayN false v off n cs ty Q) = (gR EM 1 (mayC off n) (prM true cs ty)).vc (boolR r) (mayN false true off n cs ty Q) := by
    intro r Q
    cases v with
    | true => rfl
    | false => exact (may_start_p off n cs ty r Q).trans (may_start_r off n cs ty r Q).symm
  refine run_vc EM_ok 1000 ((start (mayV cs off n) (fun i => i = 0 ∧ n ≤ 64)).trans (may_start_r off n cs ty _ _)) ?_ (fun _ _ h => h)
    (fun fs m hb => mayN_good (fun i ⟨e, hn⟩ => by rw [e]; exact may_round off n cs ty hI hn step (n + 1) 0 (by omega) (by omega) (fun j hj => by omega)) hb)
  refine ⟨fun h => ?_, fun h => ?_⟩
  · have : n ≤ 64 := by simp at h; omega
    repeat' first | exact this | exact trivial | exact mT0_ok | exact mT1_ok | exact mT2_ok | apply And.intro | exact rfl
  · have : ¬ n ≤ 64 := by simp at h; omega
    unfold mayV
    rw [decide_eq_false this]; rfl
theorem fn9 : E0.fn 25 = some Try.f25 := by kernel_rfl
theorem body9 : Try.f25.body = some (Try.f25.body.getD .skip) := by kernel_rfl
theorem may_con {m : SMem} {i : Nat} {o n : SN} {cap : SK} {cs : Array Value} (hr : rowI m i = some cs) : Con E0 25 [.s (.c (.f (.slice i o n cap)))] m (needs [InsOk cs o.den n.den] (.ret (sB (.o (mayV cs o.den n.den))) m)) := by
  refine Con.row fn9 body9 hr (A := boolR (mayV cs o.den n.den)) (fun v ty hq => may_good v o.den n.den cs ty (hq _ (List.mem_cons_self ..))) ?_
  intro s m' R R' v h hv
  unfold boolR at h
  split at h
  · have hv : v = .bool _ := hv
    rw [hv, h]; rfl
  · exact h.elim
theorem may_nil : (run E0 1000 0 [callFr 25 Try.f25.ntmps [nilV] (Try.f25.body.getD .skip)] ⟨0, .nil, []⟩).allTrue = true := by kernel_rfl
theorem may_e0 : (run E0 1000 0 [callFr 25 Try.f25.ntmps [.s (.c (.f .e0))] (Try.f25.body.getD .skip)] ⟨0, .nil, []⟩).allTrue = true := by kernel_rfl
theorem mayT_ok {m : SMem} {x : SV} {t : Tree} (h : mayT m x = some t) : Con E0 25 [x] m t := by
  unfold mayT at h
  split at h
  · cases h
    exact Con.pure (q := []) E0_ok fn9 body9 (by kernel_rfl) (by kernel_rfl) fun _ => good_true E0_ok may_nil
  · cases h
    exact Con.pure (q := []) E0_ok fn9 body9 (by kernel_rfl) (by kernel_rfl) fun _ => good_true E0_ok may_e0
  · split at h
    · rename_i cs e
      cases h
      exact may_con e
    · cases h
  · cases h
theorem wakes_true : (run E0 100000 0 [callFr 6 Try.f6.ntmps [] (Try.f6.body.getD .skip)] ⟨0, .nil, []⟩).allTrue = true := by kernel_rfl
theorem wakes_fn : E0.fn 6 = some Try.f6 := by kernel_rfl
theorem wakes_body : Try.f6.body = some (Try.f6.body.getD .skip) := by kernel_rfl
theorem wakes_con (m : SMem) : Con E0 6 [] m (needs [] (.ret (sB (.l true)) m)) :=
  Con.pure E0_ok wakes_fn wakes_body (by kernel_rfl) (by kernel_rfl) fun _ => good_true E0_ok wakes_true
theorem con9_ok (g : FuncId) (l : List SV) (m : SMem) (t : Tree) (h : con9 g l m = some t) : Con E0 g l m t := by
  unfold con9 at h
  split at h
  · cases h; exact wakes_con m
  · exact mayT_ok h
  · cases h
theorem E9_ok : EnvOk E9 := EnvOk.with E0_ok _ _ con9_ok
end Go.Proofs.Ytebkbihhnoellaa
/- Of flow: from: its recursion's states. No condition. -/
namespace Go.Proofs.Ytebkbihhnoellaa
noncomputable section
def pt (i : Nat) : SV := ptr i (.l 0)
def prS' (off n : Nat) : SC := .f (.slice 0 (.o off) (.o n) .any)
def mtBl (cs : Array Value) (ty : TypeId) (off n : Nat) (shut : Int) (ws : SA) : List (Nat × SBlk) :=
  [(0, ⟨.raw cs, ty, false⟩), (1, ⟨.ls [prS' off n], 22, true⟩), (2, ⟨.ls [.f (.int .i64 (.o shut))], 3, true⟩), (4, ⟨ws, 57, true⟩), (5, ⟨.ls [.fn (.func 41) [] [.ptr 2 (.l 0), .ptr 4 (.l 0), .ptr 1 (.l 0), .ptr 5 (.l 0)]], 76, true⟩)]
def mtM (cs : Array Value) (ty : TypeId) (off n : Nat) (shut : Int) (ws : SA) : SMem := mkM 6 (mtBl cs ty off n shut ws)
abbrev FM := Array Value → Nat → Nat → Int → Int → Array Value → Array Value
abbrev FP := Array Value → Nat → Nat → Int → Int → Array Value → Prop
def isPt (k : Nat) (x : SV) : Bool := match x with
  | .s (.c (.f (.ptr i (.l o)))) => Nat.beq i k && Nat.beq o 0
  | _ => false
def rd0 (b : Option SBlk) : Option (Array Value × TypeId) := match b with
  | some ⟨.raw cs, ty, false⟩ => some (cs, ty)
  | _ => none
def rd1 (b : Option SBlk) : Option (Nat × Nat) := match b with
  | some ⟨.ls [.f (.slice i (.o off) (.o n) .any)], ty, true⟩ => match Nat.beq i 0 && Nat.beq ty 22 with
    | true => some (off, n)
    | false => none
  | _ => none
def rd2 (b : Option SBlk) : Option Int := match b with
  | some ⟨.ls [.f (.int .i64 (.o s))], ty, true⟩ => match Nat.beq ty 3 with
    | true => some s
    | false => none
  | _ => none
def rowX (a : SA) : Option (Array Value) := match a with
  | .op cs => some cs
  | .ls l => match plains l with
    | some vs => some vs.toArray
    | none => none
  | _ => none
def rd4 (b : Option SBlk) : Option (Array Value) := match b with
  | some ⟨w, ty, true⟩ => match Nat.beq ty 57 with
    | true => rowX w
    | false => none
  | _ => none
def isP (k : Nat) (x : SF) : Bool := match x with
  | .ptr i (.l o) => Nat.beq i k && Nat.beq o 0
  | _ => false
def rd5 (b : Option SBlk) : Bool := match b with
  | some ⟨.ls [.fn (.func g) [] [a, b, c, d]], ty, true⟩ => Nat.beq g 41 && (Nat.beq ty 76 && (isP 2 a && (isP 4 b && (isP 1 c && isP 5 d))))
  | _ => false
def out4 (M : FM) (cs : Array Value) (ty : TypeId) (off n : Nat) (s a : Int) (ws : Array Value) (m : SMem) : SMem := ⟨m.next, insB (lsT (mtM cs ty off n s (.op (M cs off n s a ws))).bl (mtM cs ty off n s (.op (M cs off n s a ws))).bl.keys) m.bl, m.xs⟩
def arg41 (l : List SV) : Option Int := match l with
  | [.s (.c (.f (.int .i64 a))), p, q, r, t] => match isPt 2 p && (isPt 4 q && (isPt 1 r && isPt 5 t)) with
    | true => some a.den
    | false => none
  | _ => none
/-- The function that calls itself, by what it does to the set of places. -/
def conMt (M : FM) (P : FP) (g : FuncId) (l : List SV) (m : SMem) : Option Tree :=
  match Nat.beq g 41 && (Nat.ble 6 m.next && rd5 (getB m.bl 5)), arg41 l, rd0 (getB m.bl 0), rd1 (getB m.bl 1), rd2 (getB m.bl 2), rd4 (getB m.bl 4) with
  | true, some a, some (cs, ty), some (off, n), some s, some ws => some (.need [P cs off n s a ws] (.ret (.tup []) (out4 M cs ty off n s a ws m)))
  | _, _, _, _, _, _ => none
def EMt (M : FM) (P : FP) : Env := ⟨Try.prog, fnOf, conMt M P, fun _ _ _ => false⟩
def mtC (a : Int) : List SFr := [callFr 41 Try.f41.ntmps [i64 (.o a), pt 2, pt 4, pt 1, pt 5] (Try.f41.body.getD .skip)]
def fromC (off n : Nat) (a s : Int) : List SFr := [callFr 35 Try.f35.ntmps [prS off n, i64 (.o a), i64 (.o s)] (Try.f35.body.getD .skip)]
end
end Go.Proofs.Ytebkbihhnoellaa
/- Of flow: from: what it does, as propositions. No condition. -/
namespace Go.Proofs.Ytebkbihhnoellaa
set_option maxRecDepth 100000
theorem mt_vc (M : FM) (P : FP) (cs : Array Value) (ty : TypeId) (off n : Nat) (shut a : Int) (ws rs : Array Value) : (run (EMt M P) 4000 6 (mtC a) (mtM cs ty off n shut (.op ws))).vc (retOk 6 [] (.tup []) (mtM cs ty off n shut (.op rs))) (fun _ _ => False) =
    ((((a == shut) == false) = true → (Array.size ws = (2 : Nat) ∧ True) ∧ (((0 : Int) ≤ ari BinOp.quo IntKind.i64 a (64 : Int) ∧ ari BinOp.quo IntKind.i64 a (64 : Int) < (2 : Int)) ∧ True) ∧ (IsInt IntKind.u64 ws ((0 : Nat) + Int.toNat (ari BinOp.quo IntKind.i64 a (64 : Int)) * (1 : Nat)) ∧ True) ∧ ((0 : Int) ≤ ari BinOp.rem IntKind.i64 a (64 : Int) ∧ True) ∧ ((ari BinOp.and IntKind.u64 (ari BinOp.shr IntKind.u64 (intAt ws ((0 : Nat) + Int.toNat (ari BinOp.quo IntKind.i64 a (64 : Int)) * (1 : Nat))) (ari BinOp.rem IntKind.i64 a (64 : Int))) (1 : Int) == (1 : Int)) = true → ty = ty ∧ cs = cs ∧ (22 : TypeId) = (22 : TypeId) ∧ off = off ∧ n = n ∧ (76 : TypeId) = (76 : TypeId) ∧ Fn.func (41 : Nat) = Fn.func (41 : Nat) ∧ (3 : TypeId) = (3 : TypeId) ∧ shut = shut ∧ (57 : TypeId) = (57 : TypeId) ∧ rs = ws ∧ True) ∧ ((ari BinOp.and IntKind.u64 (ari BinOp.shr IntKind.u64 (intAt ws ((0 : Nat) + Int.toNat (ari BinOp.quo IntKind.i64 a (64 : Int)) * (1 : Nat))) (ari BinOp.rem IntKind.i64 a (64 : Int))) (1 : Int) == (1 : Int)) = false → (((0 : Int) ≤ ari BinOp.quo IntKind.i64 a (64 : Int) ∧ ari BinOp.quo IntKind.i64 a (64 : Int) < (2 : Int)) ∧ True) ∧ (IsInt IntKind.u64 ws ((0 : Nat) + Int.toNat (ari BinOp.quo IntKind.i64 a (64 : Int)) * (1 : Nat)) ∧ True) ∧ ((0 : Int) ≤ ari BinOp.rem IntKind.i64 a (64 : Int) ∧ True) ∧ (((0 : Int) ≤ ari BinOp.quo IntKind.i64 a (64 : Int) ∧ ari BinOp.quo IntKind.i64 a (64 : Int) < (2 : Int)) ∧ True) ∧ ((0 : Nat) + Int.toNat (ari BinOp.quo IntKind.i64 a (64 : Int)) * (1 : Nat) < Array.size ws ∧ True) ∧ ((decide (a < (0 : Int)) == false) = true → (decide (a ≥ (↑n : Int)) = true → ty = ty ∧ cs = cs ∧ (22 : TypeId) = (22 : TypeId) ∧ off = off ∧ n = n ∧ (76 : TypeId) = (76 : TypeId) ∧ Fn.func (41 : Nat) = Fn.func (41 : Nat) ∧ (3 : TypeId) = (3 : TypeId) ∧ shut = shut ∧ (57 : TypeId) = (57 : TypeId) ∧ rs = Array.setIfInBounds ws ((0 : Nat) + Int.toNat (ari BinOp.quo IntKind.i64 a (64 : Int)) * (1 : Nat)) (Value.int IntKind.u64 (ari BinOp.or IntKind.u64 (intAt ws ((0 : Nat) + Int.toNat (ari BinOp.quo IntKind.i64 a (64 : Int)) * (1 : Nat))) (ari BinOp.shl IntKind.u64 (1 : Int) (ari BinOp.rem IntKind.i64 a (64 : Int))))) ∧ True) ∧ (decide (a ≥ (↑n : Int)) = false → (((0 : Int) ≤ a ∧ a < (↑n : Int)) ∧ True) ∧ (IsInt IntKind.u16 cs (off + Int.toNat a * (5 : Nat) + 4) ∧ True) ∧ (((0 : Int) ≤ a ∧ a < (↑n : Int)) ∧ True) ∧ (IsInt IntKind.u8 cs (off + Int.toNat a * (5 : Nat)) ∧ True) ∧ ((intAt cs (off + Int.toNat a * (5 : Nat)) == (0 : Int)) = true → ty = ty ∧ cs = cs ∧ (22 : TypeId) = (22 : TypeId) ∧ off = off ∧ n = n ∧ (76 : TypeId) = (76 : TypeId) ∧ Fn.func (41 : Nat) = Fn.func (41 : Nat) ∧ (3 : TypeId) = (3 : TypeId) ∧ shut = shut ∧ (57 : TypeId) = (57 : TypeId) ∧ rs = Array.setIfInBounds ws ((0 : Nat) + Int.toNat (ari BinOp.quo IntKind.i64 a (64 : Int)) * (1 : Nat)) (Value.int IntKind.u64 (ari BinOp.or IntKind.u64 (intAt ws ((0 : Nat) + Int.toNat (ari BinOp.quo IntKind.i64 a (64 : Int)) * (1 : Nat))) (ari BinOp.shl IntKind.u64 (1 : Int) (ari BinOp.rem IntKind.i64 a (64 : Int))))) ∧ True) ∧ ((intAt cs (off + Int.toNat a * (5 : Nat)) == (0 : Int)) = false → ((intAt cs (off + Int.toNat a * (5 : Nat)) == (5 : Int)) = true → (P cs off n shut (IntKind.wrap IntKind.i64 (intAt cs (off + Int.toNat a * (5 : Nat) + 4))) (Array.setIfInBounds ws ((0 : Nat) + Int.toNat (ari BinOp.quo IntKind.i64 a (64 : Int)) * (1 : Nat)) (Value.int IntKind.u64 (ari BinOp.or IntKind.u64 (intAt ws ((0 : Nat) + Int.toNat (ari BinOp.quo IntKind.i64 a (64 : Int)) * (1 : Nat))) (ari BinOp.shl IntKind.u64 (1 : Int) (ari BinOp.rem IntKind.i64 a (64 : Int)))))) ∧ True) ∧ ty = ty ∧ cs = cs ∧ (22 : TypeId) = (22 : TypeId) ∧ off = off ∧ n = n ∧ (76 : TypeId) = (76 : TypeId) ∧ Fn.func (41 : Nat) = Fn.func (41 : Nat) ∧ (3 : TypeId) = (3 : TypeId) ∧ shut = shut ∧ (57 : TypeId) = (57 : TypeId) ∧ rs = M cs off n shut (IntKind.wrap IntKind.i64 (intAt cs (off + Int.toNat a * (5 : Nat) + 4))) (Array.setIfInBounds ws ((0 : Nat) + Int.toNat (ari BinOp.quo IntKind.i64 a (64 : Int)) * (1 : Nat)) (Value.int IntKind.u64 (ari BinOp.or IntKind.u64 (intAt ws ((0 : Nat) + Int.toNat (ari BinOp.quo IntKind.i64 a (64 : Int)) * (1 : Nat))) (ari BinOp.shl IntKind.u64 (1 : Int) (ari BinOp.rem IntKind.i64 a (64 : Int)))))) ∧ True) ∧ ((intAt cs (off + Int.toNat a * (5 : Nat)) == (5 : Int)) = false → ((intAt cs (off + Int.toNat a * (5 : Nat)) == (6 : Int)) = true → (((if ari BinOp.add IntKind.i64 a (1 : Int) > IntKind.wrap IntKind.i64 (intAt cs (off + Int.toNat a * (5 : Nat) + 4)) then ari BinOp.add IntKind.i64 a (1 : Int) else IntKind.wrap IntKind.i64 (intAt cs (off + Int.toNat a * (5 : Nat) + 4))) == if ari BinOp.add IntKind.i64 a (1 : Int) < IntKind.wrap IntKind.i64 (intAt cs (off + Int.toNat a * (5 : Nat) + 4)) then ari BinOp.add IntKind.i64 a (1 : Int) else IntKind.wrap IntKind.i64 (intAt cs (off + Int.toNat a * (5 : Nat) + 4))) = true → (P cs off n shut (if ari BinOp.add IntKind.i64 a (1 : Int) < IntKind.wrap IntKind.i64 (intAt cs (off + Int.toNat a * (5 : Nat) + 4)) then ari BinOp.add IntKind.i64 a (1 : Int) else IntKind.wrap IntKind.i64 (intAt cs (off + Int.toNat a * (5 : Nat) + 4))) (Array.setIfInBounds ws ((0 : Nat) + Int.toNat (ari BinOp.quo IntKind.i64 a (64 : Int)) * (1 : Nat)) (Value.int IntKind.u64 (ari BinOp.or IntKind.u64 (intAt ws ((0 : Nat) + Int.toNat (ari BinOp.quo IntKind.i64 a (64 : Int)) * (1 : Nat))) (ari BinOp.shl IntKind.u64 (1 : Int) (ari BinOp.rem IntKind.i64 a (64 : Int)))))) ∧ True) ∧ ty = ty ∧ cs = cs ∧ (22 : TypeId) = (22 : TypeId) ∧ off = off ∧ n = n ∧ (76 : TypeId) = (76 : TypeId) ∧ Fn.func (41 : Nat) = Fn.func (41 : Nat) ∧ (3 : TypeId) = (3 : TypeId) ∧ shut = shut ∧ (57 : TypeId) = (57 : TypeId) ∧ rs = M cs off n shut (if ari BinOp.add IntKind.i64 a (1 : Int) < IntKind.wrap IntKind.i64 (intAt cs (off + Int.toNat a * (5 : Nat) + 4)) then ari BinOp.add IntKind.i64 a (1 : Int) else IntKind.wrap IntKind.i64 (intAt cs (off + Int.toNat a * (5 : Nat) + 4))) (Array.setIfInBounds ws ((0 : Nat) + Int.toNat (ari BinOp.quo IntKind.i64 a (64 : Int)) * (1 : Nat)) (Value.int IntKind.u64 (ari BinOp.or IntKind.u64 (intAt ws ((0 : Nat) + Int.toNat (ari BinOp.quo IntKind.i64 a (64 : Int)) * (1 : Nat))) (ari BinOp.shl IntKind.u64 (1 : Int) (ari BinOp.rem IntKind.i64 a (64 : Int)))))) ∧ True) ∧ (((if ari BinOp.add IntKind.i64 a (1 : Int) > IntKind.wrap IntKind.i64 (intAt cs (off + Int.toNat a * (5 : Nat) + 4)) then ari BinOp.add IntKind.i64 a (1 : Int) else IntKind.wrap IntKind.i64 (intAt cs (off + Int.toNat a * (5 : Nat) + 4))) == if ari BinOp.add IntKind.i64 a (1 : Int) < IntKind.wrap IntKind.i64 (intAt cs (off + Int.toNat a * (5 : Nat) + 4)) then ari BinOp.add IntKind.i64 a (1 : Int) else IntKind.wrap IntKind.i64 (intAt cs (off + Int.toNat a * (5 : Nat) + 4))) = false → (P cs off n shut (if ari BinOp.add IntKind.i64 a (1 : Int) < IntKind.wrap IntKind.i64 (intAt cs (off + Int.toNat a * (5 : Nat) + 4)) then ari BinOp.add IntKind.i64 a (1 : Int) else IntKind.wrap IntKind.i64 (intAt cs (off + Int.toNat a * (5 : Nat) + 4))) (Array.setIfInBounds ws ((0 : Nat) + Int.toNat (ari BinOp.quo IntKind.i64 a (64 : Int)) * (1 : Nat)) (Value.int IntKind.u64 (ari BinOp.or IntKind.u64 (intAt ws ((0 : Nat) + Int.toNat (ari BinOp.quo IntKind.i64 a (64 : Int)) * (1 : Nat))) (ari BinOp.shl IntKind.u64 (1 : Int) (ari BinOp.rem IntKind.i64 a (64 : Int)))))) ∧ True) ∧ (P cs off n shut (if ari BinOp.add IntKind.i64 a (1 : Int) > IntKind.wrap IntKind.i64 (intAt cs (off + Int.toNat a * (5 : Nat) + 4)) then ari BinOp.add IntKind.i64 a (1 : Int) else IntKind.wrap IntKind.i64 (intAt cs (off + Int.toNat a * (5 : Nat) + 4))) (M cs off n shut (if ari BinOp.add IntKind.i64 a (1 : Int) < IntKind.wrap IntKind.i64 (intAt cs (off + Int.toNat a * (5 : Nat) + 4)) then ari BinOp.add IntKind.i64 a (1 : Int) else IntKind.wrap IntKind.i64 (intAt cs (off + Int.toNat a * (5 : Nat) + 4))) (Array.setIfInBounds ws ((0 : Nat) + Int.toNat (ari BinOp.quo IntKind.i64 a (64 : Int)) * (1 : Nat)) (Value.int IntKind.u64 (ari BinOp.or IntKind.u64 (intAt ws ((0 : Nat) + Int.toNat (ari BinOp.quo IntKind.i64 a (64 : Int)) * (1 : Nat))) (ari BinOp.shl IntKind.u64 (1 : Int) (ari BinOp.rem IntKind.i64 a (64 : Int))))))) ∧ True) ∧ ty = ty ∧ cs = cs ∧ (22 : TypeId) = (22 : TypeId) ∧ off = off ∧ n = n ∧ (76 : TypeId) = (76 : TypeId) ∧ Fn.func (41 : Nat) = Fn.func (41 : Nat) ∧ (3 : TypeId) = (3 : TypeId) ∧ shut = shut ∧ (57 : TypeId) = (57 : TypeId) ∧ rs = M cs off n shut (if ari BinOp.add IntKind.i64 a (1 : Int) > IntKind.wrap IntKind.i64 (intAt cs (off + Int.toNat a * (5 : Nat) + 4)) then ari BinOp.add IntKind.i64 a (1 : Int) else IntKind.wrap IntKind.i64 (intAt cs (off + Int.toNat a * (5 : Nat) + 4))) (M cs off n shut (if ari BinOp.add IntKind.i64 a (1 : Int) < IntKind.wrap IntKind.i64 (intAt cs (off + Int.toNat a * (5 : Nat) + 4)) then ari BinOp.add IntKind.i64 a (1 : Int) else IntKind.wrap IntKind.i64 (intAt cs (off + Int.toNat a * (5 : Nat) + 4))) (Array.setIfInBounds ws ((0 : Nat) + Int.toNat (ari BinOp.quo IntKind.i64 a (64 : Int)) * (1 : Nat)) (Value.int IntKind.u64 (ari BinOp.or IntKind.u64 (intAt ws ((0 : Nat) + Int.toNat (ari BinOp.quo IntKind.i64 a (64 : Int)) * (1 : Nat))) (ari BinOp.shl IntKind.u64 (1 : Int) (ari BinOp.rem IntKind.i64 a (64 : Int))))))) ∧ True)) ∧ ((intAt cs (off + Int.toNat a * (5 : Nat)) == (6 : Int)) = false → (P cs off n shut (ari BinOp.add IntKind.i64 a (1 : Int)) (Array.setIfInBounds ws ((0 : Nat) + Int.toNat (ari BinOp.quo IntKind.i64 a (64 : Int)) * (1 : Nat)) (Value.int IntKind.u64 (ari BinOp.or IntKind.u64 (intAt ws ((0 : Nat) + Int.toNat (ari BinOp.quo IntKind.i64 a (64 : Int)) * (1 : Nat))) (ari BinOp.shl IntKind.u64 (1 : Int) (ari BinOp.rem IntKind.i64 a (64 : Int)))))) ∧ True) ∧ ty = ty ∧ cs = cs ∧ (22 : TypeId) = (22 : TypeId) ∧ off = off ∧ n = n ∧ (76 : TypeId) = (76 : TypeId) ∧ Fn.func (41 : Nat) = Fn.func (41 : Nat) ∧ (3 : TypeId) = (3 : TypeId) ∧ shut = shut ∧ (57 : TypeId) = (57 : TypeId) ∧ rs = M cs off n shut (ari BinOp.add IntKind.i64 a (1 : Int)) (Array.setIfInBounds ws ((0 : Nat) + Int.toNat (ari BinOp.quo IntKind.i64 a (64 : Int)) * (1 : Nat)) (Value.int IntKind.u64 (ari BinOp.or IntKind.u64 (intAt ws ((0 : Nat) + Int.toNat (ari BinOp.quo IntKind.i64 a (64 : Int)) * (1 : Nat))) (ari BinOp.shl IntKind.u64 (1 : Int) (ari BinOp.rem IntKind.i64 a (64 : Int)))))) ∧ True))))) ∧ ((decide (a < (0 : Int)) == false) = false → ty = ty ∧ cs = cs ∧ (22 : TypeId) = (22 : TypeId) ∧ off = off ∧ n = n ∧ (76 : TypeId) = (76 : TypeId) ∧ Fn.func (41 : Nat) = Fn.func (41 : Nat) ∧ (3 : TypeId) = (3 : TypeId) ∧ shut = shut ∧ (57 : TypeId) = (57 : TypeId) ∧ rs = Array.setIfInBounds ws ((0 : Nat) + Int.toNat (ari BinOp.quo IntKind.i64 a (64 : Int)) * (1 : Nat)) (Value.int IntKind.u64 (ari BinOp.or IntKind.u64 (intAt ws ((0 : Nat) + Int.toNat (ari BinOp.quo IntKind.i64 a (64 : Int)) * (1 : Nat))) (ari BinOp.shl IntKind.u64 (1 : Int) (ari BinOp.rem IntKind.i64 a (64 : Int))))) ∧ True))) ∧ (((a == shut) == false) = false → ty = ty ∧ cs = cs ∧ (22 : TypeId) = (22 : TypeId) ∧ off = off ∧ n = n ∧ (76 : TypeId) = (76 : TypeId) ∧ Fn.func (41 : Nat) = Fn.func (41 : Nat) ∧ (3 : TypeId) = (3 : TypeId) ∧ shut = shut ∧ (57 : TypeId) = (57 : TypeId) ∧ rs = ws ∧ True)) := by kernel_rfl
theorem from_vc (M : FM) (P : FP) (cs : Array Value) (ty : TypeId) (off n : Nat) (a s : Int) (rs : Array Value) : (run (EMt M P) 4000 1 (fromC off n a s) (mkM 1 [(0, ⟨.raw cs, ty, false⟩)])).vc (retOk 1 [] (agg rs) (mkM 1 [(0, ⟨.raw cs, ty, false⟩)])) (fun _ _ => False) =
    ((P cs off n s a #[Value.int IntKind.u64 (0 : Int), Value.int IntKind.u64 (0 : Int)] ∧ True) ∧ (Array.size (M cs off n s a #[Value.int IntKind.u64 (0 : Int), Value.int IntKind.u64 (0 : Int)]) = (2 : Nat) ∧ True) ∧ (Array.size (M cs off n s a #[Value.int IntKind.u64 (0 : Int), Value.int IntKind.u64 (0 : Int)]) = (2 : Nat) ∧ Array.size (M cs off n s a #[Value.int IntKind.u64 (0 : Int), Value.int IntKind.u64 (0 : Int)]) = (2 : Nat) ∧ True) ∧ (Array.size (M cs off n s a #[Value.int IntKind.u64 (0 : Int), Value.int IntKind.u64 (0 : Int)]) = (2 : Nat) ∧ True) ∧ rs = M cs off n s a #[Value.int IntKind.u64 (0 : Int), Value.int IntKind.u64 (0 : Int)] ∧ ty = ty ∧ cs = cs ∧ True) := by kernel_rfl
end Go.Proofs.Ytebkbihhnoellaa
/- Of flow: a call of the function that calls itself, out of its states. No condition. -/
namespace Go.Proofs.Ytebkbihhnoellaa
set_option maxRecDepth 100000
theorem rowX_ok {a : SA} {cs v : Array Value} {R R' : Ren} (h : rowX a = some cs) (ha : a.okM R v) : (SA.op cs).okM R' v := by
  unfold rowX at h
  split at h
  · cases h; exact ha
  · rename_i l
    split at h
    · rename_i vs hv
      cases h
      have ha : All2 (SC.ok R) l v.toList := ha
      have e := plains_ok hv ha
      refine ⟨?_, SA.one (x := .ls l) ha⟩
      rw [← e]
    · cases h
  · cases h
theorem rd0_ok {b : Option SBlk} {cs : Array Value} {ty : TypeId} (h : rd0 b = some (cs, ty)) : b = some ⟨.raw cs, ty, false⟩ := by
  unfold rd0 at h
  split at h
  · cases h; rfl
  · cases h
theorem rd1_ok {b : Option SBlk} {off n : Nat} (h : rd1 b = some (off, n)) : b = some ⟨.ls [prS' off n], 22, true⟩ := by
  unfold rd1 at h
  split at h
  · split at h
    · rename_i hh
      cases h
      simp only [Bool.and_eq_true] at hh
      rw [Nat.eq_of_beq_eq_true hh.1, Nat.eq_of_beq_eq_true hh.2]; rfl
    · cases h
  · cases h
theorem rd2_ok {b : Option SBlk} {s : Int} (h : rd2 b = some s) : b = some ⟨.ls [.f (.int .i64 (.o s))], 3, true⟩ := by
  unfold rd2 at h
  split at h
  · split at h
    · rename_i hh
      cases h
      rw [Nat.eq_of_beq_eq_true hh]
    · cases h
  · cases h
theorem rd4_ok {b : Option SBlk} {ws : Array Value} (h : rd4 b = some ws) : ∃ w, b = some ⟨w, 57, true⟩ ∧ rowX w = some ws := by
  unfold rd4 at h
  split at h
  · split at h
    · rename_i hh
      rw [Nat.eq_of_beq_eq_true hh]
      exact ⟨_, rfl, h⟩
    · cases h
  · cases h
theorem isP_ok {k : Nat} {x : SF} (h : isP k x = true) : x = .ptr k (.l 0) := by
  unfold isP at h
  split at h
  · simp only [Bool.and_eq_true] at h
    rw [Nat.eq_of_beq_eq_true h.1, Nat.eq_of_beq_eq_true h.2]
  · cases h
theorem isPt_ok {k : Nat} {x : SV} (h : isPt k x = true) : x = pt k := by
  unfold isPt at h
  split at h
  · simp only [Bool.and_eq_true] at h
    rw [Nat.eq_of_beq_eq_true h.1, Nat.eq_of_beq_eq_true h.2]; rfl
  · cases h
theorem rd5_ok {b : Option SBlk} (h : rd5 b = true) : b = some ⟨.ls [.fn (.func 41) [] [.ptr 2 (.l 0), .ptr 4 (.l 0), .ptr 1 (.l 0), .ptr 5 (.l 0)]], 76, true⟩ := by
  unfold rd5 at h
  split at h
  · simp only [Bool.and_eq_true] at h
    obtain ⟨h1, h2, h3, h4, h5, h6⟩ := h
    rw [Nat.eq_of_beq_eq_true h1, Nat.eq_of_beq_eq_true h2, isP_ok h3, isP_ok h4, isP_ok h5, isP_ok h6]
  · cases h
theorem arg41_ok {l : List SV} {a : Int} (h : arg41 l = some a) : ∃ x : SI, x.den = a ∧ l = [i64 x, pt 2, pt 4, pt 1, pt 5] := by
  unfold arg41 at h
  split at h
  · rename_i x p q r t
    split at h
    · rename_i hh
      cases h
      simp only [Bool.and_eq_true] at hh
      obtain ⟨h1, h2, h3, h4⟩ := hh
      rw [isPt_ok h1, isPt_ok h2, isPt_ok h3, isPt_ok h4]
      exact ⟨x, rfl, rfl⟩
    · cases h
  · cases h
section
variable (cs : Array Value) (ty : TypeId) (off n : Nat) (s : Int) (w : Array Value)
theorem mtM_get {w : SA} {i : Nat} {b : SBlk} (h : getB (mtM cs ty off n s w).bl i = some b) : (i = 0 ∧ b = ⟨.raw cs, ty, false⟩) ∨ (i = 1 ∧ b = ⟨.ls [prS' off n], 22, true⟩) ∨ (i = 2 ∧ b = ⟨.ls [.f (.int .i64 (.o s))], 3, true⟩) ∨ (i = 4 ∧ b = ⟨w, 57, true⟩) ∨ (i = 5 ∧ b = ⟨.ls [.fn (.func 41) [] [.ptr 2 (.l 0), .ptr 4 (.l 0), .ptr 1 (.l 0), .ptr 5 (.l 0)]], 76, true⟩) := by
  have hk := Tr.mem_keys h
  have e : (mtM cs ty off n s w).bl.keys = [0, 1, 5, 2, 4] := by kernel_rfl
  rw [e] at hk
  simp only [List.mem_cons, List.not_mem_nil, or_false] at hk
  rcases hk with rfl | rfl | rfl | rfl | rfl
  · exact .inl ⟨rfl, by have e : getB (mtM cs ty off n s w).bl 0 = some ⟨.raw cs, ty, false⟩ := by kernel_rfl
                        exact (Option.some.inj (e.symm.trans h)).symm⟩
  · exact .inr (.inl ⟨rfl, by have e : getB (mtM cs ty off n s w).bl 1 = some ⟨.ls [prS' off n], 22, true⟩ := by kernel_rfl
                              exact (Option.some.inj (e.symm.trans h)).symm⟩)
  · exact .inr (.inr (.inr (.inr ⟨rfl, by
      have e : getB (mtM cs ty off n s w).bl 5 = some ⟨.ls [.fn (.func 41) [] [.ptr 2 (.l 0), .ptr 4 (.l 0), .ptr 1 (.l 0), .ptr 5 (.l 0)]], 76, true⟩ := by kernel_rfl
      exact (Option.some.inj (e.symm.trans h)).symm⟩)))
  · exact .inr (.inr (.inl ⟨rfl, by have e : getB (mtM cs ty off n s w).bl 2 = some ⟨.ls [.f (.int .i64 (.o s))], 3, true⟩ := by kernel_rfl
                                    exact (Option.some.inj (e.symm.trans h)).symm⟩))
  · exact .inr (.inr (.inr (.inl ⟨rfl, by have e : getB (mtM cs ty off n s w).bl 4 = some ⟨w, 57, true⟩ := by kernel_rfl
                                          exact (Option.some.inj (e.symm.trans h)).symm⟩)))
theorem mtM_re (f : Nat → Nat) : reL f (mtM cs ty off n s (.op w)).bl (mtM cs ty off n s (.op w)).bl.keys = [(f 0, ⟨.raw cs, ty, false⟩), (f 1, ⟨.ls [.f (.slice (f 0) (.o off) (.o n) .any)], 22, true⟩), (f 5, ⟨.ls [.fn (.func 41) [] [.ptr (f 2) (.l 0), .ptr (f 4) (.l 0), .ptr (f 1) (.l 0), .ptr (f 5) (.l 0)]], 76, true⟩), (f 2, ⟨.ls [.f (.int .i64 (.o s))], 3, true⟩), (f 4, ⟨.op w, 57, true⟩)] := by kernel_rfl
theorem mtM_ls : lsT (mtM cs ty off n s (.op w)).bl (mtM cs ty off n s (.op w)).bl.keys = [(0, ⟨.raw cs, ty, false⟩), (1, ⟨.ls [.f (.slice 0 (.o off) (.o n) .any)], 22, true⟩), (5, ⟨.ls [.fn (.func 41) [] [.ptr 2 (.l 0), .ptr 4 (.l 0), .ptr 1 (.l 0), .ptr 5 (.l 0)]], 76, true⟩), (2, ⟨.ls [.f (.int .i64 (.o s))], 3, true⟩), (4, ⟨.op w, 57, true⟩)] := by kernel_rfl
theorem mtM_next (w : SA) : (mtM cs ty off n s w).next = 6 := by kernel_rfl
theorem mtM_xs (w : SA) : (mtM cs ty off n s w).xs = [] := by kernel_rfl
end
theorem mt_con {M : FM} {P : FP} {fn : Func} {c : Code} (h1 : E0.fn 41 = some fn) (h2 : fn.body = some c)
    (hg : ∀ cs ty off n s a ws, P cs off n s a ws → Good Try.prog (fun s0 m' => s0 = .tup [] ∧ m' = mtM cs ty off n s (.op (M cs off n s a ws))) 6 [callFr 41 fn.ntmps [i64 (.o a), pt 2, pt 4, pt 1, pt 5] c] (mtM cs ty off n s (.op ws)))
    {g : FuncId} {l : List SV} {m : SMem} {t : Tree} (h : conMt M P g l m = some t) : Con E0 g l m t := by
  unfold conMt at h
  split at h
  case h_2 => cases h
  rename_i a cs ty off n s ws e1 e2 e3 e4 e5 e6
  cases h
  simp only [Bool.and_eq_true] at e1
  obtain ⟨f1, f2, f3⟩ := e1
  cases Nat.eq_of_beq_eq_true f1
  have f2 := Nat.le_of_ble_eq_true f2
  have f3 := rd5_ok f3
  obtain ⟨x, rfl, rfl⟩ := arg41_ok e2
  have e3 := rd0_ok e3
  have e4 := rd1_ok e4
  have e5 := rd2_ok e5
  obtain ⟨wv, e6, e7⟩ := rd4_ok e6
  intro A hA
  obtain ⟨hq, hA⟩ := Tree.sat_needs (q := [P cs off n s x.den ws]) hA
  have good := hg cs ty off n s x.den ws (hq _ (List.mem_cons_self ..))
  refine ⟨fn, h1, by rw [h2]; rfl, fun n0 F w0 w R args hl hR => ?_⟩
  have lt6 : ∀ {i b}, getB (mtM cs ty off n s (.op ws)).bl i = some b → i < 6 := fun hb => by
    rcases mtM_get _ _ _ _ _ hb with ⟨rfl, _⟩ | ⟨rfl, _⟩ | ⟨rfl, _⟩ | ⟨rfl, _⟩ | ⟨rfl, _⟩ <;> omega
  refine (frame (m := m) (ms := mtM cs ty off n s (.op ws)) (ms' := mtM cs ty off n s (.op (M cs off n s x.den ws))) (l := [i64 (.o x.den), pt 2, pt 4, pt 1, pt 5]) (s0 := .tup []) ((E0_ok.fns _ _ h1).1) h2 good (mtM_xs ..) (ι := fun j => j) (fun _ _ _ _ h => h) ?_ ?_ ?_ ?_ ?_ ?_ hR).mono ?_
  · intro i hi
    rw [mtM_next] at hi
    omega
  · intro i b hb
    rw [mtM_next]
    have hlt := lt6 hb
    refine ⟨hlt, ?_⟩
    have cut : ∀ {a : SA} {R : Ren} {v : Array Value}, a.lt 6 = true → a.okM R v → a.okM (pull (fun j => j) 6 R) v := fun h1 h2 => SA.cutM h1 h2
    rcases mtM_get _ _ _ _ _ hb with ⟨rfl, rfl⟩ | ⟨rfl, rfl⟩ | ⟨rfl, rfl⟩ | ⟨rfl, rfl⟩ | ⟨rfl, rfl⟩
    · exact ⟨_, e3, rfl, fun h => h, fun R cs h => h⟩
    · exact ⟨_, e4, rfl, fun h => h, fun R cs h => cut rfl h⟩
    · exact ⟨_, e5, rfl, fun h => h, fun R cs h => cut rfl h⟩
    · exact ⟨_, e6, rfl, fun h => h, fun R cs h => rowX_ok e7 h⟩
    · exact ⟨_, f3, rfl, fun h => h, fun R cs h => cut rfl h⟩
  · intro i b hb _
    rcases mtM_get _ _ _ _ _ hb with ⟨rfl, rfl⟩ | ⟨rfl, rfl⟩ | ⟨rfl, rfl⟩ | ⟨rfl, rfl⟩ | ⟨rfl, rfl⟩ <;> rfl
  · intro i b hb _
    rcases mtM_get _ _ _ _ _ hb with ⟨rfl, rfl⟩ | ⟨rfl, rfl⟩ | ⟨rfl, rfl⟩ | ⟨rfl, rfl⟩ | ⟨rfl, rfl⟩ <;> exact ⟨_, rfl, rfl⟩
  · rw [mtM_next, mtM_next]; exact Nat.le_refl _
  · rw [mtM_next]
    match args, hl with
    | args, hl =>
      generalize args.toList = vs at hl
      match vs, hl with
      | [v1, v2, v3, v4, v5], ⟨g1, g2, g3, g4, g5, _⟩ =>
        refine ⟨?_, SV.cut rfl g2, SV.cut rfl g3, SV.cut rfl g4, SV.cut rfl g5, trivial⟩
        exact g1
  · rintro v w' ⟨R', hX, hR', hv⟩
    rw [mtM_next, mtM_next, Nat.sub_self, Nat.add_zero] at hX hR'
    rw [mtM_re] at hR'
    have ep : ∀ i, i < 6 → push (fun j => j) 6 m.next i = i := fun i hi => by
      unfold push
      rw [if_pos (by simpa using hi)]
    rw [ep 0 (by omega), ep 1 (by omega), ep 2 (by omega), ep 4 (by omega), ep 5 (by omega)] at hR'
    have hA : A (.tup []) (out4 M cs ty off n s x.den ws m) := hA
    refine ⟨_, _, R', hA, ?_, ?_, ?_⟩
    · exact hX
    · unfold out4
      rw [mtM_ls]
      exact hR'
    · exact hv
end Go.Proofs.Ytebkbihhnoellaa
/- Of flow: sets of places, as words. No condition. -/
namespace Go.Proofs.Ytebkbihhnoellaa
theorem quo64 {i : Nat} (h : i < 9223372036854775807) : ari BinOp.quo IntKind.i64 (i : Int) (64 : Int) = ((i / 64 : Nat) : Int) := by
  rw [ari_quo, Go.IntWalk.i64_quo _ _ ⟨by omega, by omega, by omega⟩]; rfl
theorem rem64 {i : Nat} : ari BinOp.rem IntKind.i64 (i : Int) (64 : Int) = ((i % 64 : Nat) : Int) := by
  rw [ari_rem]; rfl
theorem u64_nat {k : Nat} (h : k < 2 ^ 64) : IntKind.u64.wrap (k : Int) = (k : Int) := by
  rw [Go.IntWalk.u64_in _ (by omega)]
theorem shr64 {w r : Nat} (hr : r < 64) : ari BinOp.shr IntKind.u64 (w : Int) (r : Int) = ((w / 2 ^ r : Nat) : Int) := by
  rw [ari_shr]
  have e : min (r : Int).toNat IntKind.u64.bits = r := by
    show min r 64 = r
    omega
  have e2 : ((2 : Int) ^ r) = ((2 ^ r : Nat) : Int) := by rw [Int.natCast_pow]; rfl
  rw [e, e2, Int.fdiv_eq_ediv_of_nonneg _ (Int.natCast_nonneg _)]; rfl
theorem and1 {x : Nat} (hx : x < 2 ^ 64) : ari BinOp.and IntKind.u64 (x : Int) 1 = ((x % 2 : Nat) : Int) := by
  rw [ari_and]
  have e1 : BitVec.ofInt IntKind.u64.bits (x : Int) = BitVec.ofNat 64 x := BitVec.ofInt_natCast 64 x
  have e2 : BitVec.ofInt IntKind.u64.bits (1 : Int) = BitVec.ofNat 64 1 := BitVec.ofInt_natCast 64 1
  rw [e1, e2]
  have e3 : (BitVec.ofNat 64 x &&& BitVec.ofNat 64 1).toNat = x % 2 := by
    rw [BitVec.toNat_and, BitVec.toNat_ofNat, BitVec.toNat_ofNat, Nat.mod_eq_of_lt hx, Nat.mod_eq_of_lt (show 1 < 2 ^ 64 by omega), Nat.and_one_is_mod]
  have e4 : ((BitVec.ofNat 64 x &&& BitVec.ofNat 64 1).toNat : Int) = ((x % 2 : Nat) : Int) := by rw [e3]
  exact (congrArg IntKind.u64.wrap e4).trans (u64_nat (by omega))
theorem has64 {w r : Nat} (hw : w < 2 ^ 64) (hr : r < 64) : (ari BinOp.and IntKind.u64 (ari BinOp.shr IntKind.u64 (w : Int) (r : Int)) 1 == 1) = w.testBit r := by
  rw [shr64 hr, and1 (Nat.lt_of_le_of_lt (Nat.div_le_self ..) hw), Nat.testBit_eq_decide_div_mod_eq]
  by_cases h : w / 2 ^ r % 2 = 1
  · rw [h]; rfl
  · rw [decide_eq_false h]
    have : w / 2 ^ r % 2 = 0 := by omega
    rw [this]; rfl
theorem add64 {w r : Nat} (hw : w < 2 ^ 64) (hr : r < 64) : ari BinOp.or IntKind.u64 (w : Int) (ari BinOp.shl IntKind.u64 1 (r : Int)) = ((w ||| 2 ^ r : Nat) : Int) := by
  have h2 : 2 ^ r < 2 ^ 64 := Nat.pow_lt_pow_right (by omega) hr
  have e0 : ari BinOp.shl IntKind.u64 1 (r : Int) = ((2 ^ r : Nat) : Int) := by
    rw [ari_shl]
    have e : min (r : Int).toNat IntKind.u64.bits = r := by
      show min r 64 = r
      omega
    rw [e, Int.one_mul]
    have e2 : ((2 : Int) ^ r) = ((2 ^ r : Nat) : Int) := by rw [Int.natCast_pow]; rfl
    rw [e2, u64_nat h2]
  rw [e0, ari_or]
  have e1 : ∀ x : Nat, BitVec.ofInt IntKind.u64.bits (x : Int) = BitVec.ofNat 64 x := fun x => BitVec.ofInt_natCast 64 x
  rw [e1, e1]
  have e3 : (BitVec.ofNat 64 w ||| BitVec.ofNat 64 (2 ^ r)).toNat = w ||| 2 ^ r := by
    rw [BitVec.toNat_or, BitVec.toNat_ofNat, BitVec.toNat_ofNat, Nat.mod_eq_of_lt hw, Nat.mod_eq_of_lt h2]
  have e4 : ((BitVec.ofNat 64 w ||| BitVec.ofNat 64 (2 ^ r)).toNat : Int) = ((w ||| 2 ^ r : Nat) : Int) := by rw [e3]
  exact (congrArg IntKind.u64.wrap e4).trans (u64_nat (Nat.or_lt_two_pow hw h2))
def bitW (ws : Array Value) (i : Nat) : Bool := (intAt ws (i / 64)).toNat.testBit (i % 64)
def addW (ws : Array Value) (i : Nat) : Array Value := ws.setIfInBounds (i / 64) (.int .u64 (((intAt ws (i / 64)).toNat ||| 2 ^ (i % 64) : Nat) : Int))
structure IsW (ws : Array Value) : Prop where
  size : ws.size = 2
  int : ∀ j, j < 2 → IsInt .u64 ws j
  lt : ∀ j, j < 2 → ∃ w : Nat, w < 2 ^ 64 ∧ intAt ws j = (w : Int)
theorem intAt_set {ws : Array Value} {p j : Nat} {k : IntKind} {x : Int} (hp : p < ws.size) : intAt (ws.setIfInBounds p (.int k x)) j = if p = j then x else intAt ws j := by
  by_cases h : p = j
  · subst h; rw [if_pos rfl]; exact intAt_of (by rw [Array.getElem?_setIfInBounds, if_pos rfl, if_pos hp])
  · rw [if_neg h]; unfold intAt; rw [Array.getElem?_setIfInBounds, if_neg h]
theorem isInt_set {ws : Array Value} {p j : Nat} {k k' : IntKind} {x : Int} (hp : p < ws.size) (h : if p = j then k = k' else IsInt k' ws j) : IsInt k' (ws.setIfInBounds p (.int k x)) j := by
  unfold IsInt
  rw [intAt_set hp, Array.getElem?_setIfInBounds]
  split
  · rename_i e; rw [if_pos e] at h; subst e h; rfl
  · rename_i e; rw [if_neg e] at h; exact h
section
variable {ws : Array Value} (h : IsW ws)
include h
theorem IsW.add {i : Nat} (hi : i < 128) : IsW (addW ws i) := by
  have hp : i / 64 < ws.size := by rw [h.size]; omega
  obtain ⟨w, hw, ew⟩ := h.lt (i / 64) (by omega)
  refine ⟨?_, fun j hj => ?_, fun j hj => ?_⟩
  · unfold addW; rw [Array.size_setIfInBounds]; exact h.size
  · unfold addW; exact isInt_set hp (by split; rfl; exact h.int j hj)
  · unfold addW
    rw [intAt_set hp]
    split
    · exact ⟨_, Nat.or_lt_two_pow (by rw [ew]; exact hw) (Nat.pow_lt_pow_right (by omega) (Nat.mod_lt _ (by omega))), rfl⟩
    · exact h.lt j hj
theorem bitW_add {i j : Nat} (hi : i < 128) : bitW (addW ws i) j = (decide (i = j) || bitW ws j) := by
  have hp : i / 64 < ws.size := by rw [h.size]; omega
  unfold bitW addW
  rw [intAt_set hp]
  by_cases e : i / 64 = j / 64
  · rw [if_pos e, Int.toNat_natCast, Nat.testBit_or, Nat.testBit_two_pow, e, Bool.or_comm]
    congr 1
    rw [decide_eq_decide]
    omega
  · rw [if_neg e, decide_eq_false (by omega), Bool.false_or]
theorem bitW_has {i : Nat} (hi : i < 128) : (ari BinOp.and IntKind.u64 (ari BinOp.shr IntKind.u64 (intAt ws (0 + (ari BinOp.quo IntKind.i64 (i : Int) 64).toNat * 1)) (ari BinOp.rem IntKind.i64 (i : Int) 64)) 1 == 1) = bitW ws i := by
  rw [quo64 (by omega), rem64, Int.toNat_natCast, Nat.zero_add, Nat.mul_one]
  obtain ⟨w, hw, ew⟩ := h.lt (i / 64) (by omega)
  unfold bitW
  rw [ew, has64 hw (by omega), Int.toNat_natCast]
theorem addW_eq {i : Nat} (hi : i < 128) : ws.setIfInBounds (0 + (ari BinOp.quo IntKind.i64 (i : Int) 64).toNat * 1) (.int .u64 (ari BinOp.or IntKind.u64 (intAt ws (0 + (ari BinOp.quo IntKind.i64 (i : Int) 64).toNat * 1)) (ari BinOp.shl IntKind.u64 1 (ari BinOp.rem IntKind.i64 (i : Int) 64)))) = addW ws i := by
  rw [quo64 (by omega), rem64, Int.toNat_natCast, Nat.zero_add, Nat.mul_one]
  obtain ⟨w, hw, ew⟩ := h.lt (i / 64) (by omega)
  unfold addW
  rw [ew, add64 hw (by omega), Int.toNat_natCast]
end
end Go.Proofs.Ytebkbihhnoellaa
/- Of flow: the places that are met, as a function. No condition. -/
namespace Go.Proofs.Ytebkbihhnoellaa
set_option maxRecDepth 100000
/-- Where one goes on from a place. -/
def toL (cs : Array Value) (off n i : Nat) : List Nat :=
  if n ≤ i then [] else if (ins cs off i).o = 0 then [] else if (ins cs off i).o = 5 then [(ins cs off i).n.toNat] else if (ins cs off i).o = 6 then
    if (ins cs off i).n.toNat = i + 1 then [i + 1] else [min (i + 1) (ins cs off i).n.toNat, max (i + 1) (ins cs off i).n.toNat]
  else [i + 1]
def meetN (nx : Nat → List Nat) (s : Int) : Nat → Nat → Array Value → Array Value
  | 0, _, ws => ws
  | k + 1, i, ws => if (i : Int) = s then ws else if bitW ws i = true then ws else (nx i).foldl (fun w b => meetN nx s k b w) (addW ws i)
theorem meetN_succ {nx : Nat → List Nat} {s : Int} {k i : Nat} {ws : Array Value} : meetN nx s (k + 1) i ws = if (i : Int) = s then ws else if bitW ws i = true then ws else (nx i).foldl (fun w b => meetN nx s k b w) (addW ws i) := rfl
def unmet (ws : Array Value) : Nat → Nat
  | 0 => 0
  | i + 1 => unmet ws i + (if bitW ws i = true then 0 else 1)
theorem unmet_mono {ws ws' : Array Value} (h : ∀ i, bitW ws i = true → bitW ws' i = true) : ∀ k, unmet ws' k ≤ unmet ws k
  | 0 => Nat.le_refl _
  | k + 1 => by
    have := unmet_mono h k
    unfold unmet
    by_cases e : bitW ws k = true
    · rw [if_pos e, if_pos (h k e)]; omega
    · rw [if_neg e]; split <;> omega
theorem unmet_lt {ws ws' : Array Value} (h : ∀ i, bitW ws i = true → bitW ws' i = true) {a : Nat} (h1 : bitW ws a = false) (h2 : bitW ws' a = true) : ∀ {k}, a < k → unmet ws' k < unmet ws k
  | k + 1, hk => by
    unfold unmet
    by_cases e : a = k
    · subst e
      have := unmet_mono h a
      rw [h1, h2, if_pos rfl, if_neg (by decide)]; omega
    · have := unmet_lt h h1 h2 (k := k) (by omega)
      by_cases e : bitW ws k = true
      · rw [if_pos e, if_pos (h k e)]; omega
      · rw [if_neg e]; split <;> omega
theorem unmet_le (ws : Array Value) : ∀ k, unmet ws k ≤ k
  | 0 => Nat.le_refl _
  | k + 1 => by have := unmet_le ws k; unfold unmet; split <;> omega
section
variable {nx : Nat → List Nat} {s : Int} {n : Nat} (hx : ∀ i, i ≤ n → ∀ j ∈ nx i, j ≤ n) (hn : n < 128)
include hx hn
/-- What a walk keeps: a set stays one, and grows. -/
theorem meetN_keep : ∀ (k i : Nat) (ws : Array Value), i ≤ n → IsW ws → IsW (meetN nx s k i ws) ∧ ∀ j, bitW ws j = true → bitW (meetN nx s k i ws) j = true
  | 0, _, _, _, h => ⟨h, fun _ h => h⟩
  | k + 1, i, ws, hi, h => by
    unfold meetN
    split
    · exact ⟨h, fun _ h => h⟩
    split
    · exact ⟨h, fun _ h => h⟩
    have ha := h.add (i := i) (by omega)
    have hb : ∀ j, bitW ws j = true → bitW (addW ws i) j = true := fun j hj => by rw [bitW_add h (by omega), hj, Bool.or_true]
    have go : ∀ (l : List Nat) (w : Array Value), (∀ j ∈ l, j ≤ n) → IsW w → (∀ j, bitW ws j = true → bitW w j = true) →
        IsW (l.foldl (fun w b => meetN nx s k b w) w) ∧ ∀ j, bitW ws j = true → bitW (l.foldl (fun w b => meetN nx s k b w) w) j = true := by
      intro l
      induction l with
      | nil => intro w _ h1 h2; exact ⟨h1, h2⟩
      | cons b l ih =>
        intro w hl h1 h2
        obtain ⟨k1, k2⟩ := meetN_keep k b w (hl b (List.mem_cons_self ..)) h1
        exact ih _ (fun j hj => hl j (List.mem_cons_of_mem _ hj)) k1 (fun j hj => k2 j (h2 j hj))
    exact go _ _ (hx i hi) ha hb
end
theorem toL_le {cs : Array Value} {off n : Nat} (hI : InsOk cs off n) (hM : mayV cs off n = true) : ∀ i, i ≤ n → ∀ j ∈ toL cs off n i, j ≤ n := by
  intro i _ j hj
  unfold toL at hj
  split at hj
  · cases hj
  rename_i hlt
  obtain ⟨_, hA⟩ := mayV_iff.1 hM
  obtain ⟨_, _, _, _, k5⟩ := Ins.okN_iff.1 (hA i (by omega))
  obtain ⟨_, _, _, _, _, r5⟩ := hI.2 i (by omega)
  split at hj
  · cases hj
  split at hj
  · simp only [List.mem_singleton] at hj; omega
  split at hj
  · split at hj
    · simp only [List.mem_singleton] at hj; omega
    · simp only [List.mem_cons, List.not_mem_nil, or_false] at hj
      rcases hj with hj | hj <;> omega
  · simp only [List.mem_singleton] at hj; omega
def mtK (k : Nat) : FM := fun cs off n s a ws => meetN (toL cs off n) s k a.toNat ws
def mtP (k : Nat) : FP := fun cs off n s a ws => InsOk cs off n ∧ mayV cs off n = true ∧ IsW ws ∧ (0 ≤ a ∧ a ≤ n) ∧ unmet ws (n + 1) < k
theorem fn41 : E0.fn 41 = some Try.f41 := by kernel_rfl
theorem body41 : Try.f41.body = some (Try.f41.body.getD .skip) := by kernel_rfl
theorem mt_step (k : Nat) (hE : EnvOk (EMt (mtK k) (mtP k))) (cs : Array Value) (ty : TypeId) (off n : Nat) (s a : Int) (ws : Array Value) (hP : mtP (k + 1) cs off n s a ws) :
    Good Try.prog (fun s0 m' => s0 = .tup [] ∧ m' = mtM cs ty off n s (.op (mtK (k + 1) cs off n s a ws))) 6 [callFr 41 Try.f41.ntmps [i64 (.o a), pt 2, pt 4, pt 1, pt 5] (Try.f41.body.getD .skip)] (mtM cs ty off n s (.op ws)) := by
  obtain ⟨hI, hM, hW, ⟨h0, hn⟩, hu⟩ := hP
  obtain ⟨i, rfl⟩ : ∃ i : Nat, a = (i : Int) := ⟨a.toNat, by omega⟩
  have hn : i ≤ n := by omega
  obtain ⟨n64, hA⟩ := mayV_iff.1 hM
  have hi : i < 128 := by omega
  have hx := toL_le hI hM
  refine Good.ret [] (run_vc hE 4000 (mt_vc (mtK k) (mtP k) cs ty off n s i ws (mtK (k + 1) cs off n s i ws)) ?_ (fun _ _ h => h) (fun _ _ h => h.elim))
  rw [bitW_has hW hi, addW_eq hW hi, quo64 (by omega), rem64]
  simp only [Int.toNat_natCast, true_and, and_true]
  by_cases d1 : (i : Int) = s
  · have e1 : ((i : Int) == s) = true := by rw [beq_iff_eq]; exact d1
    have er : mtK (k + 1) cs off n s i ws = ws := by unfold mtK; rw [Int.toNat_natCast, meetN_succ, if_pos d1]
    simp only [e1, er, beqT, beqF, Bool.not_true, Bool.not_false, Bool.true_eq_false, Bool.false_eq_true, false_implies, true_implies, true_and, and_true]
  have e1 : ((i : Int) == s) = false := by rw [beq_eq_false_iff_ne]; exact d1
  have e2 : (((i : Int) == s) == false) = true := by rw [e1]; rfl
  have w1 : Array.size ws = 2 := hW.size
  have w2 : (0 : Int) ≤ ((i / 64 : Nat) : Int) ∧ ((i / 64 : Nat) : Int) < 2 := by omega
  have w3 : IsInt IntKind.u64 ws (0 + i / 64 * 1) := by rw [Nat.zero_add, Nat.mul_one]; exact hW.int _ (by omega)
  have w4 : (0 : Int) ≤ ((i % 64 : Nat) : Int) := by omega
  have w5 : 0 + i / 64 * 1 < 2 := by omega
  cases d2 : bitW ws i with
  | true =>
    have er : mtK (k + 1) cs off n s i ws = ws := by unfold mtK; rw [Int.toNat_natCast, meetN_succ, if_neg d1, if_pos d2]
    simp only [e1, er, w1, w3, w4, d2, beqT, beqF, Bool.not_true, Bool.not_false, Bool.true_eq_false, Bool.false_eq_true, false_implies, true_implies, true_and, and_true]
    exact w2
  | false =>
    have er : mtK (k + 1) cs off n s i ws = (toL cs off n i).foldl (fun w b => meetN (toL cs off n) s k b w) (addW ws i) := by
      unfold mtK; rw [Int.toNat_natCast, meetN_succ, if_neg d1, if_neg (by rw [d2]; decide)]
    have hbit : ∀ j, bitW ws j = true → bitW (addW ws i) j = true := fun j hj => by rw [bitW_add hW hi, hj, Bool.or_true]
    have hun : unmet (addW ws i) (n + 1) < k := by
      have := unmet_lt hbit d2 (by rw [bitW_add hW hi]; simp) (k := n + 1) (by omega)
      omega
    have hp1 : ∀ b : Nat, b ≤ n → mtP k cs off n s (b : Int) (addW ws i) := fun b hb => ⟨hI, hM, hW.add hi, ⟨by omega, by omega⟩, hun⟩
    have hp2 : ∀ b c : Nat, b ≤ n → c ≤ n → mtP k cs off n s (c : Int) (mtK k cs off n s (b : Int) (addW ws i)) := fun b c hb hc => by
      obtain ⟨k1, k2⟩ := meetN_keep (s := s) hx (by omega) k b (addW ws i) hb (hW.add hi)
      refine ⟨hI, hM, k1, ⟨by omega, by omega⟩, ?_⟩
      have := unmet_mono k2 (n + 1)
      exact Nat.lt_of_le_of_lt this hun
    by_cases d3 : n ≤ i
    · have e3 : decide ((i : Int) ≥ (n : Int)) = true := decide_eq_true (by omega)
      have e0 : decide ((i : Int) < 0) = false := decide_eq_false (by omega)
      have et : toL cs off n i = [] := by unfold toL; rw [if_pos d3]
      simp only [e1, er, et, e0, e3, w1, w3, w4, w5, d2, List.foldl_nil, beqT, beqF, Bool.not_true, Bool.not_false, Bool.true_eq_false, Bool.false_eq_true, false_implies, true_implies, true_and, and_true]
      exact ⟨w2, w2, w2⟩
    have hlt : i < n := by omega
    have e3 : decide ((i : Int) ≥ (n : Int)) = false := decide_eq_false (by omega)
    have e0 : decide ((i : Int) < 0) = false := decide_eq_false (by omega)
    obtain ⟨⟨i1, i2, i3, i4, i5⟩, r1, r2, r3, r4, r5⟩ := hI.2 i hlt
    obtain ⟨_, _, _, _, k5⟩ := Ins.okN_iff.1 (hA i hlt)
    have et : toL cs off n i = if intAt cs (off + i * 5) = 0 then [] else if intAt cs (off + i * 5) = 5 then [(intAt cs (off + i * 5 + 4)).toNat] else if intAt cs (off + i * 5) = 6 then
      if (intAt cs (off + i * 5 + 4)).toNat = i + 1 then [i + 1] else [min (i + 1) (intAt cs (off + i * 5 + 4)).toNat, max (i + 1) (intAt cs (off + i * 5 + 4)).toNat] else [i + 1] := by unfold toL; rw [if_neg d3]; rfl
    simp only [ins] at r1 r5 k5
    have eA : ari BinOp.add IntKind.i64 (i : Int) 1 = ((i + 1 : Nat) : Int) := by rw [ari_add, i64_nat (by omega)]
    have eN : IntKind.i64.wrap (intAt cs (off + i * 5 + 4)) = ((intAt cs (off + i * 5 + 4)).toNat : Int) := by rw [Go.IntWalk.i64_in _ (by omega)]; omega
    rw [eA, eN]
    have w6 : (0 : Int) ≤ (i : Int) ∧ (i : Int) < (n : Int) := by omega
    generalize hnn : (intAt cs (off + i * 5 + 4)).toNat = nn at et ⊢
    generalize ho : intAt cs (off + i * 5) = o at et r1 k5 ⊢
    by_cases o0 : o = 0
    · have f0 : (o == 0) = true := by rw [o0]; rfl
      rw [if_pos o0] at et
      simp only [e1, er, et, e0, e3, f0, w1, w3, w4, w5, w6, i1, i5, d2, List.foldl_nil, beqT, beqF, Bool.not_true, Bool.not_false, Bool.true_eq_false, Bool.false_eq_true, false_implies, true_implies, true_and, and_true]
      exact ⟨w2, w2, w2⟩
    have f0 : (o == 0) = false := by rw [beq_eq_false_iff_ne]; exact o0
    rw [if_neg o0] at et
    by_cases o5 : o = 5
    · have f5 : (o == 5) = true := by rw [o5]; rfl
      rw [if_pos o5] at et
      have hp := hp1 nn (by omega)
      simp only [e1, er, et, e0, e3, f0, f5, w1, w3, w4, w5, w6, i1, i5, d2, List.foldl_nil, List.foldl_cons, beqT, beqF, Bool.not_true, Bool.not_false, Bool.true_eq_false, Bool.false_eq_true, false_implies, true_implies, true_and, and_true]
      exact ⟨w2, w2, w2, hp, rfl⟩
    have f5 : (o == 5) = false := by rw [beq_eq_false_iff_ne]; exact o5
    rw [if_neg o5] at et
    by_cases o6 : o = 6
    · have f6 : (o == 6) = true := by rw [o6]; rfl
      rw [if_pos o6] at et
      have eMin : (if ((i + 1 : Nat) : Int) < (nn : Int) then ((i + 1 : Nat) : Int) else (nn : Int)) = ((min (i + 1) nn : Nat) : Int) := by split <;> omega
      have eMax : (if ((i + 1 : Nat) : Int) > (nn : Int) then ((i + 1 : Nat) : Int) else (nn : Int)) = ((max (i + 1) nn : Nat) : Int) := by split <;> omega
      rw [eMin, eMax]
      by_cases d7 : nn = i + 1
      · have f7 : (((max (i + 1) nn : Nat) : Int) == ((min (i + 1) nn : Nat) : Int)) = true := by rw [beq_iff_eq]; omega
        rw [if_pos d7] at et
        have hp := hp1 (min (i + 1) nn) (by omega)
        have er' : mtK (k + 1) cs off n s i ws = mtK k cs off n s ((min (i + 1) nn : Nat) : Int) (addW ws i) := by
          have em : min (i + 1) nn = i + 1 := by omega
          rw [er, et, em]; rfl
        simp only [e1, er', e0, e3, f0, f5, f6, f7, w1, w3, w4, w5, w6, i1, i5, d2, beqT, beqF, Bool.not_true, Bool.not_false, Bool.true_eq_false, Bool.false_eq_true, false_implies, true_implies, true_and, and_true]
        exact ⟨w2, w2, w2, hp⟩
      · have f7 : (((max (i + 1) nn : Nat) : Int) == ((min (i + 1) nn : Nat) : Int)) = false := by rw [beq_eq_false_iff_ne]; omega
        rw [if_neg d7] at et
        have hp := hp1 (min (i + 1) nn) (by omega)
        have hq := hp2 (min (i + 1) nn) (max (i + 1) nn) (by omega) (by omega)
        have er' : mtK (k + 1) cs off n s i ws = mtK k cs off n s ((max (i + 1) nn : Nat) : Int) (mtK k cs off n s ((min (i + 1) nn : Nat) : Int) (addW ws i)) := by
          rw [er, et]; rfl
        simp only [e1, er', e0, e3, f0, f5, f6, f7, w1, w3, w4, w5, w6, i1, i5, d2, beqT, beqF, Bool.not_true, Bool.not_false, Bool.true_eq_false, Bool.false_eq_true, false_implies, true_implies, true_and, and_true]
        exact ⟨w2, w2, w2, hp, hq⟩
    have f6 : (o == 6) = false := by rw [beq_eq_false_iff_ne]; exact o6
    rw [if_neg o6] at et
    have hp := hp1 (i + 1) (by omega)
    simp only [e1, er, et, e0, e3, f0, f5, f6, w1, w3, w4, w5, w6, i1, i5, d2, List.foldl_nil, List.foldl_cons, beqT, beqF, Bool.not_true, Bool.not_false, Bool.true_eq_false, Bool.false_eq_true, false_implies, true_implies, true_and, and_true]
    exact ⟨w2, w2, w2, hp, rfl⟩
theorem EMt_ok : ∀ k, EnvOk (EMt (mtK k) (mtP k))
  | 0 => EnvOk.with E0_ok _ _ fun _ _ _ _ h => mt_con fn41 body41 (fun _ _ _ _ _ _ _ hP => absurd hP.2.2.2.2 (Nat.not_lt_zero _)) h
  | k + 1 => EnvOk.with E0_ok _ _ fun _ _ _ _ h => mt_con fn41 body41 (fun cs ty off n s a ws hP => mt_step k (EMt_ok k) cs ty off n s a ws hP) h
end Go.Proofs.Ytebkbihhnoellaa
/- Of flow: what is met is what is reached. No condition. -/
namespace Go.Proofs.Ytebkbihhnoellaa
set_option maxRecDepth 100000
/-- One comes from a place to another one, and goes to the one that is shut never. -/
inductive Rch (nx : Nat → List Nat) (s : Int) (a : Nat) : Nat → Prop
  | refl : (a : Int) ≠ s → Rch nx s a a
  | step {b c : Nat} : Rch nx s a b → c ∈ nx b → (c : Int) ≠ s → Rch nx s a c
section
variable {nx : Nat → List Nat} {s : Int}
theorem Rch.head {a b c : Nat} (ha : (a : Int) ≠ s) (hb : b ∈ nx a) (h : Rch nx s b c) : Rch nx s a c := by
  induction h with
  | refl h => exact .step (.refl ha) hb h
  | step _ h1 h2 ih => exact .step ih h1 h2
theorem Rch.trans {a b c : Nat} (h : Rch nx s a b) (h' : Rch nx s b c) : Rch nx s a c := by
  induction h' with
  | refl => exact h
  | step _ h1 h2 ih => exact .step ih h1 h2
theorem Rch.ne {a b : Nat} (h : Rch nx s a b) : (b : Int) ≠ s := by
  cases h with
  | refl h => exact h
  | step _ _ h => exact h
theorem Rch.start {a b : Nat} (h : Rch nx s a b) : (a : Int) ≠ s := by
  induction h with
  | refl h => exact h
  | step _ _ _ ih => exact ih
theorem Rch.le {n a b : Nat} (hx : ∀ i, i ≤ n → ∀ j ∈ nx i, j ≤ n) (ha : a ≤ n) (h : Rch nx s a b) : b ≤ n := by
  induction h with
  | refl => exact ha
  | step _ h1 _ ih => exact hx _ ih _ h1
variable {n : Nat} (hx : ∀ i, i ≤ n → ∀ j ∈ nx i, j ≤ n) (hn : n < 128)
include hx hn
theorem meetN_sound : ∀ (k i : Nat) (ws : Array Value), i ≤ n → IsW ws → ∀ j, bitW (meetN nx s k i ws) j = true → bitW ws j = true ∨ Rch nx s i j
  | 0, _, _, _, _, _, hj => .inl hj
  | k + 1, i, ws, hi, h, j, hj => by
    rw [meetN_succ] at hj
    split at hj
    · exact .inl hj
    rename_i hs
    split at hj
    · exact .inl hj
    have ha := h.add (i := i) (by omega)
    have go : ∀ (l : List Nat) (w : Array Value), (∀ j ∈ l, j ≤ n) → IsW w → bitW (l.foldl (fun w b => meetN nx s k b w) w) j = true → bitW w j = true ∨ ∃ b ∈ l, Rch nx s b j := by
      intro l
      induction l with
      | nil => intro w _ _ h; exact .inl h
      | cons b l ih =>
        intro w hl h1 h2
        have hb := hl b (List.mem_cons_self ..)
        rcases ih _ (fun j hj => hl j (List.mem_cons_of_mem _ hj)) (meetN_keep hx hn k b w hb h1).1 h2 with h3 | ⟨c, hc, h3⟩
        · rcases meetN_sound k b w hb h1 j h3 with h4 | h4
          · exact .inl h4
          · exact .inr ⟨b, List.mem_cons_self .., h4⟩
        · exact .inr ⟨c, List.mem_cons_of_mem _ hc, h3⟩
    rcases go _ _ (hx i hi) ha hj with h1 | ⟨b, hb, h1⟩
    · rw [bitW_add h (by omega), Bool.or_eq_true, decide_eq_true_eq] at h1
      rcases h1 with rfl | h1
      · exact .inr (.refl hs)
      · exact .inl h1
    · exact .inr (Rch.head hs hb h1)
theorem meetN_full : ∀ (k i : Nat) (ws : Array Value), i ≤ n → IsW ws → unmet ws (n + 1) < k → ((i : Int) ≠ s → bitW (meetN nx s k i ws) i = true) ∧
    ∀ j c, j ≤ n → bitW (meetN nx s k i ws) j = true → bitW ws j = false → c ∈ nx j → (c : Int) ≠ s → bitW (meetN nx s k i ws) c = true
  | 0, _, _, _, _, hk => absurd hk (Nat.not_lt_zero _)
  | k + 1, i, ws, hi, h, hk => by
    rw [meetN_succ]
    split
    · rename_i hs
      exact ⟨fun h => absurd hs h, fun j c _ h1 h2 => by rw [h1] at h2; cases h2⟩
    rename_i hs
    split
    · rename_i hb
      exact ⟨fun _ => hb, fun j c _ h1 h2 => by rw [h1] at h2; cases h2⟩
    rename_i hb
    have hb : bitW ws i = false := by simpa using hb
    have ha := h.add (i := i) (by omega)
    have hbit : ∀ j, bitW ws j = true → bitW (addW ws i) j = true := fun j hj => by rw [bitW_add h (by omega), hj, Bool.or_true]
    have hun : unmet (addW ws i) (n + 1) < k := by
      have := unmet_lt hbit hb (by rw [bitW_add h (by omega)]; simp) (k := n + 1) (by omega)
      omega
    have keep : ∀ (l : List Nat) (w : Array Value), (∀ j ∈ l, j ≤ n) → IsW w → IsW (l.foldl (fun w b => meetN nx s k b w) w) ∧ ∀ j, bitW w j = true → bitW (l.foldl (fun w b => meetN nx s k b w) w) j = true := by
      intro l
      induction l with
      | nil => intro w _ h1; exact ⟨h1, fun _ h => h⟩
      | cons b l ih =>
        intro w hl h1
        obtain ⟨k1, k2⟩ := meetN_keep (s := s) hx hn k b w (hl b (List.mem_cons_self ..)) h1
        obtain ⟨k3, k4⟩ := ih _ (fun j hj => hl j (List.mem_cons_of_mem _ hj)) k1
        exact ⟨k3, fun j hj => k4 j (k2 j hj)⟩
    have go : ∀ (l : List Nat) (w : Array Value), (∀ j ∈ l, j ≤ n) → IsW w → unmet w (n + 1) < k → (∀ b ∈ l, (b : Int) ≠ s → bitW (l.foldl (fun w b => meetN nx s k b w) w) b = true) ∧
        ∀ j c, j ≤ n → bitW (l.foldl (fun w b => meetN nx s k b w) w) j = true → bitW w j = false → c ∈ nx j → (c : Int) ≠ s → bitW (l.foldl (fun w b => meetN nx s k b w) w) c = true := by
      intro l
      induction l with
      | nil =>
        intro w _ _ _
        exact ⟨fun _ h => (by cases h), fun j c _ h1 h2 => by
          have h1 : bitW w j = true := h1
          rw [h1] at h2; cases h2⟩
      | cons b l ih =>
        intro w hl h1 h2
        have hb := hl b (List.mem_cons_self ..)
        have hl' : ∀ j ∈ l, j ≤ n := fun j hj => hl j (List.mem_cons_of_mem _ hj)
        obtain ⟨k1, k2⟩ := meetN_keep (s := s) hx hn k b w hb h1
        obtain ⟨f1, f2⟩ := meetN_full k b w hb h1 h2
        obtain ⟨g1, g2⟩ := ih _ hl' k1 (Nat.lt_of_le_of_lt (unmet_mono k2 (n + 1)) h2)
        obtain ⟨_, k4⟩ := keep l (meetN nx s k b w) hl' k1
        refine ⟨fun x hx hxs => ?_, fun j c hj h3 h4 hc hcs => ?_⟩
        · rcases List.mem_cons.1 hx with rfl | hx
          · exact k4 _ (f1 hxs)
          · exact g1 x hx hxs
        · cases h5 : bitW (meetN nx s k b w) j with
          | true => exact k4 _ (f2 j c hj h5 h4 hc hcs)
          | false => exact g2 j c hj h3 h5 hc hcs
    obtain ⟨g1, g2⟩ := go _ _ (hx i hi) ha hun
    obtain ⟨_, k4⟩ := keep _ _ (hx i hi) ha
    refine ⟨fun _ => k4 i (by rw [bitW_add h (by omega)]; simp), fun j c hj h1 h2 hc hcs => ?_⟩
    cases h3 : bitW (addW ws i) j with
    | false => exact g2 j c hj h1 h3 hc hcs
    | true =>
      rw [bitW_add h (by omega), h2, Bool.or_false, decide_eq_true_eq] at h3
      subst h3
      exact g1 c hc hcs
theorem meetN_iff {k i : Nat} {ws : Array Value} (hi : i ≤ n) (h : IsW ws) (h0 : ∀ j, bitW ws j = false) (hk : n + 1 < k) (j : Nat) : bitW (meetN nx s k i ws) j = true ↔ Rch nx s i j := by
  refine ⟨fun hj => ?_, fun hj => ?_⟩
  · rcases meetN_sound hx hn k i ws hi h j hj with h1 | h1
    · rw [h0] at h1; cases h1
    · exact h1
  · obtain ⟨f1, f2⟩ := meetN_full (s := s) hx hn k i ws hi h (Nat.lt_of_le_of_lt (unmet_le ws (n + 1)) hk)
    induction hj with
    | refl h => exact f1 h
    | step hb h1 h2 ih => exact f2 _ _ (hb.le hx hi) ih (h0 _) h1 h2
end
def noW : Array Value := #[.int .u64 0, .int .u64 0]
theorem noW_ok : IsW noW := ⟨rfl, fun j hj => by match j, hj with | 0, _ => rfl | 1, _ => rfl, fun j hj => ⟨0, by omega, by match j, hj with | 0, _ => rfl | 1, _ => rfl⟩⟩
theorem noW_bit (j : Nat) : bitW noW j = false := by
  unfold bitW
  have e : intAt noW (j / 64) = 0 := by
    match j / 64 with
    | 0 => rfl
    | 1 => rfl
    | k + 2 => rfl
  rw [e]; exact Nat.zero_testBit _
/-- The places that are reached from a place. -/
def frW (cs : Array Value) (off n : Nat) (a s : Int) : Array Value := mtK 66 cs off n s a noW
theorem frW_iff {cs : Array Value} {off n : Nat} {i : Nat} {s : Int} (hI : InsOk cs off n) (hM : mayV cs off n = true) (hi : i ≤ n) (j : Nat) : bitW (frW cs off n i s) j = true ↔ Rch (toL cs off n) s i j := by
  have n64 := (mayV_iff.1 hM).1
  exact meetN_iff (toL_le hI hM) (by omega) hi noW_ok noW_bit (by omega) j
theorem frW_ok {cs : Array Value} {off n : Nat} {i : Nat} {s : Int} (hI : InsOk cs off n) (hM : mayV cs off n = true) (hi : i ≤ n) : IsW (frW cs off n i s) :=
  (meetN_keep (toL_le hI hM) (by have := (mayV_iff.1 hM).1; omega) 66 i noW hi noW_ok).1
theorem from_good {cs : Array Value} {off n : Nat} {a s : Int} (ty : TypeId) (hI : InsOk cs off n) (hM : mayV cs off n = true) (h0 : 0 ≤ a) (hn : a ≤ n) :
    Good Try.prog (fun s0 m' => s0 = agg (frW cs off n a s) ∧ m' = mkM 1 [(0, ⟨.raw cs, ty, false⟩)]) 1 (fromC off n a s) (mkM 1 [(0, ⟨.raw cs, ty, false⟩)]) := by
  refine Good.ret [] (run_vc (EMt_ok 66) 4000 (from_vc (mtK 66) (mtP 66) cs ty off n a s (frW cs off n a s)) ?_ (fun _ _ h => h) (fun _ _ h => h.elim))
  have hP : mtP 66 cs off n s a noW := ⟨hI, hM, noW_ok, ⟨h0, hn⟩, by have := unmet_le noW (n + 1); have := (mayV_iff.1 hM).1; omega⟩
  have hz : (mtK 66 cs off n s a noW).size = 2 := by
    obtain ⟨i, rfl⟩ : ∃ i : Nat, a = (i : Int) := ⟨a.toNat, by omega⟩
    exact (frW_ok (s := s) hI hM (i := i) (by omega)).size
  exact ⟨⟨hP, trivial⟩, ⟨hz, trivial⟩, ⟨hz, hz, trivial⟩, ⟨hz, trivial⟩, rfl, rfl, rfl, trivial⟩
end Go.Proofs.Ytebkbihhnoellaa
/- Of code: the reference's functions: their states. No condition. -/
namespace Go.Proofs.Ytebkbihhnoellaa
noncomputable section
def M0 : SMem := ⟨0, .nil, []⟩
def i64V (n : Int) : Value := .int .i64 n
/-! Of. -/
def fiveR (x : Ins) : List Value := [i64V (IntKind.i64.wrap x.o), i64V (IntKind.i64.wrap x.a), i64V (IntKind.i64.wrap x.b), i64V (IntKind.i64.wrap x.c), i64V (IntKind.i64.wrap x.n)]
def ofC (off n : Nat) : List SFr := [callFr 7 Try.f7.ntmps [prS off n] (Try.f7.body.getD .skip)]
def ofF (v : Bool) (off n : Nat) (cs : Array Value) (ty : TypeId) (i : Int) (k : Nat) : List SFr := gF E9 1 (ofC off n) (prM v cs ty) [(4, i64 (.o i)), (3, .s (.c (.f (.slice 1 (.l 0) (.o k) (.full 5)))))]
def ofM (v : Bool) (cs : Array Value) (ty : TypeId) (rs : Array Value) : SMem := ⟨2, ((Tr.nil : Tr SBlk).set 0 (some ⟨prA v cs, ty, false⟩)).set 1 (some ⟨.pop rs, 46, true⟩), []⟩
def ofS (v : Bool) (off n : Nat) (cs : Array Value) (ty : TypeId) (i : Int) (k : Nat) (rs : Array Value) : Tree := stepT E9.go (run E9 1000) 1 (headF (ofF v off n cs ty i k)) (ofM v cs ty rs)
def ofN (v : Bool) (off n : Nat) (cs : Array Value) (ty : TypeId) (Q : Int → Nat → Array Value → Prop) (fs : List SFr) (m : SMem) : Prop := match fs with
  | f :: _ => match rdI f 4, rdS f 3 m with
    | some i, some (some (sid, k, rs)) => Q i k rs ∧ subOk 1 [(1, sid)] (headF (ofF v off n cs ty i k)) (ofM v cs ty rs) fs m
    | _, _ => False
  | [] => False
def ofN0 (v : Bool) (off n : Nat) (cs : Array Value) (ty : TypeId) (Q : Int → Prop) (fs : List SFr) (m : SMem) : Prop := match fs with
  | f :: _ => match rdI f 4 with
    | some i => Q i ∧ gN E9 1 (ofC off n) (prM v cs ty) false [(4, i64 (.o i))] [] fs m
    | _ => False
  | [] => False
def ofA (k : Nat) (rs : Array Value) (s : SV) (m : SMem) : Prop := match s with
  | .s (.c (.f (.slice sid _ _ _))) => retOk 1 [(1, sid)] (.s (.c (.f (.slice 1 (.l 0) (.o k) .any)))) ⟨2, Tr.nil.set 1 (some ⟨.pop rs, 46, true⟩), []⟩ s m
  | _ => False
def nilA (e : Int) (s : SV) (_ : SMem) : Prop := match s with
  | .s (.c (.f (.lit (.slice none 0 0)))) => e = 0
  | _ => False
/-! The reference's May. -/
def rmC (off n : Nat) : List SFr := [callFr 8 Try.f8.ntmps [prS off n] (Try.f8.body.getD .skip)]
def rmN (h : Bool) (off n : Nat) (cs : Array Value) (ty : TypeId) (Q : Int → Prop) (fs : List SFr) (m : SMem) : Prop := match fs with
  | f :: _ => match rdI f 3 with
    | some i => Q i ∧ gN E9 1 (rmC off n) (prM false cs ty) h [(3, i64 (.o i))] [] fs m
    | none => False
  | [] => False
def RowOk (cs : Array Value) (off n : Nat) : Prop := n < 9223372036854775807 ∧ ∀ i, i < n → IsInt .i64 cs (off + i * 5) ∧ IsInt .i64 cs (off + i * 5 + 1) ∧ IsInt .i64 cs (off + i * 5 + 2) ∧ IsInt .i64 cs (off + i * 5 + 3) ∧ IsInt .i64 cs (off + i * 5 + 4)
def rowR (m : SMem) (i : Nat) : Option (Array Value) := match getB m.bl i with
  | some ⟨.pop cs, _, _⟩ => some cs
  | _ => none
def mayRT (m : SMem) : SV → Option Tree
  | .s (.c (.f (.lit (.slice none 0 0)))) => some (.ret (sB (.l true)) m)
  | .s (.c (.f (.slice i o n _))) => match rowR m i with
    | some cs => some (needs [RowOk cs o.den n.den] (.ret (sB (.o (mayV cs o.den n.den))) m))
    | none => none
  | _ => none
def con7 (g : FuncId) (l : List SV) (m : SMem) : Option Tree := match g, l with
  | 8, [x] => mayRT m x
  | _, _ => none
def oT0 : List SIt := headTd (gF E9 1 (ofC 0 0) (prM true #[] 0) [])
def oH0 : List SIt := headTd (gH E9 1 (ofC 0 0) (prM true #[] 0) [])
def rmT0 : List SIt := headTd (gF E9 1 (rmC 0 0) (prM false #[] 0) [])
def rmH0 : List SIt := headTd (gH E9 1 (rmC 0 0) (prM false #[] 0) [])
end
end Go.Proofs.Ytebkbihhnoellaa
/- Of code: the reference's functions' rounds, as propositions. No condition. -/
namespace Go.Proofs.Ytebkbihhnoellaa
set_option maxRecDepth 100000
theorem of_start_r (off n : Nat) (cs : Array Value) (ty : TypeId) (kF : Nat) (rF : Array Value) (Q : Int → Prop) : (gR E9 1 (ofC off n) (prM true cs ty)).vc (ofA kF rF) (ofN0 true off n cs ty Q) =
    (Q (0 : Int) ∧ CallKind.normal = CallKind.normal ∧ TodoOk (ren 1 []) oT0 oT0 ∧ off = off ∧ n = n ∧ Value.slice none (0 : Nat) (0 : Nat) = Value.slice none (0 : Nat) (0 : Nat) ∧ Value.slice none (0 : Nat) (0 : Nat) = Value.slice none (0 : Nat) (0 : Nat) ∧ (0 : Int) = (0 : Int) ∧ ty = ty ∧ cs = cs ∧ True) := by kernel_rfl
theorem of_start_p (off n : Nat) (cs : Array Value) (ty : TypeId) (kF : Nat) (rF : Array Value) (Q : Int → Prop) : (gR E9 1 (ofC off n) (prM false cs ty)).vc (ofA kF rF) (ofN0 false off n cs ty Q) =
    (Q (0 : Int) ∧ CallKind.normal = CallKind.normal ∧ TodoOk (ren 1 []) oT0 oT0 ∧ off = off ∧ n = n ∧ Value.slice none (0 : Nat) (0 : Nat) = Value.slice none (0 : Nat) (0 : Nat) ∧ Value.slice none (0 : Nat) (0 : Nat) = Value.slice none (0 : Nat) (0 : Nat) ∧ (0 : Int) = (0 : Int) ∧ ty = ty ∧ cs = cs ∧ True) := by kernel_rfl
theorem of_nil_r (off n : Nat) (cs : Array Value) (ty : TypeId) (kF : Nat) (rF : Array Value) (i : Int) (Q : Int → Nat → Array Value → Prop) : (gS E9 1 (ofC off n) (prM true cs ty) [(4, i64 (.o i))] []).vc (ofA kF rF) (ofN true off n cs ty Q) =
    ((decide (i < (↑n : Int)) = true → (((0 : Int) ≤ i ∧ i < (↑n : Int)) ∧ True) ∧ (IsInt IntKind.u8 cs (off + Int.toNat i * 5) ∧ IsInt IntKind.u8 cs (off + Int.toNat i * 5 + 1) ∧ IsInt IntKind.u8 cs (off + Int.toNat i * 5 + 2) ∧ IsInt IntKind.u8 cs (off + Int.toNat i * 5 + 3) ∧ IsInt IntKind.u16 cs (off + Int.toNat i * 5 + 4) ∧ True) ∧ Q (ari BinOp.add IntKind.i64 i (1 : Int)) (1 : Nat) #[Value.int IntKind.i64 (IntKind.wrap IntKind.i64 (intAt cs (off + Int.toNat i * 5))), Value.int IntKind.i64 (IntKind.wrap IntKind.i64 (intAt cs (off + Int.toNat i * 5 + 1))), Value.int IntKind.i64 (IntKind.wrap IntKind.i64 (intAt cs (off + Int.toNat i * 5 + 2))), Value.int IntKind.i64 (IntKind.wrap IntKind.i64 (intAt cs (off + Int.toNat i * 5 + 3))), Value.int IntKind.i64 (IntKind.wrap IntKind.i64 (intAt cs (off + Int.toNat i * 5 + 4)))] ∧ CallKind.normal = CallKind.normal ∧ TodoOk (ren 1 [(1, 3)]) oH0 oH0 ∧ off = off ∧ n = n ∧ (1 : Nat) = (1 : Nat) ∧ Value.slice none (0 : Nat) (0 : Nat) = Value.slice none (0 : Nat) (0 : Nat) ∧ ari BinOp.add IntKind.i64 i (1 : Int) = ari BinOp.add IntKind.i64 i (1 : Int) ∧ ty = ty ∧ cs = cs ∧ (46 : TypeId) = (46 : Nat) ∧ #[Value.int IntKind.i64 (IntKind.wrap IntKind.i64 (intAt cs (off + Int.toNat i * 5))), Value.int IntKind.i64 (IntKind.wrap IntKind.i64 (intAt cs (off + Int.toNat i * 5 + 1))), Value.int IntKind.i64 (IntKind.wrap IntKind.i64 (intAt cs (off + Int.toNat i * 5 + 2))), Value.int IntKind.i64 (IntKind.wrap IntKind.i64 (intAt cs (off + Int.toNat i * 5 + 3))), Value.int IntKind.i64 (IntKind.wrap IntKind.i64 (intAt cs (off + Int.toNat i * 5 + 4)))] = #[Value.int IntKind.i64 (IntKind.wrap IntKind.i64 (intAt cs (off + Int.toNat i * 5))), Value.int IntKind.i64 (IntKind.wrap IntKind.i64 (intAt cs (off + Int.toNat i * 5 + 1))), Value.int IntKind.i64 (IntKind.wrap IntKind.i64 (intAt cs (off + Int.toNat i * 5 + 2))), Value.int IntKind.i64 (IntKind.wrap IntKind.i64 (intAt cs (off + Int.toNat i * 5 + 3))), Value.int IntKind.i64 (IntKind.wrap IntKind.i64 (intAt cs (off + Int.toNat i * 5 + 4)))] ∧ True) ∧ (decide (i < (↑n : Int)) = false → False)) := by kernel_rfl
theorem of_nil_p (off n : Nat) (cs : Array Value) (ty : TypeId) (kF : Nat) (rF : Array Value) (i : Int) (Q : Int → Nat → Array Value → Prop) : (gS E9 1 (ofC off n) (prM false cs ty) [(4, i64 (.o i))] []).vc (ofA kF rF) (ofN false off n cs ty Q) =
    ((decide (i < (↑n : Int)) = true → (((0 : Int) ≤ i ∧ i < (↑n : Int)) ∧ True) ∧ (IsInt IntKind.u8 cs (off + Int.toNat i * 5) ∧ IsInt IntKind.u8 cs (off + Int.toNat i * 5 + 1) ∧ IsInt IntKind.u8 cs (off + Int.toNat i * 5 + 2) ∧ IsInt IntKind.u8 cs (off + Int.toNat i * 5 + 3) ∧ IsInt IntKind.u16 cs (off + Int.toNat i * 5 + 4) ∧ True) ∧ Q (ari BinOp.add IntKind.i64 i (1 : Int)) (1 : Nat) #[Value.int IntKind.i64 (IntKind.wrap IntKind.i64 (intAt cs (off + Int.toNat i * 5))), Value.int IntKind.i64 (IntKind.wrap IntKind.i64 (intAt cs (off + Int.toNat i * 5 + 1))), Value.int IntKind.i64 (IntKind.wrap IntKind.i64 (intAt cs (off + Int.toNat i * 5 + 2))), Value.int IntKind.i64 (IntKind.wrap IntKind.i64 (intAt cs (off + Int.toNat i * 5 + 3))), Value.int IntKind.i64 (IntKind.wrap IntKind.i64 (intAt cs (off + Int.toNat i * 5 + 4)))] ∧ CallKind.normal = CallKind.normal ∧ TodoOk (ren 1 [(1, 3)]) oH0 oH0 ∧ off = off ∧ n = n ∧ (1 : Nat) = (1 : Nat) ∧ Value.slice none (0 : Nat) (0 : Nat) = Value.slice none (0 : Nat) (0 : Nat) ∧ ari BinOp.add IntKind.i64 i (1 : Int) = ari BinOp.add IntKind.i64 i (1 : Int) ∧ ty = ty ∧ cs = cs ∧ (46 : TypeId) = (46 : Nat) ∧ #[Value.int IntKind.i64 (IntKind.wrap IntKind.i64 (intAt cs (off + Int.toNat i * 5))), Value.int IntKind.i64 (IntKind.wrap IntKind.i64 (intAt cs (off + Int.toNat i * 5 + 1))), Value.int IntKind.i64 (IntKind.wrap IntKind.i64 (intAt cs (off + Int.toNat i * 5 + 2))), Value.int IntKind.i64 (IntKind.wrap IntKind.i64 (intAt cs (off + Int.toNat i * 5 + 3))), Value.int IntKind.i64 (IntKind.wrap IntKind.i64 (intAt cs (off + Int.toNat i * 5 + 4)))] = #[Value.int IntKind.i64 (IntKind.wrap IntKind.i64 (intAt cs (off + Int.toNat i * 5))), Value.int IntKind.i64 (IntKind.wrap IntKind.i64 (intAt cs (off + Int.toNat i * 5 + 1))), Value.int IntKind.i64 (IntKind.wrap IntKind.i64 (intAt cs (off + Int.toNat i * 5 + 2))), Value.int IntKind.i64 (IntKind.wrap IntKind.i64 (intAt cs (off + Int.toNat i * 5 + 3))), Value.int IntKind.i64 (IntKind.wrap IntKind.i64 (intAt cs (off + Int.toNat i * 5 + 4)))] ∧ True) ∧ (decide (i < (↑n : Int)) = false → False)) := by kernel_rfl
theorem of_step_r (off n : Nat) (cs : Array Value) (ty : TypeId) (kF : Nat) (rF : Array Value) (i : Int) (k : Nat) (rs : Array Value) (Q : Int → Nat → Array Value → Prop) : (ofS true off n cs ty i k rs).vc (ofA kF rF) (ofN true off n cs ty Q) =
    ((decide (i < (↑n : Int)) = true → (((0 : Int) ≤ i ∧ i < (↑n : Int)) ∧ True) ∧ (IsInt IntKind.u8 cs (off + Int.toNat i * 5) ∧ IsInt IntKind.u8 cs (off + Int.toNat i * 5 + 1) ∧ IsInt IntKind.u8 cs (off + Int.toNat i * 5 + 2) ∧ IsInt IntKind.u8 cs (off + Int.toNat i * 5 + 3) ∧ IsInt IntKind.u16 cs (off + Int.toNat i * 5 + 4) ∧ True) ∧ (((k + 1) * 40 ≤ (140737488355328 : Nat) ∧ k + 1 ≤ (140737488355328 : Nat)) ∧ k * 5 = Array.size rs ∧ True) ∧ Q (ari BinOp.add IntKind.i64 i (1 : Int)) (k + 1) (rs ++ #[Value.int IntKind.i64 (IntKind.wrap IntKind.i64 (intAt cs (off + Int.toNat i * 5))), Value.int IntKind.i64 (IntKind.wrap IntKind.i64 (intAt cs (off + Int.toNat i * 5 + 1))), Value.int IntKind.i64 (IntKind.wrap IntKind.i64 (intAt cs (off + Int.toNat i * 5 + 2))), Value.int IntKind.i64 (IntKind.wrap IntKind.i64 (intAt cs (off + Int.toNat i * 5 + 3))), Value.int IntKind.i64 (IntKind.wrap IntKind.i64 (intAt cs (off + Int.toNat i * 5 + 4)))]) ∧ CallKind.normal = CallKind.normal ∧ TodoOk (ren 1 [(1, 4)]) oH0 oH0 ∧ off = off ∧ n = n ∧ k + 1 = k + 1 ∧ Value.slice none (0 : Nat) (0 : Nat) = Value.slice none (0 : Nat) (0 : Nat) ∧ ari BinOp.add IntKind.i64 i (1 : Int) = ari BinOp.add IntKind.i64 i (1 : Int) ∧ ty = ty ∧ cs = cs ∧ (46 : TypeId) = (46 : Nat) ∧ rs ++ #[Value.int IntKind.i64 (IntKind.wrap IntKind.i64 (intAt cs (off + Int.toNat i * 5))), Value.int IntKind.i64 (IntKind.wrap IntKind.i64 (intAt cs (off + Int.toNat i * 5 + 1))), Value.int IntKind.i64 (IntKind.wrap IntKind.i64 (intAt cs (off + Int.toNat i * 5 + 2))), Value.int IntKind.i64 (IntKind.wrap IntKind.i64 (intAt cs (off + Int.toNat i * 5 + 3))), Value.int IntKind.i64 (IntKind.wrap IntKind.i64 (intAt cs (off + Int.toNat i * 5 + 4)))] = rs ++ #[Value.int IntKind.i64 (IntKind.wrap IntKind.i64 (intAt cs (off + Int.toNat i * 5))), Value.int IntKind.i64 (IntKind.wrap IntKind.i64 (intAt cs (off + Int.toNat i * 5 + 1))), Value.int IntKind.i64 (IntKind.wrap IntKind.i64 (intAt cs (off + Int.toNat i * 5 + 2))), Value.int IntKind.i64 (IntKind.wrap IntKind.i64 (intAt cs (off + Int.toNat i * 5 + 3))), Value.int IntKind.i64 (IntKind.wrap IntKind.i64 (intAt cs (off + Int.toNat i * 5 + 4)))] ∧ True) ∧ (decide (i < (↑n : Int)) = false → kF = k ∧ (46 : TypeId) = (46 : TypeId) ∧ rF = rs ∧ True)) := by kernel_rfl
theorem of_step_p (off n : Nat) (cs : Array Value) (ty : TypeId) (kF : Nat) (rF : Array Value) (i : Int) (k : Nat) (rs : Array Value) (Q : Int → Nat → Array Value → Prop) : (ofS false off n cs ty i k rs).vc (ofA kF rF) (ofN false off n cs ty Q) =
    ((decide (i < (↑n : Int)) = true → (((0 : Int) ≤ i ∧ i < (↑n : Int)) ∧ True) ∧ (IsInt IntKind.u8 cs (off + Int.toNat i * 5) ∧ IsInt IntKind.u8 cs (off + Int.toNat i * 5 + 1) ∧ IsInt IntKind.u8 cs (off + Int.toNat i * 5 + 2) ∧ IsInt IntKind.u8 cs (off + Int.toNat i * 5 + 3) ∧ IsInt IntKind.u16 cs (off + Int.toNat i * 5 + 4) ∧ True) ∧ (((k + 1) * 40 ≤ (140737488355328 : Nat) ∧ k + 1 ≤ (140737488355328 : Nat)) ∧ k * 5 = Array.size rs ∧ True) ∧ Q (ari BinOp.add IntKind.i64 i (1 : Int)) (k + 1) (rs ++ #[Value.int IntKind.i64 (IntKind.wrap IntKind.i64 (intAt cs (off + Int.toNat i * 5))), Value.int IntKind.i64 (IntKind.wrap IntKind.i64 (intAt cs (off + Int.toNat i * 5 + 1))), Value.int IntKind.i64 (IntKind.wrap IntKind.i64 (intAt cs (off + Int.toNat i * 5 + 2))), Value.int IntKind.i64 (IntKind.wrap IntKind.i64 (intAt cs (off + Int.toNat i * 5 + 3))), Value.int IntKind.i64 (IntKind.wrap IntKind.i64 (intAt cs (off + Int.toNat i * 5 + 4)))]) ∧ CallKind.normal = CallKind.normal ∧ TodoOk (ren 1 [(1, 4)]) oH0 oH0 ∧ off = off ∧ n = n ∧ k + 1 = k + 1 ∧ Value.slice none (0 : Nat) (0 : Nat) = Value.slice none (0 : Nat) (0 : Nat) ∧ ari BinOp.add IntKind.i64 i (1 : Int) = ari BinOp.add IntKind.i64 i (1 : Int) ∧ ty = ty ∧ cs = cs ∧ (46 : TypeId) = (46 : Nat) ∧ rs ++ #[Value.int IntKind.i64 (IntKind.wrap IntKind.i64 (intAt cs (off + Int.toNat i * 5))), Value.int IntKind.i64 (IntKind.wrap IntKind.i64 (intAt cs (off + Int.toNat i * 5 + 1))), Value.int IntKind.i64 (IntKind.wrap IntKind.i64 (intAt cs (off + Int.toNat i * 5 + 2))), Value.int IntKind.i64 (IntKind.wrap IntKind.i64 (intAt cs (off + Int.toNat i * 5 + 3))), Value.int IntKind.i64 (IntKind.wrap IntKind.i64 (intAt cs (off + Int.toNat i * 5 + 4)))] = rs ++ #[Value.int IntKind.i64 (IntKind.wrap IntKind.i64 (intAt cs (off + Int.toNat i * 5))), Value.int IntKind.i64 (IntKind.wrap IntKind.i64 (intAt cs (off + Int.toNat i * 5 + 1))), Value.int IntKind.i64 (IntKind.wrap IntKind.i64 (intAt cs (off + Int.toNat i * 5 + 2))), Value.int IntKind.i64 (IntKind.wrap IntKind.i64 (intAt cs (off + Int.toNat i * 5 + 3))), Value.int IntKind.i64 (IntKind.wrap IntKind.i64 (intAt cs (off + Int.toNat i * 5 + 4)))] ∧ True) ∧ (decide (i < (↑n : Int)) = false → kF = k ∧ (46 : TypeId) = (46 : TypeId) ∧ rF = rs ∧ True)) := by kernel_rfl
theorem rm_start (off n : Nat) (cs : Array Value) (ty : TypeId) (r : Bool) (Q : Int → Prop) : (gR E9 1 (rmC off n) (prM false cs ty)).vc (boolR r) (rmN false off n cs ty Q) =
    ((decide ((↑n : Int) > (64 : Int)) = true → false = r) ∧ (decide ((↑n : Int) > (64 : Int)) = false → Q (0 : Int) ∧ CallKind.normal = CallKind.normal ∧ TodoOk (ren 1 []) rmT0 rmT0 ∧ off = off ∧ n = n ∧ (0 : Int) = (0 : Int) ∧ off = off ∧ n = n ∧ (↑n : Int) = (↑n : Int) ∧ ty = ty ∧ cs = cs ∧ True)) := by kernel_rfl
theorem rm_step (off n : Nat) (cs : Array Value) (ty : TypeId) (r : Bool) (i : Int) (Q : Int → Prop) : (gS E9 1 (rmC off n) (prM false cs ty) [(3, i64 (.o i))] []).vc (boolR r) (rmN true off n cs ty Q) =
    ((decide (i < (↑n : Int)) = true → (((0 : Int) ≤ i ∧ i < (↑n : Int)) ∧ True) ∧ (IsInt IntKind.i64 cs (off + Int.toNat i * 5) ∧ IsInt IntKind.i64 cs (off + Int.toNat i * 5 + 1) ∧ IsInt IntKind.i64 cs (off + Int.toNat i * 5 + 2) ∧ IsInt IntKind.i64 cs (off + Int.toNat i * 5 + 3) ∧ IsInt IntKind.i64 cs (off + Int.toNat i * 5 + 4) ∧ True) ∧ ((decide (intAt cs (off + Int.toNat i * 5) > (6 : Int)) == true) = true → ((decide (intAt cs (off + Int.toNat i * 5) < (17 : Int)) == false) = true → ((decide (intAt cs (off + Int.toNat i * 5) > (38 : Int)) == false) = true → ((decide (intAt cs (off + Int.toNat i * 5 + 1) > (7 : Int)) == false) = true → ((decide (intAt cs (off + Int.toNat i * 5 + 2) > (7 : Int)) == false) = true → ((decide (intAt cs (off + Int.toNat i * 5 + 3) > (7 : Int)) == false) = true → (((intAt cs (off + Int.toNat i * 5) == (5 : Int)) == false) = true → (((intAt cs (off + Int.toNat i * 5) == (6 : Int)) == true) = true → (decide (intAt cs (off + Int.toNat i * 5 + 4) ≥ (↑n : Int)) = true → false = r) ∧ (decide (intAt cs (off + Int.toNat i * 5 + 4) ≥ (↑n : Int)) = false → Q (ari BinOp.add IntKind.i64 i (1 : Int)) ∧ CallKind.normal = CallKind.normal ∧ TodoOk (ren 1 []) rmH0 rmH0 ∧ off = off ∧ n = n ∧ ari BinOp.add IntKind.i64 i (1 : Int) = ari BinOp.add IntKind.i64 i (1 : Int) ∧ off = off ∧ n = n ∧ (↑n : Int) = (↑n : Int) ∧ ty = ty ∧ cs = cs ∧ True)) ∧ (((intAt cs (off + Int.toNat i * 5) == (6 : Int)) == true) = false → Q (ari BinOp.add IntKind.i64 i (1 : Int)) ∧ CallKind.normal = CallKind.normal ∧ TodoOk (ren 1 []) rmH0 rmH0 ∧ off = off ∧ n = n ∧ ari BinOp.add IntKind.i64 i (1 : Int) = ari BinOp.add IntKind.i64 i (1 : Int) ∧ off = off ∧ n = n ∧ (↑n : Int) = (↑n : Int) ∧ ty = ty ∧ cs = cs ∧ True)) ∧ (((intAt cs (off + Int.toNat i * 5) == (5 : Int)) == false) = false → (decide (intAt cs (off + Int.toNat i * 5 + 4) ≥ (↑n : Int)) = true → false = r) ∧ (decide (intAt cs (off + Int.toNat i * 5 + 4) ≥ (↑n : Int)) = false → Q (ari BinOp.add IntKind.i64 i (1 : Int)) ∧ CallKind.normal = CallKind.normal ∧ TodoOk (ren 1 []) rmH0 rmH0 ∧ off = off ∧ n = n ∧ ari BinOp.add IntKind.i64 i (1 : Int) = ari BinOp.add IntKind.i64 i (1 : Int) ∧ off = off ∧ n = n ∧ (↑n : Int) = (↑n : Int) ∧ ty = ty ∧ cs = cs ∧ True))) ∧ ((decide (intAt cs (off + Int.toNat i * 5 + 3) > (7 : Int)) == false) = false → false = r)) ∧ ((decide (intAt cs (off + Int.toNat i * 5 + 2) > (7 : Int)) == false) = false → false = r)) ∧ ((decide (intAt cs (off + Int.toNat i * 5 + 1) > (7 : Int)) == false) = false → false = r)) ∧ ((decide (intAt cs (off + Int.toNat i * 5) > (38 : Int)) == false) = false → false = r)) ∧ ((decide (intAt cs (off + Int.toNat i * 5) < (17 : Int)) == false) = false → false = r)) ∧ ((decide (intAt cs (off + Int.toNat i * 5) > (6 : Int)) == true) = false → ((decide (intAt cs (off + Int.toNat i * 5) > (38 : Int)) == false) = true → ((decide (intAt cs (off + Int.toNat i * 5 + 1) > (7 : Int)) == false) = true → ((decide (intAt cs (off + Int.toNat i * 5 + 2) > (7 : Int)) == false) = true → ((decide (intAt cs (off + Int.toNat i * 5 + 3) > (7 : Int)) == false) = true → (((intAt cs (off + Int.toNat i * 5) == (5 : Int)) == false) = true → (((intAt cs (off + Int.toNat i * 5) == (6 : Int)) == true) = true → (decide (intAt cs (off + Int.toNat i * 5 + 4) ≥ (↑n : Int)) = true → false = r) ∧ (decide (intAt cs (off + Int.toNat i * 5 + 4) ≥ (↑n : Int)) = false → Q (ari BinOp.add IntKind.i64 i (1 : Int)) ∧ CallKind.normal = CallKind.normal ∧ TodoOk (ren 1 []) rmH0 rmH0 ∧ off = off ∧ n = n ∧ ari BinOp.add IntKind.i64 i (1 : Int) = ari BinOp.add IntKind.i64 i (1 : Int) ∧ off = off ∧ n = n ∧ (↑n : Int) = (↑n : Int) ∧ ty = ty ∧ cs = cs ∧ True)) ∧ (((intAt cs (off + Int.toNat i * 5) == (6 : Int)) == true) = false → Q (ari BinOp.add IntKind.i64 i (1 : Int)) ∧ CallKind.normal = CallKind.normal ∧ TodoOk (ren 1 []) rmH0 rmH0 ∧ off = off ∧ n = n ∧ ari BinOp.add IntKind.i64 i (1 : Int) = ari BinOp.add IntKind.i64 i (1 : Int) ∧ off = off ∧ n = n ∧ (↑n : Int) = (↑n : Int) ∧ ty = ty ∧ cs = cs ∧ True)) ∧ (((intAt cs (off + Int.toNat i * 5) == (5 : Int)) == false) = false → (decide (intAt cs (off + Int.toNat i * 5 + 4) ≥ (↑n : Int)) = true → false = r) ∧ (decide (intAt cs (off + Int.toNat i * 5 + 4) ≥ (↑n : Int)) = false → Q (ari BinOp.add IntKind.i64 i (1 : Int)) ∧ CallKind.normal = CallKind.normal ∧ TodoOk (ren 1 []) rmH0 rmH0 ∧ off = off ∧ n = n ∧ ari BinOp.add IntKind.i64 i (1 : Int) = ari BinOp.add IntKind.i64 i (1 : Int) ∧ off = off ∧ n = n ∧ (↑n : Int) = (↑n : Int) ∧ ty = ty ∧ cs = cs ∧ True))) ∧ ((decide (intAt cs (off + Int.toNat i * 5 + 3) > (7 : Int)) == false) = false → false = r)) ∧ ((decide (intAt cs (off + Int.toNat i * 5 + 2) > (7 : Int)) == false) = false → false = r)) ∧ ((decide (intAt cs (off + Int.toNat i * 5 + 1) > (7 : Int)) == false) = false → false = r)) ∧ ((decide (intAt cs (off + Int.toNat i * 5) > (38 : Int)) == false) = false → false = r))) ∧ (decide (i < (↑n : Int)) = false → true = r)) := by kernel_rfl
theorem of_lit0 (e : Int) : (run E0 1000 0 [callFr 7 Try.f7.ntmps [nilV] (Try.f7.body.getD .skip)] ⟨0, .nil, []⟩).vc (nilA e) (fun _ _ => False) =
    (e = (0 : Int)) := by kernel_rfl
theorem of_lit1 (e : Int) : (run E0 1000 0 [callFr 7 Try.f7.ntmps [.s (.c (.f .e0))] (Try.f7.body.getD .skip)] ⟨0, .nil, []⟩).vc (nilA e) (fun _ _ => False) =
    (e = (0 : Int)) := by kernel_rfl
end Go.Proofs.Ytebkbihhnoellaa
/- Of code: what the reference's Of, May and Bytes answer. No condition. -/
namespace Go.Proofs.Ytebkbihhnoellaa
set_option linter.unusedSectionVars false
set_option maxRecDepth 100000
theorem intAt_is {cs : Array Value} {p : Nat} {k : IntKind} {n : Int} (h : cs[p]? = some (.int k n)) : intAt cs p = n ∧ IsInt k cs p := by
  have e : intAt cs p = n := by unfold intAt; rw [h]
  exact ⟨e, by unfold IsInt; rw [e]; exact h⟩
def ofL (cs : Array Value) (off : Nat) : Nat → List Value := parts fun i => fiveR (ins cs off i)
def ofRow (cs : Array Value) (off n : Nat) : Array Value := (ofL cs off n).toArray
theorem ofL_len (cs : Array Value) (off n : Nat) : (ofL cs off n).length = n * 5 := parts_len (f := fun i => fiveR (ins cs off i)) (fun _ => rfl) n
theorem ofL_more (cs : Array Value) (off i : Nat) : (ofL cs off i).toArray ++ (fiveR (ins cs off i)).toArray = (ofL cs off (i + 1)).toArray := by
  show _ = (ofL cs off i ++ fiveR (ins cs off i)).toArray
  rw [List.append_toArray]
theorem ofL_at (cs : Array Value) (off : Nat) {n i t : Nat} (hi : i < n) (ht : t < 5) : (ofRow cs off n)[0 + i * 5 + t]? = (fiveR (ins cs off i))[t]? := by
  unfold ofRow
  rw [List.getElem?_toArray, Nat.zero_add]
  exact parts_at (f := fun i => fiveR (ins cs off i)) (fun _ => rfl) hi ht
theorem w64 {x : Int} (h : 0 ≤ x ∧ x ≤ 65535) : IntKind.i64.wrap x = x := Go.IntWalk.i64_in _ (by omega)
theorem of_row {cs : Array Value} {off n : Nat} (hI : InsOk cs off n) : RowOk (ofRow cs off n) 0 n ∧ ∀ i, i < n → ins (ofRow cs off n) 0 i = ins cs off i := by
  have key : ∀ i, i < n → (IsInt .i64 (ofRow cs off n) (0 + i * 5) ∧ IsInt .i64 (ofRow cs off n) (0 + i * 5 + 1) ∧ IsInt .i64 (ofRow cs off n) (0 + i * 5 + 2) ∧ IsInt .i64 (ofRow cs off n) (0 + i * 5 + 3) ∧ IsInt .i64 (ofRow cs off n) (0 + i * 5 + 4)) ∧ ins (ofRow cs off n) 0 i = ins cs off i := by
    intro i hi
    obtain ⟨_, r1, r2, r3, r4, r5⟩ := hI.2 i hi
    obtain ⟨a0, b0⟩ := intAt_is (ofL_at cs off (t := 0) hi (by decide))
    obtain ⟨a1, b1⟩ := intAt_is (ofL_at cs off (t := 1) hi (by decide))
    obtain ⟨a2, b2⟩ := intAt_is (ofL_at cs off (t := 2) hi (by decide))
    obtain ⟨a3, b3⟩ := intAt_is (ofL_at cs off (t := 3) hi (by decide))
    obtain ⟨a4, b4⟩ := intAt_is (ofL_at cs off (t := 4) hi (by decide))
    exact ⟨⟨b0, b1, b2, b3, b4⟩, Ins.ext' (a0.trans (w64 (by omega))) (a1.trans (w64 (by omega))) (a2.trans (w64 (by omega))) (a3.trans (w64 (by omega))) (a4.trans (w64 (by omega)))⟩
  exact ⟨⟨hI.1, fun i hi => (key i hi).1⟩, fun i hi => (key i hi).2⟩
theorem oT0_ok : TodoOk (ren 1 []) oT0 oT0 := TodoOk.same (by kernel_rfl)
theorem oH0_3 : TodoOk (ren 1 [(1, 3)]) oH0 oH0 := TodoOk.same (by kernel_rfl)
theorem oH0_4 : TodoOk (ren 1 [(1, 4)]) oH0 oH0 := TodoOk.same (by kernel_rfl)
theorem ofN_good {v : Bool} {off n : Nat} {cs : Array Value} {ty : TypeId} {A : SV → SMem → Prop} {Q : Int → Nat → Array Value → Prop} (hg : ∀ i k rs, Q i k rs → Good E9.P A 1 (headF (ofF v off n cs ty i k)) (ofM v cs ty rs)) {fs : List SFr} {m : SMem} (hb : ofN v off n cs ty Q fs m) : Good E9.P A 1 fs m := by
  unfold ofN at hb
  split at hb
  · split at hb
    · exact Good.of_sub hb.2 (hg _ _ _ hb.1)
    · exact hb.elim
  · exact hb.elim
theorem ofN0_good {v : Bool} {off n : Nat} {cs : Array Value} {ty : TypeId} {A : SV → SMem → Prop} {Q : Int → Prop} (hg : ∀ i, Q i → Good E9.P A 1 (gH E9 1 (ofC off n) (prM v cs ty) [(4, i64 (.o i))]) (gM E9 1 (ofC off n) (prM v cs ty) [])) {fs : List SFr} {m : SMem} (hb : ofN0 v off n cs ty Q fs m) : Good E9.P A 1 fs m := by
  unfold ofN0 at hb
  split at hb
  · split at hb
    · exact gN_good hb.2 (hg _ hb.1)
    · exact hb.elim
  · exact hb.elim
section
variable (v : Bool) (off n : Nat) (cs : Array Value) (ty : TypeId)
theorem of_step_v (kF : Nat) (rF : Array Value) (i : Int) (k : Nat) (rs : Array Value) (Q : Int → Nat → Array Value → Prop) : (ofS v off n cs ty i k rs).vc (ofA kF rF) (ofN v off n cs ty Q) = (ofS true off n cs ty i k rs).vc (ofA kF rF) (ofN true off n cs ty Q) := by
  cases v with
  | true => rfl
  | false => exact (of_step_p off n cs ty kF rF i k rs Q).trans (of_step_r off n cs ty kF rF i k rs Q).symm
theorem of_nil_v (kF : Nat) (rF : Array Value) (i : Int) (Q : Int → Nat → Array Value → Prop) : (gS E9 1 (ofC off n) (prM v cs ty) [(4, i64 (.o i))] []).vc (ofA kF rF) (ofN v off n cs ty Q) = (gS E9 1 (ofC off n) (prM true cs ty) [(4, i64 (.o i))] []).vc (ofA kF rF) (ofN true off n cs ty Q) := by
  cases v with
  | true => rfl
  | false => exact (of_nil_p off n cs ty kF rF i Q).trans (of_nil_r off n cs ty kF rF i Q).symm
theorem of_start_v (kF : Nat) (rF : Array Value) (Q : Int → Prop) : (gR E9 1 (ofC off n) (prM v cs ty)).vc (ofA kF rF) (ofN0 v off n cs ty Q) = (gR E9 1 (ofC off n) (prM true cs ty)).vc (ofA kF rF) (ofN0 true off n cs ty Q) := by
  cases v with
  | true => rfl
  | false => exact (of_start_p off n cs ty kF rF Q).trans (of_start_r off n cs ty kF rF Q).symm
variable (hI : InsOk cs off n) (h0 : n ≠ 0) (hn : n ≤ 1048576)
include hI h0 hn
theorem of_round : ∀ (K i : Nat), n - i < K → 1 ≤ i → i ≤ n → Good Try.prog (ofA n (ofRow cs off n)) 1 (headF (ofF v off n cs ty i i)) (ofM v cs ty (ofL cs off i).toArray) := by
  intro K
  induction K with
  | zero => intro i h; omega
  | succ K ih =>
    intro i hk h1 hi
    refine past_vc E9_ok 1000 ((of_step_v v off n cs ty n (ofRow cs off n) i i (ofL cs off i).toArray (fun i' k bs => ∃ j : Nat, i' = j ∧ n - j < K ∧ 1 ≤ j ∧ j ≤ n ∧ k = j ∧ bs = (ofL cs off j).toArray)).trans (of_step_r off n cs ty _ _ _ _ _ _)) ?_ (fun _ _ h => h)
      (fun fs m hb => ofN_good (fun i' k bs ⟨j, e, k1, k2, k3, k4, k5⟩ => by rw [e, k4, k5]; exact ih j k1 k2 k3) hb)
    have hsz : (ofL cs off i).toArray.size = i * 5 := by rw [List.size_toArray, ofL_len]
    refine ⟨fun h => ?_, fun h => ?_⟩
    · have hlt : i < n := by have := of_decide_eq_true h; omega
      obtain ⟨⟨i1, i2, i3, i4, i5⟩, _⟩ := hI.2 i hlt
      have eA : ari BinOp.add IntKind.i64 (i : Int) 1 = ((i + 1 : Nat) : Int) := by rw [ari_add, i64_nat (show i < 9223372036854775807 by omega)]
      rw [Int.toNat_natCast, eA]
      refine ⟨⟨⟨by omega, by omega⟩, trivial⟩, ⟨i1, i2, i3, i4, i5, trivial⟩, ⟨⟨by omega, by omega⟩, by rw [hsz], trivial⟩, ⟨i + 1, rfl, by omega, by omega, by omega, rfl, ofL_more cs off i⟩, ?_⟩
      repeat' first | exact trivial | exact oH0_4 | apply And.intro | exact rfl
    · have e : i = n := by have := of_decide_eq_false h; omega
      subst e
      repeat' first | exact trivial | apply And.intro | exact rfl
theorem of_first : Good Try.prog (ofA n (ofRow cs off n)) 1 (gH E9 1 (ofC off n) (prM v cs ty) [(4, i64 (.o 0))]) (gM E9 1 (ofC off n) (prM v cs ty) []) := by
  refine past_vc E9_ok 1000 ((of_nil_v v off n cs ty n (ofRow cs off n) 0 (fun i' k bs => i' = 1 ∧ k = 1 ∧ bs = (ofL cs off 1).toArray)).trans (of_nil_r off n cs ty _ _ _ _)) ?_ (fun _ _ h => h)
    (fun fs m hb => ofN_good (fun i' k bs ⟨e, k4, k5⟩ => by rw [e, k4, k5]; exact of_round v off n cs ty hI h0 hn (n + 1) 1 (by omega) (by omega) (by omega)) hb)
  refine ⟨fun h => ?_, fun h => ?_⟩
  · obtain ⟨⟨i1, i2, i3, i4, i5⟩, _⟩ := hI.2 0 (by omega)
    refine ⟨⟨⟨by omega, by omega⟩, trivial⟩, ⟨i1, i2, i3, i4, i5, trivial⟩, ⟨rfl, rfl, rfl⟩, ?_⟩
    repeat' first | exact trivial | exact oH0_3 | apply And.intro | exact rfl
  · have := of_decide_eq_false h; omega
theorem of_good : Good Try.prog (fun s m' => s = .s (.c (.f (.slice 1 (.l 0) (.o n) .any))) ∧ m' = ⟨2, Tr.nil.set 1 (some ⟨.pop (ofRow cs off n), 46, true⟩), []⟩) 1 (ofC off n) (prM v cs ty) := by
  refine Good.retX (Good.mono (run_vc E9_ok 1000 ((of_start_v v off n cs ty n (ofRow cs off n) (fun i => i = 0)).trans (of_start_r off n cs ty _ _ _)) ?_ (fun _ _ h => h)
    (fun fs m hb => ofN0_good (fun i e => by rw [e]; exact of_first v off n cs ty hI h0 hn) hb)) ?_)
  · repeat' first | exact trivial | exact oT0_ok | apply And.intro | exact rfl
  · intro s m h
    unfold ofA at h
    split at h
    · exact ⟨_, h⟩
    · exact h.elim
end
/-! The reference's May. -/
theorem rmT0_ok : TodoOk (ren 1 []) rmT0 rmT0 := TodoOk.same (by kernel_rfl)
theorem rmH0_ok : TodoOk (ren 1 []) rmH0 rmH0 := TodoOk.same (by kernel_rfl)
theorem rmN_good {h : Bool} {off n : Nat} {cs : Array Value} {ty : TypeId} {A : SV → SMem → Prop} {Q : Int → Prop} (hg : ∀ i, Q i → Good E9.P A 1 (gH E9 1 (rmC off n) (prM false cs ty) [(3, i64 (.o i))]) (gM E9 1 (rmC off n) (prM false cs ty) [])) {fs : List SFr} {m : SMem} (hb : rmN h off n cs ty Q fs m) : Good E9.P A 1 fs m := by
  unfold rmN at hb
  split at hb
  · split at hb
    · exact gN_good hb.2 (hg _ hb.1)
    · exact hb.elim
  · exact hb.elim
section
variable (off n : Nat) (cs : Array Value) (ty : TypeId) (hR : RowOk cs off n)
include hR
theorem rm_round (hn : n ≤ 64) : ∀ (k i : Nat), n - i < k → i ≤ n → (∀ j, j < i → (ins cs off j).okN n = true) → Good E9.P (boolR (mayV cs off n)) 1 (gH E9 1 (rmC off n) (prM false cs ty) [(3, i64 (.o i))]) (gM E9 1 (rmC off n) (prM false cs ty) []) := by
  intro k
  induction k with
  | zero => intro i h; omega
  | succ k ih =>
    intro i hk hi hd
    refine past_vc E9_ok 1000 (rm_step off n cs ty (mayV cs off n) i (fun i' => ∃ j : Nat, i' = j ∧ n - j < k ∧ j ≤ n ∧ ∀ t, t < j → (ins cs off t).okN n = true)) ?_ (fun _ _ h => h)
      (fun fs m hb => rmN_good (fun i' ⟨j, e, k1, k2, k3⟩ => by rw [e]; exact ih j k1 k2 k3) hb)
    refine ⟨fun h => ?_, fun h => ?_⟩
    · have hlt : i < n := by have := of_decide_eq_true h; omega
      obtain ⟨i1, i2, i3, i4, i5⟩ := hR.2 i hlt
      rw [Int.toNat_natCast]
      refine ⟨⟨⟨by omega, by omega⟩, trivial⟩, ⟨i1, i2, i3, i4, i5, trivial⟩, ?_⟩
      have hyes : (ins cs off i).okN n = true → ∃ j : Nat, ((i + 1 : Nat) : Int) = j ∧ n - j < k ∧ j ≤ n ∧ ∀ t, t < j → (ins cs off t).okN n = true := fun h => ⟨i + 1, rfl, by omega, by omega, fun t ht => by
        by_cases e : t = i
        · rw [e]; exact h
        · exact hd t (by omega)⟩
      have hno : ¬ (ins cs off i).okN n = true → false = mayV cs off n := fun h => by
        cases e : mayV cs off n with
        | false => rfl
        | true => exact (h ((mayV_iff.1 e).2 i hlt)).elim
      have eA : ari BinOp.add IntKind.i64 (i : Int) 1 = ((i + 1 : Nat) : Int) := by rw [ari_add, i64_nat (show i < 9223372036854775807 by omega)]
      rw [eA]
      generalize hYe : (∃ j : Nat, ((i + 1 : Nat) : Int) = j ∧ n - j < k ∧ j ≤ n ∧ ∀ t, t < j → (ins cs off t).okN n = true) = Y at hyes ⊢
      generalize hRe : (false = mayV cs off n) = Z at hno ⊢
      rw [Ins.okN_iff] at hyes hno
      simp only [ins] at hyes hno
      generalize intAt cs (off + i * 5) = xo at hyes hno ⊢
      generalize intAt cs (off + i * 5 + 1) = xa at hyes hno ⊢
      generalize intAt cs (off + i * 5 + 2) = xb at hyes hno ⊢
      generalize intAt cs (off + i * 5 + 3) = xc at hyes hno ⊢
      generalize intAt cs (off + i * 5 + 4) = xn at hyes hno ⊢
      simp only [eqJ, beq_iff_eq, beq_eq_false_iff_ne, decide_eq_true_eq, decide_eq_false_iff_not, Bool.not_eq_eq_eq_not, Bool.not_true, Bool.not_false, ne_eq]
      clear hYe hRe ih hd
      repeat' first | apply And.intro | (intro hh)
      all_goals first | exact trivial | exact rmH0_ok | exact rfl | skip
      all_goals first | (refine hyes ?_; omega) | (refine hno ?_; omega) | skip
    · have h1 : ¬ i < n := by have := of_decide_eq_false h; omega
      exact (mayV_iff.2 ⟨hn, fun j hj => hd j (by omega)⟩).symm
theorem rm_good : Good Try.prog (boolR (mayV cs off n)) 1 (rmC off n) (prM false cs ty) := by
  refine run_vc E9_ok 1000 (rm_start off n cs ty (mayV cs off n) (fun i => i = 0 ∧ n ≤ 64)) ?_ (fun _ _ h => h)
    (fun fs m hb => rmN_good (fun i ⟨e, hn⟩ => by rw [e]; exact rm_round off n cs ty hR hn (n + 1) 0 (by omega) (by omega) (fun j hj => by omega)) hb)
  refine ⟨fun h => ?_, fun h => ?_⟩
  · have : ¬ n ≤ 64 := by have := of_decide_eq_true h; omega
    unfold mayV
    rw [decide_eq_false this]; rfl
  · have : n ≤ 64 := by have := of_decide_eq_false h; omega
    repeat' first | exact this | exact trivial | exact rmT0_ok | apply And.intro | exact rfl
end
end Go.Proofs.Ytebkbihhnoellaa
/- Of code: what the reference's Decode answers. No condition. -/
namespace Go.Proofs.Ytebkbihhnoellaa
set_option linter.unusedSectionVars false
set_option maxRecDepth 100000
/-! The reference's May, as a contract. -/
theorem rowR_of {m : SMem} {i : Nat} {cs : Array Value} (h : rowR m i = some cs) : ∃ ty wr, getB m.bl i = some ⟨.pop cs, ty, wr⟩ := by
  unfold rowR at h
  split at h
  · rename_i e; cases h; exact ⟨_, _, e⟩
  · cases h
theorem Con.rowR {g : FuncId} {fn : Func} {c : Code} {m : SMem} {i : Nat} {o n : SN} {cap : SK} {cs : Array Value} {q : List Prop} {s0 : SV} {A : SV → SMem → Prop} (h1 : E0.fn g = some fn) (h2 : fn.body = some c) (hr : rowR m i = some cs)
    (good : ∀ ty, (∀ p ∈ q, p) → Good Try.prog A 1 [callFr g fn.ntmps [prS o.den n.den] c] (prM false cs ty)) (hs : ∀ s m' R R' v, A s m' → s.ok R' v → s0.ok R v) :
    Con E0 g [.s (.c (.f (.slice i o n cap)))] m (needs q (.ret s0 m)) := by
  obtain ⟨ty, wr, hb⟩ := rowR_of hr
  refine Con.ro E0_ok (l' := [prS o.den n.den]) (ms := prM false cs ty) (A := A) h1 h2 rfl (fun _ => i) ?_ ?_ (good ty) hs
  · intro j b hj
    obtain ⟨rfl, rfl⟩ := prM_get hj
    exact ⟨Nat.zero_lt_one, rfl, _, hb, rfl, fun R cs' h => h⟩
  · intro R vs ha
    match vs, ha with
    | [x], ha =>
      obtain ⟨⟨gl, cp, e1, e2, e3, e4⟩, _⟩ := ha
      exact ⟨⟨gl, cp, by unfold pull; exact e1, e2, trivial, e4⟩, trivial⟩
theorem fn7 : E0.fn 8 = some Try.f8 := by kernel_rfl
theorem body7 : Try.f8.body = some (Try.f8.body.getD .skip) := by kernel_rfl
theorem rm_nil : (run E0 1000 0 [callFr 8 Try.f8.ntmps [nilV] (Try.f8.body.getD .skip)] ⟨0, .nil, []⟩).allTrue = true := by kernel_rfl
theorem bool_ok {b : Bool} {s : SV} {m' : SMem} {R R' : Ren} {v : Value} (h : boolR b s m') (hv : s.ok R' v) : (sB (.o b)).ok R v := by
  unfold boolR at h
  split at h
  · have hv : v = .bool _ := hv
    rw [hv, h]; rfl
  · exact h.elim
theorem mayRT_ok {m : SMem} {x : SV} {t : Tree} (h : mayRT m x = some t) : Con E0 8 [x] m t := by
  unfold mayRT at h
  split at h
  · cases h
    exact Con.pure (q := []) E0_ok fn7 body7 (by kernel_rfl) (by kernel_rfl) fun _ => good_true E0_ok rm_nil
  · split at h
    · rename_i o n cap _ cs e
      cases h
      exact Con.rowR fn7 body7 e (A := boolR (mayV cs o.den n.den)) (fun ty hq => rm_good o.den n.den cs ty (hq _ (List.mem_cons_self ..))) fun _ _ _ _ _ => bool_ok
    · cases h
  · cases h
noncomputable section
def ofT (m : SMem) : SV → Option Tree
  | .s (.c (.f (.lit (.slice none 0 0)))) => some (.ret nilV m)
  | .s (.c (.f .e0)) => some (.ret nilV m)
  | .s (.c (.f (.slice i o n _))) => match rowI m i with
    | some cs => some (needs [InsOk cs o.den n.den, n.den ≠ 0, n.den ≤ 200] (.ret (.s (.c (.f (.slice m.next (.l 0) (.o n.den) .any)))) (m.new (.pop (ofRow cs o.den n.den)) 46)))
    | none => none
  | _ => none
end
theorem Con.none {g : FuncId} {fn : Func} {c : Code} {l : List SV} {m : SMem} {s0 : SV} {A : SV → SMem → Prop} (h1 : E0.fn g = some fn) (h2 : fn.body = some c) (hl : allB noIds l = true) (good : Good Try.prog A 0 [callFr g fn.ntmps l c] M0)
    (hs : ∀ s m' R R' v, A s m' → s.ok R' v → s0.ok R v) : Con E0 g l m (.ret s0 m) :=
  Con.ro E0_ok (l := l) (l' := l) (ms := M0) (m := m) (q := []) h1 h2 rfl (fun i => i) (fun i b hb => by
    have hb : (Tr.nil : Tr SBlk).get i = some b := hb
    rw [Tr.get_nil] at hb; cases hb) (fun R vs ha => ok_anys hl ha) (fun _ => good) hs
theorem fn8 : E0.fn 7 = some Try.f7 := by kernel_rfl
theorem body8 : Try.f7.body = some (Try.f7.body.getD .skip) := by kernel_rfl
theorem of_con {B : Nat} (hB : B ≤ 1048576) {m : SMem} {i : Nat} {o n : SN} {cap : SK} {cs : Array Value} (hr : rowI m i = some cs) :
    Con E0 7 [.s (.c (.f (.slice i o n cap)))] m (needs [InsOk cs o.den n.den, n.den ≠ 0, n.den ≤ B] (.ret (.s (.c (.f (.slice m.next (.l 0) (.o n.den) .any)))) (m.new (.pop (ofRow cs o.den n.den)) 46))) := by
  obtain ⟨v, ty, wr, hb⟩ := row_of hr
  intro A hs
  obtain ⟨hq, hA⟩ := Tree.sat_needs hs
  refine ⟨Try.f7, fn8, by rw [body8]; rfl, fun n0 F w0 w R args ha hR => ?_⟩
  obtain ⟨x, ds, fz, k1, _⟩ := hR.blk _ _ hb
  have hlt := hR.nx _ _ k1
  have hl' : All2 (SV.ok (pull (fun _ => i) 1 R)) [prS o.den n.den] args.toList := by
    revert ha
    generalize args.toList = vs
    intro ha
    match vs, ha with
    | [x], ha =>
      obtain ⟨⟨gl, cp, e1, e2, e3, e4⟩, _⟩ := ha
      exact ⟨⟨gl, cp, by unfold pull; exact e1, e2, trivial, e4⟩, trivial⟩
  refine (frame (ms := prM v cs ty) (ms' := ⟨2, Tr.nil.set 1 (some ⟨.pop (ofRow cs o.den n.den), 46, true⟩), []⟩) (E0_ok.fns 7 _ fn8).1 body8 (of_good v o.den n.den cs ty (hq _ (by simp)) (hq _ (by simp)) (Nat.le_trans (hq _ (by simp)) hB)) rfl (ι := fun _ => i) ?_ (fun _ _ => hlt) ?_ ?_ ?_ (show 1 ≤ 2 by decide) hl' hR).mono ?_
  · intro a b h1 h2 _
    have h1 : a < 1 := h1
    have h2 : b < 1 := h2
    omega
  · intro j b hj
    obtain ⟨rfl, rfl⟩ := prM_get hj
    refine ⟨Nat.zero_lt_one, _, hb, rfl, fun h => (by cases h), fun R cs' h => ?_⟩
    cases v <;> exact h
  · intro j b hj hw
    obtain ⟨rfl, rfl⟩ := prM_get hj
    cases hw
  · intro j b hj h1
    have h1 : j < 1 := h1
    have e : j = 0 := by omega
    subst e
    have hj : (none : Option SBlk) = some b := hj
    cases hj
  · rintro u w' ⟨R', k1, k2, k3⟩
    exact ⟨_, _, R', hA, k1, k2, k3⟩
theorem nilA_ok {s : SV} {m' : SMem} {R R' : Ren} {v : Value} (h : nilA 0 s m') (hv : s.ok R' v) : nilV.ok R v := by
  unfold nilA at h
  split at h
  · exact hv
  · exact h.elim
theorem ofT_ok {m : SMem} {x : SV} {t : Tree} (h : ofT m x = some t) : Con E0 7 [x] m t := by
  unfold ofT at h
  split at h
  · cases h
    exact Con.none fn8 body8 (by kernel_rfl) (run_vc E0_ok 1000 (of_lit0 0) rfl (fun s m h => h) fun _ _ h => h.elim) fun _ _ _ _ _ => nilA_ok
  · cases h
    exact Con.none fn8 body8 (by kernel_rfl) (run_vc E0_ok 1000 (of_lit1 0) rfl (fun s m h => h) fun _ _ h => h.elim) fun _ _ _ _ _ => nilA_ok
  · split at h
    · rename_i cs e
      cases h
      exact of_con (by decide) e
    · cases h
  · cases h
end Go.Proofs.Ytebkbihhnoellaa
/- Of flow: what is promised so far. No condition. -/
namespace Go.Proofs.Ytebkbihhnoellaa
set_option maxRecDepth 100000
noncomputable section
def rawI (m : SMem) (i : Nat) : Option (Array Value) := match getB m.bl i with
  | some ⟨.raw cs, _, _⟩ => some cs
  | _ => none
def frT (m : SMem) : List SV → Option Tree
  | [.s (.c (.f (.slice i o n _))), .s (.c (.f (.int .i64 a))), .s (.c (.f (.int .i64 s)))] => match rawI m i with
    | some cs => some (needs [InsOk cs o.den n.den, mayV cs o.den n.den = true, 0 ≤ a.den, a.den ≤ (n.den : Int)] (.ret (agg (frW cs o.den n.den a.den s.den)) m))
    | none => none
  | _ => none
def conA (g : FuncId) (l : List SV) (m : SMem) : Option Tree := match g, l with
  | 6, [] => some (needs [] (.ret (sB (.l true)) m))
  | 25, [x] => mayT m x
  | 7, [x] => ofT m x
  | 8, [x] => mayRT m x
  | 35, l => frT m l
  | _, _ => none
def EA : Env := ⟨Try.prog, fnOf, conA, fun _ _ x => isLoop x⟩
def EAL : Env := ⟨Try.prog, fnOf, conA, fun _ _ _ => false⟩
end
theorem fn35 : E0.fn 35 = some Try.f35 := by kernel_rfl
theorem body35 : Try.f35.body = some (Try.f35.body.getD .skip) := by kernel_rfl
theorem rawI_of {m : SMem} {i : Nat} {cs : Array Value} (h : rawI m i = some cs) : ∃ ty wr, getB m.bl i = some ⟨.raw cs, ty, wr⟩ := by
  unfold rawI at h
  split at h
  · rename_i e; cases h; exact ⟨_, _, e⟩
  · cases h
/-- A function of a row of instructions, and of numbers. -/
theorem Con.rawN {g : FuncId} {fn : Func} {c : Code} {m : SMem} {i : Nat} {o n : SN} {cap : SK} {cs : Array Value} {q : List Prop} {s0 : SV} {A : SV → SMem → Prop} {l l' : List SV} (h1 : E0.fn g = some fn) (h2 : fn.body = some c) (hr : rawI m i = some cs)
    (hl : ∀ R R' vs, All2 (SV.ok R) l vs → All2 (SV.ok R') l' vs)
    (good : ∀ ty, (∀ p ∈ q, p) → Good Try.prog A 1 [callFr g fn.ntmps (prS o.den n.den :: l') c] (mkM 1 [(0, ⟨.raw cs, ty, false⟩)])) (hs : ∀ s m' R R' v, A s m' → s.ok R' v → s0.ok R v) :
    Con E0 g (.s (.c (.f (.slice i o n cap))) :: l) m (needs q (.ret s0 m)) := by
  obtain ⟨ty, wr, hb⟩ := rawI_of hr
  refine Con.ro E0_ok (l' := prS o.den n.den :: l') (ms := mkM 1 [(0, ⟨.raw cs, ty, false⟩)]) (A := A) h1 h2 rfl (fun _ => i) ?_ ?_ (good ty) hs
  · intro j b hj
    obtain ⟨rfl, rfl⟩ := prM_get (v := true) hj
    exact ⟨Nat.zero_lt_one, rfl, _, hb, rfl, fun R cs' h => h⟩
  · intro R vs ha
    match vs, ha with
    | x :: vs, ha =>
      obtain ⟨⟨gl, cp, e1, e2, e3, e4⟩, ha⟩ := ha
      exact ⟨⟨gl, cp, by unfold pull; exact e1, e2, trivial, e4⟩, hl _ _ _ ha⟩
theorem ints_ok {a s : SI} : ∀ (R R' : Ren) (vs : List Value), All2 (SV.ok R) [i64 a, i64 s] vs → All2 (SV.ok R') [i64 (.o a.den), i64 (.o s.den)] vs := by
  intro R R' vs h
  match vs, h with
  | [x, y], h => exact h
theorem frT_ok {m : SMem} {l : List SV} {t : Tree} (h : frT m l = some t) : Con E0 35 l m t := by
  unfold frT at h
  split at h
  · rename_i i o n cap a s
    split at h
    · rename_i cs e
      cases h
      refine Con.rawN fn35 body35 e (l' := [i64 (.o a.den), i64 (.o s.den)]) (A := fun s0 _ => s0 = agg (frW cs o.den n.den a.den s.den)) ints_ok (fun ty hq => ?_) (fun s m' R R' v h hv => ?_)
      · exact (from_good ty (hq _ (by simp)) (hq _ (by simp)) (hq _ (by simp)) (hq _ (by simp))).mono fun _ _ h => h.1
      · rw [h] at hv
        exact hv
    · cases h
  · cases h
theorem conA_ok (g : FuncId) (l : List SV) (m : SMem) (t : Tree) (h : conA g l m = some t) : Con E0 g l m t := by
  unfold conA at h
  split at h
  · cases h; exact wakes_con m
  · exact mayT_ok h
  · exact ofT_ok h
  · exact mayRT_ok h
  · exact frT_ok h
  · cases h
theorem EA_ok : EnvOk EA := EnvOk.with E0_ok _ _ conA_ok
theorem EAL_ok : EnvOk EAL := EnvOk.with E0_ok _ _ conA_ok
end Go.Proofs.Ytebkbihhnoellaa
/- Of flow: behind, and the reference's Edge: their states. No condition. -/
namespace Go.Proofs.Ytebkbihhnoellaa
noncomputable section
def rawM (cs : Array Value) (ty : TypeId) : SMem := mkM 1 [(0, ⟨.raw cs, ty, false⟩)]
def beC (off n : Nat) (a : Int) : List SFr := [callFr 32 Try.f32.ntmps [prS off n, i64 (.o a)] (Try.f32.body.getD .skip)]
def edC (off n : Nat) (i j : Int) : List SFr := [callFr 11 Try.f11.ntmps [prS off n, i64 (.o i), i64 (.o j)] (Try.f11.body.getD .skip)]
def haC (cs : Array Value) (a : Int) : List SFr := [callFr 29 Try.f29.ntmps [agg cs, i64 (.o a)] (Try.f29.body.getD .skip)]
end
end Go.Proofs.Ytebkbihhnoellaa
/- Of flow: behind, has, and the reference's Edge, as propositions. No condition. -/
namespace Go.Proofs.Ytebkbihhnoellaa
set_option maxRecDepth 100000
theorem be_vc (cs : Array Value) (ty : TypeId) (off n : Nat) (a : Int) (rs : Array Value) : (run EAL 4000 1 (beC off n a) (rawM cs ty)).vc (retOk 1 [] (agg rs) (rawM cs ty)) (fun _ _ => False) =
    (((decide (a < (0 : Int)) == false) = true → (decide (a ≥ (↑n : Int)) = true → rs = #[Value.int IntKind.u64 (0 : Int), Value.int IntKind.u64 (0 : Int)] ∧ ty = ty ∧ cs = cs ∧ True) ∧ (decide (a ≥ (↑n : Int)) = false → (((0 : Int) ≤ a ∧ a < (↑n : Int)) ∧ True) ∧ (IsInt IntKind.u16 cs (off + Int.toNat a * 5 + 4) ∧ True) ∧ (((0 : Int) ≤ a ∧ a < (↑n : Int)) ∧ True) ∧ (IsInt IntKind.u8 cs (off + Int.toNat a * 5) ∧ True) ∧ ((intAt cs (off + Int.toNat a * 5) == (0 : Int)) = true → rs = #[Value.int IntKind.u64 (0 : Int), Value.int IntKind.u64 (0 : Int)] ∧ ty = ty ∧ cs = cs ∧ True) ∧ ((intAt cs (off + Int.toNat a * 5) == (0 : Int)) = false → ((intAt cs (off + Int.toNat a * 5) == (5 : Int)) = true → (InsOk cs off n ∧ mayV cs off n = true ∧ (0 : Int) ≤ IntKind.wrap IntKind.i64 (intAt cs (off + Int.toNat a * 5 + 4)) ∧ IntKind.wrap IntKind.i64 (intAt cs (off + Int.toNat a * 5 + 4)) ≤ (↑n : Int) ∧ True) ∧ (IsInt IntKind.u64 (frW cs off n (IntKind.wrap IntKind.i64 (intAt cs (off + Int.toNat a * 5 + 4))) (-1 : Int)) (0 : Nat) ∧ True) ∧ (IsInt IntKind.u64 (frW cs off n (IntKind.wrap IntKind.i64 (intAt cs (off + Int.toNat a * 5 + 4))) (-1 : Int)) (1 : Nat) ∧ True) ∧ rs = #[Value.int IntKind.u64 (ari BinOp.or IntKind.u64 (0 : Int) (intAt (frW cs off n (IntKind.wrap IntKind.i64 (intAt cs (off + Int.toNat a * 5 + 4))) (-1 : Int)) (0 : Nat))), Value.int IntKind.u64 (ari BinOp.or IntKind.u64 (0 : Int) (intAt (frW cs off n (IntKind.wrap IntKind.i64 (intAt cs (off + Int.toNat a * 5 + 4))) (-1 : Int)) (1 : Nat)))] ∧ ty = ty ∧ cs = cs ∧ True) ∧ ((intAt cs (off + Int.toNat a * 5) == (5 : Int)) = false → ((intAt cs (off + Int.toNat a * 5) == (6 : Int)) = true → (((if ari BinOp.add IntKind.i64 a (1 : Int) > IntKind.wrap IntKind.i64 (intAt cs (off + Int.toNat a * 5 + 4)) then ari BinOp.add IntKind.i64 a (1 : Int) else IntKind.wrap IntKind.i64 (intAt cs (off + Int.toNat a * 5 + 4))) == if ari BinOp.add IntKind.i64 a (1 : Int) < IntKind.wrap IntKind.i64 (intAt cs (off + Int.toNat a * 5 + 4)) then ari BinOp.add IntKind.i64 a (1 : Int) else IntKind.wrap IntKind.i64 (intAt cs (off + Int.toNat a * 5 + 4))) = true → (InsOk cs off n ∧ mayV cs off n = true ∧ ((0 : Int) ≤ if ari BinOp.add IntKind.i64 a (1 : Int) < IntKind.wrap IntKind.i64 (intAt cs (off + Int.toNat a * 5 + 4)) then ari BinOp.add IntKind.i64 a (1 : Int) else IntKind.wrap IntKind.i64 (intAt cs (off + Int.toNat a * 5 + 4))) ∧ (if ari BinOp.add IntKind.i64 a (1 : Int) < IntKind.wrap IntKind.i64 (intAt cs (off + Int.toNat a * 5 + 4)) then ari BinOp.add IntKind.i64 a (1 : Int) else IntKind.wrap IntKind.i64 (intAt cs (off + Int.toNat a * 5 + 4))) ≤ (↑n : Int) ∧ True) ∧ (IsInt IntKind.u64 (frW cs off n (if ari BinOp.add IntKind.i64 a (1 : Int) < IntKind.wrap IntKind.i64 (intAt cs (off + Int.toNat a * 5 + 4)) then ari BinOp.add IntKind.i64 a (1 : Int) else IntKind.wrap IntKind.i64 (intAt cs (off + Int.toNat a * 5 + 4))) (-1 : Int)) (0 : Nat) ∧ True) ∧ (IsInt IntKind.u64 (frW cs off n (if ari BinOp.add IntKind.i64 a (1 : Int) < IntKind.wrap IntKind.i64 (intAt cs (off + Int.toNat a * 5 + 4)) then ari BinOp.add IntKind.i64 a (1 : Int) else IntKind.wrap IntKind.i64 (intAt cs (off + Int.toNat a * 5 + 4))) (-1 : Int)) (1 : Nat) ∧ True) ∧ rs = #[Value.int IntKind.u64 (ari BinOp.or IntKind.u64 (0 : Int) (intAt (frW cs off n (if ari BinOp.add IntKind.i64 a (1 : Int) < IntKind.wrap IntKind.i64 (intAt cs (off + Int.toNat a * 5 + 4)) then ari BinOp.add IntKind.i64 a (1 : Int) else IntKind.wrap IntKind.i64 (intAt cs (off + Int.toNat a * 5 + 4))) (-1 : Int)) (0 : Nat))), Value.int IntKind.u64 (ari BinOp.or IntKind.u64 (0 : Int) (intAt (frW cs off n (if ari BinOp.add IntKind.i64 a (1 : Int) < IntKind.wrap IntKind.i64 (intAt cs (off + Int.toNat a * 5 + 4)) then ari BinOp.add IntKind.i64 a (1 : Int) else IntKind.wrap IntKind.i64 (intAt cs (off + Int.toNat a * 5 + 4))) (-1 : Int)) (1 : Nat)))] ∧ ty = ty ∧ cs = cs ∧ True) ∧ (((if ari BinOp.add IntKind.i64 a (1 : Int) > IntKind.wrap IntKind.i64 (intAt cs (off + Int.toNat a * 5 + 4)) then ari BinOp.add IntKind.i64 a (1 : Int) else IntKind.wrap IntKind.i64 (intAt cs (off + Int.toNat a * 5 + 4))) == if ari BinOp.add IntKind.i64 a (1 : Int) < IntKind.wrap IntKind.i64 (intAt cs (off + Int.toNat a * 5 + 4)) then ari BinOp.add IntKind.i64 a (1 : Int) else IntKind.wrap IntKind.i64 (intAt cs (off + Int.toNat a * 5 + 4))) = false → (InsOk cs off n ∧ mayV cs off n = true ∧ ((0 : Int) ≤ if ari BinOp.add IntKind.i64 a (1 : Int) < IntKind.wrap IntKind.i64 (intAt cs (off + Int.toNat a * 5 + 4)) then ari BinOp.add IntKind.i64 a (1 : Int) else IntKind.wrap IntKind.i64 (intAt cs (off + Int.toNat a * 5 + 4))) ∧ (if ari BinOp.add IntKind.i64 a (1 : Int) < IntKind.wrap IntKind.i64 (intAt cs (off + Int.toNat a * 5 + 4)) then ari BinOp.add IntKind.i64 a (1 : Int) else IntKind.wrap IntKind.i64 (intAt cs (off + Int.toNat a * 5 + 4))) ≤ (↑n : Int) ∧ True) ∧ (IsInt IntKind.u64 (frW cs off n (if ari BinOp.add IntKind.i64 a (1 : Int) < IntKind.wrap IntKind.i64 (intAt cs (off + Int.toNat a * 5 + 4)) then ari BinOp.add IntKind.i64 a (1 : Int) else IntKind.wrap IntKind.i64 (intAt cs (off + Int.toNat a * 5 + 4))) (-1 : Int)) (0 : Nat) ∧ True) ∧ (IsInt IntKind.u64 (frW cs off n (if ari BinOp.add IntKind.i64 a (1 : Int) < IntKind.wrap IntKind.i64 (intAt cs (off + Int.toNat a * 5 + 4)) then ari BinOp.add IntKind.i64 a (1 : Int) else IntKind.wrap IntKind.i64 (intAt cs (off + Int.toNat a * 5 + 4))) (-1 : Int)) (1 : Nat) ∧ True) ∧ (InsOk cs off n ∧ mayV cs off n = true ∧ ((0 : Int) ≤ if ari BinOp.add IntKind.i64 a (1 : Int) > IntKind.wrap IntKind.i64 (intAt cs (off + Int.toNat a * 5 + 4)) then ari BinOp.add IntKind.i64 a (1 : Int) else IntKind.wrap IntKind.i64 (intAt cs (off + Int.toNat a * 5 + 4))) ∧ (if ari BinOp.add IntKind.i64 a (1 : Int) > IntKind.wrap IntKind.i64 (intAt cs (off + Int.toNat a * 5 + 4)) then ari BinOp.add IntKind.i64 a (1 : Int) else IntKind.wrap IntKind.i64 (intAt cs (off + Int.toNat a * 5 + 4))) ≤ (↑n : Int) ∧ True) ∧ (IsInt IntKind.u64 (frW cs off n (if ari BinOp.add IntKind.i64 a (1 : Int) > IntKind.wrap IntKind.i64 (intAt cs (off + Int.toNat a * 5 + 4)) then ari BinOp.add IntKind.i64 a (1 : Int) else IntKind.wrap IntKind.i64 (intAt cs (off + Int.toNat a * 5 + 4))) (-1 : Int)) (0 : Nat) ∧ True) ∧ (IsInt IntKind.u64 (frW cs off n (if ari BinOp.add IntKind.i64 a (1 : Int) > IntKind.wrap IntKind.i64 (intAt cs (off + Int.toNat a * 5 + 4)) then ari BinOp.add IntKind.i64 a (1 : Int) else IntKind.wrap IntKind.i64 (intAt cs (off + Int.toNat a * 5 + 4))) (-1 : Int)) (1 : Nat) ∧ True) ∧ rs = #[Value.int IntKind.u64 (ari BinOp.or IntKind.u64 (ari BinOp.or IntKind.u64 (0 : Int) (intAt (frW cs off n (if ari BinOp.add IntKind.i64 a (1 : Int) < IntKind.wrap IntKind.i64 (intAt cs (off + Int.toNat a * 5 + 4)) then ari BinOp.add IntKind.i64 a (1 : Int) else IntKind.wrap IntKind.i64 (intAt cs (off + Int.toNat a * 5 + 4))) (-1 : Int)) (0 : Nat))) (intAt (frW cs off n (if ari BinOp.add IntKind.i64 a (1 : Int) > IntKind.wrap IntKind.i64 (intAt cs (off + Int.toNat a * 5 + 4)) then ari BinOp.add IntKind.i64 a (1 : Int) else IntKind.wrap IntKind.i64 (intAt cs (off + Int.toNat a * 5 + 4))) (-1 : Int)) (0 : Nat))), Value.int IntKind.u64 (ari BinOp.or IntKind.u64 (ari BinOp.or IntKind.u64 (0 : Int) (intAt (frW cs off n (if ari BinOp.add IntKind.i64 a (1 : Int) < IntKind.wrap IntKind.i64 (intAt cs (off + Int.toNat a * 5 + 4)) then ari BinOp.add IntKind.i64 a (1 : Int) else IntKind.wrap IntKind.i64 (intAt cs (off + Int.toNat a * 5 + 4))) (-1 : Int)) (1 : Nat))) (intAt (frW cs off n (if ari BinOp.add IntKind.i64 a (1 : Int) > IntKind.wrap IntKind.i64 (intAt cs (off + Int.toNat a * 5 + 4)) then ari BinOp.add IntKind.i64 a (1 : Int) else IntKind.wrap IntKind.i64 (intAt cs (off + Int.toNat a * 5 + 4))) (-1 : Int)) (1 : Nat)))] ∧ ty = ty ∧ cs = cs ∧ True)) ∧ ((intAt cs (off + Int.toNat a * 5) == (6 : Int)) = false → (InsOk cs off n ∧ mayV cs off n = true ∧ (0 : Int) ≤ ari BinOp.add IntKind.i64 a (1 : Int) ∧ ari BinOp.add IntKind.i64 a (1 : Int) ≤ (↑n : Int) ∧ True) ∧ (IsInt IntKind.u64 (frW cs off n (ari BinOp.add IntKind.i64 a (1 : Int)) (-1 : Int)) (0 : Nat) ∧ True) ∧ (IsInt IntKind.u64 (frW cs off n (ari BinOp.add IntKind.i64 a (1 : Int)) (-1 : Int)) (1 : Nat) ∧ True) ∧ rs = #[Value.int IntKind.u64 (ari BinOp.or IntKind.u64 (0 : Int) (intAt (frW cs off n (ari BinOp.add IntKind.i64 a (1 : Int)) (-1 : Int)) (0 : Nat))), Value.int IntKind.u64 (ari BinOp.or IntKind.u64 (0 : Int) (intAt (frW cs off n (ari BinOp.add IntKind.i64 a (1 : Int)) (-1 : Int)) (1 : Nat)))] ∧ ty = ty ∧ cs = cs ∧ True))))) ∧ ((decide (a < (0 : Int)) == false) = false → rs = #[Value.int IntKind.u64 (0 : Int), Value.int IntKind.u64 (0 : Int)] ∧ ty = ty ∧ cs = cs ∧ True)) := by kernel_rfl
theorem ed_vc (cs : Array Value) (ty : TypeId) (off n : Nat) (i j : Int) (r : Bool) : (run EAL 4000 1 (edC off n i j) (prM false cs ty)).vc (boolR r) (fun _ _ => False) =
    (((decide (i < (0 : Int)) == false) = true → (decide (i ≥ (↑n : Int)) = true → false = r) ∧ (decide (i ≥ (↑n : Int)) = false → (((0 : Int) ≤ i ∧ i < (↑n : Int)) ∧ True) ∧ (IsInt IntKind.i64 cs (off + Int.toNat i * 5) ∧ IsInt IntKind.i64 cs (off + Int.toNat i * 5 + 1) ∧ IsInt IntKind.i64 cs (off + Int.toNat i * 5 + 2) ∧ IsInt IntKind.i64 cs (off + Int.toNat i * 5 + 3) ∧ IsInt IntKind.i64 cs (off + Int.toNat i * 5 + 4) ∧ True) ∧ ((intAt cs (off + Int.toNat i * 5) == (0 : Int)) = true → false = r) ∧ ((intAt cs (off + Int.toNat i * 5) == (0 : Int)) = false → ((intAt cs (off + Int.toNat i * 5) == (5 : Int)) = true → (j == intAt cs (off + Int.toNat i * 5 + 4)) = r) ∧ ((intAt cs (off + Int.toNat i * 5) == (5 : Int)) = false → (((j == ari BinOp.add IntKind.i64 i (1 : Int)) == false) = true → (((intAt cs (off + Int.toNat i * 5) == (6 : Int)) == true) = true → (j == intAt cs (off + Int.toNat i * 5 + 4)) = r) ∧ (((intAt cs (off + Int.toNat i * 5) == (6 : Int)) == true) = false → false = r)) ∧ (((j == ari BinOp.add IntKind.i64 i (1 : Int)) == false) = false → true = r))))) ∧ ((decide (i < (0 : Int)) == false) = false → false = r)) := by kernel_rfl
theorem ha_vc (ws : Array Value) (a : Int) (r : Bool) : (run EAL 4000 0 (haC ws a) ⟨0, .nil, []⟩).vc (boolR r) (fun _ _ => False) =
    ((((0 : Int) ≤ ari BinOp.quo IntKind.i64 a (64 : Int) ∧ ari BinOp.quo IntKind.i64 a (64 : Int) < (2 : Int)) ∧ True) ∧ (IsInt IntKind.u64 ws ((0 : Nat) + Int.toNat (ari BinOp.quo IntKind.i64 a (64 : Int)) * 1) ∧ True) ∧ ((0 : Int) ≤ ari BinOp.rem IntKind.i64 a (64 : Int) ∧ True) ∧ (ari BinOp.and IntKind.u64 (ari BinOp.shr IntKind.u64 (intAt ws ((0 : Nat) + Int.toNat (ari BinOp.quo IntKind.i64 a (64 : Int)) * 1)) (ari BinOp.rem IntKind.i64 a (64 : Int))) (1 : Int) == (1 : Int)) = r) := by kernel_rfl
end Go.Proofs.Ytebkbihhnoellaa
/- Of flow: behind, has and the reference's Edge. No condition. -/
namespace Go.Proofs.Ytebkbihhnoellaa
set_option maxRecDepth 100000
theorem or64 {w v : Nat} (hw : w < 2 ^ 64) (hv : v < 2 ^ 64) : ari BinOp.or IntKind.u64 (w : Int) (v : Int) = ((w ||| v : Nat) : Int) := by
  rw [ari_or]
  have e1 : ∀ x : Nat, BitVec.ofInt IntKind.u64.bits (x : Int) = BitVec.ofNat 64 x := fun x => BitVec.ofInt_natCast 64 x
  rw [e1, e1]
  have e3 : (BitVec.ofNat 64 w ||| BitVec.ofNat 64 v).toNat = w ||| v := by
    rw [BitVec.toNat_or, BitVec.toNat_ofNat, BitVec.toNat_ofNat, Nat.mod_eq_of_lt hw, Nat.mod_eq_of_lt hv]
  have e4 : ((BitVec.ofNat 64 w ||| BitVec.ofNat 64 v).toNat : Int) = ((w ||| v : Nat) : Int) := by rw [e3]
  exact (congrArg IntKind.u64.wrap e4).trans (u64_nat (Nat.or_lt_two_pow hw hv))
def orW (x y : Array Value) : Array Value := #[.int .u64 (ari BinOp.or IntKind.u64 (intAt x 0) (intAt y 0)), .int .u64 (ari BinOp.or IntKind.u64 (intAt x 1) (intAt y 1))]
theorem orW_at {x y : Array Value} (hx : IsW x) (hy : IsW y) {p : Nat} (hp : p < 2) : ∃ w v : Nat, w < 2 ^ 64 ∧ v < 2 ^ 64 ∧ intAt x p = w ∧ intAt y p = v ∧ (orW x y)[p]? = some (.int .u64 ((w ||| v : Nat) : Int)) := by
  obtain ⟨w, hw, ew⟩ := hx.lt p hp
  obtain ⟨v, hv, ev⟩ := hy.lt p hp
  refine ⟨w, v, hw, hv, ew, ev, ?_⟩
  have e := or64 hw hv
  rw [← ew, ← ev] at e
  rw [← e]
  match p, hp with
  | 0, _ => rfl
  | 1, _ => rfl
theorem orW_ok {x y : Array Value} (hx : IsW x) (hy : IsW y) : IsW (orW x y) := by
  refine ⟨rfl, fun j hj => ?_, fun j hj => ?_⟩
  · obtain ⟨w, v, h1, h2, h3, h4, h5⟩ := orW_at hx hy hj
    unfold IsInt; rw [intAt_of h5]; exact h5
  · obtain ⟨w, v, h1, h2, h3, h4, h5⟩ := orW_at hx hy hj
    exact ⟨w ||| v, Nat.or_lt_two_pow h1 h2, intAt_of h5⟩
theorem orW_bit {x y : Array Value} (hx : IsW x) (hy : IsW y) {i : Nat} (hi : i < 128) : bitW (orW x y) i = (bitW x i || bitW y i) := by
  obtain ⟨w, v, h1, h2, h3, h4, h5⟩ := orW_at hx hy (p := i / 64) (by omega)
  unfold bitW
  rw [intAt_of h5, h3, h4, Int.toNat_natCast, Int.toNat_natCast, Int.toNat_natCast, Nat.testBit_or]
theorem toL_eq {cs : Array Value} {off n i : Nat} (d : ¬ n ≤ i) : toL cs off n i = if intAt cs (off + i * 5) = 0 then [] else if intAt cs (off + i * 5) = 5 then [(intAt cs (off + i * 5 + 4)).toNat] else if intAt cs (off + i * 5) = 6 then
    if (intAt cs (off + i * 5 + 4)).toNat = i + 1 then [i + 1] else [min (i + 1) (intAt cs (off + i * 5 + 4)).toNat, max (i + 1) (intAt cs (off + i * 5 + 4)).toNat] else [i + 1] := by unfold toL; rw [if_neg d]; rfl
/-- The places to which one comes, going on once or more. -/
def behW (cs : Array Value) (off n i : Nat) : Array Value := (toL cs off n i).foldl (fun w (b : Nat) => orW w (frW cs off n (b : Int) (-1))) noW
section
variable {cs : Array Value} {off n : Nat} (hI : InsOk cs off n) (hM : mayV cs off n = true)
include hI hM
theorem beh_fold {j : Nat} (hj : j ≤ n) : ∀ (l : List Nat) (w : Array Value), (∀ b ∈ l, b ≤ n) → IsW w → IsW (l.foldl (fun w (b : Nat) => orW w (frW cs off n (b : Int) (-1))) w) ∧
    (bitW (l.foldl (fun w (b : Nat) => orW w (frW cs off n (b : Int) (-1))) w) j = true ↔ bitW w j = true ∨ ∃ b ∈ l, Rch (toL cs off n) (-1) b j) := by
  have n64 := (mayV_iff.1 hM).1
  intro l
  induction l with
  | nil => intro w _ h; exact ⟨h, ⟨fun h => .inl h, fun h => by rcases h with h | ⟨_, h, _⟩; exact h; cases h⟩⟩
  | cons b l ih =>
    intro w hl h
    have hb := hl b (List.mem_cons_self ..)
    have hf := frW_ok (s := -1) hI hM hb
    obtain ⟨k1, k2⟩ := ih (orW w (frW cs off n (b : Int) (-1))) (fun j hj => hl j (List.mem_cons_of_mem _ hj)) (orW_ok h hf)
    refine ⟨k1, k2.trans ?_⟩
    rw [orW_bit h hf (by omega), Bool.or_eq_true, frW_iff hI hM hb]
    constructor
    · rintro ((h1 | h1) | ⟨c, hc, h1⟩)
      · exact .inl h1
      · exact .inr ⟨b, List.mem_cons_self .., h1⟩
      · exact .inr ⟨c, List.mem_cons_of_mem _ hc, h1⟩
    · rintro (h1 | ⟨c, hc, h1⟩)
      · exact .inl (.inl h1)
      · rcases List.mem_cons.1 hc with rfl | hc
        · exact .inl (.inr h1)
        · exact .inr ⟨c, hc, h1⟩
theorem behW_ok {i : Nat} (hi : i ≤ n) : IsW (behW cs off n i) := (beh_fold hI hM (Nat.zero_le n) _ _ (toL_le hI hM i hi) noW_ok).1
theorem behW_iff {i j : Nat} (hi : i ≤ n) (hj : j ≤ n) : bitW (behW cs off n i) j = true ↔ ∃ b ∈ toL cs off n i, Rch (toL cs off n) (-1) b j := by
  refine (beh_fold hI hM hj _ _ (toL_le hI hM i hi) noW_ok).2.trans ?_
  rw [noW_bit]
  exact ⟨fun h => h.resolve_left (by decide), .inr⟩
theorem be_good {i : Nat} (ty : TypeId) (hi : i ≤ n) : Good Try.prog (fun s0 m' => s0 = agg (behW cs off n i) ∧ m' = rawM cs ty) 1 (beC off n i) (rawM cs ty) := by
  refine Good.ret [] (run_vc EAL_ok 4000 (be_vc cs ty off n i (behW cs off n i)) ?_ (fun _ _ h => h) (fun _ _ h => h.elim))
  obtain ⟨n64, hA⟩ := mayV_iff.1 hM
  have e0 : decide ((i : Int) < 0) = false := decide_eq_false (by omega)
  by_cases d3 : n ≤ i
  · have e3 : decide ((i : Int) ≥ (n : Int)) = true := decide_eq_true (by omega)
    have et : behW cs off n i = noW := by unfold behW toL; rw [if_pos d3]; rfl
    simp only [e0, e3, et, beqT, beqF, Bool.not_true, Bool.not_false, Bool.true_eq_false, Bool.false_eq_true, false_implies, true_implies, true_and, and_true]
    rfl
  have hlt : i < n := by omega
  have e3 : decide ((i : Int) ≥ (n : Int)) = false := decide_eq_false (by omega)
  obtain ⟨⟨i1, i2, i3, i4, i5⟩, r1, r2, r3, r4, r5⟩ := hI.2 i hlt
  obtain ⟨_, _, _, _, k5⟩ := Ins.okN_iff.1 (hA i hlt)
  have et : toL cs off n i = if intAt cs (off + i * 5) = 0 then [] else if intAt cs (off + i * 5) = 5 then [(intAt cs (off + i * 5 + 4)).toNat] else if intAt cs (off + i * 5) = 6 then
    if (intAt cs (off + i * 5 + 4)).toNat = i + 1 then [i + 1] else [min (i + 1) (intAt cs (off + i * 5 + 4)).toNat, max (i + 1) (intAt cs (off + i * 5 + 4)).toNat] else [i + 1] := by unfold toL; rw [if_neg d3]; rfl
  simp only [ins] at r1 r5 k5
  have eA : ari BinOp.add IntKind.i64 (i : Int) 1 = ((i + 1 : Nat) : Int) := by rw [ari_add, i64_nat (by omega)]
  have eN : IntKind.i64.wrap (intAt cs (off + i * 5 + 4)) = ((intAt cs (off + i * 5 + 4)).toNat : Int) := by rw [Go.IntWalk.i64_in _ (by omega)]; omega
  have w6 : (0 : Int) ≤ (i : Int) ∧ (i : Int) < (n : Int) := by omega
  have hw : ∀ b : Nat, b ≤ n → ∀ p, p < 2 → IsInt IntKind.u64 (frW cs off n (b : Int) (-1)) p := fun b hb p hp => (frW_ok hI hM hb).int p hp
  have hc : ∀ b : Nat, b ≤ n → (0 : Int) ≤ (b : Int) ∧ (b : Int) ≤ (n : Int) := fun b hb => ⟨by omega, by omega⟩
  simp only [Int.toNat_natCast]
  rw [eA, eN]
  have ebe : behW cs off n i = (toL cs off n i).foldl (fun w (b : Nat) => orW w (frW cs off n (b : Int) (-1))) noW := rfl
  generalize hnn : (intAt cs (off + i * 5 + 4)).toNat = nn at et ⊢
  generalize ho : intAt cs (off + i * 5) = o at et r1 k5 ⊢
  by_cases o0 : o = 0
  · have f0 : (o == 0) = true := by rw [o0]; rfl
    rw [if_pos o0] at et
    rw [et] at ebe
    simp only [e0, e3, f0, ebe, w6, i1, i5, List.foldl_nil, beqT, beqF, Bool.not_true, Bool.not_false, Bool.true_eq_false, Bool.false_eq_true, false_implies, true_implies, true_and, and_true]
    rfl
  have f0 : (o == 0) = false := by rw [beq_eq_false_iff_ne]; exact o0
  rw [if_neg o0] at et
  by_cases o5 : o = 5
  · have f5 : (o == 5) = true := by rw [o5]; rfl
    rw [if_pos o5] at et
    rw [et] at ebe
    have h1 := hc nn (by omega)
    simp only [e0, e3, f0, f5, ebe, w6, i1, i5, hI, hM, h1, hw nn (by omega) 0 (by omega), hw nn (by omega) 1 (by omega), List.foldl_nil, List.foldl_cons, beqT, beqF, Bool.not_true, Bool.not_false, Bool.true_eq_false, Bool.false_eq_true, false_implies, true_implies, true_and, and_true]
    rfl
  have f5 : (o == 5) = false := by rw [beq_eq_false_iff_ne]; exact o5
  rw [if_neg o5] at et
  by_cases o6 : o = 6
  · have f6 : (o == 6) = true := by rw [o6]; rfl
    rw [if_pos o6] at et
    have eMin : (if ((i + 1 : Nat) : Int) < (nn : Int) then ((i + 1 : Nat) : Int) else (nn : Int)) = ((min (i + 1) nn : Nat) : Int) := by split <;> omega
    have eMax : (if ((i + 1 : Nat) : Int) > (nn : Int) then ((i + 1 : Nat) : Int) else (nn : Int)) = ((max (i + 1) nn : Nat) : Int) := by split <;> omega
    rw [eMin, eMax]
    have h1 := hc (min (i + 1) nn) (by omega)
    have h2 := hc (max (i + 1) nn) (by omega)
    have g1 := hw (min (i + 1) nn) (by omega) 0 (by omega)
    have g2 := hw (min (i + 1) nn) (by omega) 1 (by omega)
    have g3 := hw (max (i + 1) nn) (by omega) 0 (by omega)
    have g4 := hw (max (i + 1) nn) (by omega) 1 (by omega)
    by_cases d7 : nn = i + 1
    · have f7 : (((max (i + 1) nn : Nat) : Int) == ((min (i + 1) nn : Nat) : Int)) = true := by rw [beq_iff_eq]; omega
      rw [if_pos d7] at et
      have em : min (i + 1) nn = i + 1 := by omega
      rw [et, ← em] at ebe
      simp only [e0, e3, f0, f5, f6, f7, ebe, w6, i1, i5, hI, hM, h1, g1, g2, List.foldl_nil, List.foldl_cons, beqT, beqF, Bool.not_true, Bool.not_false, Bool.true_eq_false, Bool.false_eq_true, false_implies, true_implies, true_and, and_true]
      rfl
    · have f7 : (((max (i + 1) nn : Nat) : Int) == ((min (i + 1) nn : Nat) : Int)) = false := by rw [beq_eq_false_iff_ne]; omega
      rw [if_neg d7] at et
      rw [et] at ebe
      simp only [e0, e3, f0, f5, f6, f7, ebe, w6, i1, i5, hI, hM, h1, h2, g1, g2, g3, g4, List.foldl_nil, List.foldl_cons, beqT, beqF, Bool.not_true, Bool.not_false, Bool.true_eq_false, Bool.false_eq_true, false_implies, true_implies, true_and, and_true]
      rfl
  have f6 : (o == 6) = false := by rw [beq_eq_false_iff_ne]; exact o6
  rw [if_neg o6] at et
  rw [et] at ebe
  have h1 := hc (i + 1) (by omega)
  simp only [e0, e3, f0, f5, f6, ebe, w6, i1, i5, hI, hM, h1, hw (i + 1) (by omega) 0 (by omega), hw (i + 1) (by omega) 1 (by omega), List.foldl_nil, List.foldl_cons, beqT, beqF, Bool.not_true, Bool.not_false, Bool.true_eq_false, Bool.false_eq_true, false_implies, true_implies, true_and, and_true]
  rfl
end
/-! The reference's Edge. -/
def edB (cs : Array Value) (off n : Nat) (i j : Int) : Bool := decide (0 ≤ i ∧ i < (n : Int) ∧ (let x := ins cs off i.toNat; ¬ x.o = 0 ∧ (x.o = 5 ∧ j = x.n ∨ ¬ x.o = 5 ∧ (j = i + 1 ∨ x.o = 6 ∧ j = x.n))))
theorem edB_iff {cs : Array Value} {off n : Nat} {i j : Int} : edB cs off n i j = true ↔ 0 ≤ i ∧ i < (n : Int) ∧ ¬ intAt cs (off + i.toNat * 5) = 0 ∧ (intAt cs (off + i.toNat * 5) = 5 ∧ j = intAt cs (off + i.toNat * 5 + 4) ∨ ¬ intAt cs (off + i.toNat * 5) = 5 ∧ (j = i + 1 ∨ intAt cs (off + i.toNat * 5) = 6 ∧ j = intAt cs (off + i.toNat * 5 + 4))) := by
  unfold edB
  rw [decide_eq_true_eq]
  exact Iff.rfl
theorem ed_good {cs : Array Value} {off n : Nat} (i j : Int) (ty : TypeId) (hR : RowOk cs off n) : Good Try.prog (boolR (edB cs off n i j)) 1 (edC off n i j) (prM false cs ty) := by
  refine run_vc EAL_ok 4000 (ed_vc cs ty off n i j (edB cs off n i j)) ?_ (fun _ _ h => h) (fun _ _ h => h.elim)
  have hF : ∀ {b : Bool}, (¬ edB cs off n i j = true) → b = false → b = edB cs off n i j := fun h e => by rw [e]; cases h' : edB cs off n i j with
    | false => rfl
    | true => exact (h h').elim
  have hT : ∀ {b : Bool}, (b = true ↔ edB cs off n i j = true) → b = edB cs off n i j := fun h => by
    rename_i b
    cases b with
    | true => exact (h.1 rfl).symm
    | false => exact hF (fun e => by have := h.2 e; cases this) rfl
  have hn := hR.1
  refine ⟨fun h0 => ?_, fun h0 => ?_⟩
  · have h0 : 0 ≤ i := by simp at h0; omega
    refine ⟨fun h1 => ?_, fun h1 => ?_⟩
    · have h1 := of_decide_eq_true h1
      exact hF (fun e => by have := (edB_iff.1 e).2.1; omega) rfl
    have h1 : i < n := by have := of_decide_eq_false h1; omega
    obtain ⟨i1, i2, i3, i4, i5⟩ := hR.2 i.toNat (by omega)
    have eA : ari BinOp.add IntKind.i64 i 1 = i + 1 := by rw [ari_add, Go.IntWalk.i64_in _ (by omega)]
    rw [eA]
    refine ⟨⟨⟨h0, h1⟩, trivial⟩, ⟨i1, i2, i3, i4, i5, trivial⟩, fun h2 => ?_, fun h2 => ⟨fun h3 => ?_, fun h3 => ⟨fun h4 => ⟨fun h5 => ?_, fun h5 => ?_⟩, fun h4 => ?_⟩⟩⟩
    · have h2 := eq_of_beq h2
      exact hF (fun e => (edB_iff.1 e).2.2.1 h2) rfl
    · have h2 := ne_of_beq_false h2
      have h3 := eq_of_beq h3
      refine hT ?_
      rw [edB_iff, beq_iff_eq]
      exact ⟨fun e => ⟨h0, h1, h2, .inl ⟨h3, e⟩⟩, fun e => by rcases e.2.2.2 with h | h; exact h.2; exact (h.1 h3).elim⟩
    · have h2 := ne_of_beq_false h2
      have h3 := ne_of_beq_false h3
      have h4 : ¬ j = i + 1 := by simpa using h4
      have h5 : intAt cs (off + i.toNat * 5) = 6 := by simpa using h5
      refine hT ?_
      rw [edB_iff, beq_iff_eq]
      exact ⟨fun e => ⟨h0, h1, h2, .inr ⟨h3, .inr ⟨h5, e⟩⟩⟩, fun e => by rcases e.2.2.2 with h | h; exact (h3 h.1).elim; exact (h.2.resolve_left h4).2⟩
    · have h3 := ne_of_beq_false h3
      have h4 : ¬ j = i + 1 := by simpa using h4
      have h5 : ¬ intAt cs (off + i.toNat * 5) = 6 := by simpa using h5
      refine hF (fun e => ?_) rfl
      rcases (edB_iff.1 e).2.2.2 with h | h
      · exact h3 h.1
      · exact h5 (h.2.resolve_left h4).1
    · have h2 := ne_of_beq_false h2
      have h3 := ne_of_beq_false h3
      have h4 : j = i + 1 := by simpa using h4
      exact hT ⟨fun _ => edB_iff.2 ⟨h0, h1, h2, .inr ⟨h3, .inl h4⟩⟩, fun _ => rfl⟩
  · have h0 : i < 0 := by simpa using h0
    exact hF (fun e => by have := (edB_iff.1 e).1; omega) rfl
/-- The reference's edges are where one goes on. -/
theorem edB_toL {cs : Array Value} {off n i j : Nat} (h : ∀ i, i < n → 0 ≤ (ins cs off i).n) : edB cs off n i j = true ↔ j ∈ toL cs off n i := by
  rw [edB_iff]
  by_cases d : n ≤ i
  · unfold toL
    rw [if_pos d]
    exact ⟨fun h => by omega, fun h => by cases h⟩
  have hi : i < n := by omega
  have h0 := h i hi
  simp only [ins] at h0
  rw [toL_eq d, Int.toNat_natCast]
  generalize intAt cs (off + i * 5 + 4) = x at h0 ⊢
  generalize intAt cs (off + i * 5) = o
  by_cases o0 : o = 0
  · rw [if_pos o0]; exact ⟨fun h => (h.2.2.1 o0).elim, fun h => by cases h⟩
  rw [if_neg o0]
  by_cases o5 : o = 5
  · rw [if_pos o5, List.mem_singleton]; omega
  rw [if_neg o5]
  by_cases o6 : o = 6
  · rw [if_pos o6]
    split
    · rw [List.mem_singleton]; omega
    · simp only [List.mem_cons, List.not_mem_nil, or_false]; omega
  rw [if_neg o6, List.mem_singleton]; omega
end Go.Proofs.Ytebkbihhnoellaa
/- Of flow: what is promised, with behind and Edge. No condition. -/
namespace Go.Proofs.Ytebkbihhnoellaa
set_option maxRecDepth 100000
noncomputable section
def beT (m : SMem) : List SV → Option Tree
  | [.s (.c (.f (.slice i o n _))), .s (.c (.f (.int .i64 a)))] => match rawI m i with
    | some cs => some (needs [InsOk cs o.den n.den, mayV cs o.den n.den = true, 0 ≤ a.den, a.den ≤ (n.den : Int)] (.ret (agg (behW cs o.den n.den a.den.toNat)) m))
    | none => none
  | _ => none
def edT (m : SMem) : List SV → Option Tree
  | [.s (.c (.f (.slice i o n _))), .s (.c (.f (.int .i64 a))), .s (.c (.f (.int .i64 b)))] => match rowR m i with
    | some cs => some (needs [RowOk cs o.den n.den] (.ret (sB (.o (edB cs o.den n.den a.den b.den))) m))
    | none => none
  | _ => none
def conB (g : FuncId) (l : List SV) (m : SMem) : Option Tree := match g, l with
  | 32, l => beT m l
  | 11, l => edT m l
  | g, l => conA g l m
end
theorem fn32 : E0.fn 32 = some Try.f32 := by kernel_rfl
theorem body32 : Try.f32.body = some (Try.f32.body.getD .skip) := by kernel_rfl
theorem fn11 : E0.fn 11 = some Try.f11 := by kernel_rfl
theorem body11 : Try.f11.body = some (Try.f11.body.getD .skip) := by kernel_rfl
theorem int_ok {a : SI} : ∀ (R R' : Ren) (vs : List Value), All2 (SV.ok R) [i64 a] vs → All2 (SV.ok R') [i64 (.o a.den)] vs := by
  intro R R' vs h
  match vs, h with
  | [x], h => exact h
/-- A function of a row of one's own, and of numbers. -/
theorem Con.popN {g : FuncId} {fn : Func} {c : Code} {m : SMem} {i : Nat} {o n : SN} {cap : SK} {cs : Array Value} {q : List Prop} {s0 : SV} {A : SV → SMem → Prop} {l l' : List SV} (h1 : E0.fn g = some fn) (h2 : fn.body = some c) (hr : Go.Proofs.Ytebkbihhnoellaa.rowR m i = some cs)
    (hl : ∀ R R' vs, All2 (SV.ok R) l vs → All2 (SV.ok R') l' vs)
    (good : ∀ ty, (∀ p ∈ q, p) → Good Try.prog A 1 [callFr g fn.ntmps (prS o.den n.den :: l') c] (prM false cs ty)) (hs : ∀ s m' R R' v, A s m' → s.ok R' v → s0.ok R v) :
    Con E0 g (.s (.c (.f (.slice i o n cap))) :: l) m (needs q (.ret s0 m)) := by
  obtain ⟨ty, wr, hb⟩ := rowR_of hr
  refine Con.ro E0_ok (l' := prS o.den n.den :: l') (ms := prM false cs ty) (A := A) h1 h2 rfl (fun _ => i) ?_ ?_ (good ty) hs
  · intro j b hj
    obtain ⟨rfl, rfl⟩ := prM_get hj
    exact ⟨Nat.zero_lt_one, rfl, _, hb, rfl, fun R cs' h => h⟩
  · intro R vs ha
    match vs, ha with
    | x :: vs, ha =>
      obtain ⟨⟨gl, cp, e1, e2, e3, e4⟩, ha⟩ := ha
      exact ⟨⟨gl, cp, by unfold pull; exact e1, e2, trivial, e4⟩, hl _ _ _ ha⟩
theorem beT_ok {m : SMem} {l : List SV} {t : Tree} (h : beT m l = some t) : Con E0 32 l m t := by
  unfold beT at h
  split at h
  · rename_i i o n cap a
    split at h
    · rename_i cs e
      cases h
      refine Con.rawN fn32 body32 e (l' := [i64 (.o a.den)]) (A := fun s0 _ => s0 = agg (behW cs o.den n.den a.den.toNat)) int_ok (fun ty hq => ?_) (fun s m' R R' v h hv => ?_)
      · have h3 : 0 ≤ a.den := hq _ (by simp)
        have h4 : a.den ≤ (n.den : Int) := hq _ (by simp)
        have h := be_good (cs := cs) (off := o.den) (n := n.den) (i := a.den.toNat) (hq _ (by simp)) (hq _ (by simp)) ty (by omega)
        rw [show ((a.den.toNat : Nat) : Int) = a.den by omega] at h
        exact h.mono fun _ _ h => h.1
      · rw [h] at hv
        exact hv
    · cases h
  · cases h
theorem edT_ok {m : SMem} {l : List SV} {t : Tree} (h : edT m l = some t) : Con E0 11 l m t := by
  unfold edT at h
  split at h
  · rename_i i o n cap a b
    split at h
    · rename_i cs e
      cases h
      exact Con.popN fn11 body11 e (l' := [i64 (.o a.den), i64 (.o b.den)]) (A := boolR (edB cs o.den n.den a.den b.den)) ints_ok (fun ty hq => ed_good a.den b.den ty (hq _ (by simp))) (fun _ _ _ _ _ h hv => bool_ok h hv)
    · cases h
  · cases h
theorem conB_ok (g : FuncId) (l : List SV) (m : SMem) (t : Tree) (h : conB g l m = some t) : Con E0 g l m t := by
  unfold conB at h
  split at h
  · exact beT_ok h
  · exact edT_ok h
  · exact conA_ok _ _ _ _ h
end Go.Proofs.Ytebkbihhnoellaa
