/- Of code: May: its loop's states. No condition. -/
import Derived.Test.YtpohnmafnpnmeaaE1
import Derived.Test.YtpohnmafnpnmeaaK15
import Derived.Test.YtpohnmafnpnmeaaK14c
import Derived.IntWalk
import Derived.Test.YtpohnmafnpnmeaaK2
import Derived.Test.YtpohnmafnpnmeaaK14b
import Derived.Test.YtpohnmafnpnmeaaK19
import Derived.Test.YtpohnmafnpnmeaaK24
set_option linter.unusedVariables false
set_option linter.unusedSimpArgs false
namespace Go.Proofs.Ytpohnmafnpnmeaa
noncomputable section
def EM : Env := ⟨Try.prog, fnOf, fun _ _ _ => none, fun _ f x => Nat.beq f 51 && isLoop x⟩
theorem EM_ok : EnvOk EM := EnvOk.with E0_ok _ _ fun _ _ _ _ h => by cases h
def prA (v : Bool) (cs : Array Value) : SA := cond v (.raw cs) (.pop cs)
def prM (v : Bool) (cs : Array Value) (ty : TypeId) : SMem := ⟨1, (Tr.nil : Tr SBlk).set 0 (some ⟨prA v cs, ty, false⟩), []⟩
def prS (off n : Nat) : SV := .s (.c (.f (.slice 0 (.o off) (.o n) .any)))
def mayC (off n : Nat) : List SFr := [callFr 29 Try.f29.ntmps [prS off n] (Try.f29.body.getD .skip)]
def mayN (h v : Bool) (off n : Nat) (cs : Array Value) (ty : TypeId) (Q : Int → Prop) (fs : List SFr) (m : SMem) : Prop := match fs with
  | f :: _ => match rdI f 8 with
    | some i => Q i ∧ gN EM 1 (mayC off n) (prM v cs ty) h [(8, i64 (.o i))] [] fs m
    | none => False
  | [] => False
def boolR (b : Bool) (s : SV) (_ : SMem) : Prop := match s with
  | .s (.c (.f (.bool x))) => x.den = b
  | _ => False
def mT0 : List SIt := headTd (gF EM 1 (mayC 0 0) (prM true #[] 0) [])
def mH0 : List SIt := headTd (gH EM 1 (mayC 0 0) (prM true #[] 0) [])
def mT1 : List SIt := headTd ((gF EM 1 (mayC 0 0) (prM true #[] 0) []).drop 1)
def mT2 : List SIt := headTd ((gF EM 1 (mayC 0 0) (prM true #[] 0) []).drop 2)
end
end Go.Proofs.Ytpohnmafnpnmeaa
/- Of code: the rounds of May, as propositions. No condition. -/
namespace Go.Proofs.Ytpohnmafnpnmeaa
set_option maxRecDepth 100000
theorem may_start_r (off n : Nat) (cs : Array Value) (ty : TypeId) (r : Bool) (Q : Int → Prop) : (gR EM 1 (mayC off n) (prM true cs ty)).vc (boolR r) (mayN false true off n cs ty Q) =
    (((decide ((↑n : Int) ≤ (64 : Int)) == true) = true → Q (0 : Int) ∧ CallKind.normal = CallKind.normal ∧ TodoOk (ren 1 [(1, 1)]) mT0 mT0 ∧ off = off ∧ n = n ∧ Fn.func (46 : Nat) = Fn.func (46 : Nat) ∧ (↑n : Int) = (↑n : Int) ∧ (0 : Int) = (0 : Int) ∧ off = off ∧ n = n ∧ CallKind.normal = CallKind.normal ∧ TodoOk (ren 1 [(1, 1)]) mT1 mT1 ∧ off = off ∧ n = n ∧ Fn.func (46 : Nat) = Fn.func (46 : Nat) ∧ off = off ∧ n = n ∧ Fn.func (46 : Nat) = Fn.func (46 : Nat) ∧ CallKind.normal = CallKind.normal ∧ TodoOk (ren 1 [(1, 1)]) mT2 mT2 ∧ off = off ∧ n = n ∧ Fn.func (46 : Nat) = Fn.func (46 : Nat) ∧ decide ((↑n : Int) ≤ (64 : Int)) = decide ((↑n : Int) ≤ (64 : Int)) ∧ off = off ∧ n = n ∧ off = off ∧ n = n ∧ Fn.func (46 : Nat) = Fn.func (46 : Nat) ∧ (↑n : Int) = (↑n : Int) ∧ Fn.func (46 : Nat) = Fn.func (46 : Nat) ∧ ty = ty ∧ cs = cs ∧ (22 : Nat) = (22 : Nat) ∧ off = off ∧ n = n ∧ True) ∧ ((decide ((↑n : Int) ≤ (64 : Int)) == true) = false → false = r)) := by kernel_rfl
theorem may_start_p (off n : Nat) (cs : Array Value) (ty : TypeId) (r : Bool) (Q : Int → Prop) : (gR EM 1 (mayC off n) (prM false cs ty)).vc (boolR r) (mayN false false off n cs ty Q) =
    (((decide ((↑n : Int) ≤ (64 : Int)) == true) = true → Q (0 : Int) ∧ CallKind.normal = CallKind.normal ∧ TodoOk (ren 1 [(1, 1)]) mT0 mT0 ∧ off = off ∧ n = n ∧ Fn.func (46 : Nat) = Fn.func (46 : Nat) ∧ (↑n : Int) = (↑n : Int) ∧ (0 : Int) = (0 : Int) ∧ off = off ∧ n = n ∧ CallKind.normal = CallKind.normal ∧ TodoOk (ren 1 [(1, 1)]) mT1 mT1 ∧ off = off ∧ n = n ∧ Fn.func (46 : Nat) = Fn.func (46 : Nat) ∧ off = off ∧ n = n ∧ Fn.func (46 : Nat) = Fn.func (46 : Nat) ∧ CallKind.normal = CallKind.normal ∧ TodoOk (ren 1 [(1, 1)]) mT2 mT2 ∧ off = off ∧ n = n ∧ Fn.func (46 : Nat) = Fn.func (46 : Nat) ∧ decide ((↑n : Int) ≤ (64 : Int)) = decide ((↑n : Int) ≤ (64 : Int)) ∧ off = off ∧ n = n ∧ off = off ∧ n = n ∧ Fn.func (46 : Nat) = Fn.func (46 : Nat) ∧ (↑n : Int) = (↑n : Int) ∧ Fn.func (46 : Nat) = Fn.func (46 : Nat) ∧ ty = ty ∧ cs = cs ∧ (22 : Nat) = (22 : Nat) ∧ off = off ∧ n = n ∧ True) ∧ ((decide ((↑n : Int) ≤ (64 : Int)) == true) = false → false = r)) := by kernel_rfl
theorem may_step_r (off n : Nat) (cs : Array Value) (ty : TypeId) (r : Bool) (i : Int) (Q : Int → Prop) : (gS EM 1 (mayC off n) (prM true cs ty) [(8, i64 (.o i))] []).vc (boolR r) (mayN true true off n cs ty Q) =
    ((decide (i < (↑n : Int)) = true → (((0 : Int) ≤ i ∧ i < (↑n : Int)) ∧ True) ∧ (IsInt IntKind.u8 cs (off + Int.toNat i * 5) ∧ IsInt IntKind.u8 cs (off + Int.toNat i * 5 + 1) ∧ IsInt IntKind.u8 cs (off + Int.toNat i * 5 + 2) ∧ IsInt IntKind.u8 cs (off + Int.toNat i * 5 + 3) ∧ IsInt IntKind.u16 cs (off + Int.toNat i * 5 + 4) ∧ True) ∧ (((intAt cs (off + Int.toNat i * 5) == (5 : Int)) == false) = true → ((decide (intAt cs (off + Int.toNat i * 5) ≤ (6 : Int)) == false) = true → ((decide (intAt cs (off + Int.toNat i * 5) > (16 : Int)) == true) = true → (((!decide (intAt cs (off + Int.toNat i * 5) ≤ (38 : Int))) == false) = true → ((decide ((if intAt cs (off + Int.toNat i * 5 + 3) > if intAt cs (off + Int.toNat i * 5 + 2) > intAt cs (off + Int.toNat i * 5 + 1) then intAt cs (off + Int.toNat i * 5 + 2) else intAt cs (off + Int.toNat i * 5 + 1) then intAt cs (off + Int.toNat i * 5 + 3) else if intAt cs (off + Int.toNat i * 5 + 2) > intAt cs (off + Int.toNat i * 5 + 1) then intAt cs (off + Int.toNat i * 5 + 2) else intAt cs (off + Int.toNat i * 5 + 1)) ≥ (8 : Int)) == false) = true → (((intAt cs (off + Int.toNat i * 5) == (6 : Int)) == true) = true → (decide (IntKind.wrap IntKind.i64 (intAt cs (off + Int.toNat i * 5 + 4)) ≥ (↑n : Int)) = true → (!decide (i ≥ (0 : Int))) = r) ∧ (decide (IntKind.wrap IntKind.i64 (intAt cs (off + Int.toNat i * 5 + 4)) ≥ (↑n : Int)) = false → Q (ari BinOp.add IntKind.i64 i (1 : Int)) ∧ CallKind.normal = CallKind.normal ∧ TodoOk (ren 1 [(1, 1)]) mH0 mH0 ∧ off = off ∧ n = n ∧ Fn.func (46 : Nat) = Fn.func (46 : Nat) ∧ (↑n : Int) = (↑n : Int) ∧ ari BinOp.add IntKind.i64 i (1 : Int) = ari BinOp.add IntKind.i64 i (1 : Int) ∧ off = off ∧ n = n ∧ CallKind.normal = CallKind.normal ∧ TodoOk (ren 1 [(1, 1)]) mT1 mT1 ∧ off = off ∧ n = n ∧ Fn.func (46 : Nat) = Fn.func (46 : Nat) ∧ off = off ∧ n = n ∧ Fn.func (46 : Nat) = Fn.func (46 : Nat) ∧ CallKind.normal = CallKind.normal ∧ TodoOk (ren 1 [(1, 1)]) mT2 mT2 ∧ off = off ∧ n = n ∧ Fn.func (46 : Nat) = Fn.func (46 : Nat) ∧ decide ((↑n : Int) ≤ (64 : Int)) = decide ((↑n : Int) ≤ (64 : Int)) ∧ off = off ∧ n = n ∧ off = off ∧ n = n ∧ Fn.func (46 : Nat) = Fn.func (46 : Nat) ∧ (↑n : Int) = (↑n : Int) ∧ Fn.func (46 : Nat) = Fn.func (46 : Nat) ∧ ty = ty ∧ cs = cs ∧ (22 : Nat) = (22 : Nat) ∧ off = off ∧ n = n ∧ True)) ∧ (((intAt cs (off + Int.toNat i * 5) == (6 : Int)) == true) = false → Q (ari BinOp.add IntKind.i64 i (1 : Int)) ∧ CallKind.normal = CallKind.normal ∧ TodoOk (ren 1 [(1, 1)]) mH0 mH0 ∧ off = off ∧ n = n ∧ Fn.func (46 : Nat) = Fn.func (46 : Nat) ∧ (↑n : Int) = (↑n : Int) ∧ ari BinOp.add IntKind.i64 i (1 : Int) = ari BinOp.add IntKind.i64 i (1 : Int) ∧ off = off ∧ n = n ∧ CallKind.normal = CallKind.normal ∧ TodoOk (ren 1 [(1, 1)]) mT1 mT1 ∧ off = off ∧ n = n ∧ Fn.func (46 : Nat) = Fn.func (46 : Nat) ∧ off = off ∧ n = n ∧ Fn.func (46 : Nat) = Fn.func (46 : Nat) ∧ CallKind.normal = CallKind.normal ∧ TodoOk (ren 1 [(1, 1)]) mT2 mT2 ∧ off = off ∧ n = n ∧ Fn.func (46 : Nat) = Fn.func (46 : Nat) ∧ decide ((↑n : Int) ≤ (64 : Int)) = decide ((↑n : Int) ≤ (64 : Int)) ∧ off = off ∧ n = n ∧ off = off ∧ n = n ∧ Fn.func (46 : Nat) = Fn.func (46 : Nat) ∧ (↑n : Int) = (↑n : Int) ∧ Fn.func (46 : Nat) = Fn.func (46 : Nat) ∧ ty = ty ∧ cs = cs ∧ (22 : Nat) = (22 : Nat) ∧ off = off ∧ n = n ∧ True)) ∧ ((decide ((if intAt cs (off + Int.toNat i * 5 + 3) > if intAt cs (off + Int.toNat i * 5 + 2) > intAt cs (off + Int.toNat i * 5 + 1) then intAt cs (off + Int.toNat i * 5 + 2) else intAt cs (off + Int.toNat i * 5 + 1) then intAt cs (off + Int.toNat i * 5 + 3) else if intAt cs (off + Int.toNat i * 5 + 2) > intAt cs (off + Int.toNat i * 5 + 1) then intAt cs (off + Int.toNat i * 5 + 2) else intAt cs (off + Int.toNat i * 5 + 1)) ≥ (8 : Int)) == false) = false → (!decide (i ≥ (0 : Int))) = r)) ∧ (((!decide (intAt cs (off + Int.toNat i * 5) ≤ (38 : Int))) == false) = false → (!decide (i ≥ (0 : Int))) = r)) ∧ ((decide (intAt cs (off + Int.toNat i * 5) > (16 : Int)) == true) = false → (!decide (i ≥ (0 : Int))) = r)) ∧ ((decide (intAt cs (off + Int.toNat i * 5) ≤ (6 : Int)) == false) = false → ((decide ((if intAt cs (off + Int.toNat i * 5 + 3) > if intAt cs (off + Int.toNat i * 5 + 2) > intAt cs (off + Int.toNat i * 5 + 1) then intAt cs (off + Int.toNat i * 5 + 2) else intAt cs (off + Int.toNat i * 5 + 1) then intAt cs (off + Int.toNat i * 5 + 3) else if intAt cs (off + Int.toNat i * 5 + 2) > intAt cs (off + Int.toNat i * 5 + 1) then intAt cs (off + Int.toNat i * 5 + 2) else intAt cs (off + Int.toNat i * 5 + 1)) ≥ (8 : Int)) == false) = true → (((intAt cs (off + Int.toNat i * 5) == (6 : Int)) == true) = true → (decide (IntKind.wrap IntKind.i64 (intAt cs (off + Int.toNat i * 5 + 4)) ≥ (↑n : Int)) = true → (!decide (i ≥ (0 : Int))) = r) ∧ (decide (IntKind.wrap IntKind.i64 (intAt cs (off + Int.toNat i * 5 + 4)) ≥ (↑n : Int)) = false → Q (ari BinOp.add IntKind.i64 i (1 : Int)) ∧ CallKind.normal = CallKind.normal ∧ TodoOk (ren 1 [(1, 1)]) mH0 mH0 ∧ off = off ∧ n = n ∧ Fn.func (46 : Nat) = Fn.func (46 : Nat) ∧ (↑n : Int) = (↑n : Int) ∧ ari BinOp.add IntKind.i64 i (1 : Int) = ari BinOp.add IntKind.i64 i (1 : Int) ∧ off = off ∧ n = n ∧ CallKind.normal = CallKind.normal ∧ TodoOk (ren 1 [(1, 1)]) mT1 mT1 ∧ off = off ∧ n = n ∧ Fn.func (46 : Nat) = Fn.func (46 : Nat) ∧ off = off ∧ n = n ∧ Fn.func (46 : Nat) = Fn.func (46 : Nat) ∧ CallKind.normal = CallKind.normal ∧ TodoOk (ren 1 [(1, 1)]) mT2 mT2 ∧ off = off ∧ n = n ∧ Fn.func (46 : Nat) = Fn.func (46 : Nat) ∧ decide ((↑n : Int) ≤ (64 : Int)) = decide ((↑n : Int) ≤ (64 : Int)) ∧ off = off ∧ n = n ∧ off = off ∧ n = n ∧ Fn.func (46 : Nat) = Fn.func (46 : Nat) ∧ (↑n : Int) = (↑n : Int) ∧ Fn.func (46 : Nat) = Fn.func (46 : Nat) ∧ ty = ty ∧ cs = cs ∧ (22 : Nat) = (22 : Nat) ∧ off = off ∧ n = n ∧ True)) ∧ (((intAt cs (off + Int.toNat i * 5) == (6 : Int)) == true) = false → Q (ari BinOp.add IntKind.i64 i (1 : Int)) ∧ CallKind.normal = CallKind.normal ∧ TodoOk (ren 1 [(1, 1)]) mH0 mH0 ∧ off = off ∧ n = n ∧ Fn.func (46 : Nat) = Fn.func (46 : Nat) ∧ (↑n : Int) = (↑n : Int) ∧ ari BinOp.add IntKind.i64 i (1 : Int) = ari BinOp.add IntKind.i64 i (1 : Int) ∧ off = off ∧ n = n ∧ CallKind.normal = CallKind.normal ∧ TodoOk (ren 1 [(1, 1)]) mT1 mT1 ∧ off = off ∧ n = n ∧ Fn.func (46 : Nat) = Fn.func (46 : Nat) ∧ off = off ∧ n = n ∧ Fn.func (46 : Nat) = Fn.func (46 : Nat) ∧ CallKind.normal = CallKind.normal ∧ TodoOk (ren 1 [(1, 1)]) mT2 mT2 ∧ off = off ∧ n = n ∧ Fn.func (46 : Nat) = Fn.func (46 : Nat) ∧ decide ((↑n : Int) ≤ (64 : Int)) = decide ((↑n : Int) ≤ (64 : Int)) ∧ off = off ∧ n = n ∧ off = off ∧ n = n ∧ Fn.func (46 : Nat) = Fn.func (46 : Nat) ∧ (↑n : Int) = (↑n : Int) ∧ Fn.func (46 : Nat) = Fn.func (46 : Nat) ∧ ty = ty ∧ cs = cs ∧ (22 : Nat) = (22 : Nat) ∧ off = off ∧ n = n ∧ True)) ∧ ((decide ((if intAt cs (off + Int.toNat i * 5 + 3) > if intAt cs (off + Int.toNat i * 5 + 2) > intAt cs (off + Int.toNat i * 5 + 1) then intAt cs (off + Int.toNat i * 5 + 2) else intAt cs (off + Int.toNat i * 5 + 1) then intAt cs (off + Int.toNat i * 5 + 3) else if intAt cs (off + Int.toNat i * 5 + 2) > intAt cs (off + Int.toNat i * 5 + 1) then intAt cs (off + Int.toNat i * 5 + 2) else intAt cs (off + Int.toNat i * 5 + 1)) ≥ (8 : Int)) == false) = false → (!decide (i ≥ (0 : Int))) = r))) ∧ (((intAt cs (off + Int.toNat i * 5) == (5 : Int)) == false) = false → ((decide (intAt cs (off + Int.toNat i * 5) ≤ (6 : Int)) == false) = true → ((decide (intAt cs (off + Int.toNat i * 5) > (16 : Int)) == true) = true → (((!decide (intAt cs (off + Int.toNat i * 5) ≤ (38 : Int))) == false) = true → ((decide ((if intAt cs (off + Int.toNat i * 5 + 3) > if intAt cs (off + Int.toNat i * 5 + 2) > intAt cs (off + Int.toNat i * 5 + 1) then intAt cs (off + Int.toNat i * 5 + 2) else intAt cs (off + Int.toNat i * 5 + 1) then intAt cs (off + Int.toNat i * 5 + 3) else if intAt cs (off + Int.toNat i * 5 + 2) > intAt cs (off + Int.toNat i * 5 + 1) then intAt cs (off + Int.toNat i * 5 + 2) else intAt cs (off + Int.toNat i * 5 + 1)) ≥ (8 : Int)) == false) = true → (decide (IntKind.wrap IntKind.i64 (intAt cs (off + Int.toNat i * 5 + 4)) ≥ (↑n : Int)) = true → (!decide (i ≥ (0 : Int))) = r) ∧ (decide (IntKind.wrap IntKind.i64 (intAt cs (off + Int.toNat i * 5 + 4)) ≥ (↑n : Int)) = false → Q (ari BinOp.add IntKind.i64 i (1 : Int)) ∧ CallKind.normal = CallKind.normal ∧ TodoOk (ren 1 [(1, 1)]) mH0 mH0 ∧ off = off ∧ n = n ∧ Fn.func (46 : Nat) = Fn.func (46 : Nat) ∧ (↑n : Int) = (↑n : Int) ∧ ari BinOp.add IntKind.i64 i (1 : Int) = ari BinOp.add IntKind.i64 i (1 : Int) ∧ off = off ∧ n = n ∧ CallKind.normal = CallKind.normal ∧ TodoOk (ren 1 [(1, 1)]) mT1 mT1 ∧ off = off ∧ n = n ∧ Fn.func (46 : Nat) = Fn.func (46 : Nat) ∧ off = off ∧ n = n ∧ Fn.func (46 : Nat) = Fn.func (46 : Nat) ∧ CallKind.normal = CallKind.normal ∧ TodoOk (ren 1 [(1, 1)]) mT2 mT2 ∧ off = off ∧ n = n ∧ Fn.func (46 : Nat) = Fn.func (46 : Nat) ∧ decide ((↑n : Int) ≤ (64 : Int)) = decide ((↑n : Int) ≤ (64 : Int)) ∧ off = off ∧ n = n ∧ off = off ∧ n = n ∧ Fn.func (46 : Nat) = Fn.func (46 : Nat) ∧ (↑n : Int) = (↑n : Int) ∧ Fn.func (46 : Nat) = Fn.func (46 : Nat) ∧ ty = ty ∧ cs = cs ∧ (22 : Nat) = (22 : Nat) ∧ off = off ∧ n = n ∧ True)) ∧ ((decide ((if intAt cs (off + Int.toNat i * 5 + 3) > if intAt cs (off + Int.toNat i * 5 + 2) > intAt cs (off + Int.toNat i * 5 + 1) then intAt cs (off + Int.toNat i * 5 + 2) else intAt cs (off + Int.toNat i * 5 + 1) then intAt cs (off + Int.toNat i * 5 + 3) else if intAt cs (off + Int.toNat i * 5 + 2) > intAt cs (off + Int.toNat i * 5 + 1) then intAt cs (off + Int.toNat i * 5 + 2) else intAt cs (off + Int.toNat i * 5 + 1)) ≥ (8 : Int)) == false) = false → (!decide (i ≥ (0 : Int))) = r)) ∧ (((!decide (intAt cs (off + Int.toNat i * 5) ≤ (38 : Int))) == false) = false → (!decide (i ≥ (0 : Int))) = r)) ∧ ((decide (intAt cs (off + Int.toNat i * 5) > (16 : Int)) == true) = false → (!decide (i ≥ (0 : Int))) = r)) ∧ ((decide (intAt cs (off + Int.toNat i * 5) ≤ (6 : Int)) == false) = false → ((decide ((if intAt cs (off + Int.toNat i * 5 + 3) > if intAt cs (off + Int.toNat i * 5 + 2) > intAt cs (off + Int.toNat i * 5 + 1) then intAt cs (off + Int.toNat i * 5 + 2) else intAt cs (off + Int.toNat i * 5 + 1) then intAt cs (off + Int.toNat i * 5 + 3) else if intAt cs (off + Int.toNat i * 5 + 2) > intAt cs (off + Int.toNat i * 5 + 1) then intAt cs (off + Int.toNat i * 5 + 2) else intAt cs (off + Int.toNat i * 5 + 1)) ≥ (8 : Int)) == false) = true → (decide (IntKind.wrap IntKind.i64 (intAt cs (off + Int.toNat i * 5 + 4)) ≥ (↑n : Int)) = true → (!decide (i ≥ (0 : Int))) = r) ∧ (decide (IntKind.wrap IntKind.i64 (intAt cs (off + Int.toNat i * 5 + 4)) ≥ (↑n : Int)) = false → Q (ari BinOp.add IntKind.i64 i (1 : Int)) ∧ CallKind.normal = CallKind.normal ∧ TodoOk (ren 1 [(1, 1)]) mH0 mH0 ∧ off = off ∧ n = n ∧ Fn.func (46 : Nat) = Fn.func (46 : Nat) ∧ (↑n : Int) = (↑n : Int) ∧ ari BinOp.add IntKind.i64 i (1 : Int) = ari BinOp.add IntKind.i64 i (1 : Int) ∧ off = off ∧ n = n ∧ CallKind.normal = CallKind.normal ∧ TodoOk (ren 1 [(1, 1)]) mT1 mT1 ∧ off = off ∧ n = n ∧ Fn.func (46 : Nat) = Fn.func (46 : Nat) ∧ off = off ∧ n = n ∧ Fn.func (46 : Nat) = Fn.func (46 : Nat) ∧ CallKind.normal = CallKind.normal ∧ TodoOk (ren 1 [(1, 1)]) mT2 mT2 ∧ off = off ∧ n = n ∧ Fn.func (46 : Nat) = Fn.func (46 : Nat) ∧ decide ((↑n : Int) ≤ (64 : Int)) = decide ((↑n : Int) ≤ (64 : Int)) ∧ off = off ∧ n = n ∧ off = off ∧ n = n ∧ Fn.func (46 : Nat) = Fn.func (46 : Nat) ∧ (↑n : Int) = (↑n : Int) ∧ Fn.func (46 : Nat) = Fn.func (46 : Nat) ∧ ty = ty ∧ cs = cs ∧ (22 : Nat) = (22 : Nat) ∧ off = off ∧ n = n ∧ True)) ∧ ((decide ((if intAt cs (off + Int.toNat i * 5 + 3) > if intAt cs (off + Int.toNat i * 5 + 2) > intAt cs (off + Int.toNat i * 5 + 1) then intAt cs (off + Int.toNat i * 5 + 2) else intAt cs (off + Int.toNat i * 5 + 1) then intAt cs (off + Int.toNat i * 5 + 3) else if intAt cs (off + Int.toNat i * 5 + 2) > intAt cs (off + Int.toNat i * 5 + 1) then intAt cs (off + Int.toNat i * 5 + 2) else intAt cs (off + Int.toNat i * 5 + 1)) ≥ (8 : Int)) == false) = false → (!decide (i ≥ (0 : Int))) = r)))) ∧ (decide (i < (↑n : Int)) = false → (!decide ((-1 : Int) ≥ (0 : Int))) = r)) := by kernel_rfl
theorem may_step_p (off n : Nat) (cs : Array Value) (ty : TypeId) (r : Bool) (i : Int) (Q : Int → Prop) : (gS EM 1 (mayC off n) (prM false cs ty) [(8, i64 (.o i))] []).vc (boolR r) (mayN true false off n cs ty Q) =
    ((decide (i < (↑n : Int)) = true → (((0 : Int) ≤ i ∧ i < (↑n : Int)) ∧ True) ∧ (IsInt IntKind.u8 cs (off + Int.toNat i * 5) ∧ IsInt IntKind.u8 cs (off + Int.toNat i * 5 + 1) ∧ IsInt IntKind.u8 cs (off + Int.toNat i * 5 + 2) ∧ IsInt IntKind.u8 cs (off + Int.toNat i * 5 + 3) ∧ IsInt IntKind.u16 cs (off + Int.toNat i * 5 + 4) ∧ True) ∧ (((intAt cs (off + Int.toNat i * 5) == (5 : Int)) == false) = true → ((decide (intAt cs (off + Int.toNat i * 5) ≤ (6 : Int)) == false) = true → ((decide (intAt cs (off + Int.toNat i * 5) > (16 : Int)) == true) = true → (((!decide (intAt cs (off + Int.toNat i * 5) ≤ (38 : Int))) == false) = true → ((decide ((if intAt cs (off + Int.toNat i * 5 + 3) > if intAt cs (off + Int.toNat i * 5 + 2) > intAt cs (off + Int.toNat i * 5 + 1) then intAt cs (off + Int.toNat i * 5 + 2) else intAt cs (off + Int.toNat i * 5 + 1) then intAt cs (off + Int.toNat i * 5 + 3) else if intAt cs (off + Int.toNat i * 5 + 2) > intAt cs (off + Int.toNat i * 5 + 1) then intAt cs (off + Int.toNat i * 5 + 2) else intAt cs (off + Int.toNat i * 5 + 1)) ≥ (8 : Int)) == false) = true → (((intAt cs (off + Int.toNat i * 5) == (6 : Int)) == true) = true → (decide (IntKind.wrap IntKind.i64 (intAt cs (off + Int.toNat i * 5 + 4)) ≥ (↑n : Int)) = true → (!decide (i ≥ (0 : Int))) = r) ∧ (decide (IntKind.wrap IntKind.i64 (intAt cs (off + Int.toNat i * 5 + 4)) ≥ (↑n : Int)) = false → Q (ari BinOp.add IntKind.i64 i (1 : Int)) ∧ CallKind.normal = CallKind.normal ∧ TodoOk (ren 1 [(1, 1)]) mH0 mH0 ∧ off = off ∧ n = n ∧ Fn.func (46 : Nat) = Fn.func (46 : Nat) ∧ (↑n : Int) = (↑n : Int) ∧ ari BinOp.add IntKind.i64 i (1 : Int) = ari BinOp.add IntKind.i64 i (1 : Int) ∧ off = off ∧ n = n ∧ CallKind.normal = CallKind.normal ∧ TodoOk (ren 1 [(1, 1)]) mT1 mT1 ∧ off = off ∧ n = n ∧ Fn.func (46 : Nat) = Fn.func (46 : Nat) ∧ off = off ∧ n = n ∧ Fn.func (46 : Nat) = Fn.func (46 : Nat) ∧ CallKind.normal = CallKind.normal ∧ TodoOk (ren 1 [(1, 1)]) mT2 mT2 ∧ off = off ∧ n = n ∧ Fn.func (46 : Nat) = Fn.func (46 : Nat) ∧ decide ((↑n : Int) ≤ (64 : Int)) = decide ((↑n : Int) ≤ (64 : Int)) ∧ off = off ∧ n = n ∧ off = off ∧ n = n ∧ Fn.func (46 : Nat) = Fn.func (46 : Nat) ∧ (↑n : Int) = (↑n : Int) ∧ Fn.func (46 : Nat) = Fn.func (46 : Nat) ∧ ty = ty ∧ cs = cs ∧ (22 : Nat) = (22 : Nat) ∧ off = off ∧ n = n ∧ True)) ∧ (((intAt cs (off + Int.toNat i * 5) == (6 : Int)) == true) = false → Q (ari BinOp.add IntKind.i64 i (1 : Int)) ∧ CallKind.normal = CallKind.normal ∧ TodoOk (ren 1 [(1, 1)]) mH0 mH0 ∧ off = off ∧ n = n ∧ Fn.func (46 : Nat) = Fn.func (46 : Nat) ∧ (↑n : Int) = (↑n : Int) ∧ ari BinOp.add IntKind.i64 i (1 : Int) = ari BinOp.add IntKind.i64 i (1 : Int) ∧ off = off ∧ n = n ∧ CallKind.normal = CallKind.normal ∧ TodoOk (ren 1 [(1, 1)]) mT1 mT1 ∧ off = off ∧ n = n ∧ Fn.func (46 : Nat) = Fn.func (46 : Nat) ∧ off = off ∧ n = n ∧ Fn.func (46 : Nat) = Fn.func (46 : Nat) ∧ CallKind.normal = CallKind.normal ∧ TodoOk (ren 1 [(1, 1)]) mT2 mT2 ∧ off = off ∧ n = n ∧ Fn.func (46 : Nat) = Fn.func (46 : Nat) ∧ decide ((↑n : Int) ≤ (64 : Int)) = decide ((↑n : Int) ≤ (64 : Int)) ∧ off = off ∧ n = n ∧ off = off ∧ n = n ∧ Fn.func (46 : Nat) = Fn.func (46 : Nat) ∧ (↑n : Int) = (↑n : Int) ∧ Fn.func (46 : Nat) = Fn.func (46 : Nat) ∧ ty = ty ∧ cs = cs ∧ (22 : Nat) = (22 : Nat) ∧ off = off ∧ n = n ∧ True)) ∧ ((decide ((if intAt cs (off + Int.toNat i * 5 + 3) > if intAt cs (off + Int.toNat i * 5 + 2) > intAt cs (off + Int.toNat i * 5 + 1) then intAt cs (off + Int.toNat i * 5 + 2) else intAt cs (off + Int.toNat i * 5 + 1) then intAt cs (off + Int.toNat i * 5 + 3) else if intAt cs (off + Int.toNat i * 5 + 2) > intAt cs (off + Int.toNat i * 5 + 1) then intAt cs (off + Int.toNat i * 5 + 2) else intAt cs (off + Int.toNat i * 5 + 1)) ≥ (8 : Int)) == false) = false → (!decide (i ≥ (0 : Int))) = r)) ∧ (((!decide (intAt cs (off + Int.toNat i * 5) ≤ (38 : Int))) == false) = false → (!decide (i ≥ (0 : Int))) = r)) ∧ ((decide (intAt cs (off + Int.toNat i * 5) > (16 : Int)) == true) = false → (!decide (i ≥ (0 : Int))) = r)) ∧ ((decide (intAt cs (off + Int.toNat i * 5) ≤ (6 : Int)) == false) = false → ((decide ((if intAt cs (off + Int.toNat i * 5 + 3) > if intAt cs (off + Int.toNat i * 5 + 2) > intAt cs (off + Int.toNat i * 5 + 1) then intAt cs (off + Int.toNat i * 5 + 2) else intAt cs (off + Int.toNat i * 5 + 1) then intAt cs (off + Int.toNat i * 5 + 3) else if intAt cs (off + Int.toNat i * 5 + 2) > intAt cs (off + Int.toNat i * 5 + 1) then intAt cs (off + Int.toNat i * 5 + 2) else intAt cs (off + Int.toNat i * 5 + 1)) ≥ (8 : Int)) == false) = true → (((intAt cs (off + Int.toNat i * 5) == (6 : Int)) == true) = true → (decide (IntKind.wrap IntKind.i64 (intAt cs (off + Int.toNat i * 5 + 4)) ≥ (↑n : Int)) = true → (!decide (i ≥ (0 : Int))) = r) ∧ (decide (IntKind.wrap IntKind.i64 (intAt cs (off + Int.toNat i * 5 + 4)) ≥ (↑n : Int)) = false → Q (ari BinOp.add IntKind.i64 i (1 : Int)) ∧ CallKind.normal = CallKind.normal ∧ TodoOk (ren 1 [(1, 1)]) mH0 mH0 ∧ off = off ∧ n = n ∧ Fn.func (46 : Nat) = Fn.func (46 : Nat) ∧ (↑n : Int) = (↑n : Int) ∧ ari BinOp.add IntKind.i64 i (1 : Int) = ari BinOp.add IntKind.i64 i (1 : Int) ∧ off = off ∧ n = n ∧ CallKind.normal = CallKind.normal ∧ TodoOk (ren 1 [(1, 1)]) mT1 mT1 ∧ off = off ∧ n = n ∧ Fn.func (46 : Nat) = Fn.func (46 : Nat) ∧ off = off ∧ n = n ∧ Fn.func (46 : Nat) = Fn.func (46 : Nat) ∧ CallKind.normal = CallKind.normal ∧ TodoOk (ren 1 [(1, 1)]) mT2 mT2 ∧ off = off ∧ n = n ∧ Fn.func (46 : Nat) = Fn.func (46 : Nat) ∧ decide ((↑n : Int) ≤ (64 : Int)) = decide ((↑n : Int) ≤ (64 : Int)) ∧ off = off ∧ n = n ∧ off = off ∧ n = n ∧ Fn.func (46 : Nat) = Fn.func (46 : Nat) ∧ (↑n : Int) = (↑n : Int) ∧ Fn.func (46 : Nat) = Fn.func (46 : Nat) ∧ ty = ty ∧ cs = cs ∧ (22 : Nat) = (22 : Nat) ∧ off = off ∧ n = n ∧ True)) ∧ (((intAt cs (off + Int.toNat i * 5) == (6 : Int)) == true) = false → Q (ari BinOp.add IntKind.i64 i (1 : Int)) ∧ CallKind.normal = CallKind.normal ∧ TodoOk (ren 1 [(1, 1)]) mH0 mH0 ∧ off = off ∧ n = n ∧ Fn.func (46 : Nat) = Fn.func (46 : Nat) ∧ (↑n : Int) = (↑n : Int) ∧ ari BinOp.add IntKind.i64 i (1 : Int) = ari BinOp.add IntKind.i64 i (1 : Int) ∧ off = off ∧ n = n ∧ CallKind.normal = CallKind.normal ∧ TodoOk (ren 1 [(1, 1)]) mT1 mT1 ∧ off = off ∧ n = n ∧ Fn.func (46 : Nat) = Fn.func (46 : Nat) ∧ off = off ∧ n = n ∧ Fn.func (46 : Nat) = Fn.func (46 : Nat) ∧ CallKind.normal = CallKind.normal ∧ TodoOk (ren 1 [(1, 1)]) mT2 mT2 ∧ off = off ∧ n = n ∧ Fn.func (46 : Nat) = Fn.func (46 : Nat) ∧ decide ((↑n : Int) ≤ (64 : Int)) = decide ((↑n : Int) ≤ (64 : Int)) ∧ off = off ∧ n = n ∧ off = off ∧ n = n ∧ Fn.func (46 : Nat) = Fn.func (46 : Nat) ∧ (↑n : Int) = (↑n : Int) ∧ Fn.func (46 : Nat) = Fn.func (46 : Nat) ∧ ty = ty ∧ cs = cs ∧ (22 : Nat) = (22 : Nat) ∧ off = off ∧ n = n ∧ True)) ∧ ((decide ((if intAt cs (off + Int.toNat i * 5 + 3) > if intAt cs (off + Int.toNat i * 5 + 2) > intAt cs (off + Int.toNat i * 5 + 1) then intAt cs (off + Int.toNat i * 5 + 2) else intAt cs (off + Int.toNat i * 5 + 1) then intAt cs (off + Int.toNat i * 5 + 3) else if intAt cs (off + Int.toNat i * 5 + 2) > intAt cs (off + Int.toNat i * 5 + 1) then intAt cs (off + Int.toNat i * 5 + 2) else intAt cs (off + Int.toNat i * 5 + 1)) ≥ (8 : Int)) == false) = false → (!decide (i ≥ (0 : Int))) = r))) ∧ (((intAt cs (off + Int.toNat i * 5) == (5 : Int)) == false) = false → ((decide (intAt cs (off + Int.toNat i * 5) ≤ (6 : Int)) == false) = true → ((decide (intAt cs (off + Int.toNat i * 5) > (16 : Int)) == true) = true → (((!decide (intAt cs (off + Int.toNat i * 5) ≤ (38 : Int))) == false) = true → ((decide ((if intAt cs (off + Int.toNat i * 5 + 3) > if intAt cs (off + Int.toNat i * 5 + 2) > intAt cs (off + Int.toNat i * 5 + 1) then intAt cs (off + Int.toNat i * 5 + 2) else intAt cs (off + Int.toNat i * 5 + 1) then intAt cs (off + Int.toNat i * 5 + 3) else if intAt cs (off + Int.toNat i * 5 + 2) > intAt cs (off + Int.toNat i * 5 + 1) then intAt cs (off + Int.toNat i * 5 + 2) else intAt cs (off + Int.toNat i * 5 + 1)) ≥ (8 : Int)) == false) = true → (decide (IntKind.wrap IntKind.i64 (intAt cs (off + Int.toNat i * 5 + 4)) ≥ (↑n : Int)) = true → (!decide (i ≥ (0 : Int))) = r) ∧ (decide (IntKind.wrap IntKind.i64 (intAt cs (off + Int.toNat i * 5 + 4)) ≥ (↑n : Int)) = false → Q (ari BinOp.add IntKind.i64 i (1 : Int)) ∧ CallKind.normal = CallKind.normal ∧ TodoOk (ren 1 [(1, 1)]) mH0 mH0 ∧ off = off ∧ n = n ∧ Fn.func (46 : Nat) = Fn.func (46 : Nat) ∧ (↑n : Int) = (↑n : Int) ∧ ari BinOp.add IntKind.i64 i (1 : Int) = ari BinOp.add IntKind.i64 i (1 : Int) ∧ off = off ∧ n = n ∧ CallKind.normal = CallKind.normal ∧ TodoOk (ren 1 [(1, 1)]) mT1 mT1 ∧ off = off ∧ n = n ∧ Fn.func (46 : Nat) = Fn.func (46 : Nat) ∧ off = off ∧ n = n ∧ Fn.func (46 : Nat) = Fn.func (46 : Nat) ∧ CallKind.normal = CallKind.normal ∧ TodoOk (ren 1 [(1, 1)]) mT2 mT2 ∧ off = off ∧ n = n ∧ Fn.func (46 : Nat) = Fn.func (46 : Nat) ∧ decide ((↑n : Int) ≤ (64 : Int)) = decide ((↑n : Int) ≤ (64 : Int)) ∧ off = off ∧ n = n ∧ off = off ∧ n = n ∧ Fn.func (46 : Nat) = Fn.func (46 : Nat) ∧ (↑n : Int) = (↑n : Int) ∧ Fn.func (46 : Nat) = Fn.func (46 : Nat) ∧ ty = ty ∧ cs = cs ∧ (22 : Nat) = (22 : Nat) ∧ off = off ∧ n = n ∧ True)) ∧ ((decide ((if intAt cs (off + Int.toNat i * 5 + 3) > if intAt cs (off + Int.toNat i * 5 + 2) > intAt cs (off + Int.toNat i * 5 + 1) then intAt cs (off + Int.toNat i * 5 + 2) else intAt cs (off + Int.toNat i * 5 + 1) then intAt cs (off + Int.toNat i * 5 + 3) else if intAt cs (off + Int.toNat i * 5 + 2) > intAt cs (off + Int.toNat i * 5 + 1) then intAt cs (off + Int.toNat i * 5 + 2) else intAt cs (off + Int.toNat i * 5 + 1)) ≥ (8 : Int)) == false) = false → (!decide (i ≥ (0 : Int))) = r)) ∧ (((!decide (intAt cs (off + Int.toNat i * 5) ≤ (38 : Int))) == false) = false → (!decide (i ≥ (0 : Int))) = r)) ∧ ((decide (intAt cs (off + Int.toNat i * 5) > (16 : Int)) == true) = false → (!decide (i ≥ (0 : Int))) = r)) ∧ ((decide (intAt cs (off + Int.toNat i * 5) ≤ (6 : Int)) == false) = false → ((decide ((if intAt cs (off + Int.toNat i * 5 + 3) > if intAt cs (off + Int.toNat i * 5 + 2) > intAt cs (off + Int.toNat i * 5 + 1) then intAt cs (off + Int.toNat i * 5 + 2) else intAt cs (off + Int.toNat i * 5 + 1) then intAt cs (off + Int.toNat i * 5 + 3) else if intAt cs (off + Int.toNat i * 5 + 2) > intAt cs (off + Int.toNat i * 5 + 1) then intAt cs (off + Int.toNat i * 5 + 2) else intAt cs (off + Int.toNat i * 5 + 1)) ≥ (8 : Int)) == false) = true → (decide (IntKind.wrap IntKind.i64 (intAt cs (off + Int.toNat i * 5 + 4)) ≥ (↑n : Int)) = true → (!decide (i ≥ (0 : Int))) = r) ∧ (decide (IntKind.wrap IntKind.i64 (intAt cs (off + Int.toNat i * 5 + 4)) ≥ (↑n : Int)) = false → Q (ari BinOp.add IntKind.i64 i (1 : Int)) ∧ CallKind.normal = CallKind.normal ∧ TodoOk (ren 1 [(1, 1)]) mH0 mH0 ∧ off = off ∧ n = n ∧ Fn.func (46 : Nat) = Fn.func (46 : Nat) ∧ (↑n : Int) = (↑n : Int) ∧ ari BinOp.add IntKind.i64 i (1 : Int) = ari BinOp.add IntKind.i64 i (1 : Int) ∧ off = off ∧ n = n ∧ CallKind.normal = CallKind.normal ∧ TodoOk (ren 1 [(1, 1)]) mT1 mT1 ∧ off = off ∧ n = n ∧ Fn.func (46 : Nat) = Fn.func (46 : Nat) ∧ off = off ∧ n = n ∧ Fn.func (46 : Nat) = Fn.func (46 : Nat) ∧ CallKind.normal = CallKind.normal ∧ TodoOk (ren 1 [(1, 1)]) mT2 mT2 ∧ off = off ∧ n = n ∧ Fn.func (46 : Nat) = Fn.func (46 : Nat) ∧ decide ((↑n : Int) ≤ (64 : Int)) = decide ((↑n : Int) ≤ (64 : Int)) ∧ off = off ∧ n = n ∧ off = off ∧ n = n ∧ Fn.func (46 : Nat) = Fn.func (46 : Nat) ∧ (↑n : Int) = (↑n : Int) ∧ Fn.func (46 : Nat) = Fn.func (46 : Nat) ∧ ty = ty ∧ cs = cs ∧ (22 : Nat) = (22 : Nat) ∧ off = off ∧ n = n ∧ True)) ∧ ((decide ((if intAt cs (off + Int.toNat i * 5 + 3) > if intAt cs (off + Int.toNat i * 5 + 2) > intAt cs (off + Int.toNat i * 5 + 1) then intAt cs (off + Int.toNat i * 5 + 2) else intAt cs (off + Int.toNat i * 5 + 1) then intAt cs (off + Int.toNat i * 5 + 3) else if intAt cs (off + Int.toNat i * 5 + 2) > intAt cs (off + Int.toNat i * 5 + 1) then intAt cs (off + Int.toNat i * 5 + 2) else intAt cs (off + Int.toNat i * 5 + 1)) ≥ (8 : Int)) == false) = false → (!decide (i ≥ (0 : Int))) = r)))) ∧ (decide (i < (↑n : Int)) = false → (!decide ((-1 : Int) ≥ (0 : Int))) = r)) := by kernel_rfl
end Go.Proofs.Ytpohnmafnpnmeaa
/- Of code: instructions, and what May answers. No condition. -/
namespace Go.Proofs.Ytpohnmafnpnmeaa
set_option maxRecDepth 100000
structure Ins where
  o : Int
  a : Int
  b : Int
  c : Int
  n : Int
theorem Ins.ext' {x y : Ins} (h1 : x.o = y.o) (h2 : x.a = y.a) (h3 : x.b = y.b) (h4 : x.c = y.c) (h5 : x.n = y.n) : x = y := by cases x; cases y; simp_all
def ins (cs : Array Value) (off i : Nat) : Ins := ⟨intAt cs (off + i * 5), intAt cs (off + i * 5 + 1), intAt cs (off + i * 5 + 2), intAt cs (off + i * 5 + 3), intAt cs (off + i * 5 + 4)⟩
def Ins.In (x : Ins) : Prop := (0 ≤ x.o ∧ x.o ≤ 255) ∧ (0 ≤ x.a ∧ x.a ≤ 255) ∧ (0 ≤ x.b ∧ x.b ≤ 255) ∧ (0 ≤ x.c ∧ x.c ≤ 255) ∧ (0 ≤ x.n ∧ x.n ≤ 65535)
def InsAt (cs : Array Value) (p : Nat) : Prop := IsInt .u8 cs p ∧ IsInt .u8 cs (p + 1) ∧ IsInt .u8 cs (p + 2) ∧ IsInt .u8 cs (p + 3) ∧ IsInt .u16 cs (p + 4)
def InsOk (cs : Array Value) (off n : Nat) : Prop := n < 9223372036854775807 ∧ ∀ i, i < n → InsAt cs (off + i * 5) ∧ (ins cs off i).In
def Ins.okN (x : Ins) (n : Nat) : Bool := decide ((x.o ≤ 6 ∨ (16 < x.o ∧ x.o ≤ 38)) ∧ x.a < 8 ∧ x.b < 8 ∧ x.c < 8 ∧ ¬ ((x.o = 5 ∨ x.o = 6) ∧ (n : Int) ≤ x.n))
theorem Ins.okN_iff {x : Ins} {n : Nat} : x.okN n = true ↔ (x.o ≤ 6 ∨ (16 < x.o ∧ x.o ≤ 38)) ∧ x.a < 8 ∧ x.b < 8 ∧ x.c < 8 ∧ ¬ ((x.o = 5 ∨ x.o = 6) ∧ (n : Int) ≤ x.n) := by unfold Ins.okN; rw [decide_eq_true_eq]
def allOk (cs : Array Value) (off N : Nat) : Nat → Bool
  | 0 => true
  | k + 1 => allOk cs off N k && (ins cs off k).okN N
theorem allOk_iff {cs : Array Value} {off N : Nat} : ∀ {k : Nat}, allOk cs off N k = true ↔ ∀ i, i < k → (ins cs off i).okN N = true
  | 0 => by simp [allOk]
  | k + 1 => by
    unfold allOk
    rw [Bool.and_eq_true, allOk_iff]
    refine ⟨fun h i hi => ?_, fun h => ⟨fun i hi => h i (by omega), h k (by omega)⟩⟩
    by_cases e : i = k
    · rw [e]; exact h.2
    · exact h.1 i (by omega)
def mayV (cs : Array Value) (off n : Nat) : Bool := decide (n ≤ 64) && allOk cs off n n
theorem mayV_iff {cs : Array Value} {off n : Nat} : mayV cs off n = true ↔ n ≤ 64 ∧ ∀ i, i < n → (ins cs off i).okN n = true := by
  unfold mayV
  rw [Bool.and_eq_true, decide_eq_true_eq, allOk_iff]
theorem i64_nat {k : Nat} (h : k < 9223372036854775807) : IntKind.i64.wrap ((k : Int) + 1) = ((k + 1 : Nat) : Int) := by
  rw [Go.IntWalk.i64_in _ (by omega)]; rfl
theorem mayN_good {h v : Bool} {off n : Nat} {cs : Array Value} {ty : TypeId} {A : SV → SMem → Prop} {Q : Int → Prop} (hg : ∀ i, Q i → Good EM.P A 1 (gH EM 1 (mayC off n) (prM v cs ty) [(8, i64 (.o i))]) (gM EM 1 (mayC off n) (prM v cs ty) [])) {fs : List SFr} {m : SMem} (hb : mayN h v off n cs ty Q fs m) : Good EM.P A 1 fs m := by
  unfold mayN at hb
  split at hb
  · split at hb
    · exact gN_good hb.2 (hg _ hb.1)
    · exact hb.elim
  · exact hb.elim
theorem mT0_ok : TodoOk (ren 1 [(1, 1)]) mT0 mT0 := TodoOk.same (by kernel_rfl)
theorem mT1_ok : TodoOk (ren 1 [(1, 1)]) mT1 mT1 := TodoOk.same (by kernel_rfl)
theorem mT2_ok : TodoOk (ren 1 [(1, 1)]) mT2 mT2 := TodoOk.same (by kernel_rfl)
theorem max3 {a b c : Int} : (if c > if b > a then b else a then c else if b > a then b else a) ≥ 8 ↔ ¬ (a < 8 ∧ b < 8 ∧ c < 8) := by
  split <;> split <;> omega
theorem eqJ {b : Bool} : ((b == true) = true) = (b = true) := by cases b <;> rfl
theorem gM_may (v : Bool) (off n : Nat) (cs : Array Value) (ty : TypeId) : gM EM 1 (mayC off n) (prM v cs ty) [] = gM EM 1 (mayC off n) (prM v cs ty) [] := rfl
section
variable (off n : Nat) (cs : Array Value) (ty : TypeId) (hI : InsOk cs off n)
include hI
theorem may_round {v : Bool} (hn : n ≤ 64)
    (step : ∀ (r : Bool) (i : Int) (Q : Int → Prop), (gS EM 1 (mayC off n) (prM v cs ty) [(8, i64 (.o i))] []).vc (boolR r) (mayN true v off n cs ty Q) = (gS EM 1 (mayC off n) (prM true cs ty) [(8, i64 (.o i))] []).vc (boolR r) (mayN true true off n cs ty Q)) :
    ∀ (k i : Nat), n - i < k → i ≤ n → (∀ j, j < i → (ins cs off j).okN n = true) → Good EM.P (boolR (mayV cs off n)) 1 (gH EM 1 (mayC off n) (prM v cs ty) [(8, i64 (.o i))]) (gM EM 1 (mayC off n) (prM v cs ty) []) := by
  intro k
  induction k with
  | zero => intro i h; omega
  | succ k ih =>
    intro i hk hi hd
    refine past_vc EM_ok 1000 ((step (mayV cs off n) i (fun i' => ∃ j : Nat, i' = j ∧ n - j < k ∧ j ≤ n ∧ ∀ t, t < j → (ins cs off t).okN n = true)).trans (may_step_r off n cs ty (mayV cs off n) i _)) ?_ (fun _ _ h => h)
      (fun fs m hb => mayN_good (fun i' ⟨j, e, k1, k2, k3⟩ => by rw [e]; exact ih j k1 k2 k3) hb)
    have hn64 : n < 9223372036854775807 := hI.1
    refine ⟨fun h => ?_, fun h => ?_⟩
    · have hlt : i < n := by simpa using h
      obtain ⟨⟨i1, i2, i3, i4, i5⟩, r1, r2, r3, r4, r5⟩ := hI.2 i hlt
      rw [Int.toNat_natCast]
      refine ⟨⟨⟨by omega, by omega⟩, trivial⟩, ⟨i1, i2, i3, i4, i5, trivial⟩, ?_⟩
      have hyes : (ins cs off i).okN n = true → ∃ j : Nat, ((i + 1 : Nat) : Int) = j ∧ n - j < k ∧ j ≤ n ∧ ∀ t, t < j → (ins cs off t).okN n = true := fun h => ⟨i + 1, rfl, by omega, by omega, fun t ht => by
        by_cases e : t = i
        · rw [e]; exact h
        · exact hd t (by omega)⟩
      have hno : ¬ (ins cs off i).okN n = true → (!decide ((i : Int) ≥ 0)) = mayV cs off n := fun h => by
        have e1 : decide ((i : Int) ≥ 0) = true := by simp
        have e2 : mayV cs off n = false := by
          cases e : mayV cs off n with
          | false => rfl
          | true => exact (h ((mayV_iff.1 e).2 i hlt)).elim
        rw [e1, e2]; rfl
      have eA : ari BinOp.add IntKind.i64 (i : Int) 1 = ((i + 1 : Nat) : Int) := by rw [ari_add, i64_nat (show i < 9223372036854775807 by omega)]
      rw [eA]
      generalize hYe : (∃ j : Nat, ((i + 1 : Nat) : Int) = j ∧ n - j < k ∧ j ≤ n ∧ ∀ t, t < j → (ins cs off t).okN n = true) = Y at hyes ⊢
      generalize hRe : ((!decide ((i : Int) ≥ 0)) = mayV cs off n) = Z at hno ⊢
      rw [Ins.okN_iff] at hyes hno
      simp only [ins] at hyes hno r1 r2 r3 r4 r5
      generalize intAt cs (off + i * 5) = xo at hyes hno r1 r2 r3 r4 r5 ⊢
      generalize intAt cs (off + i * 5 + 1) = xa at hyes hno r1 r2 r3 r4 r5 ⊢
      generalize intAt cs (off + i * 5 + 2) = xb at hyes hno r1 r2 r3 r4 r5 ⊢
      generalize intAt cs (off + i * 5 + 3) = xc at hyes hno r1 r2 r3 r4 r5 ⊢
      generalize intAt cs (off + i * 5 + 4) = xn at hyes hno r1 r2 r3 r4 r5 ⊢
      rw [Go.IntWalk.i64_in xn (by omega)]
      simp only [max3, eqJ, beq_iff_eq, beq_eq_false_iff_ne, decide_eq_true_eq, decide_eq_false_iff_not, Bool.not_eq_eq_eq_not, Bool.not_true, Bool.not_false, ne_eq]
      clear hYe hRe step ih hd
      repeat' first | apply And.intro | (intro hh)
      all_goals first | exact trivial | exact mH0_ok | exact mT1_ok | exact mT2_ok | exact rfl | skip
      all_goals first | (refine hyes ?_; omega) | (refine hno ?_; omega) | skip
    · have h1 : ¬ i < n := by simpa using h
      have e : mayV cs off n = true := mayV_iff.2 ⟨hn, fun j hj => hd j (by omega)⟩
      rw [e]
      rfl
end
end Go.Proofs.Ytpohnmafnpnmeaa
/- Of code: what the functions promise, and the states of Encode and Decode. No condition. -/
namespace Go.Proofs.Ytpohnmafnpnmeaa
noncomputable section
def nilV : SV := .s (.c (.f (.lit (.slice none 0 0))))
def rowI (m : SMem) (i : Nat) : Option (Array Value) := match getB m.bl i with
  | some ⟨.raw cs, _, _⟩ => some cs
  | some ⟨.pop cs, _, _⟩ => some cs
  | _ => none
def mayT (m : SMem) : SV → Option Tree
  | .s (.c (.f (.lit (.slice none 0 0)))) => some (.ret (sB (.l true)) m)
  | .s (.c (.f .e0)) => some (.ret (sB (.l true)) m)
  | .s (.c (.f (.slice i o n _))) => match rowI m i with
    | some cs => some (needs [InsOk cs o.den n.den] (.ret (sB (.o (mayV cs o.den n.den))) m))
    | none => none
  | _ => none
def con9 (g : FuncId) (l : List SV) (m : SMem) : Option Tree := match g, l with
  | 6, [] => some (needs [] (.ret (sB (.l true)) m))
  | 29, [x] => mayT m x
  | _, _ => none
def E9 : Env := ⟨Try.prog, fnOf, con9, fun _ _ x => isLoop x⟩
def u8V (n : Int) : Value := .int .u8 n
def six (x : Ins) : List Value := [u8V x.o, u8V x.a, u8V x.b, u8V x.c, u8V (IntKind.u8.wrap x.n), u8V (IntKind.u8.wrap (ari .shr .u16 x.n 8))]
def encC (off n : Nat) : List SFr := [callFr 19 Try.f19.ntmps [prS off n] (Try.f19.body.getD .skip)]
def encF (v : Bool) (off n : Nat) (cs : Array Value) (ty : TypeId) (i : Int) (k : Nat) : List SFr := gF E9 1 (encC off n) (prM v cs ty) [(12, i64 (.o i)), (4, .s (.c (.f (.slice 1 (.l 0) (.o k) (.full 1)))))]
def encM (v : Bool) (cs : Array Value) (ty : TypeId) (bs : Array Value) : SMem := ⟨2, ((Tr.nil : Tr SBlk).set 0 (some ⟨prA v cs, ty, false⟩)).set 1 (some ⟨.pop bs, 5, true⟩), []⟩
def encS (v : Bool) (off n : Nat) (cs : Array Value) (ty : TypeId) (i : Int) (k : Nat) (bs : Array Value) : Tree := stepT E9.go (run E9 1000) 1 (headF (encF v off n cs ty i k)) (encM v cs ty bs)
def encN (v : Bool) (off n : Nat) (cs : Array Value) (ty : TypeId) (Q : Int → Nat → Array Value → Prop) (fs : List SFr) (m : SMem) : Prop := match fs with
  | f :: _ => match rdI f 12, rdS f 4 m with
    | some i, some (some (sid, k, bs)) => Q i k bs ∧ subOk 1 [(1, sid)] (headF (encF v off n cs ty i k)) (encM v cs ty bs) fs m
    | _, _ => False
  | [] => False
def encN0 (v : Bool) (off n : Nat) (cs : Array Value) (ty : TypeId) (Q : Int → Prop) (fs : List SFr) (m : SMem) : Prop := match fs with
  | f :: _ => match rdI f 12 with
    | some i => Q i ∧ gN E9 1 (encC off n) (prM v cs ty) false [(12, i64 (.o i))] [] fs m
    | _ => False
  | [] => False
def strF (x : SF) (b : ByteArray) : Prop := match x with
  | .lit (.string s) => s = b
  | .opq (.string s) => s = b
  | _ => False
def encA (b : ByteArray) (e : Int) (s : SV) (_ : SMem) : Prop := match s with
  | .tup [.c (.f x), .c (.f (.int .i64 y))] => strF x b ∧ y.den = e
  | _ => False
def eT0 : List SIt := headTd (gF E9 1 (encC 0 0) (prM true #[] 52) [])
def eH0 : List SIt := headTd (gH E9 1 (encC 0 0) (prM true #[] 52) [])
end
end Go.Proofs.Ytpohnmafnpnmeaa
/- Of code: the states of Decode. No condition. -/
namespace Go.Proofs.Ytpohnmafnpnmeaa
noncomputable section
def strV (s : ByteArray) : SV := .s (.c (.f (.opq (.string s))))
def decC (s : ByteArray) : List SFr := [callFr 35 Try.f35.ntmps [strV s] (Try.f35.body.getD .skip)]
def M0 : SMem := ⟨0, .nil, []⟩
def xsA (x0 x1 x2 x3 x4 x5 : Int) : SA := .ls [.f (.int .u8 (.o x0)), .f (.int .u8 (.o x1)), .f (.int .u8 (.o x2)), .f (.int .u8 (.o x3)), .f (.int .u8 (.o x4)), .f (.int .u8 (.o x5))]
def rdX (m : SMem) (id : Nat) : Option (Int × Int × Int × Int × Int × Int) := match getB m.bl id with
  | some ⟨.ls [.f (.int _ a), .f (.int _ b), .f (.int _ c), .f (.int _ d), .f (.int _ e), .f (.int _ g)], _, _⟩ => some (a.den, b.den, c.den, d.den, e.den, g.den)
  | _ => none
def decH0 (s : ByteArray) (i : Int) : List SFr := gH E9 0 (decC s) M0 [(6, i64 (.o i))]
def decM0 (s : ByteArray) (x0 x1 x2 x3 x4 x5 : Int) : SMem := gM E9 0 (decC s) M0 [(0, xsA x0 x1 x2 x3 x4 x5)]
def decH1 (s : ByteArray) (i : Int) (k : Nat) : List SFr := gH E9 0 (decC s) M0 [(6, i64 (.o i)), (4, .s (.c (.f (.slice 1 (.l 0) (.o k) (.full 5)))))]
def decM1 (s : ByteArray) (x0 x1 x2 x3 x4 x5 : Int) (cs : Array Value) : SMem := ⟨2, (decM0 s x0 x1 x2 x3 x4 x5).bl.set 1 (some ⟨.pop cs, 52, true⟩), []⟩
def decS0 (s : ByteArray) (i x0 x1 x2 x3 x4 x5 : Int) : Tree := stepT E9.go (run E9 1000) 0 (decH0 s i) (decM0 s x0 x1 x2 x3 x4 x5)
def decS1 (s : ByteArray) (i x0 x1 x2 x3 x4 x5 : Int) (k : Nat) (cs : Array Value) : Tree := stepT E9.go (run E9 1000) 0 (decH1 s i k) (decM1 s x0 x1 x2 x3 x4 x5 cs)
def decN0 (s : ByteArray) (Q : Int → Prop) (fs : List SFr) (m : SMem) : Prop := match fs with
  | f :: _ => match rdI f 6, rdX m 0 with
    | some i, some (a, b, c, d, e, g) => Q i ∧ subOk 0 [(0, 0)] (gF E9 0 (decC s) M0 [(6, i64 (.o i))]) (decM0 s a b c d e g) fs m
    | _, _ => False
  | [] => False
def decN1 (s : ByteArray) (Q : Int → Nat → Array Value → Prop) (fs : List SFr) (m : SMem) : Prop := match fs with
  | f :: _ => match rdI f 6, rdX m 0, rdS f 4 m with
    | some i, some (a, b, c, d, e, g), some (some (sid, k, cs)) => Q i k cs ∧ subOk 0 [(0, 0), (1, sid)] (decH1 s i k) (decM1 s a b c d e g cs) fs m
    | _, _, _ => False
  | [] => False
def decA (e : Int) (k : Nat) (cs : Array Value) (s : SV) (m : SMem) : Prop := match s with
  | .tup [.c (.f (.lit (.slice none 0 0))), .c (.f (.int .i64 y))] => y.den = 3 ∧ e = 3
  | .tup [.c (.f (.slice sid _ _ _)), .c (.f (.int _ _))] => e = 0 ∧ retOk 0 [(0, sid)] (.tup [.c (.f (.slice 0 (.l 0) (.o k) .any)), .c (.f (.int .i64 (.l 0)))]) ⟨1, Tr.nil.set 0 (some ⟨.pop cs, 52, true⟩), []⟩ s m
  | _ => False
def dT0 : List SIt := headTd (gF E9 0 (decC .empty) M0 [])
def dH0 : List SIt := headTd (gH E9 0 (decC .empty) M0 [])
end
end Go.Proofs.Ytpohnmafnpnmeaa
/- Of code: the rounds of Decode, as propositions. No condition. -/
namespace Go.Proofs.Ytpohnmafnpnmeaa
set_option maxRecDepth 100000
theorem dec_start (s : ByteArray) (e : Int) (k : Nat) (cs : Array Value) (Q : Int → Prop) : (gR E9 0 (decC s) M0).vc (decA e k cs) (decN0 s Q) =
    ((((ari BinOp.rem IntKind.i64 ((↑(ByteArray.size s) : Int)) (6 : Int) != (0 : Int)) == false) = true → (decide (((↑(ByteArray.size s) : Int)) > (384 : Int)) = true → (3 : Int) = (3 : Int) ∧ e = (3 : Int)) ∧ (decide (((↑(ByteArray.size s) : Int)) > (384 : Int)) = false → Q (0 : Int) ∧ CallKind.normal = CallKind.normal ∧ TodoOk (ren 0 [(0, 0)]) dT0 dT0 ∧ Value.string s = Value.string s ∧ Value.string s = Value.string s ∧ ari BinOp.rem IntKind.i64 ((↑(ByteArray.size s) : Int)) (6 : Int) = ari BinOp.rem IntKind.i64 ((↑(ByteArray.size s) : Int)) (6 : Int) ∧ (((↑(ByteArray.size s) : Int)) = (↑(ByteArray.size s) : Int)) ∧ Value.slice none (0 : Nat) (0 : Nat) = Value.slice none (0 : Nat) (0 : Nat) ∧ Value.slice none (0 : Nat) (0 : Nat) = Value.slice none (0 : Nat) (0 : Nat) ∧ (((↑(ByteArray.size s) : Int)) = (↑(ByteArray.size s) : Int)) ∧ Value.string s = Value.string s ∧ (0 : Int) = (0 : Int) ∧ (ari BinOp.rem IntKind.i64 ((↑(ByteArray.size s) : Int)) (6 : Int) != (0 : Int)) = (ari BinOp.rem IntKind.i64 ((↑(ByteArray.size s) : Int)) (6 : Int) != (0 : Int)) ∧ decide (((↑(ByteArray.size s) : Int)) > (384 : Int)) = decide (((↑(ByteArray.size s) : Int)) > (384 : Int)) ∧ (98 : Nat) = (98 : Nat) ∧ (0 : Int) = (0 : Int) ∧ (0 : Int) = (0 : Int) ∧ (0 : Int) = (0 : Int) ∧ (0 : Int) = (0 : Int) ∧ (0 : Int) = (0 : Int) ∧ (0 : Int) = (0 : Int) ∧ True)) ∧ (((ari BinOp.rem IntKind.i64 ((↑(ByteArray.size s) : Int)) (6 : Int) != (0 : Int)) == false) = false → (3 : Int) = (3 : Int) ∧ e = (3 : Int))) := by kernel_rfl
theorem dec_nil (s : ByteArray) (e : Int) (kF : Nat) (csF : Array Value) (i x0 x1 x2 x3 x4 x5 : Int) (Q : Int → Nat → Array Value → Prop) : (decS0 s i x0 x1 x2 x3 x4 x5).vc (decA e kF csF) (decN1 s Q) =
    ((decide (i < (↑(ByteArray.size s) : Int)) = true → ((0 : Int) ≤ i ∧ (Int.toNat i ≤ ByteArray.size s) ∧ True) ∧ ((6 : Nat) ≤ ByteArray.size (ByteArray.extract s (Int.toNat i) (ByteArray.size s)) ∧ True) ∧ Q (ari BinOp.add IntKind.i64 i (6 : Int)) (1 : Nat) #[Value.int IntKind.u8 (byteAt (ByteArray.extract s (Int.toNat i) (ByteArray.size s)) (0 : Nat)), Value.int IntKind.u8 (byteAt (ByteArray.extract s (Int.toNat i) (ByteArray.size s)) (1 : Nat)), Value.int IntKind.u8 (byteAt (ByteArray.extract s (Int.toNat i) (ByteArray.size s)) (2 : Nat)), Value.int IntKind.u8 (byteAt (ByteArray.extract s (Int.toNat i) (ByteArray.size s)) (3 : Nat)), Value.int IntKind.u16 (ari BinOp.or IntKind.u16 (IntKind.wrap IntKind.u16 (byteAt (ByteArray.extract s (Int.toNat i) (ByteArray.size s)) (4 : Nat))) (ari BinOp.shl IntKind.u16 (IntKind.wrap IntKind.u16 (byteAt (ByteArray.extract s (Int.toNat i) (ByteArray.size s)) (5 : Nat))) (8 : Int)))] ∧ CallKind.normal = CallKind.normal ∧ TodoOk (ren 0 [(0, 0), (1, 2)]) dH0 dH0 ∧ Value.string s = Value.string s ∧ Value.string s = Value.string s ∧ ari BinOp.rem IntKind.i64 ((↑(ByteArray.size s) : Int)) (6 : Int) = ari BinOp.rem IntKind.i64 ((↑(ByteArray.size s) : Int)) (6 : Int) ∧ (((↑(ByteArray.size s) : Int)) = (↑(ByteArray.size s) : Int)) ∧ Value.slice none (0 : Nat) (0 : Nat) = Value.slice none (0 : Nat) (0 : Nat) ∧ (1 : Nat) = (1 : Nat) ∧ (((↑(ByteArray.size s) : Int)) = (↑(ByteArray.size s) : Int)) ∧ Value.string s = Value.string s ∧ ari BinOp.add IntKind.i64 i (6 : Int) = ari BinOp.add IntKind.i64 i (6 : Int) ∧ (ari BinOp.rem IntKind.i64 ((↑(ByteArray.size s) : Int)) (6 : Int) != (0 : Int)) = (ari BinOp.rem IntKind.i64 ((↑(ByteArray.size s) : Int)) (6 : Int) != (0 : Int)) ∧ decide (((↑(ByteArray.size s) : Int)) > (384 : Int)) = decide (((↑(ByteArray.size s) : Int)) > (384 : Int)) ∧ (98 : Nat) = (98 : Nat) ∧ byteAt (ByteArray.extract s (Int.toNat i) (ByteArray.size s)) (0 : Nat) = byteAt (ByteArray.extract s (Int.toNat i) (ByteArray.size s)) (0 : Nat) ∧ byteAt (ByteArray.extract s (Int.toNat i) (ByteArray.size s)) (1 : Nat) = byteAt (ByteArray.extract s (Int.toNat i) (ByteArray.size s)) (1 : Nat) ∧ byteAt (ByteArray.extract s (Int.toNat i) (ByteArray.size s)) (2 : Nat) = byteAt (ByteArray.extract s (Int.toNat i) (ByteArray.size s)) (2 : Nat) ∧ byteAt (ByteArray.extract s (Int.toNat i) (ByteArray.size s)) (3 : Nat) = byteAt (ByteArray.extract s (Int.toNat i) (ByteArray.size s)) (3 : Nat) ∧ byteAt (ByteArray.extract s (Int.toNat i) (ByteArray.size s)) (4 : Nat) = byteAt (ByteArray.extract s (Int.toNat i) (ByteArray.size s)) (4 : Nat) ∧ byteAt (ByteArray.extract s (Int.toNat i) (ByteArray.size s)) (5 : Nat) = byteAt (ByteArray.extract s (Int.toNat i) (ByteArray.size s)) (5 : Nat) ∧ (52 : TypeId) = (52 : Nat) ∧ #[Value.int IntKind.u8 (byteAt (ByteArray.extract s (Int.toNat i) (ByteArray.size s)) (0 : Nat)), Value.int IntKind.u8 (byteAt (ByteArray.extract s (Int.toNat i) (ByteArray.size s)) (1 : Nat)), Value.int IntKind.u8 (byteAt (ByteArray.extract s (Int.toNat i) (ByteArray.size s)) (2 : Nat)), Value.int IntKind.u8 (byteAt (ByteArray.extract s (Int.toNat i) (ByteArray.size s)) (3 : Nat)), Value.int IntKind.u16 (ari BinOp.or IntKind.u16 (IntKind.wrap IntKind.u16 (byteAt (ByteArray.extract s (Int.toNat i) (ByteArray.size s)) (4 : Nat))) (ari BinOp.shl IntKind.u16 (IntKind.wrap IntKind.u16 (byteAt (ByteArray.extract s (Int.toNat i) (ByteArray.size s)) (5 : Nat))) (8 : Int)))] = #[Value.int IntKind.u8 (byteAt (ByteArray.extract s (Int.toNat i) (ByteArray.size s)) (0 : Nat)), Value.int IntKind.u8 (byteAt (ByteArray.extract s (Int.toNat i) (ByteArray.size s)) (1 : Nat)), Value.int IntKind.u8 (byteAt (ByteArray.extract s (Int.toNat i) (ByteArray.size s)) (2 : Nat)), Value.int IntKind.u8 (byteAt (ByteArray.extract s (Int.toNat i) (ByteArray.size s)) (3 : Nat)), Value.int IntKind.u16 (ari BinOp.or IntKind.u16 (IntKind.wrap IntKind.u16 (byteAt (ByteArray.extract s (Int.toNat i) (ByteArray.size s)) (4 : Nat))) (ari BinOp.shl IntKind.u16 (IntKind.wrap IntKind.u16 (byteAt (ByteArray.extract s (Int.toNat i) (ByteArray.size s)) (5 : Nat))) (8 : Int)))] ∧ True) ∧ (decide (i < (↑(ByteArray.size s) : Int)) = false → (0 : Int) = (3 : Int) ∧ e = (3 : Int))) := by kernel_rfl
theorem dec_step (s : ByteArray) (e : Int) (kF : Nat) (csF : Array Value) (i x0 x1 x2 x3 x4 x5 : Int) (k : Nat) (cs : Array Value) (Q : Int → Nat → Array Value → Prop) : (decS1 s i x0 x1 x2 x3 x4 x5 k cs).vc (decA e kF csF) (decN1 s Q) =
    ((decide (i < (↑(ByteArray.size s) : Int)) = true → ((0 : Int) ≤ i ∧ (Int.toNat i ≤ ByteArray.size s) ∧ True) ∧ ((6 : Nat) ≤ ByteArray.size (ByteArray.extract s (Int.toNat i) (ByteArray.size s)) ∧ True) ∧ (((k + 1) * 6 ≤ (140737488355328 : Nat) ∧ k + 1 ≤ (140737488355328 : Nat)) ∧ k * 5 = Array.size cs ∧ True) ∧ Q (ari BinOp.add IntKind.i64 i (6 : Int)) (k + 1) (cs ++ #[Value.int IntKind.u8 (byteAt (ByteArray.extract s (Int.toNat i) (ByteArray.size s)) (0 : Nat)), Value.int IntKind.u8 (byteAt (ByteArray.extract s (Int.toNat i) (ByteArray.size s)) (1 : Nat)), Value.int IntKind.u8 (byteAt (ByteArray.extract s (Int.toNat i) (ByteArray.size s)) (2 : Nat)), Value.int IntKind.u8 (byteAt (ByteArray.extract s (Int.toNat i) (ByteArray.size s)) (3 : Nat)), Value.int IntKind.u16 (ari BinOp.or IntKind.u16 (IntKind.wrap IntKind.u16 (byteAt (ByteArray.extract s (Int.toNat i) (ByteArray.size s)) (4 : Nat))) (ari BinOp.shl IntKind.u16 (IntKind.wrap IntKind.u16 (byteAt (ByteArray.extract s (Int.toNat i) (ByteArray.size s)) (5 : Nat))) (8 : Int)))]) ∧ CallKind.normal = CallKind.normal ∧ TodoOk (ren 0 [(0, 0), (1, 3)]) dH0 dH0 ∧ Value.string s = Value.string s ∧ Value.string s = Value.string s ∧ ari BinOp.rem IntKind.i64 ((↑(ByteArray.size s) : Int)) (6 : Int) = ari BinOp.rem IntKind.i64 ((↑(ByteArray.size s) : Int)) (6 : Int) ∧ (((↑(ByteArray.size s) : Int)) = (↑(ByteArray.size s) : Int)) ∧ Value.slice none (0 : Nat) (0 : Nat) = Value.slice none (0 : Nat) (0 : Nat) ∧ k + 1 = k + 1 ∧ (((↑(ByteArray.size s) : Int)) = (↑(ByteArray.size s) : Int)) ∧ Value.string s = Value.string s ∧ ari BinOp.add IntKind.i64 i (6 : Int) = ari BinOp.add IntKind.i64 i (6 : Int) ∧ (ari BinOp.rem IntKind.i64 ((↑(ByteArray.size s) : Int)) (6 : Int) != (0 : Int)) = (ari BinOp.rem IntKind.i64 ((↑(ByteArray.size s) : Int)) (6 : Int) != (0 : Int)) ∧ decide (((↑(ByteArray.size s) : Int)) > (384 : Int)) = decide (((↑(ByteArray.size s) : Int)) > (384 : Int)) ∧ (98 : Nat) = (98 : Nat) ∧ byteAt (ByteArray.extract s (Int.toNat i) (ByteArray.size s)) (0 : Nat) = byteAt (ByteArray.extract s (Int.toNat i) (ByteArray.size s)) (0 : Nat) ∧ byteAt (ByteArray.extract s (Int.toNat i) (ByteArray.size s)) (1 : Nat) = byteAt (ByteArray.extract s (Int.toNat i) (ByteArray.size s)) (1 : Nat) ∧ byteAt (ByteArray.extract s (Int.toNat i) (ByteArray.size s)) (2 : Nat) = byteAt (ByteArray.extract s (Int.toNat i) (ByteArray.size s)) (2 : Nat) ∧ byteAt (ByteArray.extract s (Int.toNat i) (ByteArray.size s)) (3 : Nat) = byteAt (ByteArray.extract s (Int.toNat i) (ByteArray.size s)) (3 : Nat) ∧ byteAt (ByteArray.extract s (Int.toNat i) (ByteArray.size s)) (4 : Nat) = byteAt (ByteArray.extract s (Int.toNat i) (ByteArray.size s)) (4 : Nat) ∧ byteAt (ByteArray.extract s (Int.toNat i) (ByteArray.size s)) (5 : Nat) = byteAt (ByteArray.extract s (Int.toNat i) (ByteArray.size s)) (5 : Nat) ∧ (52 : TypeId) = (52 : Nat) ∧ cs ++ #[Value.int IntKind.u8 (byteAt (ByteArray.extract s (Int.toNat i) (ByteArray.size s)) (0 : Nat)), Value.int IntKind.u8 (byteAt (ByteArray.extract s (Int.toNat i) (ByteArray.size s)) (1 : Nat)), Value.int IntKind.u8 (byteAt (ByteArray.extract s (Int.toNat i) (ByteArray.size s)) (2 : Nat)), Value.int IntKind.u8 (byteAt (ByteArray.extract s (Int.toNat i) (ByteArray.size s)) (3 : Nat)), Value.int IntKind.u16 (ari BinOp.or IntKind.u16 (IntKind.wrap IntKind.u16 (byteAt (ByteArray.extract s (Int.toNat i) (ByteArray.size s)) (4 : Nat))) (ari BinOp.shl IntKind.u16 (IntKind.wrap IntKind.u16 (byteAt (ByteArray.extract s (Int.toNat i) (ByteArray.size s)) (5 : Nat))) (8 : Int)))] = cs ++ #[Value.int IntKind.u8 (byteAt (ByteArray.extract s (Int.toNat i) (ByteArray.size s)) (0 : Nat)), Value.int IntKind.u8 (byteAt (ByteArray.extract s (Int.toNat i) (ByteArray.size s)) (1 : Nat)), Value.int IntKind.u8 (byteAt (ByteArray.extract s (Int.toNat i) (ByteArray.size s)) (2 : Nat)), Value.int IntKind.u8 (byteAt (ByteArray.extract s (Int.toNat i) (ByteArray.size s)) (3 : Nat)), Value.int IntKind.u16 (ari BinOp.or IntKind.u16 (IntKind.wrap IntKind.u16 (byteAt (ByteArray.extract s (Int.toNat i) (ByteArray.size s)) (4 : Nat))) (ari BinOp.shl IntKind.u16 (IntKind.wrap IntKind.u16 (byteAt (ByteArray.extract s (Int.toNat i) (ByteArray.size s)) (5 : Nat))) (8 : Int)))] ∧ True) ∧ (decide (i < (↑(ByteArray.size s) : Int)) = false → ((k < (9223372036854775807 : Nat) ∧ ∀ (i : Nat), i < k → (IsInt IntKind.u8 cs ((0 : Nat) + i * 5) ∧ IsInt IntKind.u8 cs ((0 : Nat) + i * 5 + 1) ∧ IsInt IntKind.u8 cs ((0 : Nat) + i * 5 + 2) ∧ IsInt IntKind.u8 cs ((0 : Nat) + i * 5 + 3) ∧ IsInt IntKind.u16 cs ((0 : Nat) + i * 5 + 4)) ∧ ((0 : Int) ≤ Ins.o (ins cs (0 : Nat) i) ∧ Ins.o (ins cs (0 : Nat) i) ≤ (255 : Int)) ∧ ((0 : Int) ≤ Ins.a (ins cs (0 : Nat) i) ∧ Ins.a (ins cs (0 : Nat) i) ≤ (255 : Int)) ∧ ((0 : Int) ≤ Ins.b (ins cs (0 : Nat) i) ∧ Ins.b (ins cs (0 : Nat) i) ≤ (255 : Int)) ∧ ((0 : Int) ≤ Ins.c (ins cs (0 : Nat) i) ∧ Ins.c (ins cs (0 : Nat) i) ≤ (255 : Int)) ∧ (0 : Int) ≤ Ins.n (ins cs (0 : Nat) i) ∧ Ins.n (ins cs (0 : Nat) i) ≤ (65535 : Int)) ∧ True) ∧ ((!mayV cs (0 : Nat) k) = true → (3 : Int) = (3 : Int) ∧ e = (3 : Int)) ∧ ((!mayV cs (0 : Nat) k) = false → e = (0 : Int) ∧ kF = k ∧ (52 : TypeId) = (52 : TypeId) ∧ csF = cs ∧ True))) := by kernel_rfl
end Go.Proofs.Ytpohnmafnpnmeaa
/- Of code: bytes of numbers. No condition. -/
namespace Go.Proofs.Ytpohnmafnpnmeaa
def lo (n : Int) : Int := IntKind.u8.wrap n
def hiB (n : Int) : Int := IntKind.u8.wrap (ari .shr .u16 n 8)
def word (a b : Int) : Int := ari .or .u16 (IntKind.u16.wrap a) (ari .shl .u16 (IntKind.u16.wrap b) 8)
def upto (p : Nat → Bool) : Nat → Bool := fun n => Nat.rec true (fun k r => match p k with | true => r | false => false) n
theorem upto_ok {p : Nat → Bool} : ∀ {n : Nat}, upto p n = true → ∀ i, i < n → p i = true
  | 0, _, i, hi => by omega
  | n + 1, h, i, hi => by
    have h : (match p n with | true => upto p n | false => false) = true := h
    split at h
    · rename_i e
      by_cases c : i = n
      · rw [c]; exact e
      · exact upto_ok h i (by omega)
    · cases h
theorem lohi_all : upto (fun a => upto (fun b => decide (word a b = a + 256 * b)) 256) 256 = true := by kernel_rfl
theorem word_eq {a b : Int} (ha : 0 ≤ a ∧ a ≤ 255) (hb : 0 ≤ b ∧ b ≤ 255) : word a b = a + 256 * b := by
  have h := upto_ok (upto_ok lohi_all a.toNat (by omega)) b.toNat (by omega)
  simp only [decide_eq_true_eq] at h
  rw [show ((a.toNat : Nat) : Int) = a by omega, show ((b.toNat : Nat) : Int) = b by omega] at h
  exact h
theorem bytes_all : upto (fun a => upto (fun b => decide (lo (a + 256 * b : Nat) = a) && decide (hiB (a + 256 * b : Nat) = b)) 256) 256 = true := by kernel_rfl
theorem lohi_eq {n : Int} (h : 0 ≤ n ∧ n ≤ 65535) : lo n = n % 256 ∧ hiB n = n / 256 := by
  have h := upto_ok (upto_ok bytes_all (n.toNat % 256) (by omega)) (n.toNat / 256) (by omega)
  simp only [Bool.and_eq_true, decide_eq_true_eq] at h
  rw [show ((n.toNat % 256 + 256 * (n.toNat / 256) : Nat) : Int) = n by omega] at h
  exact ⟨by rw [h.1]; omega, by rw [h.2]; omega⟩
end Go.Proofs.Ytpohnmafnpnmeaa
/- Of code: the rounds of Encode, as propositions. No condition. -/
namespace Go.Proofs.Ytpohnmafnpnmeaa
set_option maxRecDepth 100000
theorem enc_start_r (off n : Nat) (cs : Array Value) (ty : TypeId) (b : ByteArray) (e : Int) (Q : Int → Prop) : (gR E9 1 (encC off n) (prM true cs ty)).vc (encA b e) (encN0 true off n cs ty Q) =
    (((n < (9223372036854775807 : Nat) ∧ ∀ (i : Nat), i < n → (IsInt IntKind.u8 cs (off + i * 5) ∧ IsInt IntKind.u8 cs (off + i * 5 + 1) ∧ IsInt IntKind.u8 cs (off + i * 5 + 2) ∧ IsInt IntKind.u8 cs (off + i * 5 + 3) ∧ IsInt IntKind.u16 cs (off + i * 5 + 4)) ∧ ((0 : Int) ≤ Ins.o (ins cs off i) ∧ Ins.o (ins cs off i) ≤ (255 : Int)) ∧ ((0 : Int) ≤ Ins.a (ins cs off i) ∧ Ins.a (ins cs off i) ≤ (255 : Int)) ∧ ((0 : Int) ≤ Ins.b (ins cs off i) ∧ Ins.b (ins cs off i) ≤ (255 : Int)) ∧ ((0 : Int) ≤ Ins.c (ins cs off i) ∧ Ins.c (ins cs off i) ≤ (255 : Int)) ∧ (0 : Int) ≤ Ins.n (ins cs off i) ∧ Ins.n (ins cs off i) ≤ (65535 : Int)) ∧ True) ∧ ((!mayV cs off n) = true → ByteArray.mk #[] = b ∧ (3 : Int) = e) ∧ ((!mayV cs off n) = false → Q (0 : Int) ∧ CallKind.normal = CallKind.normal ∧ TodoOk (ren 1 []) eT0 eT0 ∧ off = off ∧ n = n ∧ off = off ∧ n = n ∧ (↑n : Int) = (↑n : Int) ∧ Value.string (ByteArray.mk #[]) = Value.string (ByteArray.mk #[]) ∧ Value.slice none (0 : Nat) (0 : Nat) = Value.slice none (0 : Nat) (0 : Nat) ∧ mayV cs off n = mayV cs off n ∧ (0 : Int) = (0 : Int) ∧ off = off ∧ n = n ∧ ty = ty ∧ cs = cs ∧ True)) := by kernel_rfl
theorem enc_start_p (off n : Nat) (cs : Array Value) (ty : TypeId) (b : ByteArray) (e : Int) (Q : Int → Prop) : (gR E9 1 (encC off n) (prM false cs ty)).vc (encA b e) (encN0 false off n cs ty Q) =
    (((n < (9223372036854775807 : Nat) ∧ ∀ (i : Nat), i < n → (IsInt IntKind.u8 cs (off + i * 5) ∧ IsInt IntKind.u8 cs (off + i * 5 + 1) ∧ IsInt IntKind.u8 cs (off + i * 5 + 2) ∧ IsInt IntKind.u8 cs (off + i * 5 + 3) ∧ IsInt IntKind.u16 cs (off + i * 5 + 4)) ∧ ((0 : Int) ≤ Ins.o (ins cs off i) ∧ Ins.o (ins cs off i) ≤ (255 : Int)) ∧ ((0 : Int) ≤ Ins.a (ins cs off i) ∧ Ins.a (ins cs off i) ≤ (255 : Int)) ∧ ((0 : Int) ≤ Ins.b (ins cs off i) ∧ Ins.b (ins cs off i) ≤ (255 : Int)) ∧ ((0 : Int) ≤ Ins.c (ins cs off i) ∧ Ins.c (ins cs off i) ≤ (255 : Int)) ∧ (0 : Int) ≤ Ins.n (ins cs off i) ∧ Ins.n (ins cs off i) ≤ (65535 : Int)) ∧ True) ∧ ((!mayV cs off n) = true → ByteArray.mk #[] = b ∧ (3 : Int) = e) ∧ ((!mayV cs off n) = false → Q (0 : Int) ∧ CallKind.normal = CallKind.normal ∧ TodoOk (ren 1 []) eT0 eT0 ∧ off = off ∧ n = n ∧ off = off ∧ n = n ∧ (↑n : Int) = (↑n : Int) ∧ Value.string (ByteArray.mk #[]) = Value.string (ByteArray.mk #[]) ∧ Value.slice none (0 : Nat) (0 : Nat) = Value.slice none (0 : Nat) (0 : Nat) ∧ mayV cs off n = mayV cs off n ∧ (0 : Int) = (0 : Int) ∧ off = off ∧ n = n ∧ ty = ty ∧ cs = cs ∧ True)) := by kernel_rfl
theorem enc_nil_r (off n : Nat) (cs : Array Value) (ty : TypeId) (b : ByteArray) (e : Int) (i : Int) (Q : Int → Nat → Array Value → Prop) : (gS E9 1 (encC off n) (prM true cs ty) [(12, i64 (.o i))] []).vc (encA b e) (encN true off n cs ty Q) =
    ((decide (i < (↑n : Int)) = true → (((0 : Int) ≤ i ∧ i < (↑n : Int)) ∧ True) ∧ (IsInt IntKind.u8 cs (off + Int.toNat i * 5) ∧ IsInt IntKind.u8 cs (off + Int.toNat i * 5 + 1) ∧ IsInt IntKind.u8 cs (off + Int.toNat i * 5 + 2) ∧ IsInt IntKind.u8 cs (off + Int.toNat i * 5 + 3) ∧ IsInt IntKind.u16 cs (off + Int.toNat i * 5 + 4) ∧ True) ∧ Q (ari BinOp.add IntKind.i64 i (1 : Int)) (6 : Nat) #[Value.int IntKind.u8 (intAt cs (off + Int.toNat i * 5)), Value.int IntKind.u8 (intAt cs (off + Int.toNat i * 5 + 1)), Value.int IntKind.u8 (intAt cs (off + Int.toNat i * 5 + 2)), Value.int IntKind.u8 (intAt cs (off + Int.toNat i * 5 + 3)), Value.int IntKind.u8 (IntKind.wrap IntKind.u8 (intAt cs (off + Int.toNat i * 5 + 4))), Value.int IntKind.u8 (IntKind.wrap IntKind.u8 (ari BinOp.shr IntKind.u16 (intAt cs (off + Int.toNat i * 5 + 4)) (8 : Int)))] ∧ CallKind.normal = CallKind.normal ∧ TodoOk (ren 1 [(1, 3)]) eH0 eH0 ∧ off = off ∧ n = n ∧ off = off ∧ n = n ∧ (↑n : Int) = (↑n : Int) ∧ Value.string (ByteArray.mk #[]) = Value.string (ByteArray.mk #[]) ∧ (6 : Nat) = (6 : Nat) ∧ mayV cs off n = mayV cs off n ∧ ari BinOp.add IntKind.i64 i (1 : Int) = ari BinOp.add IntKind.i64 i (1 : Int) ∧ off = off ∧ n = n ∧ ty = ty ∧ cs = cs ∧ (5 : TypeId) = (5 : Nat) ∧ #[Value.int IntKind.u8 (intAt cs (off + Int.toNat i * 5)), Value.int IntKind.u8 (intAt cs (off + Int.toNat i * 5 + 1)), Value.int IntKind.u8 (intAt cs (off + Int.toNat i * 5 + 2)), Value.int IntKind.u8 (intAt cs (off + Int.toNat i * 5 + 3)), Value.int IntKind.u8 (IntKind.wrap IntKind.u8 (intAt cs (off + Int.toNat i * 5 + 4))), Value.int IntKind.u8 (IntKind.wrap IntKind.u8 (ari BinOp.shr IntKind.u16 (intAt cs (off + Int.toNat i * 5 + 4)) (8 : Int)))] = #[Value.int IntKind.u8 (intAt cs (off + Int.toNat i * 5)), Value.int IntKind.u8 (intAt cs (off + Int.toNat i * 5 + 1)), Value.int IntKind.u8 (intAt cs (off + Int.toNat i * 5 + 2)), Value.int IntKind.u8 (intAt cs (off + Int.toNat i * 5 + 3)), Value.int IntKind.u8 (IntKind.wrap IntKind.u8 (intAt cs (off + Int.toNat i * 5 + 4))), Value.int IntKind.u8 (IntKind.wrap IntKind.u8 (ari BinOp.shr IntKind.u16 (intAt cs (off + Int.toNat i * 5 + 4)) (8 : Int)))] ∧ True) ∧ (decide (i < (↑n : Int)) = false → ByteArray.empty = b ∧ (0 : Int) = e)) := by kernel_rfl
theorem enc_nil_p (off n : Nat) (cs : Array Value) (ty : TypeId) (b : ByteArray) (e : Int) (i : Int) (Q : Int → Nat → Array Value → Prop) : (gS E9 1 (encC off n) (prM false cs ty) [(12, i64 (.o i))] []).vc (encA b e) (encN false off n cs ty Q) =
    ((decide (i < (↑n : Int)) = true → (((0 : Int) ≤ i ∧ i < (↑n : Int)) ∧ True) ∧ (IsInt IntKind.u8 cs (off + Int.toNat i * 5) ∧ IsInt IntKind.u8 cs (off + Int.toNat i * 5 + 1) ∧ IsInt IntKind.u8 cs (off + Int.toNat i * 5 + 2) ∧ IsInt IntKind.u8 cs (off + Int.toNat i * 5 + 3) ∧ IsInt IntKind.u16 cs (off + Int.toNat i * 5 + 4) ∧ True) ∧ Q (ari BinOp.add IntKind.i64 i (1 : Int)) (6 : Nat) #[Value.int IntKind.u8 (intAt cs (off + Int.toNat i * 5)), Value.int IntKind.u8 (intAt cs (off + Int.toNat i * 5 + 1)), Value.int IntKind.u8 (intAt cs (off + Int.toNat i * 5 + 2)), Value.int IntKind.u8 (intAt cs (off + Int.toNat i * 5 + 3)), Value.int IntKind.u8 (IntKind.wrap IntKind.u8 (intAt cs (off + Int.toNat i * 5 + 4))), Value.int IntKind.u8 (IntKind.wrap IntKind.u8 (ari BinOp.shr IntKind.u16 (intAt cs (off + Int.toNat i * 5 + 4)) (8 : Int)))] ∧ CallKind.normal = CallKind.normal ∧ TodoOk (ren 1 [(1, 3)]) eH0 eH0 ∧ off = off ∧ n = n ∧ off = off ∧ n = n ∧ (↑n : Int) = (↑n : Int) ∧ Value.string (ByteArray.mk #[]) = Value.string (ByteArray.mk #[]) ∧ (6 : Nat) = (6 : Nat) ∧ mayV cs off n = mayV cs off n ∧ ari BinOp.add IntKind.i64 i (1 : Int) = ari BinOp.add IntKind.i64 i (1 : Int) ∧ off = off ∧ n = n ∧ ty = ty ∧ cs = cs ∧ (5 : TypeId) = (5 : Nat) ∧ #[Value.int IntKind.u8 (intAt cs (off + Int.toNat i * 5)), Value.int IntKind.u8 (intAt cs (off + Int.toNat i * 5 + 1)), Value.int IntKind.u8 (intAt cs (off + Int.toNat i * 5 + 2)), Value.int IntKind.u8 (intAt cs (off + Int.toNat i * 5 + 3)), Value.int IntKind.u8 (IntKind.wrap IntKind.u8 (intAt cs (off + Int.toNat i * 5 + 4))), Value.int IntKind.u8 (IntKind.wrap IntKind.u8 (ari BinOp.shr IntKind.u16 (intAt cs (off + Int.toNat i * 5 + 4)) (8 : Int)))] = #[Value.int IntKind.u8 (intAt cs (off + Int.toNat i * 5)), Value.int IntKind.u8 (intAt cs (off + Int.toNat i * 5 + 1)), Value.int IntKind.u8 (intAt cs (off + Int.toNat i * 5 + 2)), Value.int IntKind.u8 (intAt cs (off + Int.toNat i * 5 + 3)), Value.int IntKind.u8 (IntKind.wrap IntKind.u8 (intAt cs (off + Int.toNat i * 5 + 4))), Value.int IntKind.u8 (IntKind.wrap IntKind.u8 (ari BinOp.shr IntKind.u16 (intAt cs (off + Int.toNat i * 5 + 4)) (8 : Int)))] ∧ True) ∧ (decide (i < (↑n : Int)) = false → ByteArray.empty = b ∧ (0 : Int) = e)) := by kernel_rfl
theorem enc_step_r (off n : Nat) (cs : Array Value) (ty : TypeId) (b : ByteArray) (e : Int) (i : Int) (k : Nat) (bs : Array Value) (Q : Int → Nat → Array Value → Prop) : (encS true off n cs ty i k bs).vc (encA b e) (encN true off n cs ty Q) =
    ((decide (i < (↑n : Int)) = true → (((0 : Int) ≤ i ∧ i < (↑n : Int)) ∧ True) ∧ (IsInt IntKind.u8 cs (off + Int.toNat i * 5) ∧ IsInt IntKind.u8 cs (off + Int.toNat i * 5 + 1) ∧ IsInt IntKind.u8 cs (off + Int.toNat i * 5 + 2) ∧ IsInt IntKind.u8 cs (off + Int.toNat i * 5 + 3) ∧ IsInt IntKind.u16 cs (off + Int.toNat i * 5 + 4) ∧ True) ∧ (((k + 6) * 1 ≤ (140737488355328 : Nat) ∧ k + 6 ≤ (140737488355328 : Nat)) ∧ k * 1 = Array.size bs ∧ True) ∧ Q (ari BinOp.add IntKind.i64 i (1 : Int)) (k + 6) (bs ++ #[Value.int IntKind.u8 (intAt cs (off + Int.toNat i * 5)), Value.int IntKind.u8 (intAt cs (off + Int.toNat i * 5 + 1)), Value.int IntKind.u8 (intAt cs (off + Int.toNat i * 5 + 2)), Value.int IntKind.u8 (intAt cs (off + Int.toNat i * 5 + 3)), Value.int IntKind.u8 (IntKind.wrap IntKind.u8 (intAt cs (off + Int.toNat i * 5 + 4))), Value.int IntKind.u8 (IntKind.wrap IntKind.u8 (ari BinOp.shr IntKind.u16 (intAt cs (off + Int.toNat i * 5 + 4)) (8 : Int)))]) ∧ CallKind.normal = CallKind.normal ∧ TodoOk (ren 1 [(1, 4)]) eH0 eH0 ∧ off = off ∧ n = n ∧ off = off ∧ n = n ∧ (↑n : Int) = (↑n : Int) ∧ Value.string (ByteArray.mk #[]) = Value.string (ByteArray.mk #[]) ∧ k + 6 = k + 6 ∧ mayV cs off n = mayV cs off n ∧ ari BinOp.add IntKind.i64 i (1 : Int) = ari BinOp.add IntKind.i64 i (1 : Int) ∧ off = off ∧ n = n ∧ ty = ty ∧ cs = cs ∧ (5 : TypeId) = (5 : Nat) ∧ bs ++ #[Value.int IntKind.u8 (intAt cs (off + Int.toNat i * 5)), Value.int IntKind.u8 (intAt cs (off + Int.toNat i * 5 + 1)), Value.int IntKind.u8 (intAt cs (off + Int.toNat i * 5 + 2)), Value.int IntKind.u8 (intAt cs (off + Int.toNat i * 5 + 3)), Value.int IntKind.u8 (IntKind.wrap IntKind.u8 (intAt cs (off + Int.toNat i * 5 + 4))), Value.int IntKind.u8 (IntKind.wrap IntKind.u8 (ari BinOp.shr IntKind.u16 (intAt cs (off + Int.toNat i * 5 + 4)) (8 : Int)))] = bs ++ #[Value.int IntKind.u8 (intAt cs (off + Int.toNat i * 5)), Value.int IntKind.u8 (intAt cs (off + Int.toNat i * 5 + 1)), Value.int IntKind.u8 (intAt cs (off + Int.toNat i * 5 + 2)), Value.int IntKind.u8 (intAt cs (off + Int.toNat i * 5 + 3)), Value.int IntKind.u8 (IntKind.wrap IntKind.u8 (intAt cs (off + Int.toNat i * 5 + 4))), Value.int IntKind.u8 (IntKind.wrap IntKind.u8 (ari BinOp.shr IntKind.u16 (intAt cs (off + Int.toNat i * 5 + 4)) (8 : Int)))] ∧ True) ∧ (decide (i < (↑n : Int)) = false → ((0 : Nat) + k ≤ Array.size bs ∧ (∀ (v : Value), List.Mem v (Array.toList (Array.extract bs (0 : Nat) ((0 : Nat) + k))) → ∃ n, v = Value.int IntKind.u8 n) ∧ True) ∧ strOf (Array.toList (Array.extract bs (0 : Nat) ((0 : Nat) + k))) = b ∧ (0 : Int) = e)) := by kernel_rfl
theorem enc_step_p (off n : Nat) (cs : Array Value) (ty : TypeId) (b : ByteArray) (e : Int) (i : Int) (k : Nat) (bs : Array Value) (Q : Int → Nat → Array Value → Prop) : (encS false off n cs ty i k bs).vc (encA b e) (encN false off n cs ty Q) =
    ((decide (i < (↑n : Int)) = true → (((0 : Int) ≤ i ∧ i < (↑n : Int)) ∧ True) ∧ (IsInt IntKind.u8 cs (off + Int.toNat i * 5) ∧ IsInt IntKind.u8 cs (off + Int.toNat i * 5 + 1) ∧ IsInt IntKind.u8 cs (off + Int.toNat i * 5 + 2) ∧ IsInt IntKind.u8 cs (off + Int.toNat i * 5 + 3) ∧ IsInt IntKind.u16 cs (off + Int.toNat i * 5 + 4) ∧ True) ∧ (((k + 6) * 1 ≤ (140737488355328 : Nat) ∧ k + 6 ≤ (140737488355328 : Nat)) ∧ k * 1 = Array.size bs ∧ True) ∧ Q (ari BinOp.add IntKind.i64 i (1 : Int)) (k + 6) (bs ++ #[Value.int IntKind.u8 (intAt cs (off + Int.toNat i * 5)), Value.int IntKind.u8 (intAt cs (off + Int.toNat i * 5 + 1)), Value.int IntKind.u8 (intAt cs (off + Int.toNat i * 5 + 2)), Value.int IntKind.u8 (intAt cs (off + Int.toNat i * 5 + 3)), Value.int IntKind.u8 (IntKind.wrap IntKind.u8 (intAt cs (off + Int.toNat i * 5 + 4))), Value.int IntKind.u8 (IntKind.wrap IntKind.u8 (ari BinOp.shr IntKind.u16 (intAt cs (off + Int.toNat i * 5 + 4)) (8 : Int)))]) ∧ CallKind.normal = CallKind.normal ∧ TodoOk (ren 1 [(1, 4)]) eH0 eH0 ∧ off = off ∧ n = n ∧ off = off ∧ n = n ∧ (↑n : Int) = (↑n : Int) ∧ Value.string (ByteArray.mk #[]) = Value.string (ByteArray.mk #[]) ∧ k + 6 = k + 6 ∧ mayV cs off n = mayV cs off n ∧ ari BinOp.add IntKind.i64 i (1 : Int) = ari BinOp.add IntKind.i64 i (1 : Int) ∧ off = off ∧ n = n ∧ ty = ty ∧ cs = cs ∧ (5 : TypeId) = (5 : Nat) ∧ bs ++ #[Value.int IntKind.u8 (intAt cs (off + Int.toNat i * 5)), Value.int IntKind.u8 (intAt cs (off + Int.toNat i * 5 + 1)), Value.int IntKind.u8 (intAt cs (off + Int.toNat i * 5 + 2)), Value.int IntKind.u8 (intAt cs (off + Int.toNat i * 5 + 3)), Value.int IntKind.u8 (IntKind.wrap IntKind.u8 (intAt cs (off + Int.toNat i * 5 + 4))), Value.int IntKind.u8 (IntKind.wrap IntKind.u8 (ari BinOp.shr IntKind.u16 (intAt cs (off + Int.toNat i * 5 + 4)) (8 : Int)))] = bs ++ #[Value.int IntKind.u8 (intAt cs (off + Int.toNat i * 5)), Value.int IntKind.u8 (intAt cs (off + Int.toNat i * 5 + 1)), Value.int IntKind.u8 (intAt cs (off + Int.toNat i * 5 + 2)), Value.int IntKind.u8 (intAt cs (off + Int.toNat i * 5 + 3)), Value.int IntKind.u8 (IntKind.wrap IntKind.u8 (intAt cs (off + Int.toNat i * 5 + 4))), Value.int IntKind.u8 (IntKind.wrap IntKind.u8 (ari BinOp.shr IntKind.u16 (intAt cs (off + Int.toNat i * 5 + 4)) (8 : Int)))] ∧ True) ∧ (decide (i < (↑n : Int)) = false → ((0 : Nat) + k ≤ Array.size bs ∧ (∀ (v : Value), List.Mem v (Array.toList (Array.extract bs (0 : Nat) ((0 : Nat) + k))) → ∃ n, v = Value.int IntKind.u8 n) ∧ True) ∧ strOf (Array.toList (Array.extract bs (0 : Nat) ((0 : Nat) + k))) = b ∧ (0 : Int) = e)) := by kernel_rfl
end Go.Proofs.Ytpohnmafnpnmeaa
/- Of code: rows of instructions, and their bytes. No condition. -/
namespace Go.Proofs.Ytpohnmafnpnmeaa
def byteOf (v : Value) : UInt8 := UInt8.ofNat (match v with | .int _ n => n.toNat | _ => 0)
theorem strOf_go (vs : List Value) : ∀ r : ByteArray, (vs.foldl (fun r v => r.push (UInt8.ofNat (match v with | .int _ n => n.toNat | _ => 0))) r).data.toList = r.data.toList ++ vs.map byteOf := by
  induction vs with
  | nil => intro r; simp
  | cons v vs ih =>
    intro r
    rw [List.foldl_cons, ih]
    have : ∀ b, (r.push b).data.toList = r.data.toList ++ [b] := fun b => Array.toList_push
    rw [this]
    simp [byteOf]
theorem strOf_list (vs : List Value) : (strOf vs).data.toList = vs.map byteOf := by
  exact (strOf_go vs ByteArray.empty).trans (List.nil_append _)
theorem size_list (s : ByteArray) : s.size = s.data.toList.length := by rw [Array.length_toList]; rfl
theorem strOf_size (vs : List Value) : (strOf vs).size = vs.length := by rw [size_list, strOf_list, List.length_map]
theorem byteAt_list (s : ByteArray) (i : Nat) : byteAt s i = (s.data.toList[i]?.map fun b => (b.toNat : Int)).getD 0 := by
  unfold byteAt
  by_cases h : i < s.size
  · have h2 : i < s.data.toList.length := by rw [← size_list]; exact h
    rw [getElem?_pos s i h, List.getElem?_eq_getElem h2]
    rfl
  · have h2 : ¬ i < s.data.toList.length := by rw [← size_list]; exact h
    rw [getElem?_neg s i h, List.getElem?_eq_none (by omega)]
    rfl
theorem byteAt_range (s : ByteArray) (i : Nat) : 0 ≤ byteAt s i ∧ byteAt s i ≤ 255 := by
  rw [byteAt_list]
  cases s.data.toList[i]? with
  | none => exact ⟨by decide, by decide⟩
  | some b => have := b.toNat_lt; exact ⟨by simp, by simp; omega⟩
theorem byteAt_cut (s : ByteArray) (j i : Nat) : byteAt (s.extract j s.size) i = byteAt s (j + i) := by
  rw [byteAt_list, byteAt_list, ByteArray.data_extract, Array.toList_extract, List.extract_eq_take_drop, List.getElem?_take]
  split
  · rw [List.getElem?_drop]
  · rename_i h
    rw [List.getElem?_eq_none]
    rw [← size_list]; omega
theorem byteAt_strOf (vs : List Value) (i : Nat) : byteAt (strOf vs) i = (vs[i]?.map fun v => ((byteOf v).toNat : Int)).getD 0 := by
  rw [byteAt_list, strOf_list, List.getElem?_map]
  cases vs[i]? <;> rfl
def parts (f : Nat → List Value) : Nat → List Value
  | 0 => []
  | i + 1 => parts f i ++ f i
theorem parts_len {f : Nat → List Value} {c : Nat} (hf : ∀ i, (f i).length = c) : ∀ n, (parts f n).length = n * c
  | 0 => by simp [parts]
  | n + 1 => by rw [parts, List.length_append, parts_len hf n, hf, Nat.succ_mul]
theorem parts_at {f : Nat → List Value} {c : Nat} (hf : ∀ i, (f i).length = c) : ∀ {n i t : Nat}, i < n → t < c → (parts f n)[i * c + t]? = (f i)[t]?
  | 0, _, _, h, _ => by omega
  | n + 1, i, t, h, ht => by
    unfold parts
    by_cases e : i = n
    · subst e
      rw [List.getElem?_append_right (by rw [parts_len hf]; omega), parts_len hf, Nat.add_sub_cancel_left]
    · have hlt : i * c + t < n * c := by
        have : (i + 1) * c ≤ n * c := Nat.mul_le_mul_right c (by omega)
        rw [Nat.succ_mul] at this
        omega
      rw [List.getElem?_append_left (by rw [parts_len hf]; exact hlt)]
      exact parts_at hf (by omega) ht
end Go.Proofs.Ytpohnmafnpnmeaa
/- Of code: what May and Encode answer, as contracts. No condition. -/
namespace Go.Proofs.Ytpohnmafnpnmeaa
set_option maxRecDepth 100000
theorem Con.ro {E : Env} (hE : EnvOk E) {g : FuncId} {fn : Func} {c : Code} {l l' : List SV} {m ms : SMem} {q : List Prop} {s0 : SV} {A : SV → SMem → Prop} (h1 : E.fn g = some fn) (h2 : fn.body = some c) (hxs : ms.xs = []) (ι : Nat → Nat)
    (hm : ∀ i b, getB ms.bl i = some b → i < ms.next ∧ b.wr = false ∧ ∃ d, getB m.bl (ι i) = some d ∧ b.ty = d.ty ∧ ∀ R cs, d.arr.okM R cs → b.arr.okM (pull ι ms.next R) cs)
    (hl : ∀ R vs, All2 (SV.ok R) l vs → All2 (SV.ok (pull ι ms.next R)) l' vs) (good : (∀ p ∈ q, p) → Good E.P A ms.next [callFr g fn.ntmps l' c] ms)
    (hs : ∀ s m' R R' v, A s m' → s.ok R' v → s0.ok R v) : Con E g l m (needs q (.ret s0 m)) := by
  intro B hB
  obtain ⟨hq, hA⟩ := Tree.sat_needs hB
  refine ⟨fn, h1, by rw [h2]; rfl, fun n0 F w0 w R args ha hR => ?_⟩
  refine (frame_ro (hE.fns _ _ h1).1 h2 (good hq) hxs hm (hl R _ ha) hR).mono ?_
  rintro v w' ⟨k1, k2, s, m', R', k3, k4⟩
  exact ⟨s0, m, R, hA, ⟨fun _ _ h => h, fun _ _ h => .inl h, k2, Nat.le_refl _⟩, k1, hs _ _ _ _ _ k3 k4⟩
theorem needs_br {q : List Prop} {b : Bool} {t e : Tree} {A : SV → SMem → Prop} (h : (needs q (.br b t e)).sat A (fun _ _ => False)) : (b = true → (needs q t).sat A (fun _ _ => False)) ∧ (b = false → (needs q e).sat A (fun _ _ => False)) := by
  cases q with
  | nil => exact ⟨fun x => h.1 x, fun x => h.2 x⟩
  | cons p l => exact ⟨fun x => ⟨h.1, h.2.1 x⟩, fun x => ⟨h.1, h.2.2 x⟩⟩
theorem Con.br {E : Env} {g : FuncId} {l : List SV} {m : SMem} {q : List Prop} {b : Bool} {t e : Tree} (h1 : b = true → Con E g l m (needs q t)) (h2 : b = false → Con E g l m (needs q e)) : Con E g l m (needs q (.br b t e)) := by
  intro A hs
  cases b with
  | true => exact h1 rfl A ((needs_br hs).1 rfl)
  | false => exact h2 rfl A ((needs_br hs).2 rfl)
theorem row_of {m : SMem} {i : Nat} {cs : Array Value} (h : rowI m i = some cs) : ∃ v ty wr, getB m.bl i = some ⟨prA v cs, ty, wr⟩ := by
  unfold rowI at h
  split at h
  · rename_i e; cases h; exact ⟨true, _, _, e⟩
  · rename_i e; cases h; exact ⟨false, _, _, e⟩
  · cases h
theorem prM_get {v : Bool} {cs : Array Value} {ty : TypeId} {i : Nat} {b : SBlk} (h : getB (prM v cs ty).bl i = some b) : i = 0 ∧ b = ⟨prA v cs, ty, false⟩ := by
  unfold getB prM at h
  cases i with
  | zero => cases h; exact ⟨rfl, rfl⟩
  | succ i =>
    have h : ((Tr.node .nil (some ⟨prA v cs, ty, false⟩) .nil : Tr SBlk)).get (i + 1) = some b := h
    rw [Tr.get_succ, Tr.get_nil, ite_self] at h
    cases h
theorem Con.row {g : FuncId} {fn : Func} {c : Code} {m : SMem} {i : Nat} {o n : SN} {cap : SK} {cs : Array Value} {q : List Prop} {s0 : SV} {A : SV → SMem → Prop} (h1 : E0.fn g = some fn) (h2 : fn.body = some c) (hr : rowI m i = some cs)
    (good : ∀ v ty, (∀ p ∈ q, p) → Good Try.prog A 1 [callFr g fn.ntmps [prS o.den n.den] c] (prM v cs ty)) (hs : ∀ s m' R R' v, A s m' → s.ok R' v → s0.ok R v) :
    Con E0 g [.s (.c (.f (.slice i o n cap)))] m (needs q (.ret s0 m)) := by
  obtain ⟨v, ty, wr, hb⟩ := row_of hr
  refine Con.ro E0_ok (l' := [prS o.den n.den]) (ms := prM v cs ty) (A := A) h1 h2 rfl (fun _ => i) ?_ ?_ (good v ty) hs
  · intro j b hj
    obtain ⟨rfl, rfl⟩ := prM_get hj
    refine ⟨Nat.zero_lt_one, rfl, _, hb, rfl, fun R cs' h => ?_⟩
    cases v <;> exact h
  · intro R vs ha
    match vs, ha with
    | [x], ha =>
      obtain ⟨⟨gl, cp, e1, e2, e3, e4⟩, _⟩ := ha
      exact ⟨⟨gl, cp, by unfold pull; exact e1, e2, trivial, e4⟩, trivial⟩
theorem may_good (v : Bool) (off n : Nat) (cs : Array Value) (ty : TypeId) (hI : InsOk cs off n) : Good Try.prog (boolR (mayV cs off n)) 1 (mayC off n) (prM v cs ty) := by
  have step : ∀ (r : Bool) (i : Int) (Q : Int → Prop), (gS EM 1 (mayC off n) (prM v cs ty) [(8, i64 (.o i))] []).vc (boolR r) (mayN true v off n cs ty Q) = (gS EM 1 (mayC off n) (prM true cs ty) [(8, i64 (.o i))] []).vc (boolR r) (mayN true true off n cs ty Q) := by
    intro r i Q
    cases v with
    | true => rfl
    | false => exact (may_step_p off n cs ty r i Q).trans (may_step_r off n cs ty r i Q).symm
  have start : ∀ (r : Bool) (Q : Int → Prop), (gR EM 1 (mayC off n) (prM v cs ty)).vc (boolR r) (mayN false v off n cs ty Q) = (gR EM 1 (mayC off n) (prM true cs ty)).vc (boolR r) (mayN false true off n cs ty Q) := by
    intro r Q
    cases v with
    | true => rfl
    | false => exact (may_start_p off n cs ty r Q).trans (may_start_r off n cs ty r Q).symm
  refine run_vc EM_ok 1000 ((start (mayV cs off n) (fun i => i = 0 ∧ n ≤ 64)).trans (may_start_r off n cs ty _ _)) ?_ (fun _ _ h => h)
    (fun fs m hb => mayN_good (fun i ⟨e, hn⟩ => by rw [e]; exact may_round off n cs ty hI hn step (n + 1) 0 (by omega) (by omega) (fun j hj => by omega)) hb)
  refine ⟨fun h => ?_, fun h => ?_⟩
  · have : n ≤ 64 := by simp at h; omega
    repeat' first | exact this | exact trivial | exact mT0_ok | exact mT1_ok | exact mT2_ok | apply And.intro | exact rfl
  · have : ¬ n ≤ 64 := by simp at h; omega
    unfold mayV
    rw [decide_eq_false this]; rfl
theorem fn9 : E0.fn 29 = some Try.f29 := by kernel_rfl
theorem body9 : Try.f29.body = some (Try.f29.body.getD .skip) := by kernel_rfl
theorem may_con {m : SMem} {i : Nat} {o n : SN} {cap : SK} {cs : Array Value} (hr : rowI m i = some cs) : Con E0 29 [.s (.c (.f (.slice i o n cap)))] m (needs [InsOk cs o.den n.den] (.ret (sB (.o (mayV cs o.den n.den))) m)) := by
  refine Con.row fn9 body9 hr (A := boolR (mayV cs o.den n.den)) (fun v ty hq => may_good v o.den n.den cs ty (hq _ (List.mem_cons_self ..))) ?_
  intro s m' R R' v h hv
  unfold boolR at h
  split at h
  · have hv : v = .bool _ := hv
    rw [hv, h]; rfl
  · exact h.elim
theorem may_nil : (run E0 1000 0 [callFr 29 Try.f29.ntmps [nilV] (Try.f29.body.getD .skip)] ⟨0, .nil, []⟩).allTrue = true := by kernel_rfl
theorem may_e0 : (run E0 1000 0 [callFr 29 Try.f29.ntmps [.s (.c (.f .e0))] (Try.f29.body.getD .skip)] ⟨0, .nil, []⟩).allTrue = true := by kernel_rfl
theorem mayT_ok {m : SMem} {x : SV} {t : Tree} (h : mayT m x = some t) : Con E0 29 [x] m t := by
  unfold mayT at h
  split at h
  · cases h
    exact Con.pure (q := []) E0_ok fn9 body9 (by kernel_rfl) (by kernel_rfl) fun _ => good_true E0_ok may_nil
  · cases h
    exact Con.pure (q := []) E0_ok fn9 body9 (by kernel_rfl) (by kernel_rfl) fun _ => good_true E0_ok may_e0
  · split at h
    · rename_i cs e
      cases h
      exact may_con e
    · cases h
  · cases h
theorem wakes_true : (run E0 100000 0 [callFr 6 Try.f6.ntmps [] (Try.f6.body.getD .skip)] ⟨0, .nil, []⟩).allTrue = true := by kernel_rfl
theorem wakes_fn : E0.fn 6 = some Try.f6 := by kernel_rfl
theorem wakes_body : Try.f6.body = some (Try.f6.body.getD .skip) := by kernel_rfl
theorem wakes_con (m : SMem) : Con E0 6 [] m (needs [] (.ret (sB (.l true)) m)) :=
  Con.pure E0_ok wakes_fn wakes_body (by kernel_rfl) (by kernel_rfl) fun _ => good_true E0_ok wakes_true
theorem con9_ok (g : FuncId) (l : List SV) (m : SMem) (t : Tree) (h : con9 g l m = some t) : Con E0 g l m t := by
  unfold con9 at h
  split at h
  · cases h; exact wakes_con m
  · exact mayT_ok h
  · cases h
theorem E9_ok : EnvOk E9 := EnvOk.with E0_ok _ _ con9_ok
end Go.Proofs.Ytpohnmafnpnmeaa
/- Of code: what Encode answers. No condition. -/
namespace Go.Proofs.Ytpohnmafnpnmeaa
set_option maxRecDepth 100000
def encL (cs : Array Value) (off : Nat) : Nat → List Value := parts fun i => six (ins cs off i)
def encB (cs : Array Value) (off n : Nat) : ByteArray := strOf (encL cs off n)
theorem encL_len (cs : Array Value) (off n : Nat) : (encL cs off n).length = n * 6 := parts_len (f := fun i => six (ins cs off i)) (fun _ => rfl) n
theorem encL_more (cs : Array Value) (off i : Nat) : (encL cs off i).toArray ++ (six (ins cs off i)).toArray = (encL cs off (i + 1)).toArray := by
  show _ = (encL cs off i ++ six (ins cs off i)).toArray
  rw [List.append_toArray]
theorem encL_u8 (cs : Array Value) (off : Nat) : ∀ n, AllU8 (encL cs off n)
  | 0 => fun v hv => by cases hv
  | n + 1 => fun v hv => by
    have hv : v ∈ encL cs off n ++ six (ins cs off n) := hv
    rcases List.mem_append.1 hv with h | h
    · exact encL_u8 cs off n v h
    · simp only [six, u8V, List.mem_cons, List.not_mem_nil, or_false] at h
      rcases h with h | h | h | h | h | h <;> exact ⟨_, h⟩
theorem eT0_ok : TodoOk (ren 1 []) eT0 eT0 := TodoOk.same (by kernel_rfl)
theorem eH0_3 : TodoOk (ren 1 [(1, 3)]) eH0 eH0 := TodoOk.same (by kernel_rfl)
theorem eH0_4 : TodoOk (ren 1 [(1, 4)]) eH0 eH0 := TodoOk.same (by kernel_rfl)
theorem encN_good {v : Bool} {off n : Nat} {cs : Array Value} {ty : TypeId} {A : SV → SMem → Prop} {Q : Int → Nat → Array Value → Prop} (hg : ∀ i k bs, Q i k bs → Good E9.P A 1 (headF (encF v off n cs ty i k)) (encM v cs ty bs)) {fs : List SFr} {m : SMem} (hb : encN v off n cs ty Q fs m) : Good E9.P A 1 fs m := by
  unfold encN at hb
  split at hb
  · split at hb
    · exact Good.of_sub hb.2 (hg _ _ _ hb.1)
    · exact hb.elim
  · exact hb.elim
theorem encN0_good {v : Bool} {off n : Nat} {cs : Array Value} {ty : TypeId} {A : SV → SMem → Prop} {Q : Int → Prop} (hg : ∀ i, Q i → Good E9.P A 1 (gH E9 1 (encC off n) (prM v cs ty) [(12, i64 (.o i))]) (gM E9 1 (encC off n) (prM v cs ty) [])) {fs : List SFr} {m : SMem} (hb : encN0 v off n cs ty Q fs m) : Good E9.P A 1 fs m := by
  unfold encN0 at hb
  split at hb
  · split at hb
    · exact gN_good hb.2 (hg _ hb.1)
    · exact hb.elim
  · exact hb.elim
section
variable (v : Bool) (off n : Nat) (cs : Array Value) (ty : TypeId)
theorem enc_step_v (b : ByteArray) (e i : Int) (k : Nat) (bs : Array Value) (Q : Int → Nat → Array Value → Prop) : (encS v off n cs ty i k bs).vc (encA b e) (encN v off n cs ty Q) = (encS true off n cs ty i k bs).vc (encA b e) (encN true off n cs ty Q) := by
  cases v with
  | true => rfl
  | false => exact (enc_step_p off n cs ty b e i k bs Q).trans (enc_step_r off n cs ty b e i k bs Q).symm
theorem enc_nil_v (b : ByteArray) (e i : Int) (Q : Int → Nat → Array Value → Prop) : (gS E9 1 (encC off n) (prM v cs ty) [(12, i64 (.o i))] []).vc (encA b e) (encN v off n cs ty Q) = (gS E9 1 (encC off n) (prM true cs ty) [(12, i64 (.o i))] []).vc (encA b e) (encN true off n cs ty Q) := by
  cases v with
  | true => rfl
  | false => exact (enc_nil_p off n cs ty b e i Q).trans (enc_nil_r off n cs ty b e i Q).symm
theorem enc_start_v (b : ByteArray) (e : Int) (Q : Int → Prop) : (gR E9 1 (encC off n) (prM v cs ty)).vc (encA b e) (encN0 v off n cs ty Q) = (gR E9 1 (encC off n) (prM true cs ty)).vc (encA b e) (encN0 true off n cs ty Q) := by
  cases v with
  | true => rfl
  | false => exact (enc_start_p off n cs ty b e Q).trans (enc_start_r off n cs ty b e Q).symm
variable (hI : InsOk cs off n)
include hI
theorem enc_round (hn : n ≤ 64) : ∀ (K i : Nat), n - i < K → 1 ≤ i → i ≤ n → Good Try.prog (encA (encB cs off n) 0) 1 (headF (encF v off n cs ty i (6 * i))) (encM v cs ty (encL cs off i).toArray) := by
  intro K
  induction K with
  | zero => intro i h; omega
  | succ K ih =>
    intro i hk h1 hi
    refine past_vc E9_ok 1000 ((enc_step_v v off n cs ty (encB cs off n) 0 i (6 * i) (encL cs off i).toArray (fun i' k bs => ∃ j : Nat, i' = j ∧ n - j < K ∧ 1 ≤ j ∧ j ≤ n ∧ k = 6 * j ∧ bs = (encL cs off j).toArray)).trans (enc_step_r off n cs ty _ _ _ _ _ _)) ?_ (fun _ _ h => h)
      (fun fs m hb => encN_good (fun i' k bs ⟨j, e, k1, k2, k3, k4, k5⟩ => by rw [e, k4, k5]; exact ih j k1 k2 k3) hb)
    have hsz : (encL cs off i).toArray.size = i * 6 := by rw [List.size_toArray, encL_len]
    refine ⟨fun h => ?_, fun h => ?_⟩
    · have hlt : i < n := by simp at h; omega
      obtain ⟨⟨i1, i2, i3, i4, i5⟩, _⟩ := hI.2 i hlt
      have eA : ari BinOp.add IntKind.i64 (i : Int) 1 = ((i + 1 : Nat) : Int) := by rw [ari_add, i64_nat (show i < 9223372036854775807 by omega)]
      rw [Int.toNat_natCast, eA]
      refine ⟨⟨⟨by omega, by omega⟩, trivial⟩, ⟨i1, i2, i3, i4, i5, trivial⟩, ⟨⟨by omega, by omega⟩, by rw [hsz]; omega, trivial⟩, ⟨i + 1, rfl, by omega, by omega, by omega, by omega, encL_more cs off i⟩, ?_⟩
      repeat' first | exact trivial | exact eH0_4 | apply And.intro | exact rfl
    · have e : i = n := by simp at h; omega
      subst e
      have ex : (Array.extract (encL cs off i).toArray 0 (0 + 6 * i)).toList = encL cs off i := by
        rw [List.extract_toArray, List.extract_eq_take_drop]
        simp only [List.drop_zero, Nat.sub_zero, Nat.zero_add]
        rw [List.take_of_length_le]
        rw [encL_len]; omega
      rw [ex]
      exact ⟨⟨by rw [hsz]; omega, encL_u8 cs off i, trivial⟩, rfl, rfl⟩
theorem enc_first (hn : n ≤ 64) : Good Try.prog (encA (encB cs off n) 0) 1 (gH E9 1 (encC off n) (prM v cs ty) [(12, i64 (.o 0))]) (gM E9 1 (encC off n) (prM v cs ty) []) := by
  refine past_vc E9_ok 1000 ((enc_nil_v v off n cs ty (encB cs off n) 0 0 (fun i' k bs => 0 < n ∧ i' = 1 ∧ k = 6 ∧ bs = (encL cs off 1).toArray)).trans (enc_nil_r off n cs ty _ _ _ _)) ?_ (fun _ _ h => h)
    (fun fs m hb => encN_good (fun i' k bs ⟨e0, e, k4, k5⟩ => by rw [e, k4, k5]; exact enc_round v off n cs ty hI hn (n + 1) 1 (by omega) (by omega) (by omega)) hb)
  refine ⟨fun h => ?_, fun h => ?_⟩
  · have hlt : 0 < n := by simp at h; omega
    obtain ⟨⟨i1, i2, i3, i4, i5⟩, _⟩ := hI.2 0 hlt
    refine ⟨⟨⟨by omega, by omega⟩, trivial⟩, ⟨i1, i2, i3, i4, i5, trivial⟩, ⟨hlt, rfl, rfl, rfl⟩, ?_⟩
    repeat' first | exact trivial | exact eH0_3 | apply And.intro | exact rfl
  · have e : n = 0 := by simp at h; omega
    subst e
    exact ⟨rfl, rfl⟩
theorem enc_good (hm : mayV cs off n = true) : Good Try.prog (encA (encB cs off n) 0) 1 (encC off n) (prM v cs ty) := by
  refine run_vc E9_ok 1000 ((enc_start_v v off n cs ty (encB cs off n) 0 (fun i => i = 0)).trans (enc_start_r off n cs ty _ _ _)) ?_ (fun _ _ h => h)
    (fun fs m hb => encN0_good (fun i e => by rw [e]; exact enc_first v off n cs ty hI (mayV_iff.1 hm).1) hb)
  rw [hm]
  refine ⟨⟨hI, trivial⟩, ⟨fun h => (by cases h), fun _ => ?_⟩⟩
  repeat' first | exact trivial | exact eT0_ok | apply And.intro | exact rfl
theorem enc_bad (hm : mayV cs off n = false) : Good Try.prog (encA .empty 3) 1 (encC off n) (prM v cs ty) := by
  refine run_vc E9_ok 1000 ((enc_start_v v off n cs ty .empty 3 (fun i => False)).trans (enc_start_r off n cs ty _ _ _)) ?_ (fun _ _ h => h)
    (fun fs m hb => encN0_good (fun i e => e.elim) hb)
  rw [hm]
  exact ⟨⟨hI, trivial⟩, ⟨fun _ => ⟨rfl, rfl⟩, fun h => by cases h⟩⟩
end
noncomputable section
def tupV (s : ByteArray) (l : Bool) (e : Int) : SV := .tup [.c (.f (cond l (.lit (.string s)) (.opq (.string s)))), .c (.f (.int .i64 (.l e)))]
def encT (m : SMem) : SV → Option Tree
  | .s (.c (.f (.lit (.slice none 0 0)))) => some (.ret (tupV .empty true 0) m)
  | .s (.c (.f .e0)) => some (.ret (tupV .empty true 0) m)
  | .s (.c (.f (.slice i o n _))) => match rowI m i with
    | some cs => some (needs [InsOk cs o.den n.den] (.br (mayV cs o.den n.den) (.ret (tupV (encB cs o.den n.den) false 0) m) (.ret (tupV .empty true 3) m)))
    | none => none
  | _ => none
end
theorem fn6 : E0.fn 19 = some Try.f19 := by kernel_rfl
theorem body6 : Try.f19.body = some (Try.f19.body.getD .skip) := by kernel_rfl
theorem tup_ok {b : ByteArray} {e : Int} (l : Bool) {s : SV} {m' : SMem} {R R' : Ren} {v : Value} (h : encA b e s m') (hv : s.ok R' v) : (tupV b l e).ok R v := by
  unfold encA at h
  split at h
  case h_2 => exact h.elim
  rename_i x y
  obtain ⟨h1, h2⟩ := h
  obtain ⟨vs, rfl, hl⟩ := hv
  match hvs : vs.toList, hl with
  | [a, c], hl =>
    refine ⟨vs, rfl, ?_⟩
    rw [hvs]
    obtain ⟨ha, hc, _⟩ := hl
    refine ⟨?_, ?_, trivial⟩
    · unfold strF at h1
      split at h1
      · subst h1; cases l <;> exact ha
      · subst h1; cases l <;> exact ha
      · exact h1.elim
    · have hc : c = .int .i64 y.den := hc
      rw [h2] at hc
      exact hc
theorem enc_con {m : SMem} {i : Nat} {o n : SN} {cap : SK} {cs : Array Value} (hr : rowI m i = some cs) : Con E0 19 [.s (.c (.f (.slice i o n cap)))] m (needs [InsOk cs o.den n.den] (.br (mayV cs o.den n.den) (.ret (tupV (encB cs o.den n.den) false 0) m) (.ret (tupV .empty true 3) m))) := by
  refine Con.br (fun h => ?_) fun h => ?_
  · exact Con.row fn6 body6 hr (fun v ty hq => enc_good v o.den n.den cs ty (hq _ (List.mem_cons_self ..)) h) fun _ _ _ _ _ => tup_ok false
  · exact Con.row fn6 body6 hr (fun v ty hq => enc_bad v o.den n.den cs ty (hq _ (List.mem_cons_self ..)) h) fun _ _ _ _ _ => tup_ok true
end Go.Proofs.Ytpohnmafnpnmeaa
/- Of code: what Decode answers. No condition. -/
namespace Go.Proofs.Ytpohnmafnpnmeaa
set_option linter.unusedSectionVars false
set_option maxRecDepth 100000
def five (s : ByteArray) (i : Nat) : List Value := [u8V (byteAt s (6 * i)), u8V (byteAt s (6 * i + 1)), u8V (byteAt s (6 * i + 2)), u8V (byteAt s (6 * i + 3)), .int .u16 (word (byteAt s (6 * i + 4)) (byteAt s (6 * i + 5)))]
def decL (s : ByteArray) : Nat → List Value := parts (five s)
def insD (s : ByteArray) (i : Nat) : Ins := ⟨byteAt s (6 * i), byteAt s (6 * i + 1), byteAt s (6 * i + 2), byteAt s (6 * i + 3), word (byteAt s (6 * i + 4)) (byteAt s (6 * i + 5))⟩
theorem decL_len (s : ByteArray) (n : Nat) : (decL s n).length = n * 5 := parts_len (f := five s) (fun _ => rfl) n
theorem decL_more (s : ByteArray) (i : Nat) : (decL s i).toArray ++ (five s i).toArray = (decL s (i + 1)).toArray := by
  show _ = (decL s i ++ five s i).toArray
  rw [List.append_toArray]
theorem decL_at (s : ByteArray) {n i t : Nat} (hi : i < n) (ht : t < 5) : (decL s n).toArray[0 + i * 5 + t]? = (five s i)[t]? := by
  rw [List.getElem?_toArray, Nat.zero_add]
  exact parts_at (f := five s) (fun _ => rfl) hi ht
theorem intAt_is {cs : Array Value} {p : Nat} {k : IntKind} {n : Int} (h : cs[p]? = some (.int k n)) : intAt cs p = n ∧ IsInt k cs p := by
  have e : intAt cs p = n := by unfold intAt; rw [h]
  exact ⟨e, by unfold IsInt; rw [e]; exact h⟩
theorem ins_dec (s : ByteArray) {n i : Nat} (hi : i < n) : ins (decL s n).toArray 0 i = insD s i ∧ InsAt (decL s n).toArray (0 + i * 5) := by
  obtain ⟨a0, b0⟩ := intAt_is (decL_at s (t := 0) hi (by decide))
  obtain ⟨a1, b1⟩ := intAt_is (decL_at s (t := 1) hi (by decide))
  obtain ⟨a2, b2⟩ := intAt_is (decL_at s (t := 2) hi (by decide))
  obtain ⟨a3, b3⟩ := intAt_is (decL_at s (t := 3) hi (by decide))
  obtain ⟨a4, b4⟩ := intAt_is (decL_at s (t := 4) hi (by decide))
  exact ⟨Ins.ext' a0 a1 a2 a3 a4, b0, b1, b2, b3, b4⟩
theorem insD_in (s : ByteArray) (i : Nat) : (insD s i).In := by
  have h := fun j => byteAt_range s j
  refine ⟨h _, h _, h _, h _, ?_⟩
  show 0 ≤ word _ _ ∧ word _ _ ≤ 65535
  rw [word_eq (h _) (h _)]
  have h1 := h (6 * i + 4)
  have h2 := h (6 * i + 5)
  omega
theorem dec_insOk (s : ByteArray) {n : Nat} (hn : n < 9223372036854775807) : InsOk (decL s n).toArray 0 n :=
  ⟨hn, fun i hi => ⟨(ins_dec s hi).2, by rw [(ins_dec s hi).1]; exact insD_in s i⟩⟩
def decOk (s : ByteArray) : Bool := decide (s.size % 6 = 0 ∧ s.size ≤ 384) && mayV (decL s (s.size / 6)).toArray 0 (s.size / 6)
theorem dT0_ok : TodoOk (ren 0 [(0, 0)]) dT0 dT0 := TodoOk.same (by kernel_rfl)
theorem dH0_2 : TodoOk (ren 0 [(0, 0), (1, 2)]) dH0 dH0 := TodoOk.same (by kernel_rfl)
theorem dH0_3 : TodoOk (ren 0 [(0, 0), (1, 3)]) dH0 dH0 := TodoOk.same (by kernel_rfl)
theorem decN0_good {s : ByteArray} {A : SV → SMem → Prop} {Q : Int → Prop} (hg : ∀ i a b c d e g, Q i → Good E9.P A 0 (decH0 s i) (decM0 s a b c d e g)) {fs : List SFr} {m : SMem} (hb : decN0 s Q fs m) : Good E9.P A 0 fs m := by
  unfold decN0 at hb
  split at hb
  · split at hb
    · exact Good.of_sub hb.2 (Good.head (hg _ _ _ _ _ _ _ hb.1))
    · exact hb.elim
  · exact hb.elim
theorem decN1_good {s : ByteArray} {A : SV → SMem → Prop} {Q : Int → Nat → Array Value → Prop} (hg : ∀ i a b c d e g k cs, Q i k cs → Good E9.P A 0 (decH1 s i k) (decM1 s a b c d e g cs)) {fs : List SFr} {m : SMem} (hb : decN1 s Q fs m) : Good E9.P A 0 fs m := by
  unfold decN1 at hb
  split at hb
  · split at hb
    · exact Good.of_sub hb.2 (hg _ _ _ _ _ _ _ _ _ hb.1)
    · exact hb.elim
  · exact hb.elim
def resE (s : ByteArray) : Int := if decOk s = true then 0 else 3
section
variable (s : ByteArray) (h6 : s.size % 6 = 0) (hsz : s.size ≤ 384) (h0 : s.size ≠ 0)
include h6 hsz h0
omit h6 hsz h0 in
theorem dec_five (j : Nat) : [Value.int .u8 (byteAt (s.extract (6 * j) s.size) 0), Value.int .u8 (byteAt (s.extract (6 * j) s.size) 1), Value.int .u8 (byteAt (s.extract (6 * j) s.size) 2), Value.int .u8 (byteAt (s.extract (6 * j) s.size) 3), Value.int .u16 (ari .or .u16 (IntKind.u16.wrap (byteAt (s.extract (6 * j) s.size) 4)) (ari .shl .u16 (IntKind.u16.wrap (byteAt (s.extract (6 * j) s.size) 5)) 8))] = five s j := by
  simp only [byteAt_cut]
  rfl
theorem dec_round : ∀ (K j : Nat), s.size / 6 - j < K → 1 ≤ j → 6 * j ≤ s.size → ∀ a b c d e g, Good Try.prog (decA (resE s) (s.size / 6) (decL s (s.size / 6)).toArray) 0 (decH1 s ((6 * j : Nat) : Int) j) (decM1 s a b c d e g (decL s j).toArray) := by
  intro K
  induction K with
  | zero => intro j h; omega
  | succ K ih =>
    intro j hk h1 hj a b c d e g
    refine past_vc E9_ok 1000 (dec_step s (resE s) (s.size / 6) (decL s (s.size / 6)).toArray ((6 * j : Nat) : Int) a b c d e g j (decL s j).toArray (fun i' k cs => ∃ t : Nat, i' = ((6 * t : Nat) : Int) ∧ s.size / 6 - t < K ∧ 1 ≤ t ∧ 6 * t ≤ s.size ∧ k = t ∧ cs = (decL s t).toArray)) ?_ (fun _ _ h => h)
      (fun fs m hb => decN1_good (fun i' a b c d e g k cs ⟨t, e1, k1, k2, k3, k4, k5⟩ => by rw [e1, k4, k5]; exact ih t k1 k2 k3 a b c d e g) hb)
    have hls : (decL s j).toArray.size = j * 5 := by rw [List.size_toArray, decL_len]
    refine ⟨fun h => ?_, fun h => ?_⟩
    · have hlt : 6 * j < s.size := by simp at h; omega
      have eA : ari BinOp.add IntKind.i64 ((6 * j : Nat) : Int) 6 = ((6 * (j + 1) : Nat) : Int) := by rw [ari_add, Go.IntWalk.i64_in _ (by omega)]; omega
      rw [Int.toNat_natCast, eA]
      have hext : (s.extract (6 * j) s.size).size = s.size - 6 * j := by rw [ByteArray.size_extract]; omega
      refine ⟨⟨by omega, by omega, trivial⟩, ⟨by rw [hext]; omega, trivial⟩, ⟨⟨by omega, by omega⟩, by rw [hls], trivial⟩, ⟨j + 1, rfl, by omega, by omega, by omega, rfl, ?_⟩, ?_⟩
      · rw [← decL_more, ← dec_five s j]
      repeat' first | exact trivial | exact dH0_3 | apply And.intro | exact rfl
    · have e : j = s.size / 6 := by simp at h; omega
      have hI := dec_insOk s (n := j) (by omega)
      have hr : resE s = if mayV (decL s j).toArray 0 j = true then 0 else 3 := by
        unfold resE decOk
        rw [← e, decide_eq_true ⟨h6, hsz⟩, Bool.true_and]
      rw [← e]
      refine ⟨⟨hI, trivial⟩, ⟨fun hm => ⟨rfl, ?_⟩, fun hm => ?_⟩⟩
      · rw [hr, if_neg]
        simpa using hm
      · have hm : mayV (decL s j).toArray 0 j = true := by simpa using hm
        rw [hr, if_pos hm]
        exact ⟨rfl, rfl, rfl, rfl, trivial⟩
theorem dec_first (a b c d e g : Int) : Good Try.prog (decA (resE s) (s.size / 6) (decL s (s.size / 6)).toArray) 0 (decH0 s 0) (decM0 s a b c d e g) := by
  refine past_vc E9_ok 1000 (dec_nil s (resE s) (s.size / 6) (decL s (s.size / 6)).toArray 0 a b c d e g (fun i' k cs => i' = ((6 * 1 : Nat) : Int) ∧ k = 1 ∧ cs = (decL s 1).toArray)) ?_ (fun _ _ h => h)
    (fun fs m hb => decN1_good (fun i' a b c d e g k cs ⟨e1, k4, k5⟩ => by rw [e1, k4, k5]; exact dec_round s h6 hsz h0 (s.size + 1) 1 (by omega) (by omega) (by omega) a b c d e g) hb)
  refine ⟨fun h => ?_, fun h => ?_⟩
  · have hext : (s.extract 0 s.size).size = s.size := by rw [ByteArray.size_extract]; omega
    refine ⟨⟨by omega, by rw [show Int.toNat 0 = 0 from rfl]; omega, trivial⟩, ⟨by rw [show Int.toNat 0 = 0 from rfl, hext]; omega, trivial⟩, ⟨rfl, rfl, ?_⟩, ?_⟩
    · have := dec_five s 0
      exact congrArg List.toArray this
    repeat' first | exact trivial | exact dH0_2 | apply And.intro | exact rfl
  · have := of_decide_eq_false h; omega
omit h0 in
theorem rem6 : (ari .rem .i64 (s.size : Int) 6 != 0) = false := by
  rw [ari_rem]
  have : (s.size : Int).tmod 6 = 0 := by
    rw [Int.tmod_eq_emod_of_nonneg (by omega)]; omega
  rw [this]; rfl
theorem dec_all : Good Try.prog (decA (resE s) (s.size / 6) (decL s (s.size / 6)).toArray) 0 (decC s) M0 := by
  refine run_vc E9_ok 1000 (dec_start s (resE s) (s.size / 6) (decL s (s.size / 6)).toArray (fun i => i = 0)) ?_ (fun _ _ h => h)
    (fun fs m hb => decN0_good (fun i a b c d e g hi => by rw [hi]; exact dec_first s h6 hsz h0 a b c d e g) hb)
  rw [rem6 s h6 hsz]
  refine ⟨fun _ => ⟨fun h => ?_, fun h => ?_⟩, fun h => ?_⟩
  · simp at h; omega
  · repeat' first | exact trivial | exact dT0_ok | apply And.intro | exact rfl
  · cases h
end
theorem dec_no (s : ByteArray) (h : ¬ (s.size % 6 = 0 ∧ s.size ≤ 384)) (hl : s.size < 9223372036854775807) : Good Try.prog (decA 3 0 #[]) 0 (decC s) M0 := by
  refine run_vc E9_ok 1000 (dec_start s 3 0 #[] (fun i => False)) ?_ (fun _ _ h => h) (fun fs m hb => decN0_good (fun i a b c d e g hi => hi.elim) hb)
  refine ⟨fun h1 => ⟨fun _ => ⟨rfl, rfl⟩, fun h2 => ?_⟩, fun _ => ⟨rfl, rfl⟩⟩
  exfalso
  rw [ari_rem, Int.tmod_eq_emod_of_nonneg (by omega)] at h1
  simp at h1 h2
  omega
end Go.Proofs.Ytpohnmafnpnmeaa
/- Of code: what is asked of the empty ones. No condition. -/
namespace Go.Proofs.Ytpohnmafnpnmeaa
noncomputable section
def dec0A (e : Int) (s : SV) (_ : SMem) : Prop := match s with
  | .tup [.c (.f (.lit (.slice none 0 0))), .c (.f (.int .i64 y))] => y.den = e
  | _ => False
end
end Go.Proofs.Ytpohnmafnpnmeaa
/- Of code: what the empty ones come to, as propositions. No condition. -/
namespace Go.Proofs.Ytpohnmafnpnmeaa
set_option maxRecDepth 100000
theorem dec_lit (e : Int) : (run E0 1000 0 [callFr 35 Try.f35.ntmps [.s (.c (.f (.lit (.string ⟨⟨[]⟩⟩))))] (Try.f35.body.getD .skip)] ⟨0, .nil, []⟩).vc (dec0A e) (fun _ _ => False) =
    ((0 : Int) = e) := by kernel_rfl
theorem enc_lit0 (e : Int) : (run E0 1000 0 [callFr 19 Try.f19.ntmps [nilV] (Try.f19.body.getD .skip)] ⟨0, .nil, []⟩).vc (encA .empty e) (fun _ _ => False) =
    (ByteArray.empty = ByteArray.empty ∧ (0 : Int) = e) := by kernel_rfl
theorem enc_lit1 (e : Int) : (run E0 1000 0 [callFr 19 Try.f19.ntmps [.s (.c (.f .e0))] (Try.f19.body.getD .skip)] ⟨0, .nil, []⟩).vc (encA .empty e) (fun _ _ => False) =
    (ByteArray.empty = ByteArray.empty ∧ (0 : Int) = e) := by kernel_rfl
end Go.Proofs.Ytpohnmafnpnmeaa
/- Of code: the contracts of Encode and Decode together. No condition. -/
namespace Go.Proofs.Ytpohnmafnpnmeaa
set_option maxRecDepth 100000
theorem Con.freshT {E : Env} (hE : EnvOk E) {g : FuncId} {l : List SV} {m : SMem} {q : List Prop} {k : SN} {cap : SK} {a : SA} {ty : TypeId} {e : Int} {fn : Func} {c : Code} (h1 : E.fn g = some fn) (h2 : fn.body = some c) (hl0 : allB noIds l = true) (ha : freeA a = true)
    (h : (∀ p ∈ q, p) → Good E.P (fun s m' => s = .tup [.c (.f (.slice 0 (.l 0) k cap)), .c (.f (.int .i64 (.l e)))] ∧ m' = ⟨1, Tr.nil.set 0 (some ⟨a, ty, true⟩), []⟩) 0 [callFr g fn.ntmps l c] ⟨0, .nil, []⟩) :
    Con E g l m (needs q (.ret (.tup [.c (.f (.slice m.next (.l 0) k cap)), .c (.f (.int .i64 (.l e)))]) (m.new a ty))) := by
  intro A hs
  obtain ⟨hq, hA⟩ := Tree.sat_needs hs
  refine ⟨fn, h1, by rw [h2]; rfl, fun n0 F w0 w R args hl hR => ?_⟩
  refine (answers_of_good (m := ⟨0, .nil, []⟩) (hE.fns _ _ h1).1 h2 (h hq) (ok_anys hl0 hl) hR.none).mono ?_
  rintro v w' ⟨s, m', R', ⟨rfl, rfl⟩, hX, hR', hv⟩
  have hb0 : getB (Tr.nil.set 0 (some ⟨a, ty, true⟩)) 0 = some ⟨a, ty, true⟩ := rfl
  obtain ⟨gl, cs, fz, e1, e2, e3, e4, e5⟩ := hR'.blk 0 _ hb0
  obtain ⟨e6, ez⟩ := e5 rfl
  have e7 : w.heap.size ≤ gl.b := e6.resolve_right fun x => x
  obtain ⟨R2, k1, k2, k3⟩ := hR.grow hR'.fr.to e7 (hR'.lt 0 gl e1) e2 e3 (free_ok (R' := R) ha e4) ez
  obtain ⟨vs, rfl, hv⟩ := hv
  match hvs : vs.toList, hv with
  | [x, y], hv =>
    obtain ⟨⟨g, cp, f1, rfl, f2, f3⟩, hy, _⟩ := hv
    rw [e1] at f1
    cases f1
    refine ⟨_, _, R2, hA, k1, k3, vs, rfl, ?_⟩
    rw [hvs]
    exact ⟨⟨gl, cp, k2, rfl, f2, f3⟩, hy, trivial⟩
noncomputable section
def nil3 : SV := .tup [.c (.f (.lit (.slice none 0 0))), .c (.f (.int .i64 (.l 3)))]
def nil0 : SV := .tup [.c (.f (.lit (.slice none 0 0))), .c (.f (.int .i64 (.l 0)))]
def rowD (s : ByteArray) : Array Value := (decL s (s.size / 6)).toArray
def sizeD (s : ByteArray) : Nat := s.size / 6
def decT (m : SMem) : SV → Option Tree
  | .s (.c (.f (.lit (.string ⟨⟨[]⟩⟩)))) => some (.ret nil0 m)
  | .s (.c (.f (.opq (.string s)))) => some (needs [s.size ≠ 0, s.size < 9223372036854775807] (.br (decOk s) (.ret (.tup [.c (.f (.slice m.next (.l 0) (.o (sizeD s)) .any)), .c (.f (.int .i64 (.l 0)))]) (m.new (.pop (rowD s)) 52)) (.ret nil3 m)))
  | _ => none
end
theorem fn11 : E0.fn 35 = some Try.f35 := by kernel_rfl
theorem body11 : Try.f35.body = some (Try.f35.body.getD .skip) := by kernel_rfl
theorem strV_ok {s : ByteArray} {R R' : Ren} {vs : List Value} (h : All2 (SV.ok R) [strV s] vs) : All2 (SV.ok R') [strV s] vs := by
  match vs, h with
  | [x], h => exact ⟨h.1, trivial⟩
theorem nil3_ok {k : Nat} {cs : Array Value} {s : SV} {m' : SMem} {R R' : Ren} {v : Value} (h : decA 3 k cs s m') (hv : s.ok R' v) : nil3.ok R v := by
  unfold decA at h
  split at h
  · rename_i y
    obtain ⟨h1, _⟩ := h
    obtain ⟨vs, rfl, hl⟩ := hv
    match hvs : vs.toList, hl with
    | [a, c], hl =>
      refine ⟨vs, rfl, ?_⟩
      rw [hvs]
      obtain ⟨ha, hc, _⟩ := hl
      have hc : c = .int .i64 y.den := hc
      rw [h1] at hc
      exact ⟨ha, hc, trivial⟩
  · exact absurd h.1 (by decide)
  · exact h.elim
theorem Con.none {g : FuncId} {fn : Func} {c : Code} {l : List SV} {m : SMem} {s0 : SV} {A : SV → SMem → Prop} (h1 : E0.fn g = some fn) (h2 : fn.body = some c) (hl : allB noIds l = true) (good : Good Try.prog A 0 [callFr g fn.ntmps l c] M0)
    (hs : ∀ s m' R R' v, A s m' → s.ok R' v → s0.ok R v) : Con E0 g l m (.ret s0 m) :=
  Con.ro E0_ok (l := l) (l' := l) (ms := M0) (m := m) (q := []) h1 h2 rfl (fun i => i) (fun i b hb => by
    have hb : (Tr.nil : Tr SBlk).get i = some b := hb
    rw [Tr.get_nil] at hb; cases hb) (fun R vs ha => ok_anys hl ha) (fun _ => good) hs
theorem nil0_ok {s : SV} {m' : SMem} {R R' : Ren} {v : Value} (h : dec0A 0 s m') (hv : s.ok R' v) : nil0.ok R v := by
  unfold dec0A at h
  split at h
  · rename_i y
    obtain ⟨vs, rfl, hl⟩ := hv
    match hvs : vs.toList, hl with
    | [a, c], hl =>
      refine ⟨vs, rfl, ?_⟩
      rw [hvs]
      obtain ⟨ha, hc, _⟩ := hl
      have hc : c = .int .i64 y.den := hc
      rw [h] at hc
      exact ⟨ha, hc, trivial⟩
  · exact h.elim
theorem encT_ok {m : SMem} {x : SV} {t : Tree} (h : encT m x = some t) : Con E0 19 [x] m t := by
  unfold encT at h
  split at h
  · cases h
    exact Con.none fn6 body6 (by kernel_rfl) (run_vc E0_ok 1000 (enc_lit0 0) ⟨rfl, rfl⟩ (fun s m h => h) fun _ _ h => h.elim) fun _ _ _ _ _ => tup_ok true
  · cases h
    exact Con.none fn6 body6 (by kernel_rfl) (run_vc E0_ok 1000 (enc_lit1 0) ⟨rfl, rfl⟩ (fun s m h => h) fun _ _ h => h.elim) fun _ _ _ _ _ => tup_ok true
  · split at h
    · rename_i cs e
      cases h
      exact enc_con e
    · cases h
  · cases h
theorem dec_yes (s : ByteArray) (h0 : s.size ≠ 0) (hd : decOk s = true) : Good Try.prog (fun r m' => r = .tup [.c (.f (.slice 0 (.l 0) (.o (sizeD s)) .any)), .c (.f (.int .i64 (.l 0)))] ∧ m' = ⟨1, Tr.nil.set 0 (some ⟨.pop (rowD s), 52, true⟩), []⟩) 0 (decC s) M0 := by
  have hc : s.size % 6 = 0 ∧ s.size ≤ 384 := by unfold decOk at hd; simp at hd; exact hd.1
  refine Good.retX ((dec_all s hc.1 hc.2 h0).mono ?_)
  intro r m' h
  have he : resE s = 0 := by unfold resE; rw [if_pos hd]
  rw [he] at h
  unfold decA at h
  split at h
  · exact absurd h.2 (by decide)
  · exact ⟨_, h.2⟩
  · exact h.elim
theorem dec_not (s : ByteArray) (h0 : s.size ≠ 0) (hl : s.size < 9223372036854775807) (hd : decOk s = false) : ∃ k cs, Good Try.prog (decA 3 k cs) 0 (decC s) M0 := by
  by_cases hc : s.size % 6 = 0 ∧ s.size ≤ 384
  · have he : resE s = 3 := by unfold resE; rw [hd]; rfl
    exact ⟨_, _, he ▸ dec_all s hc.1 hc.2 h0⟩
  · exact ⟨_, _, dec_no s hc hl⟩
theorem decT_ok {m : SMem} {x : SV} {t : Tree} (h : decT m x = some t) : Con E0 35 [x] m t := by
  unfold decT at h
  split at h
  · cases h
    exact Con.none fn11 body11 (by kernel_rfl) (run_vc E0_ok 1000 (dec_lit 0) rfl (fun s m h => h) fun _ _ h => h.elim) fun _ _ _ _ _ => nil0_ok
  · rename_i s
    cases h
    refine Con.br (fun hd => ?_) fun hd => ?_
    · exact Con.freshT E0_ok fn11 body11 (by kernel_rfl) rfl fun hq => dec_yes s (hq _ (by simp)) hd
    · intro B hB
      obtain ⟨hq, _⟩ := Tree.sat_needs hB
      obtain ⟨k, cs, hg⟩ := dec_not s (hq _ (by simp)) (hq _ (by simp)) hd
      exact Con.ro E0_ok (l := [strV s]) (l' := [strV s]) (ms := M0) (m := m) (q := _) fn11 body11 rfl (fun i => i) (fun i b hb => by
        have hb : (Tr.nil : Tr SBlk).get i = some b := hb
        rw [Tr.get_nil] at hb; cases hb) (fun R vs ha => strV_ok ha) (fun _ => hg) (fun _ _ _ _ _ => nil3_ok) B hB
  · cases h
end Go.Proofs.Ytpohnmafnpnmeaa
/- Of task: instructions, registers, and what is wanted, by the kind of the next instruction. No condition. -/
namespace Go.Proofs.Ytpohnmafnpnmeaa
noncomputable section
structure Rg where
  r0 : Int
  r1 : Int
  r2 : Int
  r3 : Int
  r4 : Int
  r5 : Int
  r6 : Int
  r7 : Int
def cI (k : IntKind) (n : SI) : SC := .f (.int k n)
def Rg.cells (g : Rg) : List SC := [cI .u64 (.o g.r0), cI .u64 (.o g.r1), cI .u64 (.o g.r2), cI .u64 (.o g.r3), cI .u64 (.o g.r4), cI .u64 (.o g.r5), cI .u64 (.o g.r6), cI .u64 (.o g.r7)]
def Rg.at (g : Rg) (i : Nat) : Int := intL [g.r0, g.r1, g.r2, g.r3, g.r4, g.r5, g.r6, g.r7] i
def tkL (c : SC) (nx : Int) (g : Rg) : List SC := c :: cI .i64 (.o nx) :: g.cells
def tkV (c : SC) (nx : Int) (g : Rg) : SV := .s (.agg (.ls (tkL c nx g)))
def prC (off n : Nat) : SC := .f (.slice 0 (.o off) (.o n) .any)
def tkOf : SV → Option (SC × Int × Rg)
  | .s (.agg (.ls [c, .f (.int .i64 nx), .f (.int .u64 r0), .f (.int .u64 r1), .f (.int .u64 r2), .f (.int .u64 r3), .f (.int .u64 r4), .f (.int .u64 r5), .f (.int .u64 r6), .f (.int .u64 r7)])) =>
    some (c, nx.den, ⟨r0.den, r1.den, r2.den, r3.den, r4.den, r5.den, r6.den, r7.den⟩)
  | _ => none
def insL (op : SI) (cs : Array Value) (p : Nat) : List SC := [cI .u8 op, cI .u8 (.o (intAt cs (p + 1))), cI .u8 (.o (intAt cs (p + 2))), cI .u8 (.o (intAt cs (p + 3))), cI .u16 (.o (intAt cs (p + 4)))]
def ins0 : List SC := [cI .u8 (.l 0), cI .u8 (.l 0), cI .u8 (.l 0), cI .u8 (.l 0), cI .u16 (.l 0)]
def okB (l : List SC) (b : SB) : SV := .tup [.agg (.ls l), .c (.f (.bool b))]
def opK (kd : Nat) (x : Int) : SI := match kd with
  | 1 => .l 0
  | 2 => .o x
  | kd => .l (kd - 2 : Nat)
def opOk (kd : Nat) (x : Int) : Prop := match kd with
  | 1 => x = 0
  | 2 => 16 < x ∧ x ≤ 38
  | kd => x = (kd - 2 : Nat) ∧ 0 < x ∧ x ≤ 6
def rowC (m : SMem) : SC → Option (Array Value × Nat × Nat)
  | .f (.slice i o n _) => match rowI m i with
    | some cs => some (cs, o.den, n.den)
    | none => none
  | _ => none
def call0 (d : Int) : List SC := [cI .u8 (.l d), cI .u32 (.l 0), cI .u32 (.l 0), cI .u32 (.l 0), cI .u32 (.l 0), cI .u64 (.l 0)]
def w32 (n : Int) : Int := IntKind.u32.wrap n
def callD (g : Rg) (op b c n : Int) : List SC := [cI .u8 (.o (ari .sub .u8 op 16)), cI .u32 (.o (w32 (g.at b.toNat))), cI .u32 (.o (w32 (g.at c.toNat))), cI .u32 (.o (w32 g.r6)), cI .u32 (.o (w32 n)), cI .u64 (.o g.r5)]
def callL (g : Rg) (cs : Array Value) (p : Nat) : List SC := callD g (intAt cs p) (intAt cs (p + 2)) (intAt cs (p + 3)) (intAt cs (p + 4))
def in8 (cs : Array Value) (p : Nat) : Prop := (0 ≤ intAt cs (p + 1) ∧ intAt cs (p + 1) < 8) ∧ (0 ≤ intAt cs (p + 2) ∧ intAt cs (p + 2) < 8) ∧ (0 ≤ intAt cs (p + 3) ∧ intAt cs (p + 3) < 8) ∧ (0 ≤ intAt cs (p + 4) ∧ intAt cs (p + 4) ≤ 65535)
def at5 (o : Nat) (nx : Int) : Nat := o + nx.toNat * 5
def isK (kd : Nat) (cs : Array Value) (o n : Nat) (nx : Int) : List Prop := match kd with
  | 0 => [(n : Int) ≤ nx]
  | kd => [0 ≤ nx ∧ nx < n, InsAt cs (at5 o nx), in8 cs (at5 o nx), opOk kd (intAt cs (at5 o nx))]
def insT (kd : Nat) (m : SMem) (t : SV) : Option Tree := match tkOf t with
  | some (c, nx, _) => match rowC m c with
    | some (cs, o, n) => some (needs (isK kd cs o n nx) (.ret (match kd with
      | 0 => okB ins0 (.l false)
      | kd => okB (insL (opK kd (intAt cs (at5 o nx))) cs (at5 o nx)) (.l true)) m))
    | none => none
  | none => none
def wantT (kd : Nat) (m : SMem) (t : SV) : Option Tree := match tkOf t with
  | some (c, nx, g) => match rowC m c with
    | some (cs, o, n) => some (needs (isK kd cs o n nx) (.ret (match kd with
      | 0 | 1 => okB (call0 20) (.l true)
      | 2 => okB (callL g cs (at5 o nx)) (.l true)
      | _ => okB (call0 0) (.l false)) m))
    | none => none
  | none => none
def regT (m : SMem) (t i : SV) : Option Tree := match tkOf t, i with
  | some (c, _, g), .s (.c (.f (.int .u8 i))) => match rowC m c with
    | some _ => some (needs [0 ≤ i.den ∧ i.den < 8] (.ret (.s (.c (cI .u64 (.o (g.at i.den.toNat))))) m))
    | none => none
  | _, _ => none
def conWk (w : Bool) (kd : Nat) (g : FuncId) (l : List SV) (m : SMem) : Option Tree := match g, l with
  | 6, [] => some (needs [] (.ret (sB (.l true)) m))
  | 30, [t] => insT kd m t
  | 31, [t, i] => regT m t i
  | 15, [t] => cond w (wantT kd m t) none
  | _, _ => none
def EWk (kd : Nat) : Env := ⟨Try.prog, fnOf, conWk false kd, fun _ _ _ => false⟩
def sameV (a b : SV) : Prop := match SV.same (fun _ => none) a b with
  | some q => allP q
  | none => False
theorem sameV_ok {a b : SV} {R R' : Ren} {v : Value} (h : sameV a b) (hb : b.ok R v) : a.ok R' v := by
  unfold sameV at h
  split at h
  · rename_i q e
    exact SV.same_ok (fun i j e => by cases e) e (allP_iff h) hb
  · exact h.elim
def insC (off n : Nat) (nx : Int) (g : Rg) : List SFr := [callFr 30 Try.f30.ntmps [tkV (prC off n) nx g] (Try.f30.body.getD .skip)]
def wantC (off n : Nat) (nx : Int) (g : Rg) : List SFr := [callFr 15 Try.f15.ntmps [tkV (prC off n) nx g] (Try.f15.body.getD .skip)]
def regCk (off n : Nat) (nx : Int) (g : Rg) (i : Int) : List SFr := [callFr 31 Try.f31.ntmps [tkV (prC off n) nx g, .s (.c (cI .u8 (.o i)))] (Try.f31.body.getD .skip)]
def sA (s0 : SV) (s : SV) (_ : SMem) : Prop := sameV s0 s
end
end Go.Proofs.Ytpohnmafnpnmeaa
/- Of task: instructions, registers, and what is wanted, as propositions. No condition. -/
namespace Go.Proofs.Ytpohnmafnpnmeaa
set_option maxRecDepth 100000
theorem in_no_r (off n : Nat) (cs : Array Value) (ty : TypeId) (nx : Int) (g : Rg) : (run E0 1000 1 (insC off n nx g) (prM true cs ty)).vc (sA (okB ins0 (.l false))) (fun _ _ => False) =
    (((decide (nx < (0 : Int)) == false) = true → (decide (nx ≥ (↑n : Int)) = true → True) ∧ (decide (nx ≥ (↑n : Int)) = false → (((0 : Int) ≤ nx ∧ nx < (↑n : Int)) ∧ True) ∧ (IsInt IntKind.u8 cs (off + Int.toNat nx * 5) ∧ IsInt IntKind.u8 cs (off + Int.toNat nx * 5 + 1) ∧ IsInt IntKind.u8 cs (off + Int.toNat nx * 5 + 2) ∧ IsInt IntKind.u8 cs (off + Int.toNat nx * 5 + 3) ∧ IsInt IntKind.u16 cs (off + Int.toNat nx * 5 + 4) ∧ True) ∧ False)) ∧ ((decide (nx < (0 : Int)) == false) = false → True)) := by kernel_rfl
theorem in_yes_r (off n : Nat) (cs : Array Value) (ty : TypeId) (nx : Int) (g : Rg) (p : Nat) : (run E0 1000 1 (insC off n nx g) (prM true cs ty)).vc (sA (okB (insL (.o (intAt cs p)) cs p) (.l true))) (fun _ _ => False) =
    (((decide (nx < (0 : Int)) == false) = true → (decide (nx ≥ (↑n : Int)) = true → False) ∧ (decide (nx ≥ (↑n : Int)) = false → (((0 : Int) ≤ nx ∧ nx < (↑n : Int)) ∧ True) ∧ (IsInt IntKind.u8 cs (off + Int.toNat nx * 5) ∧ IsInt IntKind.u8 cs (off + Int.toNat nx * 5 + 1) ∧ IsInt IntKind.u8 cs (off + Int.toNat nx * 5 + 2) ∧ IsInt IntKind.u8 cs (off + Int.toNat nx * 5 + 3) ∧ IsInt IntKind.u16 cs (off + Int.toNat nx * 5 + 4) ∧ True) ∧ intAt cs p = intAt cs (off + Int.toNat nx * 5) ∧ intAt cs (p + 1) = intAt cs (off + Int.toNat nx * 5 + 1) ∧ intAt cs (p + 2) = intAt cs (off + Int.toNat nx * 5 + 2) ∧ intAt cs (p + 3) = intAt cs (off + Int.toNat nx * 5 + 3) ∧ intAt cs (p + 4) = intAt cs (off + Int.toNat nx * 5 + 4) ∧ True)) ∧ ((decide (nx < (0 : Int)) == false) = false → False)) := by kernel_rfl
theorem in_no_p (off n : Nat) (cs : Array Value) (ty : TypeId) (nx : Int) (g : Rg) : (run E0 1000 1 (insC off n nx g) (prM false cs ty)).vc (sA (okB ins0 (.l false))) (fun _ _ => False) =
    (((decide (nx < (0 : Int)) == false) = true → (decide (nx ≥ (↑n : Int)) = true → True) ∧ (decide (nx ≥ (↑n : Int)) = false → (((0 : Int) ≤ nx ∧ nx < (↑n : Int)) ∧ True) ∧ (IsInt IntKind.u8 cs (off + Int.toNat nx * 5) ∧ IsInt IntKind.u8 cs (off + Int.toNat nx * 5 + 1) ∧ IsInt IntKind.u8 cs (off + Int.toNat nx * 5 + 2) ∧ IsInt IntKind.u8 cs (off + Int.toNat nx * 5 + 3) ∧ IsInt IntKind.u16 cs (off + Int.toNat nx * 5 + 4) ∧ True) ∧ False)) ∧ ((decide (nx < (0 : Int)) == false) = false → True)) := by kernel_rfl
theorem in_yes_p (off n : Nat) (cs : Array Value) (ty : TypeId) (nx : Int) (g : Rg) (p : Nat) : (run E0 1000 1 (insC off n nx g) (prM false cs ty)).vc (sA (okB (insL (.o (intAt cs p)) cs p) (.l true))) (fun _ _ => False) =
    (((decide (nx < (0 : Int)) == false) = true → (decide (nx ≥ (↑n : Int)) = true → False) ∧ (decide (nx ≥ (↑n : Int)) = false → (((0 : Int) ≤ nx ∧ nx < (↑n : Int)) ∧ True) ∧ (IsInt IntKind.u8 cs (off + Int.toNat nx * 5) ∧ IsInt IntKind.u8 cs (off + Int.toNat nx * 5 + 1) ∧ IsInt IntKind.u8 cs (off + Int.toNat nx * 5 + 2) ∧ IsInt IntKind.u8 cs (off + Int.toNat nx * 5 + 3) ∧ IsInt IntKind.u16 cs (off + Int.toNat nx * 5 + 4) ∧ True) ∧ intAt cs p = intAt cs (off + Int.toNat nx * 5) ∧ intAt cs (p + 1) = intAt cs (off + Int.toNat nx * 5 + 1) ∧ intAt cs (p + 2) = intAt cs (off + Int.toNat nx * 5 + 2) ∧ intAt cs (p + 3) = intAt cs (off + Int.toNat nx * 5 + 3) ∧ intAt cs (p + 4) = intAt cs (off + Int.toNat nx * 5 + 4) ∧ True)) ∧ ((decide (nx < (0 : Int)) == false) = false → False)) := by kernel_rfl
theorem rg_r (off n : Nat) (cs : Array Value) (ty : TypeId) (nx : Int) (g : Rg) (i : Int) (v : Int) : (run E0 1000 1 (regCk off n nx g i) (prM true cs ty)).vc (sA (.s (.c (cI .u64 (.o v))))) (fun _ _ => False) =
    ((decide (i ≥ (8 : Int)) = true → v = (0 : Int) ∧ True) ∧ (decide (i ≥ (8 : Int)) = false → (((0 : Int) ≤ i ∧ i < (8 : Int)) ∧ True) ∧ (((2 : Nat) ≤ (2 : Nat) + Int.toNat i * 1 ∧ (2 : Nat) + Int.toNat i * 1 < (10 : Nat)) ∧ True) ∧ v = intL [Rg.r0 g, Rg.r1 g, Rg.r2 g, Rg.r3 g, Rg.r4 g, Rg.r5 g, Rg.r6 g, Rg.r7 g] ((2 : Nat) + Int.toNat i * 1 - (2 : Nat)) ∧ True)) := by kernel_rfl
theorem rg_p (off n : Nat) (cs : Array Value) (ty : TypeId) (nx : Int) (g : Rg) (i : Int) (v : Int) : (run E0 1000 1 (regCk off n nx g i) (prM false cs ty)).vc (sA (.s (.c (cI .u64 (.o v))))) (fun _ _ => False) =
    ((decide (i ≥ (8 : Int)) = true → v = (0 : Int) ∧ True) ∧ (decide (i ≥ (8 : Int)) = false → (((0 : Int) ≤ i ∧ i < (8 : Int)) ∧ True) ∧ (((2 : Nat) ≤ (2 : Nat) + Int.toNat i * 1 ∧ (2 : Nat) + Int.toNat i * 1 < (10 : Nat)) ∧ True) ∧ v = intL [Rg.r0 g, Rg.r1 g, Rg.r2 g, Rg.r3 g, Rg.r4 g, Rg.r5 g, Rg.r6 g, Rg.r7 g] ((2 : Nat) + Int.toNat i * 1 - (2 : Nat)) ∧ True)) := by kernel_rfl
end Go.Proofs.Ytpohnmafnpnmeaa
/- Of task: instructions and registers, as contracts. No condition. -/
namespace Go.Proofs.Ytpohnmafnpnmeaa
set_option maxRecDepth 100000
set_option linter.unusedSectionVars false
theorem tkOf_some {t : SV} {c : SC} {nx : Int} {g : Rg} (h : tkOf t = some (c, nx, g)) : ∃ l, t = .s (.agg (.ls (c :: l))) ∧ allB (SC.lt 0) l = true ∧ ∀ (R : Ren) (us : List Value), All2 (SC.ok R) l us → All2 (SC.ok R) (cI .i64 (.o nx) :: g.cells) us := by
  unfold tkOf at h
  split at h
  · cases h
    refine ⟨_, rfl, rfl, fun R us h => ?_⟩
    match us, h with
    | [u0, u1, u2, u3, u4, u5, u6, u7, u8], h => exact h
  · cases h
theorem rowC_some {m : SMem} {c : SC} {cs : Array Value} {o n : Nat} (h : rowC m c = some (cs, o, n)) : ∃ i so sn cap, c = .f (.slice i so sn cap) ∧ rowI m i = some cs ∧ so.den = o ∧ sn.den = n := by
  unfold rowC at h
  split at h
  · split at h
    · rename_i e
      cases h
      exact ⟨_, _, _, _, rfl, e, rfl, rfl⟩
    · cases h
  · cases h
theorem regs_any {R R' : Ren} {nx : Int} {g : Rg} {us : List Value} (h : All2 (SC.ok R) (cI .i64 (.o nx) :: g.cells) us) : All2 (SC.ok R') (cI .i64 (.o nx) :: g.cells) us := by
  match us, h with
  | [u0, u1, u2, u3, u4, u5, u6, u7, u8], h => exact h
theorem Con.task {E : Env} (hE : EnvOk E) {f : FuncId} {fn : Func} {b : Code} {m : SMem} {t : SV} {c : SC} {nx : Int} {g : Rg} {cs : Array Value} {o n : Nat} {q : List Prop} {s0 : SV} {A : SV → SMem → Prop} {xs : List SV} (h1 : E.fn f = some fn) (h2 : fn.body = some b)
    (ht : tkOf t = some (c, nx, g)) (hr : rowC m c = some (cs, o, n)) (hx : allB noIds xs = true)
    (good : ∀ v ty, (∀ p ∈ q, p) → Good E.P A 1 [callFr f fn.ntmps (tkV (prC o n) nx g :: xs) b] (prM v cs ty)) (hs : ∀ s m' R R' v, A s m' → s.ok R' v → s0.ok R v) :
    Con E f (t :: xs) m (needs q (.ret s0 m)) := by
  obtain ⟨l, rfl, _, hl⟩ := tkOf_some ht
  obtain ⟨i, so, sn, cap, rfl, hri, rfl, rfl⟩ := rowC_some hr
  obtain ⟨v, ty, wr, hb⟩ := row_of hri
  refine Con.ro hE (l' := tkV (prC so.den sn.den) nx g :: xs) (ms := prM v cs ty) (A := A) h1 h2 rfl (fun _ => i) ?_ ?_ (good v ty) hs
  · intro j b hj
    obtain ⟨rfl, rfl⟩ := prM_get hj
    refine ⟨Nat.zero_lt_one, rfl, _, hb, rfl, fun R cs' h => ?_⟩
    cases v <;> exact h
  · intro R vs ha
    match vs, ha with
    | x :: vs, ⟨ha, hxs⟩ =>
      refine ⟨?_, ok_anys hx hxs⟩
      obtain ⟨us, rfl, hus⟩ := ha
      refine ⟨us, rfl, ?_⟩
      have hus : All2 (SC.ok R) (.f (.slice i so sn cap) :: l) us.toList := hus
      show All2 (SC.ok (pull (fun _ => i) 1 R)) (prC so.den sn.den :: (cI .i64 (.o nx) :: g.cells)) us.toList
      match hu : us.toList, hus with
      | u :: us', ⟨hu1, hu2⟩ =>
        refine ⟨?_, ?_⟩
        · obtain ⟨gl, cp, e1, e2, e3, e4⟩ := hu1
          exact ⟨gl, cp, by unfold pull; exact e1, e2, trivial, e4⟩
        · exact regs_any (hl R us' hu2)
theorem fn19 : E0.fn 30 = some Try.f30 := by kernel_rfl
theorem body19 : Try.f30.body = some (Try.f30.body.getD .skip) := by kernel_rfl
theorem fn20 : E0.fn 31 = some Try.f31 := by kernel_rfl
theorem body20 : Try.f31.body = some (Try.f31.body.getD .skip) := by kernel_rfl
theorem run_needs {E : Env} (hE : EnvOk E) {A : SV → SMem → Prop} {base : Nat} {fs : List SFr} {m : SMem} {V : Prop} (e : (run E 1000 base fs m).vc A (fun _ _ => False) = V) (h : V) : Good E.P A base fs m :=
  run_vc hE 1000 e h (fun _ _ h => h) fun _ _ h => h.elim
theorem isK_pos {kd : Nat} {cs : Array Value} {o n : Nat} {nx : Int} (hk : kd ≠ 0) (h : ∀ p ∈ isK kd cs o n nx, p) : (0 ≤ nx ∧ nx < n) ∧ InsAt cs (at5 o nx) ∧ in8 cs (at5 o nx) ∧ opOk kd (intAt cs (at5 o nx)) := by
  cases kd with
  | zero => exact (hk rfl).elim
  | succ k => exact ⟨h _ (by simp [isK]), h _ (by simp [isK]), h _ (by simp [isK]), h _ (by simp [isK])⟩
theorem ins_good_no {v : Bool} {off n : Nat} {cs : Array Value} {ty : TypeId} {nx : Int} {g : Rg} (h : (n : Int) ≤ nx) : Good Try.prog (sA (okB ins0 (.l false))) 1 (insC off n nx g) (prM v cs ty) := by
  cases v with
  | true =>
    refine run_needs E0_ok (in_no_r off n cs ty nx g) ⟨fun _ => ⟨fun _ => trivial, fun h2 => ?_⟩, fun _ => trivial⟩
    simp at h2; omega
  | false =>
    refine run_needs E0_ok (in_no_p off n cs ty nx g) ⟨fun _ => ⟨fun _ => trivial, fun h2 => ?_⟩, fun _ => trivial⟩
    simp at h2; omega
theorem ins_good {v : Bool} {off n : Nat} {cs : Array Value} {ty : TypeId} {nx : Int} {g : Rg} (h : 0 ≤ nx ∧ nx < n) (hi : InsAt cs (at5 off nx)) : Good Try.prog (sA (okB (insL (.o (intAt cs (at5 off nx))) cs (at5 off nx)) (.l true))) 1 (insC off n nx g) (prM v cs ty) := by
  obtain ⟨i1, i2, i3, i4, i5⟩ := hi
  cases v with
  | true =>
    refine run_needs E0_ok (in_yes_r off n cs ty nx g (at5 off nx)) ⟨fun _ => ⟨fun h2 => ?_, fun _ => ⟨⟨h, trivial⟩, ⟨i1, i2, i3, i4, i5, trivial⟩, rfl, rfl, rfl, rfl, rfl, trivial⟩⟩, fun h1 => ?_⟩
    · simp at h2; omega
    · simp at h1; omega
  | false =>
    refine run_needs E0_ok (in_yes_p off n cs ty nx g (at5 off nx)) ⟨fun _ => ⟨fun h2 => ?_, fun _ => ⟨⟨h, trivial⟩, ⟨i1, i2, i3, i4, i5, trivial⟩, rfl, rfl, rfl, rfl, rfl, trivial⟩⟩, fun h1 => ?_⟩
    · simp at h2; omega
    · simp at h1; omega
theorem opK_same {kd : Nat} {x : Int} (hk : kd ≠ 0) (h : opOk kd x) (cs : Array Value) (p : Nat) : sameV (okB (insL (opK kd x) cs p) (.l true)) (okB (insL (.o x) cs p) (.l true)) := by
  match kd, h with
  | 1, h => exact ⟨h.symm, rfl, rfl, rfl, rfl, trivial⟩
  | 2, h => exact ⟨rfl, rfl, rfl, rfl, rfl, trivial⟩
  | k + 3, h => exact ⟨h.1.symm, rfl, rfl, rfl, rfl, trivial⟩
theorem insT_ok {kd : Nat} {m : SMem} {t : SV} {tr : Tree} (h : insT kd m t = some tr) : Con E0 30 [t] m tr := by
  unfold insT at h
  split at h
  case h_2 => cases h
  rename_i c nx g ht
  split at h
  case h_2 => cases h
  rename_i cs o n hr
  cases h
  cases kd with
  | zero => exact Con.task E0_ok fn19 body19 ht hr (by kernel_rfl) (fun v ty hq => ins_good_no (hq _ (by simp [isK]))) fun s m' R R' v h hv => sameV_ok h hv
  | succ k =>
    refine Con.task E0_ok (A := fun s m' => sA (okB (insL (.o (intAt cs (at5 o nx))) cs (at5 o nx)) (.l true)) s m' ∧ opOk (k + 1) (intAt cs (at5 o nx))) fn19 body19 ht hr (by kernel_rfl) (fun v ty hq => ?_) fun s m' R R' v h hv => ?_
    · obtain ⟨h1, h2, _, h4⟩ := isK_pos (by omega) hq
      exact (ins_good h1 h2).mono fun s m' hs => ⟨hs, h4⟩
    · exact sameV_ok (R' := R) (opK_same (by omega) h.2 cs (at5 o nx)) (sameV_ok (R' := R) h.1 hv)
theorem reg_good {v : Bool} {off n : Nat} {cs : Array Value} {ty : TypeId} {nx : Int} {g : Rg} {i : Int} (h : 0 ≤ i ∧ i < 8) : Good Try.prog (sA (.s (.c (cI .u64 (.o (g.at i.toNat)))))) 1 (regCk off n nx g i) (prM v cs ty) := by
  have e : (2 : Nat) + i.toNat * 1 - 2 = i.toNat := by omega
  cases v with
  | true =>
    refine run_needs E0_ok (rg_r off n cs ty nx g i (g.at i.toNat)) ⟨fun h1 => ?_, fun _ => ⟨⟨h, trivial⟩, ⟨⟨by omega, by omega⟩, trivial⟩, ?_, trivial⟩⟩
    · simp at h1; omega
    · rw [e]; rfl
  | false =>
    refine run_needs E0_ok (rg_p off n cs ty nx g i (g.at i.toNat)) ⟨fun h1 => ?_, fun _ => ⟨⟨h, trivial⟩, ⟨⟨by omega, by omega⟩, trivial⟩, ?_, trivial⟩⟩
    · simp at h1; omega
    · rw [e]; rfl
theorem Con.args {E : Env} {f : FuncId} {l l' : List SV} {m : SMem} {t : Tree} (h : Con E f l' m t) (hl : ∀ R vs, All2 (SV.ok R) l vs → All2 (SV.ok R) l' vs) : Con E f l m t := by
  intro A hs
  obtain ⟨fn, h1, h2, h3⟩ := h A hs
  exact ⟨fn, h1, h2, fun n0 F w0 w R args ha hR => h3 n0 F w0 w R args (hl R _ ha) hR⟩
theorem regT_ok {m : SMem} {t i : SV} {tr : Tree} (h : regT m t i = some tr) : Con E0 31 [t, i] m tr := by
  unfold regT at h
  split at h
  case h_2 => cases h
  rename_i c nx g i ht
  split at h
  case h_2 => cases h
  rename_i x hr
  obtain ⟨cs, o, n⟩ := x
  cases h
  refine Con.args (l' := [t, .s (.c (cI .u8 (.o i.den)))]) ?_ ?_
  · exact Con.task E0_ok fn20 body20 ht hr (by rfl) (fun v ty hq => reg_good (hq _ (by simp))) fun s m' R R' v h hv => sameV_ok h hv
  · intro R vs ha
    match vs, ha with
    | [a, b], ⟨h1, h2, _⟩ => exact ⟨h1, h2, trivial⟩
theorem conWk_ok (kd : Nat) (g : FuncId) (l : List SV) (m : SMem) (t : Tree) (h : conWk false kd g l m = some t) : Con E0 g l m t := by
  unfold conWk at h
  split at h
  · cases h; exact wakes_con m
  · exact insT_ok h
  · exact regT_ok h
  · cases h
  · cases h
theorem EWk_ok (kd : Nat) : EnvOk (EWk kd) := EnvOk.with E0_ok _ _ (conWk_ok kd)
end Go.Proofs.Ytpohnmafnpnmeaa
/- Of task: what is wanted, as propositions. No condition. -/
namespace Go.Proofs.Ytpohnmafnpnmeaa
set_option maxRecDepth 100000
theorem wt_r0 (off n : Nat) (cs : Array Value) (ty : TypeId) (nx : Int) (g : Rg) : (run (EWk 0) 1000 1 (wantC off n nx g) (prM true cs ty)).vc (sA (okB (call0 20) (.l true))) (fun _ _ => False) =
    (((↑n : Int) ≤ nx ∧ True) ∧ True) := by kernel_rfl
theorem wt_r1 (off n : Nat) (cs : Array Value) (ty : TypeId) (nx : Int) (g : Rg) : (run (EWk 1) 1000 1 (wantC off n nx g) (prM true cs ty)).vc (sA (okB (call0 20) (.l true))) (fun _ _ => False) =
    ((((0 : Int) ≤ nx ∧ nx < (↑n : Int)) ∧ InsAt cs (at5 off nx) ∧ in8 cs (at5 off nx) ∧ intAt cs (at5 off nx) = (0 : Int) ∧ True) ∧ True) := by kernel_rfl
theorem wt_r2 (off n : Nat) (cs : Array Value) (ty : TypeId) (nx : Int) (g : Rg) : (run (EWk 2) 1000 1 (wantC off n nx g) (prM true cs ty)).vc (sA (okB (callL g cs (at5 off nx)) (.l true))) (fun _ _ => False) =
    ((((0 : Int) ≤ nx ∧ nx < (↑n : Int)) ∧ InsAt cs (at5 off nx) ∧ in8 cs (at5 off nx) ∧ ((16 : Int) < intAt cs (at5 off nx) ∧ intAt cs (at5 off nx) ≤ (38 : Int)) ∧ True) ∧ (((match opK (2 : Nat) (intAt cs (at5 off nx)) with | SI.l n => n | SI.o n => n) == (0 : Int)) = true → ari BinOp.sub IntKind.u8 (intAt cs (at5 off nx)) (16 : Int) = (20 : Int) ∧ w32 (Rg.at g (Int.toNat (intAt cs (at5 off nx + 2)))) = (0 : Int) ∧ w32 (Rg.at g (Int.toNat (intAt cs (at5 off nx + 3)))) = (0 : Int) ∧ w32 (Rg.r6 g) = (0 : Int) ∧ w32 (intAt cs (at5 off nx + 4)) = (0 : Int) ∧ Rg.r5 g = (0 : Int) ∧ True) ∧ (((match opK (2 : Nat) (intAt cs (at5 off nx)) with | SI.l n => n | SI.o n => n) == (0 : Int)) = false → ((decide ((match opK (2 : Nat) (intAt cs (at5 off nx)) with | SI.l n => n | SI.o n => n) ≤ (16 : Int)) == false) = true → (decide ((match opK (2 : Nat) (intAt cs (at5 off nx)) with | SI.l n => n | SI.o n => n) > (38 : Int)) = true → False) ∧ (decide ((match opK (2 : Nat) (intAt cs (at5 off nx)) with | SI.l n => n | SI.o n => n) > (38 : Int)) = false → (((0 : Int) ≤ intAt cs (at5 off nx + 2) ∧ intAt cs (at5 off nx + 2) < (8 : Int)) ∧ True) ∧ (((0 : Int) ≤ intAt cs (at5 off nx + 3) ∧ intAt cs (at5 off nx + 3) < (8 : Int)) ∧ True) ∧ ari BinOp.sub IntKind.u8 (intAt cs (at5 off nx)) (16 : Int) = ari BinOp.sub IntKind.u8 (match opK (2 : Nat) (intAt cs (at5 off nx)) with | SI.l n => n | SI.o n => n) (16 : Int) ∧ w32 (Rg.at g (Int.toNat (intAt cs (at5 off nx + 2)))) = IntKind.wrap IntKind.u32 (Rg.at (Rg.mk (Rg.r0 g) (Rg.r1 g) (Rg.r2 g) (Rg.r3 g) (Rg.r4 g) (Rg.r5 g) (Rg.r6 g) (Rg.r7 g)) (Int.toNat (intAt cs (at5 off nx + 2)))) ∧ w32 (Rg.at g (Int.toNat (intAt cs (at5 off nx + 3)))) = IntKind.wrap IntKind.u32 (Rg.at (Rg.mk (Rg.r0 g) (Rg.r1 g) (Rg.r2 g) (Rg.r3 g) (Rg.r4 g) (Rg.r5 g) (Rg.r6 g) (Rg.r7 g)) (Int.toNat (intAt cs (at5 off nx + 3)))) ∧ w32 (Rg.r6 g) = IntKind.wrap IntKind.u32 (Rg.r6 g) ∧ w32 (intAt cs (at5 off nx + 4)) = IntKind.wrap IntKind.u32 (intAt cs (at5 off nx + 4)) ∧ Rg.r5 g = Rg.r5 g ∧ True)) ∧ ((decide ((match opK (2 : Nat) (intAt cs (at5 off nx)) with | SI.l n => n | SI.o n => n) ≤ (16 : Int)) == false) = false → False))) := by kernel_rfl
theorem wt_r3 (off n : Nat) (cs : Array Value) (ty : TypeId) (nx : Int) (g : Rg) : (run (EWk 3) 1000 1 (wantC off n nx g) (prM true cs ty)).vc (sA (okB (call0 0) (.l false))) (fun _ _ => False) =
    ((((0 : Int) ≤ nx ∧ nx < (↑n : Int)) ∧ InsAt cs (at5 off nx) ∧ in8 cs (at5 off nx) ∧ (intAt cs (at5 off nx) = (1 : Int) ∧ (0 : Int) < intAt cs (at5 off nx) ∧ intAt cs (at5 off nx) ≤ (6 : Int)) ∧ True) ∧ True) := by kernel_rfl
theorem wt_r4 (off n : Nat) (cs : Array Value) (ty : TypeId) (nx : Int) (g : Rg) : (run (EWk 4) 1000 1 (wantC off n nx g) (prM true cs ty)).vc (sA (okB (call0 0) (.l false))) (fun _ _ => False) =
    ((((0 : Int) ≤ nx ∧ nx < (↑n : Int)) ∧ InsAt cs (at5 off nx) ∧ in8 cs (at5 off nx) ∧ (intAt cs (at5 off nx) = (2 : Int) ∧ (0 : Int) < intAt cs (at5 off nx) ∧ intAt cs (at5 off nx) ≤ (6 : Int)) ∧ True) ∧ True) := by kernel_rfl
theorem wt_r5 (off n : Nat) (cs : Array Value) (ty : TypeId) (nx : Int) (g : Rg) : (run (EWk 5) 1000 1 (wantC off n nx g) (prM true cs ty)).vc (sA (okB (call0 0) (.l false))) (fun _ _ => False) =
    ((((0 : Int) ≤ nx ∧ nx < (↑n : Int)) ∧ InsAt cs (at5 off nx) ∧ in8 cs (at5 off nx) ∧ (intAt cs (at5 off nx) = (3 : Int) ∧ (0 : Int) < intAt cs (at5 off nx) ∧ intAt cs (at5 off nx) ≤ (6 : Int)) ∧ True) ∧ True) := by kernel_rfl
theorem wt_r6 (off n : Nat) (cs : Array Value) (ty : TypeId) (nx : Int) (g : Rg) : (run (EWk 6) 1000 1 (wantC off n nx g) (prM true cs ty)).vc (sA (okB (call0 0) (.l false))) (fun _ _ => False) =
    ((((0 : Int) ≤ nx ∧ nx < (↑n : Int)) ∧ InsAt cs (at5 off nx) ∧ in8 cs (at5 off nx) ∧ (intAt cs (at5 off nx) = (4 : Int) ∧ (0 : Int) < intAt cs (at5 off nx) ∧ intAt cs (at5 off nx) ≤ (6 : Int)) ∧ True) ∧ True) := by kernel_rfl
theorem wt_r7 (off n : Nat) (cs : Array Value) (ty : TypeId) (nx : Int) (g : Rg) : (run (EWk 7) 1000 1 (wantC off n nx g) (prM true cs ty)).vc (sA (okB (call0 0) (.l false))) (fun _ _ => False) =
    ((((0 : Int) ≤ nx ∧ nx < (↑n : Int)) ∧ InsAt cs (at5 off nx) ∧ in8 cs (at5 off nx) ∧ (intAt cs (at5 off nx) = (5 : Int) ∧ (0 : Int) < intAt cs (at5 off nx) ∧ intAt cs (at5 off nx) ≤ (6 : Int)) ∧ True) ∧ True) := by kernel_rfl
theorem wt_r8 (off n : Nat) (cs : Array Value) (ty : TypeId) (nx : Int) (g : Rg) : (run (EWk 8) 1000 1 (wantC off n nx g) (prM true cs ty)).vc (sA (okB (call0 0) (.l false))) (fun _ _ => False) =
    ((((0 : Int) ≤ nx ∧ nx < (↑n : Int)) ∧ InsAt cs (at5 off nx) ∧ in8 cs (at5 off nx) ∧ (intAt cs (at5 off nx) = (6 : Int) ∧ (0 : Int) < intAt cs (at5 off nx) ∧ intAt cs (at5 off nx) ≤ (6 : Int)) ∧ True) ∧ True) := by kernel_rfl
theorem wt_p0 (off n : Nat) (cs : Array Value) (ty : TypeId) (nx : Int) (g : Rg) : (run (EWk 0) 1000 1 (wantC off n nx g) (prM false cs ty)).vc (sA (okB (call0 20) (.l true))) (fun _ _ => False) =
    (((↑n : Int) ≤ nx ∧ True) ∧ True) := by kernel_rfl
theorem wt_p1 (off n : Nat) (cs : Array Value) (ty : TypeId) (nx : Int) (g : Rg) : (run (EWk 1) 1000 1 (wantC off n nx g) (prM false cs ty)).vc (sA (okB (call0 20) (.l true))) (fun _ _ => False) =
    ((((0 : Int) ≤ nx ∧ nx < (↑n : Int)) ∧ InsAt cs (at5 off nx) ∧ in8 cs (at5 off nx) ∧ intAt cs (at5 off nx) = (0 : Int) ∧ True) ∧ True) := by kernel_rfl
theorem wt_p2 (off n : Nat) (cs : Array Value) (ty : TypeId) (nx : Int) (g : Rg) : (run (EWk 2) 1000 1 (wantC off n nx g) (prM false cs ty)).vc (sA (okB (callL g cs (at5 off nx)) (.l true))) (fun _ _ => False) =
    ((((0 : Int) ≤ nx ∧ nx < (↑n : Int)) ∧ InsAt cs (at5 off nx) ∧ in8 cs (at5 off nx) ∧ ((16 : Int) < intAt cs (at5 off nx) ∧ intAt cs (at5 off nx) ≤ (38 : Int)) ∧ True) ∧ (((match opK (2 : Nat) (intAt cs (at5 off nx)) with | SI.l n => n | SI.o n => n) == (0 : Int)) = true → ari BinOp.sub IntKind.u8 (intAt cs (at5 off nx)) (16 : Int) = (20 : Int) ∧ w32 (Rg.at g (Int.toNat (intAt cs (at5 off nx + 2)))) = (0 : Int) ∧ w32 (Rg.at g (Int.toNat (intAt cs (at5 off nx + 3)))) = (0 : Int) ∧ w32 (Rg.r6 g) = (0 : Int) ∧ w32 (intAt cs (at5 off nx + 4)) = (0 : Int) ∧ Rg.r5 g = (0 : Int) ∧ True) ∧ (((match opK (2 : Nat) (intAt cs (at5 off nx)) with | SI.l n => n | SI.o n => n) == (0 : Int)) = false → ((decide ((match opK (2 : Nat) (intAt cs (at5 off nx)) with | SI.l n => n | SI.o n => n) ≤ (16 : Int)) == false) = true → (decide ((match opK (2 : Nat) (intAt cs (at5 off nx)) with | SI.l n => n | SI.o n => n) > (38 : Int)) = true → False) ∧ (decide ((match opK (2 : Nat) (intAt cs (at5 off nx)) with | SI.l n => n | SI.o n => n) > (38 : Int)) = false → (((0 : Int) ≤ intAt cs (at5 off nx + 2) ∧ intAt cs (at5 off nx + 2) < (8 : Int)) ∧ True) ∧ (((0 : Int) ≤ intAt cs (at5 off nx + 3) ∧ intAt cs (at5 off nx + 3) < (8 : Int)) ∧ True) ∧ ari BinOp.sub IntKind.u8 (intAt cs (at5 off nx)) (16 : Int) = ari BinOp.sub IntKind.u8 (match opK (2 : Nat) (intAt cs (at5 off nx)) with | SI.l n => n | SI.o n => n) (16 : Int) ∧ w32 (Rg.at g (Int.toNat (intAt cs (at5 off nx + 2)))) = IntKind.wrap IntKind.u32 (Rg.at (Rg.mk (Rg.r0 g) (Rg.r1 g) (Rg.r2 g) (Rg.r3 g) (Rg.r4 g) (Rg.r5 g) (Rg.r6 g) (Rg.r7 g)) (Int.toNat (intAt cs (at5 off nx + 2)))) ∧ w32 (Rg.at g (Int.toNat (intAt cs (at5 off nx + 3)))) = IntKind.wrap IntKind.u32 (Rg.at (Rg.mk (Rg.r0 g) (Rg.r1 g) (Rg.r2 g) (Rg.r3 g) (Rg.r4 g) (Rg.r5 g) (Rg.r6 g) (Rg.r7 g)) (Int.toNat (intAt cs (at5 off nx + 3)))) ∧ w32 (Rg.r6 g) = IntKind.wrap IntKind.u32 (Rg.r6 g) ∧ w32 (intAt cs (at5 off nx + 4)) = IntKind.wrap IntKind.u32 (intAt cs (at5 off nx + 4)) ∧ Rg.r5 g = Rg.r5 g ∧ True)) ∧ ((decide ((match opK (2 : Nat) (intAt cs (at5 off nx)) with | SI.l n => n | SI.o n => n) ≤ (16 : Int)) == false) = false → False))) := by kernel_rfl
theorem wt_p3 (off n : Nat) (cs : Array Value) (ty : TypeId) (nx : Int) (g : Rg) : (run (EWk 3) 1000 1 (wantC off n nx g) (prM false cs ty)).vc (sA (okB (call0 0) (.l false))) (fun _ _ => False) =
    ((((0 : Int) ≤ nx ∧ nx < (↑n : Int)) ∧ InsAt cs (at5 off nx) ∧ in8 cs (at5 off nx) ∧ (intAt cs (at5 off nx) = (1 : Int) ∧ (0 : Int) < intAt cs (at5 off nx) ∧ intAt cs (at5 off nx) ≤ (6 : Int)) ∧ True) ∧ True) := by kernel_rfl
theorem wt_p4 (off n : Nat) (cs : Array Value) (ty : TypeId) (nx : Int) (g : Rg) : (run (EWk 4) 1000 1 (wantC off n nx g) (prM false cs ty)).vc (sA (okB (call0 0) (.l false))) (fun _ _ => False) =
    ((((0 : Int) ≤ nx ∧ nx < (↑n : Int)) ∧ InsAt cs (at5 off nx) ∧ in8 cs (at5 off nx) ∧ (intAt cs (at5 off nx) = (2 : Int) ∧ (0 : Int) < intAt cs (at5 off nx) ∧ intAt cs (at5 off nx) ≤ (6 : Int)) ∧ True) ∧ True) := by kernel_rfl
theorem wt_p5 (off n : Nat) (cs : Array Value) (ty : TypeId) (nx : Int) (g : Rg) : (run (EWk 5) 1000 1 (wantC off n nx g) (prM false cs ty)).vc (sA (okB (call0 0) (.l false))) (fun _ _ => False) =
    ((((0 : Int) ≤ nx ∧ nx < (↑n : Int)) ∧ InsAt cs (at5 off nx) ∧ in8 cs (at5 off nx) ∧ (intAt cs (at5 off nx) = (3 : Int) ∧ (0 : Int) < intAt cs (at5 off nx) ∧ intAt cs (at5 off nx) ≤ (6 : Int)) ∧ True) ∧ True) := by kernel_rfl
theorem wt_p6 (off n : Nat) (cs : Array Value) (ty : TypeId) (nx : Int) (g : Rg) : (run (EWk 6) 1000 1 (wantC off n nx g) (prM false cs ty)).vc (sA (okB (call0 0) (.l false))) (fun _ _ => False) =
    ((((0 : Int) ≤ nx ∧ nx < (↑n : Int)) ∧ InsAt cs (at5 off nx) ∧ in8 cs (at5 off nx) ∧ (intAt cs (at5 off nx) = (4 : Int) ∧ (0 : Int) < intAt cs (at5 off nx) ∧ intAt cs (at5 off nx) ≤ (6 : Int)) ∧ True) ∧ True) := by kernel_rfl
theorem wt_p7 (off n : Nat) (cs : Array Value) (ty : TypeId) (nx : Int) (g : Rg) : (run (EWk 7) 1000 1 (wantC off n nx g) (prM false cs ty)).vc (sA (okB (call0 0) (.l false))) (fun _ _ => False) =
    ((((0 : Int) ≤ nx ∧ nx < (↑n : Int)) ∧ InsAt cs (at5 off nx) ∧ in8 cs (at5 off nx) ∧ (intAt cs (at5 off nx) = (5 : Int) ∧ (0 : Int) < intAt cs (at5 off nx) ∧ intAt cs (at5 off nx) ≤ (6 : Int)) ∧ True) ∧ True) := by kernel_rfl
theorem wt_p8 (off n : Nat) (cs : Array Value) (ty : TypeId) (nx : Int) (g : Rg) : (run (EWk 8) 1000 1 (wantC off n nx g) (prM false cs ty)).vc (sA (okB (call0 0) (.l false))) (fun _ _ => False) =
    ((((0 : Int) ≤ nx ∧ nx < (↑n : Int)) ∧ InsAt cs (at5 off nx) ∧ in8 cs (at5 off nx) ∧ (intAt cs (at5 off nx) = (6 : Int) ∧ (0 : Int) < intAt cs (at5 off nx) ∧ intAt cs (at5 off nx) ≤ (6 : Int)) ∧ True) ∧ True) := by kernel_rfl
end Go.Proofs.Ytpohnmafnpnmeaa
/- Of task: what is wanted, as a contract. No condition. -/
namespace Go.Proofs.Ytpohnmafnpnmeaa
set_option maxRecDepth 100000
theorem fn8 : E0.fn 15 = some Try.f15 := by kernel_rfl
theorem body8 : Try.f15.body = some (Try.f15.body.getD .skip) := by kernel_rfl
theorem want_0 {v : Bool} {o n : Nat} {cs : Array Value} {ty : TypeId} {nx : Int} {g : Rg} (hq : ∀ p ∈ isK 0 cs o n nx, p) : Good Try.prog (sA (okB (call0 20) (.l true))) 1 (wantC o n nx g) (prM v cs ty) := by
  have h : (n : Int) ≤ nx := hq _ (by simp [isK])
  cases v with
  | true => exact run_needs (EWk_ok 0) (wt_r0 o n cs ty nx g) ⟨⟨h, trivial⟩, trivial⟩
  | false => exact run_needs (EWk_ok 0) (wt_p0 o n cs ty nx g) ⟨⟨h, trivial⟩, trivial⟩
theorem want_1 {v : Bool} {o n : Nat} {cs : Array Value} {ty : TypeId} {nx : Int} {g : Rg} (hq : ∀ p ∈ isK 1 cs o n nx, p) : Good Try.prog (sA (okB (call0 20) (.l true))) 1 (wantC o n nx g) (prM v cs ty) := by
  obtain ⟨h1, h2, h3, h4⟩ := isK_pos (by decide) hq
  cases v with
  | true => exact run_needs (EWk_ok 1) (wt_r1 o n cs ty nx g) ⟨⟨h1, h2, h3, h4, trivial⟩, trivial⟩
  | false => exact run_needs (EWk_ok 1) (wt_p1 o n cs ty nx g) ⟨⟨h1, h2, h3, h4, trivial⟩, trivial⟩
theorem want_3 {v : Bool} {o n : Nat} {cs : Array Value} {ty : TypeId} {nx : Int} {g : Rg} (hq : ∀ p ∈ isK 3 cs o n nx, p) : Good Try.prog (sA (okB (call0 0) (.l false))) 1 (wantC o n nx g) (prM v cs ty) := by
  obtain ⟨h1, h2, h3, h4⟩ := isK_pos (by decide) hq
  cases v with
  | true => exact run_needs (EWk_ok 3) (wt_r3 o n cs ty nx g) ⟨⟨h1, h2, h3, h4, trivial⟩, trivial⟩
  | false => exact run_needs (EWk_ok 3) (wt_p3 o n cs ty nx g) ⟨⟨h1, h2, h3, h4, trivial⟩, trivial⟩
theorem want_4 {v : Bool} {o n : Nat} {cs : Array Value} {ty : TypeId} {nx : Int} {g : Rg} (hq : ∀ p ∈ isK 4 cs o n nx, p) : Good Try.prog (sA (okB (call0 0) (.l false))) 1 (wantC o n nx g) (prM v cs ty) := by
  obtain ⟨h1, h2, h3, h4⟩ := isK_pos (by decide) hq
  cases v with
  | true => exact run_needs (EWk_ok 4) (wt_r4 o n cs ty nx g) ⟨⟨h1, h2, h3, h4, trivial⟩, trivial⟩
  | false => exact run_needs (EWk_ok 4) (wt_p4 o n cs ty nx g) ⟨⟨h1, h2, h3, h4, trivial⟩, trivial⟩
theorem want_5 {v : Bool} {o n : Nat} {cs : Array Value} {ty : TypeId} {nx : Int} {g : Rg} (hq : ∀ p ∈ isK 5 cs o n nx, p) : Good Try.prog (sA (okB (call0 0) (.l false))) 1 (wantC o n nx g) (prM v cs ty) := by
  obtain ⟨h1, h2, h3, h4⟩ := isK_pos (by decide) hq
  cases v with
  | true => exact run_needs (EWk_ok 5) (wt_r5 o n cs ty nx g) ⟨⟨h1, h2, h3, h4, trivial⟩, trivial⟩
  | false => exact run_needs (EWk_ok 5) (wt_p5 o n cs ty nx g) ⟨⟨h1, h2, h3, h4, trivial⟩, trivial⟩
theorem want_6 {v : Bool} {o n : Nat} {cs : Array Value} {ty : TypeId} {nx : Int} {g : Rg} (hq : ∀ p ∈ isK 6 cs o n nx, p) : Good Try.prog (sA (okB (call0 0) (.l false))) 1 (wantC o n nx g) (prM v cs ty) := by
  obtain ⟨h1, h2, h3, h4⟩ := isK_pos (by decide) hq
  cases v with
  | true => exact run_needs (EWk_ok 6) (wt_r6 o n cs ty nx g) ⟨⟨h1, h2, h3, h4, trivial⟩, trivial⟩
  | false => exact run_needs (EWk_ok 6) (wt_p6 o n cs ty nx g) ⟨⟨h1, h2, h3, h4, trivial⟩, trivial⟩
theorem want_7 {v : Bool} {o n : Nat} {cs : Array Value} {ty : TypeId} {nx : Int} {g : Rg} (hq : ∀ p ∈ isK 7 cs o n nx, p) : Good Try.prog (sA (okB (call0 0) (.l false))) 1 (wantC o n nx g) (prM v cs ty) := by
  obtain ⟨h1, h2, h3, h4⟩ := isK_pos (by decide) hq
  cases v with
  | true => exact run_needs (EWk_ok 7) (wt_r7 o n cs ty nx g) ⟨⟨h1, h2, h3, h4, trivial⟩, trivial⟩
  | false => exact run_needs (EWk_ok 7) (wt_p7 o n cs ty nx g) ⟨⟨h1, h2, h3, h4, trivial⟩, trivial⟩
theorem want_8 {v : Bool} {o n : Nat} {cs : Array Value} {ty : TypeId} {nx : Int} {g : Rg} (hq : ∀ p ∈ isK 8 cs o n nx, p) : Good Try.prog (sA (okB (call0 0) (.l false))) 1 (wantC o n nx g) (prM v cs ty) := by
  obtain ⟨h1, h2, h3, h4⟩ := isK_pos (by decide) hq
  cases v with
  | true => exact run_needs (EWk_ok 8) (wt_r8 o n cs ty nx g) ⟨⟨h1, h2, h3, h4, trivial⟩, trivial⟩
  | false => exact run_needs (EWk_ok 8) (wt_p8 o n cs ty nx g) ⟨⟨h1, h2, h3, h4, trivial⟩, trivial⟩
theorem want_2 {v : Bool} {o n : Nat} {cs : Array Value} {ty : TypeId} {nx : Int} {g : Rg} (hq : ∀ p ∈ isK 2 cs o n nx, p) : Good Try.prog (sA (okB (callL g cs (at5 o nx)) (.l true))) 1 (wantC o n nx g) (prM v cs ty) := by
  obtain ⟨h1, h2, h3, h4⟩ := isK_pos (by decide) hq
  have no1 : (intAt cs (at5 o nx) == 0) = true → False := fun h => by have := eq_of_beq h; have h4 : 16 < intAt cs (at5 o nx) ∧ intAt cs (at5 o nx) ≤ 38 := h4; omega
  have no2 : decide (intAt cs (at5 o nx) > 38) = true → False := fun h => by have := of_decide_eq_true h; have h4 : 16 < intAt cs (at5 o nx) ∧ intAt cs (at5 o nx) ≤ 38 := h4; omega
  have no3 : (decide (intAt cs (at5 o nx) ≤ 16) == false) = false → False := fun h => by simp at h; have h4 : 16 < intAt cs (at5 o nx) ∧ intAt cs (at5 o nx) ≤ 38 := h4; omega
  cases v with
  | true =>
    refine run_needs (EWk_ok 2) (wt_r2 o n cs ty nx g) ⟨⟨h1, h2, h3, h4, trivial⟩, ⟨fun h => ?_, fun _ => ⟨fun _ => ⟨fun h => ?_, fun _ => ⟨⟨h3.2.1, trivial⟩, ⟨h3.2.2.1, trivial⟩, rfl, rfl, rfl, rfl, rfl, rfl, trivial⟩⟩, fun h => ?_⟩⟩⟩
    · exact (no1 h).elim
    · exact (no2 h).elim
    · exact (no3 h).elim
  | false =>
    refine run_needs (EWk_ok 2) (wt_p2 o n cs ty nx g) ⟨⟨h1, h2, h3, h4, trivial⟩, ⟨fun h => ?_, fun _ => ⟨fun _ => ⟨fun h => ?_, fun _ => ⟨⟨h3.2.1, trivial⟩, ⟨h3.2.2.1, trivial⟩, rfl, rfl, rfl, rfl, rfl, rfl, trivial⟩⟩, fun h => ?_⟩⟩⟩
    · exact (no1 h).elim
    · exact (no2 h).elim
    · exact (no3 h).elim
theorem wantT_ok {kd : Nat} {m : SMem} {t : SV} {tr : Tree} (h : wantT kd m t = some tr) : Con E0 15 [t] m tr := by
  unfold wantT at h
  split at h
  case h_2 => cases h
  rename_i c nx g ht
  split at h
  case h_2 => cases h
  rename_i cs o n hr
  cases h
  match kd with
  | 0 => exact Con.task E0_ok fn8 body8 ht hr (by rfl) (fun v ty hq => want_0 hq) fun s m' R R' v h hv => sameV_ok h hv
  | 1 => exact Con.task E0_ok fn8 body8 ht hr (by rfl) (fun v ty hq => want_1 hq) fun s m' R R' v h hv => sameV_ok h hv
  | 2 => exact Con.task E0_ok fn8 body8 ht hr (by rfl) (fun v ty hq => want_2 hq) fun s m' R R' v h hv => sameV_ok h hv
  | 3 => exact Con.task E0_ok fn8 body8 ht hr (by rfl) (fun v ty hq => want_3 hq) fun s m' R R' v h hv => sameV_ok h hv
  | 4 => exact Con.task E0_ok fn8 body8 ht hr (by rfl) (fun v ty hq => want_4 hq) fun s m' R R' v h hv => sameV_ok h hv
  | 5 => exact Con.task E0_ok fn8 body8 ht hr (by rfl) (fun v ty hq => want_5 hq) fun s m' R R' v h hv => sameV_ok h hv
  | 6 => exact Con.task E0_ok fn8 body8 ht hr (by rfl) (fun v ty hq => want_6 hq) fun s m' R R' v h hv => sameV_ok h hv
  | 7 => exact Con.task E0_ok fn8 body8 ht hr (by rfl) (fun v ty hq => want_7 hq) fun s m' R R' v h hv => sameV_ok h hv
  | 8 => exact Con.task E0_ok fn8 body8 ht hr (by rfl) (fun v ty hq => want_8 hq) fun s m' R R' v h hv => sameV_ok h hv
  | k + 9 =>
    intro A hs
    obtain ⟨hq, _⟩ := Tree.sat_needs hs
    obtain ⟨_, _, _, h4⟩ := isK_pos (by omega) hq
    have h4 : intAt cs (at5 o nx) = ((k + 9 - 2 : Nat) : Int) ∧ 0 < intAt cs (at5 o nx) ∧ intAt cs (at5 o nx) ≤ 6 := h4
    omega
noncomputable section
def conK (kd : Nat) (g : FuncId) (l : List SV) (m : SMem) : Option Tree := match g, l with
  | 6, [] => some (needs [] (.ret (sB (.l true)) m))
  | 35, [x] => decT m x
  | 30, [t] => insT kd m t
  | 31, [t, i] => regT m t i
  | 15, [t] => wantT kd m t
  | _, _ => none
end
theorem conK_ok (kd : Nat) (g : FuncId) (l : List SV) (m : SMem) (t : Tree) (h : conK kd g l m = some t) : Con E0 g l m t := by
  unfold conK at h
  split at h
  · cases h; exact wakes_con m
  · exact decT_ok h
  · exact insT_ok h
  · exact regT_ok h
  · exact wantT_ok h
  · cases h
end Go.Proofs.Ytpohnmafnpnmeaa
/- Of flow: from: its recursion's states. No condition. -/
namespace Go.Proofs.Ytpohnmafnpnmeaa
noncomputable section
def pt (i : Nat) : SV := ptr i (.l 0)
def prS' (off n : Nat) : SC := .f (.slice 0 (.o off) (.o n) .any)
def mtBl (cs : Array Value) (ty : TypeId) (off n : Nat) (shut : Int) (ws : SA) : List (Nat × SBlk) :=
  [(0, ⟨.raw cs, ty, false⟩), (1, ⟨.ls [prS' off n], 22, true⟩), (2, ⟨.ls [.f (.int .i64 (.o shut))], 3, true⟩), (4, ⟨ws, 68, true⟩), (5, ⟨.ls [.fn (.func 49) [] [.ptr 2 (.l 0), .ptr 4 (.l 0), .ptr 1 (.l 0), .ptr 5 (.l 0)]], 97, true⟩)]
def mtM (cs : Array Value) (ty : TypeId) (off n : Nat) (shut : Int) (ws : SA) : SMem := mkM 6 (mtBl cs ty off n shut ws)
abbrev FM := Array Value → Nat → Nat → Int → Int → Array Value → Array Value
abbrev FP := Array Value → Nat → Nat → Int → Int → Array Value → Prop
def isPt (k : Nat) (x : SV) : Bool := match x with
  | .s (.c (.f (.ptr i (.l o)))) => Nat.beq i k && Nat.beq o 0
  | _ => false
def rd0 (b : Option SBlk) : Option (Array Value × TypeId) := match b with
  | some ⟨.raw cs, ty, false⟩ => some (cs, ty)
  | _ => none
def rd1 (b : Option SBlk) : Option (Nat × Nat) := match b with
  | some ⟨.ls [.f (.slice i (.o off) (.o n) .any)], ty, true⟩ => match Nat.beq i 0 && Nat.beq ty 22 with
    | true => some (off, n)
    | false => none
  | _ => none
def rd2 (b : Option SBlk) : Option Int := match b with
  | some ⟨.ls [.f (.int .i64 (.o s))], ty, true⟩ => match Nat.beq ty 3 with
    | true => some s
    | false => none
  | _ => none
def rowX (a : SA) : Option (Array Value) := match a with
  | .op cs => some cs
  | .ls l => match plains l with
    | some vs => some vs.toArray
    | none => none
  | _ => none
def rd4 (b : Option SBlk) : Option (Array Value) := match b with
  | some ⟨w, ty, true⟩ => match Nat.beq ty 68 with
    | true => rowX w
    | false => none
  | _ => none
def isP (k : Nat) (x : SF) : Bool := match x with
  | .ptr i (.l o) => Nat.beq i k && Nat.beq o 0
  | _ => false
def rd5 (b : Option SBlk) : Bool := match b with
  | some ⟨.ls [.fn (.func g) [] [a, b, c, d]], ty, true⟩ => Nat.beq g 49 && (Nat.beq ty 97 && (isP 2 a && (isP 4 b && (isP 1 c && isP 5 d))))
  | _ => false
def out4 (M : FM) (cs : Array Value) (ty : TypeId) (off n : Nat) (s a : Int) (ws : Array Value) (m : SMem) : SMem := ⟨m.next, insB (lsT (mtM cs ty off n s (.op (M cs off n s a ws))).bl (mtM cs ty off n s (.op (M cs off n s a ws))).bl.keys) m.bl, m.xs⟩
def arg41 (l : List SV) : Option Int := match l with
  | [.s (.c (.f (.int .i64 a))), p, q, r, t] => match isPt 2 p && (isPt 4 q && (isPt 1 r && isPt 5 t)) with
    | true => some a.den
    | false => none
  | _ => none
def conMt (M : FM) (P : FP) (g : FuncId) (l : List SV) (m : SMem) : Option Tree :=
  match Nat.beq g 49 && (Nat.ble 6 m.next && rd5 (getB m.bl 5)), arg41 l, rd0 (getB m.bl 0), rd1 (getB m.bl 1), rd2 (getB m.bl 2), rd4 (getB m.bl 4) with
  | true, some a, some (cs, ty), some (off, n), some s, some ws => some (.need [P cs off n s a ws] (.ret (.tup []) (out4 M cs ty off n s a ws m)))
  | _, _, _, _, _, _ => none
def EMt (M : FM) (P : FP) : Env := ⟨Try.prog, fnOf, conMt M P, fun _ _ _ => false⟩
def mtC (a : Int) : List SFr := [callFr 49 Try.f49.ntmps [i64 (.o a), pt 2, pt 4, pt 1, pt 5] (Try.f49.body.getD .skip)]
def fromC (off n : Nat) (a s : Int) : List SFr := [callFr 32 Try.f32.ntmps [prS off n, i64 (.o a), i64 (.o s)] (Try.f32.body.getD .skip)]
end
end Go.Proofs.Ytpohnmafnpnmeaa
/- Of flow: from: what it does, as propositions. No condition. -/
namespace Go.Proofs.Ytpohnmafnpnmeaa
set_option maxRecDepth 100000
theorem mt_vc (M : FM) (P : FP) (cs : Array Value) (ty : TypeId) (off n : Nat) (shut a : Int) (ws rs : Array Value) : (run (EMt M P) 4000 6 (mtC a) (mtM cs ty off n shut (.op ws))).vc (retOk 6 [] (.tup []) (mtM cs ty off n shut (.op rs))) (fun _ _ => False) =
    ((((a == shut) == false) = true → (Array.size ws = (2 : Nat) ∧ True) ∧ (((0 : Int) ≤ ari BinOp.quo IntKind.i64 a (64 : Int) ∧ ari BinOp.quo IntKind.i64 a (64 : Int) < (2 : Int)) ∧ True) ∧ (IsInt IntKind.u64 ws ((0 : Nat) + Int.toNat (ari BinOp.quo IntKind.i64 a (64 : Int)) * (1 : Nat)) ∧ True) ∧ ((0 : Int) ≤ ari BinOp.rem IntKind.i64 a (64 : Int) ∧ True) ∧ ((ari BinOp.and IntKind.u64 (ari BinOp.shr IntKind.u64 (intAt ws ((0 : Nat) + Int.toNat (ari BinOp.quo IntKind.i64 a (64 : Int)) * (1 : Nat))) (ari BinOp.rem IntKind.i64 a (64 : Int))) (1 : Int) == (1 : Int)) = true → ty = ty ∧ cs = cs ∧ (22 : TypeId) = (22 : TypeId) ∧ off = off ∧ n = n ∧ (97 : TypeId) = (97 : TypeId) ∧ Fn.func (49 : Nat) = Fn.func (49 : Nat) ∧ (3 : TypeId) = (3 : TypeId) ∧ shut = shut ∧ (68 : TypeId) = (68 : TypeId) ∧ rs = ws ∧ True) ∧ ((ari BinOp.and IntKind.u64 (ari BinOp.shr IntKind.u64 (intAt ws ((0 : Nat) + Int.toNat (ari BinOp.quo IntKind.i64 a (64 : Int)) * (1 : Nat))) (ari BinOp.rem IntKind.i64 a (64 : Int))) (1 : Int) == (1 : Int)) = false → (((0 : Int) ≤ ari BinOp.quo IntKind.i64 a (64 : Int) ∧ ari BinOp.quo IntKind.i64 a (64 : Int) < (2 : Int)) ∧ True) ∧ (IsInt IntKind.u64 ws ((0 : Nat) + Int.toNat (ari BinOp.quo IntKind.i64 a (64 : Int)) * (1 : Nat)) ∧ True) ∧ ((0 : Int) ≤ ari BinOp.rem IntKind.i64 a (64 : Int) ∧ True) ∧ (((0 : Int) ≤ ari BinOp.quo IntKind.i64 a (64 : Int) ∧ ari BinOp.quo IntKind.i64 a (64 : Int) < (2 : Int)) ∧ True) ∧ ((0 : Nat) + Int.toNat (ari BinOp.quo IntKind.i64 a (64 : Int)) * (1 : Nat) < Array.size ws ∧ True) ∧ ((decide (a < (0 : Int)) == false) = true → (decide (a ≥ (↑n : Int)) = true → ty = ty ∧ cs = cs ∧ (22 : TypeId) = (22 : TypeId) ∧ off = off ∧ n = n ∧ (97 : TypeId) = (97 : TypeId) ∧ Fn.func (49 : Nat) = Fn.func (49 : Nat) ∧ (3 : TypeId) = (3 : TypeId) ∧ shut = shut ∧ (68 : TypeId) = (68 : TypeId) ∧ rs = Array.setIfInBounds ws ((0 : Nat) + Int.toNat (ari BinOp.quo IntKind.i64 a (64 : Int)) * (1 : Nat)) (Value.int IntKind.u64 (ari BinOp.or IntKind.u64 (intAt ws ((0 : Nat) + Int.toNat (ari BinOp.quo IntKind.i64 a (64 : Int)) * (1 : Nat))) (ari BinOp.shl IntKind.u64 (1 : Int) (ari BinOp.rem IntKind.i64 a (64 : Int))))) ∧ True) ∧ (decide (a ≥ (↑n : Int)) = false → (((0 : Int) ≤ a ∧ a < (↑n : Int)) ∧ True) ∧ (IsInt IntKind.u16 cs (off + Int.toNat a * (5 : Nat) + 4) ∧ True) ∧ (((0 : Int) ≤ a ∧ a < (↑n : Int)) ∧ True) ∧ (IsInt IntKind.u8 cs (off + Int.toNat a * (5 : Nat)) ∧ True) ∧ ((intAt cs (off + Int.toNat a * (5 : Nat)) == (0 : Int)) = true → ty = ty ∧ cs = cs ∧ (22 : TypeId) = (22 : TypeId) ∧ off = off ∧ n = n ∧ (97 : TypeId) = (97 : TypeId) ∧ Fn.func (49 : Nat) = Fn.func (49 : Nat) ∧ (3 : TypeId) = (3 : TypeId) ∧ shut = shut ∧ (68 : TypeId) = (68 : TypeId) ∧ rs = Array.setIfInBounds ws ((0 : Nat) + Int.toNat (ari BinOp.quo IntKind.i64 a (64 : Int)) * (1 : Nat)) (Value.int IntKind.u64 (ari BinOp.or IntKind.u64 (intAt ws ((0 : Nat) + Int.toNat (ari BinOp.quo IntKind.i64 a (64 : Int)) * (1 : Nat))) (ari BinOp.shl IntKind.u64 (1 : Int) (ari BinOp.rem IntKind.i64 a (64 : Int))))) ∧ True) ∧ ((intAt cs (off + Int.toNat a * (5 : Nat)) == (0 : Int)) = false → ((intAt cs (off + Int.toNat a * (5 : Nat)) == (5 : Int)) = true → (P cs off n shut (IntKind.wrap IntKind.i64 (intAt cs (off + Int.toNat a * (5 : Nat) + 4))) (Array.setIfInBounds ws ((0 : Nat) + Int.toNat (ari BinOp.quo IntKind.i64 a (64 : Int)) * (1 : Nat)) (Value.int IntKind.u64 (ari BinOp.or IntKind.u64 (intAt ws ((0 : Nat) + Int.toNat (ari BinOp.quo IntKind.i64 a (64 : Int)) * (1 : Nat))) (ari BinOp.shl IntKind.u64 (1 : Int) (ari BinOp.rem IntKind.i64 a (64 : Int)))))) ∧ True) ∧ ty = ty ∧ cs = cs ∧ (22 : TypeId) = (22 : TypeId) ∧ off = off ∧ n = n ∧ (97 : TypeId) = (97 : TypeId) ∧ Fn.func (49 : Nat) = Fn.func (49 : Nat) ∧ (3 : TypeId) = (3 : TypeId) ∧ shut = shut ∧ (68 : TypeId) = (68 : TypeId) ∧ rs = M cs off n shut (IntKind.wrap IntKind.i64 (intAt cs (off + Int.toNat a * (5 : Nat) + 4))) (Array.setIfInBounds ws ((0 : Nat) + Int.toNat (ari BinOp.quo IntKind.i64 a (64 : Int)) * (1 : Nat)) (Value.int IntKind.u64 (ari BinOp.or IntKind.u64 (intAt ws ((0 : Nat) + Int.toNat (ari BinOp.quo IntKind.i64 a (64 : Int)) * (1 : Nat))) (ari BinOp.shl IntKind.u64 (1 : Int) (ari BinOp.rem IntKind.i64 a (64 : Int)))))) ∧ True) ∧ ((intAt cs (off + Int.toNat a * (5 : Nat)) == (5 : Int)) = false → ((intAt cs (off + Int.toNat a * (5 : Nat)) == (6 : Int)) = true → (((if ari BinOp.add IntKind.i64 a (1 : Int) > IntKind.wrap IntKind.i64 (intAt cs (off + Int.toNat a * (5 : Nat) + 4)) then ari BinOp.add IntKind.i64 a (1 : Int) else IntKind.wrap IntKind.i64 (intAt cs (off + Int.toNat a * (5 : Nat) + 4))) == if ari BinOp.add IntKind.i64 a (1 : Int) < IntKind.wrap IntKind.i64 (intAt cs (off + Int.toNat a * (5 : Nat) + 4)) then ari BinOp.add IntKind.i64 a (1 : Int) else IntKind.wrap IntKind.i64 (intAt cs (off + Int.toNat a * (5 : Nat) + 4))) = true → (P cs off n shut (if ari BinOp.add IntKind.i64 a (1 : Int) < IntKind.wrap IntKind.i64 (intAt cs (off + Int.toNat a * (5 : Nat) + 4)) then ari BinOp.add IntKind.i64 a (1 : Int) else IntKind.wrap IntKind.i64 (intAt cs (off + Int.toNat a * (5 : Nat) + 4))) (Array.setIfInBounds ws ((0 : Nat) + Int.toNat (ari BinOp.quo IntKind.i64 a (64 : Int)) * (1 : Nat)) (Value.int IntKind.u64 (ari BinOp.or IntKind.u64 (intAt ws ((0 : Nat) + Int.toNat (ari BinOp.quo IntKind.i64 a (64 : Int)) * (1 : Nat))) (ari BinOp.shl IntKind.u64 (1 : Int) (ari BinOp.rem IntKind.i64 a (64 : Int)))))) ∧ True) ∧ ty = ty ∧ cs = cs ∧ (22 : TypeId) = (22 : TypeId) ∧ off = off ∧ n = n ∧ (97 : TypeId) = (97 : TypeId) ∧ Fn.func (49 : Nat) = Fn.func (49 : Nat) ∧ (3 : TypeId) = (3 : TypeId) ∧ shut = shut ∧ (68 : TypeId) = (68 : TypeId) ∧ rs = M cs off n shut (if ari BinOp.add IntKind.i64 a (1 : Int) < IntKind.wrap IntKind.i64 (intAt cs (off + Int.toNat a * (5 : Nat) + 4)) then ari BinOp.add IntKind.i64 a (1 : Int) else IntKind.wrap IntKind.i64 (intAt cs (off + Int.toNat a * (5 : Nat) + 4))) (Array.setIfInBounds ws ((0 : Nat) + Int.toNat (ari BinOp.quo IntKind.i64 a (64 : Int)) * (1 : Nat)) (Value.int IntKind.u64 (ari BinOp.or IntKind.u64 (intAt ws ((0 : Nat) + Int.toNat (ari BinOp.quo IntKind.i64 a (64 : Int)) * (1 : Nat))) (ari BinOp.shl IntKind.u64 (1 : Int) (ari BinOp.rem IntKind.i64 a (64 : Int)))))) ∧ True) ∧ (((if ari BinOp.add IntKind.i64 a (1 : Int) > IntKind.wrap IntKind.i64 (intAt cs (off + Int.toNat a * (5 : Nat) + 4)) then ari BinOp.add IntKind.i64 a (1 : Int) else IntKind.wrap IntKind.i64 (intAt cs (off + Int.toNat a * (5 : Nat) + 4))) == if ari BinOp.add IntKind.i64 a (1 : Int) < IntKind.wrap IntKind.i64 (intAt cs (off + Int.toNat a * (5 : Nat) + 4)) then ari BinOp.add IntKind.i64 a (1 : Int) else IntKind.wrap IntKind.i64 (intAt cs (off + Int.toNat a * (5 : Nat) + 4))) = false → (P cs off n shut (if ari BinOp.add IntKind.i64 a (1 : Int) < IntKind.wrap IntKind.i64 (intAt cs (off + Int.toNat a * (5 : Nat) + 4)) then ari BinOp.add IntKind.i64 a (1 : Int) else IntKind.wrap IntKind.i64 (intAt cs (off + Int.toNat a * (5 : Nat) + 4))) (Array.setIfInBounds ws ((0 : Nat) + Int.toNat (ari BinOp.quo IntKind.i64 a (64 : Int)) * (1 : Nat)) (Value.int IntKind.u64 (ari BinOp.or IntKind.u64 (intAt ws ((0 : Nat) + Int.toNat (ari BinOp.quo IntKind.i64 a (64 : Int)) * (1 : Nat))) (ari BinOp.shl IntKind.u64 (1 : Int) (ari BinOp.rem IntKind.i64 a (64 : Int)))))) ∧ True) ∧ (P cs off n shut (if ari BinOp.add IntKind.i64 a (1 : Int) > IntKind.wrap IntKind.i64 (intAt cs (off + Int.toNat a * (5 : Nat) + 4)) then ari BinOp.add IntKind.i64 a (1 : Int) else IntKind.wrap IntKind.i64 (intAt cs (off + Int.toNat a * (5 : Nat) + 4))) (M cs off n shut (if ari BinOp.add IntKind.i64 a (1 : Int) < IntKind.wrap IntKind.i64 (intAt cs (off + Int.toNat a * (5 : Nat) + 4)) then ari BinOp.add IntKind.i64 a (1 : Int) else IntKind.wrap IntKind.i64 (intAt cs (off + Int.toNat a * (5 : Nat) + 4))) (Array.setIfInBounds ws ((0 : Nat) + Int.toNat (ari BinOp.quo IntKind.i64 a (64 : Int)) * (1 : Nat)) (Value.int IntKind.u64 (ari BinOp.or IntKind.u64 (intAt ws ((0 : Nat) + Int.toNat (ari BinOp.quo IntKind.i64 a (64 : Int)) * (1 : Nat))) (ari BinOp.shl IntKind.u64 (1 : Int) (ari BinOp.rem IntKind.i64 a (64 : Int))))))) ∧ True) ∧ ty = ty ∧ cs = cs ∧ (22 : TypeId) = (22 : TypeId) ∧ off = off ∧ n = n ∧ (97 : TypeId) = (97 : TypeId) ∧ Fn.func (49 : Nat) = Fn.func (49 : Nat) ∧ (3 : TypeId) = (3 : TypeId) ∧ shut = shut ∧ (68 : TypeId) = (68 : TypeId) ∧ rs = M cs off n shut (if ari BinOp.add IntKind.i64 a (1 : Int) > IntKind.wrap IntKind.i64 (intAt cs (off + Int.toNat a * (5 : Nat) + 4)) then ari BinOp.add IntKind.i64 a (1 : Int) else IntKind.wrap IntKind.i64 (intAt cs (off + Int.toNat a * (5 : Nat) + 4))) (M cs off n shut (if ari BinOp.add IntKind.i64 a (1 : Int) < IntKind.wrap IntKind.i64 (intAt cs (off + Int.toNat a * (5 : Nat) + 4)) then ari BinOp.add IntKind.i64 a (1 : Int) else IntKind.wrap IntKind.i64 (intAt cs (off + Int.toNat a * (5 : Nat) + 4))) (Array.setIfInBounds ws ((0 : Nat) + Int.toNat (ari BinOp.quo IntKind.i64 a (64 : Int)) * (1 : Nat)) (Value.int IntKind.u64 (ari BinOp.or IntKind.u64 (intAt ws ((0 : Nat) + Int.toNat (ari BinOp.quo IntKind.i64 a (64 : Int)) * (1 : Nat))) (ari BinOp.shl IntKind.u64 (1 : Int) (ari BinOp.rem IntKind.i64 a (64 : Int))))))) ∧ True)) ∧ ((intAt cs (off + Int.toNat a * (5 : Nat)) == (6 : Int)) = false → (P cs off n shut (ari BinOp.add IntKind.i64 a (1 : Int)) (Array.setIfInBounds ws ((0 : Nat) + Int.toNat (ari BinOp.quo IntKind.i64 a (64 : Int)) * (1 : Nat)) (Value.int IntKind.u64 (ari BinOp.or IntKind.u64 (intAt ws ((0 : Nat) + Int.toNat (ari BinOp.quo IntKind.i64 a (64 : Int)) * (1 : Nat))) (ari BinOp.shl IntKind.u64 (1 : Int) (ari BinOp.rem IntKind.i64 a (64 : Int)))))) ∧ True) ∧ ty = ty ∧ cs = cs ∧ (22 : TypeId) = (22 : TypeId) ∧ off = off ∧ n = n ∧ (97 : TypeId) = (97 : TypeId) ∧ Fn.func (49 : Nat) = Fn.func (49 : Nat) ∧ (3 : TypeId) = (3 : TypeId) ∧ shut = shut ∧ (68 : TypeId) = (68 : TypeId) ∧ rs = M cs off n shut (ari BinOp.add IntKind.i64 a (1 : Int)) (Array.setIfInBounds ws ((0 : Nat) + Int.toNat (ari BinOp.quo IntKind.i64 a (64 : Int)) * (1 : Nat)) (Value.int IntKind.u64 (ari BinOp.or IntKind.u64 (intAt ws ((0 : Nat) + Int.toNat (ari BinOp.quo IntKind.i64 a (64 : Int)) * (1 : Nat))) (ari BinOp.shl IntKind.u64 (1 : Int) (ari BinOp.rem IntKind.i64 a (64 : Int)))))) ∧ True))))) ∧ ((decide (a < (0 : Int)) == false) = false → ty = ty ∧ cs = cs ∧ (22 : TypeId) = (22 : TypeId) ∧ off = off ∧ n = n ∧ (97 : TypeId) = (97 : TypeId) ∧ Fn.func (49 : Nat) = Fn.func (49 : Nat) ∧ (3 : TypeId) = (3 : TypeId) ∧ shut = shut ∧ (68 : TypeId) = (68 : TypeId) ∧ rs = Array.setIfInBounds ws ((0 : Nat) + Int.toNat (ari BinOp.quo IntKind.i64 a (64 : Int)) * (1 : Nat)) (Value.int IntKind.u64 (ari BinOp.or IntKind.u64 (intAt ws ((0 : Nat) + Int.toNat (ari BinOp.quo IntKind.i64 a (64 : Int)) * (1 : Nat))) (ari BinOp.shl IntKind.u64 (1 : Int) (ari BinOp.rem IntKind.i64 a (64 : Int))))) ∧ True))) ∧ (((a == shut) == false) = false → ty = ty ∧ cs = cs ∧ (22 : TypeId) = (22 : TypeId) ∧ off = off ∧ n = n ∧ (97 : TypeId) = (97 : TypeId) ∧ Fn.func (49 : Nat) = Fn.func (49 : Nat) ∧ (3 : TypeId) = (3 : TypeId) ∧ shut = shut ∧ (68 : TypeId) = (68 : TypeId) ∧ rs = ws ∧ True)) := by kernel_rfl
theorem from_vc (M : FM) (P : FP) (cs : Array Value) (ty : TypeId) (off n : Nat) (a s : Int) (rs : Array Value) : (run (EMt M P) 4000 1 (fromC off n a s) (mkM 1 [(0, ⟨.raw cs, ty, false⟩)])).vc (retOk 1 [] (agg rs) (mkM 1 [(0, ⟨.raw cs, ty, false⟩)])) (fun _ _ => False) =
    ((P cs off n s a #[Value.int IntKind.u64 (0 : Int), Value.int IntKind.u64 (0 : Int)] ∧ True) ∧ (Array.size (M cs off n s a #[Value.int IntKind.u64 (0 : Int), Value.int IntKind.u64 (0 : Int)]) = (2 : Nat) ∧ True) ∧ (Array.size (M cs off n s a #[Value.int IntKind.u64 (0 : Int), Value.int IntKind.u64 (0 : Int)]) = (2 : Nat) ∧ Array.size (M cs off n s a #[Value.int IntKind.u64 (0 : Int), Value.int IntKind.u64 (0 : Int)]) = (2 : Nat) ∧ True) ∧ (Array.size (M cs off n s a #[Value.int IntKind.u64 (0 : Int), Value.int IntKind.u64 (0 : Int)]) = (2 : Nat) ∧ True) ∧ rs = M cs off n s a #[Value.int IntKind.u64 (0 : Int), Value.int IntKind.u64 (0 : Int)] ∧ ty = ty ∧ cs = cs ∧ True) := by kernel_rfl
end Go.Proofs.Ytpohnmafnpnmeaa
/- Of flow: a call of the function that calls itself, out of its states. No condition. -/
namespace Go.Proofs.Ytpohnmafnpnmeaa
set_option maxRecDepth 100000
theorem rowX_ok {a : SA} {cs v : Array Value} {R R' : Ren} (h : rowX a = some cs) (ha : a.okM R v) : (SA.op cs).okM R' v := by
  unfold rowX at h
  split at h
  · cases h; exact ha
  · rename_i l
    split at h
    · rename_i vs hv
      cases h
      have ha : All2 (SC.ok R) l v.toList := ha
      have e := plains_ok hv ha
      refine ⟨?_, SA.one (x := .ls l) ha⟩
      rw [← e]
    · cases h
  · cases h
theorem rd0_ok {b : Option SBlk} {cs : Array Value} {ty : TypeId} (h : rd0 b = some (cs, ty)) : b = some ⟨.raw cs, ty, false⟩ := by
  unfold rd0 at h
  split at h
  · cases h; rfl
  · cases h
theorem rd1_ok {b : Option SBlk} {off n : Nat} (h : rd1 b = some (off, n)) : b = some ⟨.ls [prS' off n], 22, true⟩ := by
  unfold rd1 at h
  split at h
  · split at h
    · rename_i hh
      cases h
      simp only [Bool.and_eq_true] at hh
      rw [Nat.eq_of_beq_eq_true hh.1, Nat.eq_of_beq_eq_true hh.2]; rfl
    · cases h
  · cases h
theorem rd2_ok {b : Option SBlk} {s : Int} (h : rd2 b = some s) : b = some ⟨.ls [.f (.int .i64 (.o s))], 3, true⟩ := by
  unfold rd2 at h
  split at h
  · split at h
    · rename_i hh
      cases h
      rw [Nat.eq_of_beq_eq_true hh]
    · cases h
  · cases h
theorem rd4_ok {b : Option SBlk} {ws : Array Value} (h : rd4 b = some ws) : ∃ w, b = some ⟨w, 68, true⟩ ∧ rowX w = some ws := by
  unfold rd4 at h
  split at h
  · split at h
    · rename_i hh
      rw [Nat.eq_of_beq_eq_true hh]
      exact ⟨_, rfl, h⟩
    · cases h
  · cases h
theorem isP_ok {k : Nat} {x : SF} (h : isP k x = true) : x = .ptr k (.l 0) := by
  unfold isP at h
  split at h
  · simp only [Bool.and_eq_true] at h
    rw [Nat.eq_of_beq_eq_true h.1, Nat.eq_of_beq_eq_true h.2]
  · cases h
theorem isPt_ok {k : Nat} {x : SV} (h : isPt k x = true) : x = pt k := by
  unfold isPt at h
  split at h
  · simp only [Bool.and_eq_true] at h
    rw [Nat.eq_of_beq_eq_true h.1, Nat.eq_of_beq_eq_true h.2]; rfl
  · cases h
theorem rd5_ok {b : Option SBlk} (h : rd5 b = true) : b = some ⟨.ls [.fn (.func 49) [] [.ptr 2 (.l 0), .ptr 4 (.l 0), .ptr 1 (.l 0), .ptr 5 (.l 0)]], 97, true⟩ := by
  unfold rd5 at h
  split at h
  · simp only [Bool.and_eq_true] at h
    obtain ⟨h1, h2, h3, h4, h5, h6⟩ := h
    rw [Nat.eq_of_beq_eq_true h1, Nat.eq_of_beq_eq_true h2, isP_ok h3, isP_ok h4, isP_ok h5, isP_ok h6]
  · cases h
theorem arg41_ok {l : List SV} {a : Int} (h : arg41 l = some a) : ∃ x : SI, x.den = a ∧ l = [i64 x, pt 2, pt 4, pt 1, pt 5] := by
  unfold arg41 at h
  split at h
  · rename_i x p q r t
    split at h
    · rename_i hh
      cases h
      simp only [Bool.and_eq_true] at hh
      obtain ⟨h1, h2, h3, h4⟩ := hh
      rw [isPt_ok h1, isPt_ok h2, isPt_ok h3, isPt_ok h4]
      exact ⟨x, rfl, rfl⟩
    · cases h
  · cases h
section
variable (cs : Array Value) (ty : TypeId) (off n : Nat) (s : Int) (w : Array Value)
theorem mtM_get {w : SA} {i : Nat} {b : SBlk} (h : getB (mtM cs ty off n s w).bl i = some b) : (i = 0 ∧ b = ⟨.raw cs, ty, false⟩) ∨ (i = 1 ∧ b = ⟨.ls [prS' off n], 22, true⟩) ∨ (i = 2 ∧ b = ⟨.ls [.f (.int .i64 (.o s))], 3, true⟩) ∨ (i = 4 ∧ b = ⟨w, 68, true⟩) ∨ (i = 5 ∧ b = ⟨.ls [.fn (.func 49) [] [.ptr 2 (.l 0), .ptr 4 (.l 0), .ptr 1 (.l 0), .ptr 5 (.l 0)]], 97, true⟩) := by
  have hk := Tr.mem_keys h
  have e : (mtM cs ty off n s w).bl.keys = [0, 1, 5, 2, 4] := by kernel_rfl
  rw [e] at hk
  simp only [List.mem_cons, List.not_mem_nil, or_false] at hk
  rcases hk with rfl | rfl | rfl | rfl | rfl
  · exact .inl ⟨rfl, by have e : getB (mtM cs ty off n s w).bl 0 = some ⟨.raw cs, ty, false⟩ := by kernel_rfl
                        exact (Option.some.inj (e.symm.trans h)).symm⟩
  · exact .inr (.inl ⟨rfl, by have e : getB (mtM cs ty off n s w).bl 1 = some ⟨.ls [prS' off n], 22, true⟩ := by kernel_rfl
                              exact (Option.some.inj (e.symm.trans h)).symm⟩)
  · exact .inr (.inr (.inr (.inr ⟨rfl, by
      have e : getB (mtM cs ty off n s w).bl 5 = some ⟨.ls [.fn (.func 49) [] [.ptr 2 (.l 0), .ptr 4 (.l 0), .ptr 1 (.l 0), .ptr 5 (.l 0)]], 97, true⟩ := by kernel_rfl
      exact (Option.some.inj (e.symm.trans h)).symm⟩)))
  · exact .inr (.inr (.inl ⟨rfl, by have e : getB (mtM cs ty off n s w).bl 2 = some ⟨.ls [.f (.int .i64 (.o s))], 3, true⟩ := by kernel_rfl
                                    exact (Option.some.inj (e.symm.trans h)).symm⟩))
  · exact .inr (.inr (.inr (.inl ⟨rfl, by have e : getB (mtM cs ty off n s w).bl 4 = some ⟨w, 68, true⟩ := by kernel_rfl
                                          exact (Option.some.inj (e.symm.trans h)).symm⟩)))
theorem mtM_re (f : Nat → Nat) : reL f (mtM cs ty off n s (.op w)).bl (mtM cs ty off n s (.op w)).bl.keys = [(f 0, ⟨.raw cs, ty, false⟩), (f 1, ⟨.ls [.f (.slice (f 0) (.o off) (.o n) .any)], 22, true⟩), (f 5, ⟨.ls [.fn (.func 49) [] [.ptr (f 2) (.l 0), .ptr (f 4) (.l 0), .ptr (f 1) (.l 0), .ptr (f 5) (.l 0)]], 97, true⟩), (f 2, ⟨.ls [.f (.int .i64 (.o s))], 3, true⟩), (f 4, ⟨.op w, 68, true⟩)] := by kernel_rfl
theorem mtM_ls : lsT (mtM cs ty off n s (.op w)).bl (mtM cs ty off n s (.op w)).bl.keys = [(0, ⟨.raw cs, ty, false⟩), (1, ⟨.ls [.f (.slice 0 (.o off) (.o n) .any)], 22, true⟩), (5, ⟨.ls [.fn (.func 49) [] [.ptr 2 (.l 0), .ptr 4 (.l 0), .ptr 1 (.l 0), .ptr 5 (.l 0)]], 97, true⟩), (2, ⟨.ls [.f (.int .i64 (.o s))], 3, true⟩), (4, ⟨.op w, 68, true⟩)] := by kernel_rfl
theorem mtM_next (w : SA) : (mtM cs ty off n s w).next = 6 := by kernel_rfl
theorem mtM_xs (w : SA) : (mtM cs ty off n s w).xs = [] := by kernel_rfl
end
theorem mt_con {M : FM} {P : FP} {fn : Func} {c : Code} (h1 : E0.fn 49 = some fn) (h2 : fn.body = some c)
    (hg : ∀ cs ty off n s a ws, P cs off n s a ws → Good Try.prog (fun s0 m' => s0 = .tup [] ∧ m' = mtM cs ty off n s (.op (M cs off n s a ws))) 6 [callFr 49 fn.ntmps [i64 (.o a), pt 2, pt 4, pt 1, pt 5] c] (mtM cs ty off n s (.op ws)))
    {g : FuncId} {l : List SV} {m : SMem} {t : Tree} (h : conMt M P g l m = some t) : Con E0 g l m t := by
  unfold conMt at h
  split at h
  case h_2 => cases h
  rename_i a cs ty off n s ws e1 e2 e3 e4 e5 e6
  cases h
  simp only [Bool.and_eq_true] at e1
  obtain ⟨f1, f2, f3⟩ := e1
  cases Nat.eq_of_beq_eq_true f1
  have f2 := Nat.le_of_ble_eq_true f2
  have f3 := rd5_ok f3
  obtain ⟨x, rfl, rfl⟩ := arg41_ok e2
  have e3 := rd0_ok e3
  have e4 := rd1_ok e4
  have e5 := rd2_ok e5
  obtain ⟨wv, e6, e7⟩ := rd4_ok e6
  intro A hA
  obtain ⟨hq, hA⟩ := Tree.sat_needs (q := [P cs off n s x.den ws]) hA
  have good := hg cs ty off n s x.den ws (hq _ (List.mem_cons_self ..))
  refine ⟨fn, h1, by rw [h2]; rfl, fun n0 F w0 w R args hl hR => ?_⟩
  have lt6 : ∀ {i b}, getB (mtM cs ty off n s (.op ws)).bl i = some b → i < 6 := fun hb => by
    rcases mtM_get _ _ _ _ _ hb with ⟨rfl, _⟩ | ⟨rfl, _⟩ | ⟨rfl, _⟩ | ⟨rfl, _⟩ | ⟨rfl, _⟩ <;> omega
  refine (frame (m := m) (ms := mtM cs ty off n s (.op ws)) (ms' := mtM cs ty off n s (.op (M cs off n s x.den ws))) (l := [i64 (.o x.den), pt 2, pt 4, pt 1, pt 5]) (s0 := .tup []) ((E0_ok.fns _ _ h1).1) h2 good (mtM_xs ..) (ι := fun j => j) (fun _ _ _ _ h => h) ?_ ?_ ?_ ?_ ?_ ?_ hR).mono ?_
  · intro i hi
    rw [mtM_next] at hi
    omega
  · intro i b hb
    rw [mtM_next]
    have hlt := lt6 hb
    refine ⟨hlt, ?_⟩
    have cut : ∀ {a : SA} {R : Ren} {v : Array Value}, a.lt 6 = true → a.okM R v → a.okM (pull (fun j => j) 6 R) v := fun h1 h2 => SA.cutM h1 h2
    rcases mtM_get _ _ _ _ _ hb with ⟨rfl, rfl⟩ | ⟨rfl, rfl⟩ | ⟨rfl, rfl⟩ | ⟨rfl, rfl⟩ | ⟨rfl, rfl⟩
    · exact ⟨_, e3, rfl, fun h => h, fun R cs h => h⟩
    · exact ⟨_, e4, rfl, fun h => h, fun R cs h => cut rfl h⟩
    · exact ⟨_, e5, rfl, fun h => h, fun R cs h => cut rfl h⟩
    · exact ⟨_, e6, rfl, fun h => h, fun R cs h => rowX_ok e7 h⟩
    · exact ⟨_, f3, rfl, fun h => h, fun R cs h => cut rfl h⟩
  · intro i b hb _
    rcases mtM_get _ _ _ _ _ hb with ⟨rfl, rfl⟩ | ⟨rfl, rfl⟩ | ⟨rfl, rfl⟩ | ⟨rfl, rfl⟩ | ⟨rfl, rfl⟩ <;> rfl
  · intro i b hb _
    rcases mtM_get _ _ _ _ _ hb with ⟨rfl, rfl⟩ | ⟨rfl, rfl⟩ | ⟨rfl, rfl⟩ | ⟨rfl, rfl⟩ | ⟨rfl, rfl⟩ <;> exact ⟨_, rfl, rfl⟩
  · rw [mtM_next, mtM_next]; exact Nat.le_refl _
  · rw [mtM_next]
    match args, hl with
    | args, hl =>
      generalize args.toList = vs at hl
      match vs, hl with
      | [v1, v2, v3, v4, v5], ⟨g1, g2, g3, g4, g5, _⟩ =>
        refine ⟨?_, SV.cut rfl g2, SV.cut rfl g3, SV.cut rfl g4, SV.cut rfl g5, trivial⟩
        exact g1
  · rintro v w' ⟨R', hX, hR', hv⟩
    rw [mtM_next, mtM_next, Nat.sub_self, Nat.add_zero] at hX hR'
    rw [mtM_re] at hR'
    have ep : ∀ i, i < 6 → push (fun j => j) 6 m.next i = i := fun i hi => by
      unfold push
      rw [if_pos (by simpa using hi)]
    rw [ep 0 (by omega), ep 1 (by omega), ep 2 (by omega), ep 4 (by omega), ep 5 (by omega)] at hR'
    have hA : A (.tup []) (out4 M cs ty off n s x.den ws m) := hA
    refine ⟨_, _, R', hA, ?_, ?_, ?_⟩
    · exact hX
    · unfold out4
      rw [mtM_ls]
      exact hR'
    · exact hv
end Go.Proofs.Ytpohnmafnpnmeaa
/- Of flow: sets of places, as words. No condition. -/
namespace Go.Proofs.Ytpohnmafnpnmeaa
theorem quo64 {i : Nat} (h : i < 9223372036854775807) : ari BinOp.quo IntKind.i64 (i : Int) (64 : Int) = ((i / 64 : Nat) : Int) := by
  rw [ari_quo, Go.IntWalk.i64_quo _ _ ⟨by omega, by omega, by omega⟩]; rfl
theorem rem64 {i : Nat} : ari BinOp.rem IntKind.i64 (i : Int) (64 : Int) = ((i % 64 : Nat) : Int) := by
  rw [ari_rem]; rfl
theorem u64_nat {k : Nat} (h : k < 2 ^ 64) : IntKind.u64.wrap (k : Int) = (k : Int) := by
  rw [Go.IntWalk.u64_in _ (by omega)]
theorem shr64 {w r : Nat} (hr : r < 64) : ari BinOp.shr IntKind.u64 (w : Int) (r : Int) = ((w / 2 ^ r : Nat) : Int) := by
  rw [ari_shr]
  have e : min (r : Int).toNat IntKind.u64.bits = r := by
    show min r 64 = r
    omega
  have e2 : ((2 : Int) ^ r) = ((2 ^ r : Nat) : Int) := by rw [Int.natCast_pow]; rfl
  rw [e, e2, Int.fdiv_eq_ediv_of_nonneg _ (Int.natCast_nonneg _)]; rfl
theorem and1 {x : Nat} (hx : x < 2 ^ 64) : ari BinOp.and IntKind.u64 (x : Int) 1 = ((x % 2 : Nat) : Int) := by
  rw [ari_and]
  have e1 : BitVec.ofInt IntKind.u64.bits (x : Int) = BitVec.ofNat 64 x := BitVec.ofInt_natCast 64 x
  have e2 : BitVec.ofInt IntKind.u64.bits (1 : Int) = BitVec.ofNat 64 1 := BitVec.ofInt_natCast 64 1
  rw [e1, e2]
  have e3 : (BitVec.ofNat 64 x &&& BitVec.ofNat 64 1).toNat = x % 2 := by
    rw [BitVec.toNat_and, BitVec.toNat_ofNat, BitVec.toNat_ofNat, Nat.mod_eq_of_lt hx, Nat.mod_eq_of_lt (show 1 < 2 ^ 64 by omega), Nat.and_one_is_mod]
  have e4 : ((BitVec.ofNat 64 x &&& BitVec.ofNat 64 1).toNat : Int) = ((x % 2 : Nat) : Int) := by rw [e3]
  exact (congrArg IntKind.u64.wrap e4).trans (u64_nat (by omega))
theorem has64 {w r : Nat} (hw : w < 2 ^ 64) (hr : r < 64) : (ari BinOp.and IntKind.u64 (ari BinOp.shr IntKind.u64 (w : Int) (r : Int)) 1 == 1) = w.testBit r := by
  rw [shr64 hr, and1 (Nat.lt_of_le_of_lt (Nat.div_le_self ..) hw), Nat.testBit_eq_decide_div_mod_eq]
  by_cases h : w / 2 ^ r % 2 = 1
  · rw [h]; rfl
  · rw [decide_eq_false h]
    have : w / 2 ^ r % 2 = 0 := by omega
    rw [this]; rfl
theorem add64 {w r : Nat} (hw : w < 2 ^ 64) (hr : r < 64) : ari BinOp.or IntKind.u64 (w : Int) (ari BinOp.shl IntKind.u64 1 (r : Int)) = ((w ||| 2 ^ r : Nat) : Int) := by
  have h2 : 2 ^ r < 2 ^ 64 := Nat.pow_lt_pow_right (by omega) hr
  have e0 : ari BinOp.shl IntKind.u64 1 (r : Int) = ((2 ^ r : Nat) : Int) := by
    rw [ari_shl]
    have e : min (r : Int).toNat IntKind.u64.bits = r := by
      show min r 64 = r
      omega
    rw [e, Int.one_mul]
    have e2 : ((2 : Int) ^ r) = ((2 ^ r : Nat) : Int) := by rw [Int.natCast_pow]; rfl
    rw [e2, u64_nat h2]
  rw [e0, ari_or]
  have e1 : ∀ x : Nat, BitVec.ofInt IntKind.u64.bits (x : Int) = BitVec.ofNat 64 x := fun x => BitVec.ofInt_natCast 64 x
  rw [e1, e1]
  have e3 : (BitVec.ofNat 64 w ||| BitVec.ofNat 64 (2 ^ r)).toNat = w ||| 2 ^ r := by
    rw [BitVec.toNat_or, BitVec.toNat_ofNat, BitVec.toNat_ofNat, Nat.mod_eq_of_lt hw, Nat.mod_eq_of_lt h2]
  have e4 : ((BitVec.ofNat 64 w ||| BitVec.ofNat 64 (2 ^ r)).toNat : Int) = ((w ||| 2 ^ r : Nat) : Int) := by rw [e3]
  exact (congrArg IntKind.u64.wrap e4).trans (u64_nat (Nat.or_lt_two_pow hw h2))
def bitW (ws : Array Value) (i : Nat) : Bool := (intAt ws (i / 64)).toNat.testBit (i % 64)
def addW (ws : Array Value) (i : Nat) : Array Value := ws.setIfInBounds (i / 64) (.int .u64 (((intAt ws (i / 64)).toNat ||| 2 ^ (i % 64) : Nat) : Int))
structure IsW (ws : Array Value) : Prop where
  size : ws.size = 2
  int : ∀ j, j < 2 → IsInt .u64 ws j
  lt : ∀ j, j < 2 → ∃ w : Nat, w < 2 ^ 64 ∧ intAt ws j = (w : Int)
theorem intAt_set {ws : Array Value} {p j : Nat} {k : IntKind} {x : Int} (hp : p < ws.size) : intAt (ws.setIfInBounds p (.int k x)) j = if p = j then x else intAt ws j := by
  by_cases h : p = j
  · subst h; rw [if_pos rfl]; exact intAt_of (by rw [Array.getElem?_setIfInBounds, if_pos rfl, if_pos hp])
  · rw [if_neg h]; unfold intAt; rw [Array.getElem?_setIfInBounds, if_neg h]
theorem isInt_set {ws : Array Value} {p j : Nat} {k k' : IntKind} {x : Int} (hp : p < ws.size) (h : if p = j then k = k' else IsInt k' ws j) : IsInt k' (ws.setIfInBounds p (.int k x)) j := by
  unfold IsInt
  rw [intAt_set hp, Array.getElem?_setIfInBounds]
  split
  · rename_i e; rw [if_pos e] at h; subst e h; rfl
  · rename_i e; rw [if_neg e] at h; exact h
section
variable {ws : Array Value} (h : IsW ws)
include h
theorem IsW.add {i : Nat} (hi : i < 128) : IsW (addW ws i) := by
  have hp : i / 64 < ws.size := by rw [h.size]; omega
  obtain ⟨w, hw, ew⟩ := h.lt (i / 64) (by omega)
  refine ⟨?_, fun j hj => ?_, fun j hj => ?_⟩
  · unfold addW; rw [Array.size_setIfInBounds]; exact h.size
  · unfold addW; exact isInt_set hp (by split; rfl; exact h.int j hj)
  · unfold addW
    rw [intAt_set hp]
    split
    · exact ⟨_, Nat.or_lt_two_pow (by rw [ew]; exact hw) (Nat.pow_lt_pow_right (by omega) (Nat.mod_lt _ (by omega))), rfl⟩
    · exact h.lt j hj
theorem bitW_add {i j : Nat} (hi : i < 128) : bitW (addW ws i) j = (decide (i = j) || bitW ws j) := by
  have hp : i / 64 < ws.size := by rw [h.size]; omega
  unfold bitW addW
  rw [intAt_set hp]
  by_cases e : i / 64 = j / 64
  · rw [if_pos e, Int.toNat_natCast, Nat.testBit_or, Nat.testBit_two_pow, e, Bool.or_comm]
    congr 1
    rw [decide_eq_decide]
    omega
  · rw [if_neg e, decide_eq_false (by omega), Bool.false_or]
theorem bitW_has {i : Nat} (hi : i < 128) : (ari BinOp.and IntKind.u64 (ari BinOp.shr IntKind.u64 (intAt ws (0 + (ari BinOp.quo IntKind.i64 (i : Int) 64).toNat * 1)) (ari BinOp.rem IntKind.i64 (i : Int) 64)) 1 == 1) = bitW ws i := by
  rw [quo64 (by omega), rem64, Int.toNat_natCast, Nat.zero_add, Nat.mul_one]
  obtain ⟨w, hw, ew⟩ := h.lt (i / 64) (by omega)
  unfold bitW
  rw [ew, has64 hw (by omega), Int.toNat_natCast]
theorem addW_eq {i : Nat} (hi : i < 128) : ws.setIfInBounds (0 + (ari BinOp.quo IntKind.i64 (i : Int) 64).toNat * 1) (.int .u64 (ari BinOp.or IntKind.u64 (intAt ws (0 + (ari BinOp.quo IntKind.i64 (i : Int) 64).toNat * 1)) (ari BinOp.shl IntKind.u64 1 (ari BinOp.rem IntKind.i64 (i : Int) 64)))) = addW ws i := by
  rw [quo64 (by omega), rem64, Int.toNat_natCast, Nat.zero_add, Nat.mul_one]
  obtain ⟨w, hw, ew⟩ := h.lt (i / 64) (by omega)
  unfold addW
  rw [ew, add64 hw (by omega), Int.toNat_natCast]
end
end Go.Proofs.Ytpohnmafnpnmeaa
/- Of flow: the places that are met, as a function. No condition. -/
namespace Go.Proofs.Ytpohnmafnpnmeaa
set_option maxRecDepth 100000
def toL (cs : Array Value) (off n i : Nat) : List Nat :=
  if n ≤ i then [] else if (ins cs off i).o = 0 then [] else if (ins cs off i).o = 5 then [(ins cs off i).n.toNat] else if (ins cs off i).o = 6 then
    if (ins cs off i).n.toNat = i + 1 then [i + 1] else [min (i + 1) (ins cs off i).n.toNat, max (i + 1) (ins cs off i).n.toNat]
  else [i + 1]
def meetN (nx : Nat → List Nat) (s : Int) : Nat → Nat → Array Value → Array Value
  | 0, _, ws => ws
  | k + 1, i, ws => if (i : Int) = s then ws else if bitW ws i = true then ws else (nx i).foldl (fun w b => meetN nx s k b w) (addW ws i)
theorem meetN_succ {nx : Nat → List Nat} {s : Int} {k i : Nat} {ws : Array Value} : meetN nx s (k + 1) i ws = if (i : Int) = s then ws else if bitW ws i = true then ws else (nx i).foldl (fun w b => meetN nx s k b w) (addW ws i) := rfl
def unmet (ws : Array Value) : Nat → Nat
  | 0 => 0
  | i + 1 => unmet ws i + (if bitW ws i = true then 0 else 1)
theorem unmet_mono {ws ws' : Array Value} (h : ∀ i, bitW ws i = true → bitW ws' i = true) : ∀ k, unmet ws' k ≤ unmet ws k
  | 0 => Nat.le_refl _
  | k + 1 => by
    have := unmet_mono h k
    unfold unmet
    by_cases e : bitW ws k = true
    · rw [if_pos e, if_pos (h k e)]; omega
    · rw [if_neg e]; split <;> omega
theorem unmet_lt {ws ws' : Array Value} (h : ∀ i, bitW ws i = true → bitW ws' i = true) {a : Nat} (h1 : bitW ws a = false) (h2 : bitW ws' a = true) : ∀ {k}, a < k → unmet ws' k < unmet ws k
  | k + 1, hk => by
    unfold unmet
    by_cases e : a = k
    · subst e
      have := unmet_mono h a
      rw [h1, h2, if_pos rfl, if_neg (by decide)]; omega
    · have := unmet_lt h h1 h2 (k := k) (by omega)
      by_cases e : bitW ws k = true
      · rw [if_pos e, if_pos (h k e)]; omega
      · rw [if_neg e]; split <;> omega
theorem unmet_le (ws : Array Value) : ∀ k, unmet ws k ≤ k
  | 0 => Nat.le_refl _
  | k + 1 => by have := unmet_le ws k; unfold unmet; split <;> omega
section
variable {nx : Nat → List Nat} {s : Int} {n : Nat} (hx : ∀ i, i ≤ n → ∀ j ∈ nx i, j ≤ n) (hn : n < 128)
include hx hn
theorem meetN_keep : ∀ (k i : Nat) (ws : Array Value), i ≤ n → IsW ws → IsW (meetN nx s k i ws) ∧ ∀ j, bitW ws j = true → bitW (meetN nx s k i ws) j = true
  | 0, _, _, _, h => ⟨h, fun _ h => h⟩
  | k + 1, i, ws, hi, h => by
    unfold meetN
    split
    · exact ⟨h, fun _ h => h⟩
    split
    · exact ⟨h, fun _ h => h⟩
    have ha := h.add (i := i) (by omega)
    have hb : ∀ j, bitW ws j = true → bitW (addW ws i) j = true := fun j hj => by rw [bitW_add h (by omega), hj, Bool.or_true]
    have go : ∀ (l : List Nat) (w : Array Value), (∀ j ∈ l, j ≤ n) → IsW w → (∀ j, bitW ws j = true → bitW w j = true) →
        IsW (l.foldl (fun w b => meetN nx s k b w) w) ∧ ∀ j, bitW ws j = true → bitW (l.foldl (fun w b => meetN nx s k b w) w) j = true := by
      intro l
      induction l with
      | nil => intro w _ h1 h2; exact ⟨h1, h2⟩
      | cons b l ih =>
        intro w hl h1 h2
        obtain ⟨k1, k2⟩ := meetN_keep k b w (hl b (List.mem_cons_self ..)) h1
        exact ih _ (fun j hj => hl j (List.mem_cons_of_mem _ hj)) k1 (fun j hj => k2 j (h2 j hj))
    exact go _ _ (hx i hi) ha hb
end
theorem toL_le {cs : Array Value} {off n : Nat} (hI : InsOk cs off n) (hM : mayV cs off n = true) : ∀ i, i ≤ n → ∀ j ∈ toL cs off n i, j ≤ n := by
  intro i _ j hj
  unfold toL at hj
  split at hj
  · cases hj
  rename_i hlt
  obtain ⟨_, hA⟩ := mayV_iff.1 hM
  obtain ⟨_, _, _, _, k5⟩ := Ins.okN_iff.1 (hA i (by omega))
  obtain ⟨_, _, _, _, _, r5⟩ := hI.2 i (by omega)
  split at hj
  · cases hj
  split at hj
  · simp only [List.mem_singleton] at hj; omega
  split at hj
  · split at hj
    · simp only [List.mem_singleton] at hj; omega
    · simp only [List.mem_cons, List.not_mem_nil, or_false] at hj
      rcases hj with hj | hj <;> omega
  · simp only [List.mem_singleton] at hj; omega
def mtK (k : Nat) : FM := fun cs off n s a ws => meetN (toL cs off n) s k a.toNat ws
def mtP (k : Nat) : FP := fun cs off n s a ws => InsOk cs off n ∧ mayV cs off n = true ∧ IsW ws ∧ (0 ≤ a ∧ a ≤ n) ∧ unmet ws (n + 1) < k
theorem fn41 : E0.fn 49 = some Try.f49 := by kernel_rfl
theorem body41 : Try.f49.body = some (Try.f49.body.getD .skip) := by kernel_rfl
theorem mt_step (k : Nat) (hE : EnvOk (EMt (mtK k) (mtP k))) (cs : Array Value) (ty : TypeId) (off n : Nat) (s a : Int) (ws : Array Value) (hP : mtP (k + 1) cs off n s a ws) :
    Good Try.prog (fun s0 m' => s0 = .tup [] ∧ m' = mtM cs ty off n s (.op (mtK (k + 1) cs off n s a ws))) 6 [callFr 49 Try.f49.ntmps [i64 (.o a), pt 2, pt 4, pt 1, pt 5] (Try.f49.body.getD .skip)] (mtM cs ty off n s (.op ws)) := by
  obtain ⟨hI, hM, hW, ⟨h0, hn⟩, hu⟩ := hP
  obtain ⟨i, rfl⟩ : ∃ i : Nat, a = (i : Int) := ⟨a.toNat, by omega⟩
  have hn : i ≤ n := by omega
  obtain ⟨n64, hA⟩ := mayV_iff.1 hM
  have hi : i < 128 := by omega
  have hx := toL_le hI hM
  refine Good.ret [] (run_vc hE 4000 (mt_vc (mtK k) (mtP k) cs ty off n s i ws (mtK (k + 1) cs off n s i ws)) ?_ (fun _ _ h => h) (fun _ _ h => h.elim))
  rw [bitW_has hW hi, addW_eq hW hi, quo64 (by omega), rem64]
  simp only [Int.toNat_natCast, true_and, and_true]
  by_cases d1 : (i : Int) = s
  · have e1 : ((i : Int) == s) = true := by rw [beq_iff_eq]; exact d1
    have er : mtK (k + 1) cs off n s i ws = ws := by unfold mtK; rw [Int.toNat_natCast, meetN_succ, if_pos d1]
    simp only [e1, er, beqT, beqF, Bool.not_true, Bool.not_false, Bool.true_eq_false, Bool.false_eq_true, false_implies, true_implies, true_and, and_true]
  have e1 : ((i : Int) == s) = false := by rw [beq_eq_false_iff_ne]; exact d1
  have e2 : (((i : Int) == s) == false) = true := by rw [e1]; rfl
  have w1 : Array.size ws = 2 := hW.size
  have w2 : (0 : Int) ≤ ((i / 64 : Nat) : Int) ∧ ((i / 64 : Nat) : Int) < 2 := by omega
  have w3 : IsInt IntKind.u64 ws (0 + i / 64 * 1) := by rw [Nat.zero_add, Nat.mul_one]; exact hW.int _ (by omega)
  have w4 : (0 : Int) ≤ ((i % 64 : Nat) : Int) := by omega
  have w5 : 0 + i / 64 * 1 < 2 := by omega
  cases d2 : bitW ws i with
  | true =>
    have er : mtK (k + 1) cs off n s i ws = ws := by unfold mtK; rw [Int.toNat_natCast, meetN_succ, if_neg d1, if_pos d2]
    simp only [e1, er, w1, w3, w4, d2, beqT, beqF, Bool.not_true, Bool.not_false, Bool.true_eq_false, Bool.false_eq_true, false_implies, true_implies, true_and, and_true]
    exact w2
  | false =>
    have er : mtK (k + 1) cs off n s i ws = (toL cs off n i).foldl (fun w b => meetN (toL cs off n) s k b w) (addW ws i) := by
      unfold mtK; rw [Int.toNat_natCast, meetN_succ, if_neg d1, if_neg (by rw [d2]; decide)]
    have hbit : ∀ j, bitW ws j = true → bitW (addW ws i) j = true := fun j hj => by rw [bitW_add hW hi, hj, Bool.or_true]
    have hun : unmet (addW ws i) (n + 1) < k := by
      have := unmet_lt hbit d2 (by rw [bitW_add hW hi]; simp) (k := n + 1) (by omega)
      omega
    have hp1 : ∀ b : Nat, b ≤ n → mtP k cs off n s (b : Int) (addW ws i) := fun b hb => ⟨hI, hM, hW.add hi, ⟨by omega, by omega⟩, hun⟩
    have hp2 : ∀ b c : Nat, b ≤ n → c ≤ n → mtP k cs off n s (c : Int) (mtK k cs off n s (b : Int) (addW ws i)) := fun b c hb hc => by
      obtain ⟨k1, k2⟩ := meetN_keep (s := s) hx (by omega) k b (addW ws i) hb (hW.add hi)
      refine ⟨hI, hM, k1, ⟨by omega, by omega⟩, ?_⟩
      have := unmet_mono k2 (n + 1)
      exact Nat.lt_of_le_of_lt this hun
    by_cases d3 : n ≤ i
    · have e3 : decide ((i : Int) ≥ (n : Int)) = true := decide_eq_true (by omega)
      have e0 : decide ((i : Int) < 0) = false := decide_eq_false (by omega)
      have et : toL cs off n i = [] := by unfold toL; rw [if_pos d3]
      simp only [e1, er, et, e0, e3, w1, w3, w4, w5, d2, List.foldl_nil, beqT, beqF, Bool.not_true, Bool.not_false, Bool.true_eq_false, Bool.false_eq_true, false_implies, true_implies, true_and, and_true]
      exact ⟨w2, w2, w2⟩
    have hlt : i < n := by omega
    have e3 : decide ((i : Int) ≥ (n : Int)) = false := decide_eq_false (by omega)
    have e0 : decide ((i : Int) < 0) = false := decide_eq_false (by omega)
    obtain ⟨⟨i1, i2, i3, i4, i5⟩, r1, r2, r3, r4, r5⟩ := hI.2 i hlt
    obtain ⟨_, _, _, _, k5⟩ := Ins.okN_iff.1 (hA i hlt)
    have et : toL cs off n i = if intAt cs (off + i * 5) = 0 then [] else if intAt cs (off + i * 5) = 5 then [(intAt cs (off + i * 5 + 4)).toNat] else if intAt cs (off + i * 5) = 6 then
      if (intAt cs (off + i * 5 + 4)).toNat = i + 1 then [i + 1] else [min (i + 1) (intAt cs (off + i * 5 + 4)).toNat, max (i + 1) (intAt cs (off + i * 5 + 4)).toNat] else [i + 1] := by unfold toL; rw [if_neg d3]; rfl
    simp only [ins] at r1 r5 k5
    have eA : ari BinOp.add IntKind.i64 (i : Int) 1 = ((i + 1 : Nat) : Int) := by rw [ari_add, i64_nat (by omega)]
    have eN : IntKind.i64.wrap (intAt cs (off + i * 5 + 4)) = ((intAt cs (off + i * 5 + 4)).toNat : Int) := by rw [Go.IntWalk.i64_in _ (by omega)]; omega
    rw [eA, eN]
    have w6 : (0 : Int) ≤ (i : Int) ∧ (i : Int) < (n : Int) := by omega
    generalize hnn : (intAt cs (off + i * 5 + 4)).toNat = nn at et ⊢
    generalize ho : intAt cs (off + i * 5) = o at et r1 k5 ⊢
    by_cases o0 : o = 0
    · have f0 : (o == 0) = true := by rw [o0]; rfl
      rw [if_pos o0] at et
      simp only [e1, er, et, e0, e3, f0, w1, w3, w4, w5, w6, i1, i5, d2, List.foldl_nil, beqT, beqF, Bool.not_true, Bool.not_false, Bool.true_eq_false, Bool.false_eq_true, false_implies, true_implies, true_and, and_true]
      exact ⟨w2, w2, w2⟩
    have f0 : (o == 0) = false := by rw [beq_eq_false_iff_ne]; exact o0
    rw [if_neg o0] at et
    by_cases o5 : o = 5
    · have f5 : (o == 5) = true := by rw [o5]; rfl
      rw [if_pos o5] at et
      have hp := hp1 nn (by omega)
      simp only [e1, er, et, e0, e3, f0, f5, w1, w3, w4, w5, w6, i1, i5, d2, List.foldl_nil, List.foldl_cons, beqT, beqF, Bool.not_true, Bool.not_false, Bool.true_eq_false, Bool.false_eq_true, false_implies, true_implies, true_and, and_true]
      exact ⟨w2, w2, w2, hp, rfl⟩
    have f5 : (o == 5) = false := by rw [beq_eq_false_iff_ne]; exact o5
    rw [if_neg o5] at et
    by_cases o6 : o = 6
    · have f6 : (o == 6) = true := by rw [o6]; rfl
      rw [if_pos o6] at et
      have eMin : (if ((i + 1 : Nat) : Int) < (nn : Int) then ((i + 1 : Nat) : Int) else (nn : Int)) = ((min (i + 1) nn : Nat) : Int) := by split <;> omega
      have eMax : (if ((i + 1 : Nat) : Int) > (nn : Int) then ((i + 1 : Nat) : Int) else (nn : Int)) = ((max (i + 1) nn : Nat) : Int) := by split <;> omega
      rw [eMin, eMax]
      by_cases d7 : nn = i + 1
      · have f7 : (((max (i + 1) nn : Nat) : Int) == ((min (i + 1) nn : Nat) : Int)) = true := by rw [beq_iff_eq]; omega
        rw [if_pos d7] at et
        have hp := hp1 (min (i + 1) nn) (by omega)
        have er' : mtK (k + 1) cs off n s i ws = mtK k cs off n s ((min (i + 1) nn : Nat) : Int) (addW ws i) := by
          have em : min (i + 1) nn = i + 1 := by omega
          rw [er, et, em]; rfl
        simp only [e1, er', e0, e3, f0, f5, f6, f7, w1, w3, w4, w5, w6, i1, i5, d2, beqT, beqF, Bool.not_true, Bool.not_false, Bool.true_eq_false, Bool.false_eq_true, false_implies, true_implies, true_and, and_true]
        exact ⟨w2, w2, w2, hp⟩
      · have f7 : (((max (i + 1) nn : Nat) : Int) == ((min (i + 1) nn : Nat) : Int)) = false := by rw [beq_eq_false_iff_ne]; omega
        rw [if_neg d7] at et
        have hp := hp1 (min (i + 1) nn) (by omega)
        have hq := hp2 (min (i + 1) nn) (max (i + 1) nn) (by omega) (by omega)
        have er' : mtK (k + 1) cs off n s i ws = mtK k cs off n s ((max (i + 1) nn : Nat) : Int) (mtK k cs off n s ((min (i + 1) nn : Nat) : Int) (addW ws i)) := by
          rw [er, et]; rfl
        simp only [e1, er', e0, e3, f0, f5, f6, f7, w1, w3, w4, w5, w6, i1, i5, d2, beqT, beqF, Bool.not_true, Bool.not_false, Bool.true_eq_false, Bool.false_eq_true, false_implies, true_implies, true_and, and_true]
        exact ⟨w2, w2, w2, hp, hq⟩
    have f6 : (o == 6) = false := by rw [beq_eq_false_iff_ne]; exact o6
    rw [if_neg o6] at et
    have hp := hp1 (i + 1) (by omega)
    simp only [e1, er, et, e0, e3, f0, f5, f6, w1, w3, w4, w5, w6, i1, i5, d2, List.foldl_nil, List.foldl_cons, beqT, beqF, Bool.not_true, Bool.not_false, Bool.true_eq_false, Bool.false_eq_true, false_implies, true_implies, true_and, and_true]
    exact ⟨w2, w2, w2, hp, rfl⟩
theorem EMt_ok : ∀ k, EnvOk (EMt (mtK k) (mtP k))
  | 0 => EnvOk.with E0_ok _ _ fun _ _ _ _ h => mt_con fn41 body41 (fun _ _ _ _ _ _ _ hP => absurd hP.2.2.2.2 (Nat.not_lt_zero _)) h
  | k + 1 => EnvOk.with E0_ok _ _ fun _ _ _ _ h => mt_con fn41 body41 (fun cs ty off n s a ws hP => mt_step k (EMt_ok k) cs ty off n s a ws hP) h
end Go.Proofs.Ytpohnmafnpnmeaa
