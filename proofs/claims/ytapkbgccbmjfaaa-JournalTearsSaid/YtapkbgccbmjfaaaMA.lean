/- Of journal: May: its loop's states. No condition. -/
import Derived.Test.YtapkbgccbmjfaaaE1
import Derived.Test.YtapkbgccbmjfaaaK15
import Derived.Test.YtapkbgccbmjfaaaK14c
import Derived.IntWalk
import Derived.Test.YtapkbgccbmjfaaaK2
import Derived.Test.YtapkbgccbmjfaaaK14b
namespace Go.Proofs.Ytapkbgccbmjfaaa
noncomputable section
def EM : Env := ⟨Try.prog, fnOf, fun _ _ _ => none, fun _ f x => Nat.beq f 52 && isLoop x⟩
theorem EM_ok : EnvOk EM := EnvOk.with E0_ok _ _ fun _ _ _ _ h => by cases h
def prA (v : Bool) (cs : Array Value) : SA := cond v (.raw cs) (.pop cs)
def prM (v : Bool) (cs : Array Value) (ty : TypeId) : SMem := ⟨1, (Tr.nil : Tr SBlk).set 0 (some ⟨prA v cs, ty, false⟩), []⟩
def prS (off n : Nat) : SV := .s (.c (.f (.slice 0 (.o off) (.o n) .any)))
def mayC (off n : Nat) : List SFr := [callFr 46 Try.f46.ntmps [prS off n] (Try.f46.body.getD .skip)]
def mayN (h v : Bool) (off n : Nat) (cs : Array Value) (ty : TypeId) (Q : Int → Prop) (fs : List SFr) (m : SMem) : Prop := match fs with
  | f :: _ => match rdI f 8 with
    | some i => Q i ∧ gN EM 1 (mayC off n) (prM v cs ty) h [(8, i64 (.o i))] [] fs m
    | none => False
  | [] => False
def boolR (b : Bool) (s : SV) (_ : SMem) : Prop := match s with
  | .s (.c (.f (.bool x))) => x.den = b
  | _ => False
def mT0 : List SIt := headTd (gF EM 1 (mayC 0 0) (prM true #[] 0) [])
def mH0 : List SIt := headTd (gH EM 1 (mayC 0 0) (prM true #[] 0) [])
def mT1 : List SIt := headTd ((gF EM 1 (mayC 0 0) (prM true #[] 0) []).drop 1)
def mT2 : List SIt := headTd ((gF EM 1 (mayC 0 0) (prM true #[] 0) []).drop 2)
end
end Go.Proofs.Ytapkbgccbmjfaaa
/- Of journal: the rounds of May, as propositions. No condition. -/
namespace Go.Proofs.Ytapkbgccbmjfaaa
set_option maxRecDepth 100000
theorem may_start_r (off n : Nat) (cs : Array Value) (ty : TypeId) (r : Bool) (Q : Int → Prop) : (gR EM 1 (mayC off n) (prM true cs ty)).vc (boolR r) (mayN false true off n cs ty Q) =
    (((decide ((↑n : Int) ≤ (64 : Int)) == true) = true → Q (0 : Int) ∧ CallKind.normal = CallKind.normal ∧ TodoOk (ren 1 [(1, 1)]) mT0 mT0 ∧ off = off ∧ n = n ∧ Fn.func (49 : Nat) = Fn.func (49 : Nat) ∧ (↑n : Int) = (↑n : Int) ∧ (0 : Int) = (0 : Int) ∧ off = off ∧ n = n ∧ CallKind.normal = CallKind.normal ∧ TodoOk (ren 1 [(1, 1)]) mT1 mT1 ∧ off = off ∧ n = n ∧ Fn.func (49 : Nat) = Fn.func (49 : Nat) ∧ off = off ∧ n = n ∧ Fn.func (49 : Nat) = Fn.func (49 : Nat) ∧ CallKind.normal = CallKind.normal ∧ TodoOk (ren 1 [(1, 1)]) mT2 mT2 ∧ off = off ∧ n = n ∧ Fn.func (49 : Nat) = Fn.func (49 : Nat) ∧ decide ((↑n : Int) ≤ (64 : Int)) = decide ((↑n : Int) ≤ (64 : Int)) ∧ off = off ∧ n = n ∧ off = off ∧ n = n ∧ Fn.func (49 : Nat) = Fn.func (49 : Nat) ∧ (↑n : Int) = (↑n : Int) ∧ Fn.func (49 : Nat) = Fn.func (49 : Nat) ∧ ty = ty ∧ cs = cs ∧ (76 : Nat) = (76 : Nat) ∧ off = off ∧ n = n ∧ True) ∧ ((decide ((↑n : Int) ≤ (64 : Int)) == true) = false → false = r)) := by kernel_rfl
theorem may_start_p (off n : Nat) (cs : Array Value) (ty : TypeId) (r : Bool) (Q : Int → Prop) : (gR EM 1 (mayC off n) (prM false cs ty)).vc (boolR r) (mayN false false off n cs ty Q) =
    (((decide ((↑n : Int) ≤ (64 : Int)) == true) = true → Q (0 : Int) ∧ CallKind.normal = CallKind.normal ∧ TodoOk (ren 1 [(1, 1)]) mT0 mT0 ∧ off = off ∧ n = n ∧ Fn.func (49 : Nat) = Fn.func (49 : Nat) ∧ (↑n : Int) = (↑n : Int) ∧ (0 : Int) = (0 : Int) ∧ off = off ∧ n = n ∧ CallKind.normal = CallKind.normal ∧ TodoOk (ren 1 [(1, 1)]) mT1 mT1 ∧ off = off ∧ n = n ∧ Fn.func (49 : Nat) = Fn.func (49 : Nat) ∧ off = off ∧ n = n ∧ Fn.func (49 : Nat) = Fn.func (49 : Nat) ∧ CallKind.normal = CallKind.normal ∧ TodoOk (ren 1 [(1, 1)]) mT2 mT2 ∧ off = off ∧ n = n ∧ Fn.func (49 : Nat) = Fn.func (49 : Nat) ∧ decide ((↑n : Int) ≤ (64 : Int)) = decide ((↑n : Int) ≤ (64 : Int)) ∧ off = off ∧ n = n ∧ off = off ∧ n = n ∧ Fn.func (49 : Nat) = Fn.func (49 : Nat) ∧ (↑n : Int) = (↑n : Int) ∧ Fn.func (49 : Nat) = Fn.func (49 : Nat) ∧ ty = ty ∧ cs = cs ∧ (76 : Nat) = (76 : Nat) ∧ off = off ∧ n = n ∧ True) ∧ ((decide ((↑n : Int) ≤ (64 : Int)) == true) = false → false = r)) := by kernel_rfl
theorem may_step_r (off n : Nat) (cs : Array Value) (ty : TypeId) (r : Bool) (i : Int) (Q : Int → Prop) : (gS EM 1 (mayC off n) (prM true cs ty) [(8, i64 (.o i))] []).vc (boolR r) (mayN true true off n cs ty Q) =
    ((decide (i < (↑n : Int)) = true → (((0 : Int) ≤ i ∧ i < (↑n : Int)) ∧ True) ∧ (IsInt IntKind.u8 cs (off + Int.toNat i * 5) ∧ IsInt IntKind.u8 cs (off + Int.toNat i * 5 + 1) ∧ IsInt IntKind.u8 cs (off + Int.toNat i * 5 + 2) ∧ IsInt IntKind.u8 cs (off + Int.toNat i * 5 + 3) ∧ IsInt IntKind.u16 cs (off + Int.toNat i * 5 + 4) ∧ True) ∧ (((intAt cs (off + Int.toNat i * 5) == (5 : Int)) == false) = true → ((decide (intAt cs (off + Int.toNat i * 5) ≤ (6 : Int)) == false) = true → ((decide (intAt cs (off + Int.toNat i * 5) > (16 : Int)) == true) = true → (((!decide (intAt cs (off + Int.toNat i * 5) ≤ (38 : Int))) == false) = true → ((decide ((if intAt cs (off + Int.toNat i * 5 + 3) > if intAt cs (off + Int.toNat i * 5 + 2) > intAt cs (off + Int.toNat i * 5 + 1) then intAt cs (off + Int.toNat i * 5 + 2) else intAt cs (off + Int.toNat i * 5 + 1) then intAt cs (off + Int.toNat i * 5 + 3) else if intAt cs (off + Int.toNat i * 5 + 2) > intAt cs (off + Int.toNat i * 5 + 1) then intAt cs (off + Int.toNat i * 5 + 2) else intAt cs (off + Int.toNat i * 5 + 1)) ≥ (8 : Int)) == false) = true → (((intAt cs (off + Int.toNat i * 5) == (6 : Int)) == true) = true → (decide (IntKind.wrap IntKind.i64 (intAt cs (off + Int.toNat i * 5 + 4)) ≥ (↑n : Int)) = true → (!decide (i ≥ (0 : Int))) = r) ∧ (decide (IntKind.wrap IntKind.i64 (intAt cs (off + Int.toNat i * 5 + 4)) ≥ (↑n : Int)) = false → Q (ari BinOp.add IntKind.i64 i (1 : Int)) ∧ CallKind.normal = CallKind.normal ∧ TodoOk (ren 1 [(1, 1)]) mH0 mH0 ∧ off = off ∧ n = n ∧ Fn.func (49 : Nat) = Fn.func (49 : Nat) ∧ (↑n : Int) = (↑n : Int) ∧ ari BinOp.add IntKind.i64 i (1 : Int) = ari BinOp.add IntKind.i64 i (1 : Int) ∧ off = off ∧ n = n ∧ CallKind.normal = CallKind.normal ∧ TodoOk (ren 1 [(1, 1)]) mT1 mT1 ∧ off = off ∧ n = n ∧ Fn.func (49 : Nat) = Fn.func (49 : Nat) ∧ off = off ∧ n = n ∧ Fn.func (49 : Nat) = Fn.func (49 : Nat) ∧ CallKind.normal = CallKind.normal ∧ TodoOk (ren 1 [(1, 1)]) mT2 mT2 ∧ off = off ∧ n = n ∧ Fn.func (49 : Nat) = Fn.func (49 : Nat) ∧ decide ((↑n : Int) ≤ (64 : Int)) = decide ((↑n : Int) ≤ (64 : Int)) ∧ off = off ∧ n = n ∧ off = off ∧ n = n ∧ Fn.func (49 : Nat) = Fn.func (49 : Nat) ∧ (↑n : Int) = (↑n : Int) ∧ Fn.func (49 : Nat) = Fn.func (49 : Nat) ∧ ty = ty ∧ cs = cs ∧ (76 : Nat) = (76 : Nat) ∧ off = off ∧ n = n ∧ True)) ∧ (((intAt cs (off + Int.toNat i * 5) == (6 : Int)) == true) = false → Q (ari BinOp.add IntKind.i64 i (1 : Int)) ∧ CallKind.normal = CallKind.normal ∧ TodoOk (ren 1 [(1, 1)]) mH0 mH0 ∧ off = off ∧ n = n ∧ Fn.func (49 : Nat) = Fn.func (49 : Nat) ∧ (↑n : Int) = (↑n : Int) ∧ ari BinOp.add IntKind.i64 i (1 : Int) = ari BinOp.add IntKind.i64 i (1 : Int) ∧ off = off ∧ n = n ∧ CallKind.normal = CallKind.normal ∧ TodoOk (ren 1 [(1, 1)]) mT1 mT1 ∧ off = off ∧ n = n ∧ Fn.func (49 : Nat) = Fn.func (49 : Nat) ∧ off = off ∧ n = n ∧ Fn.func (49 : Nat) = Fn.func (49 : Nat) ∧ CallKind.normal = CallKind.normal ∧ TodoOk (ren 1 [(1, 1)]) mT2 mT2 ∧ off = off ∧ n = n ∧ Fn.func (49 : Nat) = Fn.func (49 : Nat) ∧ decide ((↑n : Int) ≤ (64 : Int)) = decide ((↑n : Int) ≤ (64 : Int)) ∧ off = off ∧ n = n ∧ off = off ∧ n = n ∧ Fn.func (49 : Nat) = Fn.func (49 : Nat) ∧ (↑n : Int) = (↑n : Int) ∧ Fn.func (49 : Nat) = Fn.func (49 : Nat) ∧ ty = ty ∧ cs = cs ∧ (76 : Nat) = (76 : Nat) ∧ off = off ∧ n = n ∧ True)) ∧ ((decide ((if intAt cs (off + Int.toNat i * 5 + 3) > if intAt cs (off + Int.toNat i * 5 + 2) > intAt cs (off + Int.toNat i * 5 + 1) then intAt cs (off + Int.toNat i * 5 + 2) else intAt cs (off + Int.toNat i * 5 + 1) then intAt cs (off + Int.toNat i * 5 + 3) else if intAt cs (off + Int.toNat i * 5 + 2) > intAt cs (off + Int.toNat i * 5 + 1) then intAt cs (off + Int.toNat i * 5 + 2) else intAt cs (off + Int.toNat i * 5 + 1)) ≥ (8 : Int)) == false) = false → (!decide (i ≥ (0 : Int))) = r)) ∧ (((!decide (intAt cs (off + Int.toNat i * 5) ≤ (38 : Int))) == false) = false → (!decide (i ≥ (0 : Int))) = r)) ∧ ((decide (intAt cs (off + Int.toNat i * 5) > (16 : Int)) == true) = false → (!decide (i ≥ (0 : Int))) = r)) ∧ ((decide (intAt cs (off + Int.toNat i * 5) ≤ (6 : Int)) == false) = false → ((decide ((if intAt cs (off + Int.toNat i * 5 + 3) > if intAt cs (off + Int.toNat i * 5 + 2) > intAt cs (off + Int.toNat i * 5 + 1) then intAt cs (off + Int.toNat i * 5 + 2) else intAt cs (off + Int.toNat i * 5 + 1) then intAt cs (off + Int.toNat i * 5 + 3) else if intAt cs (off + Int.toNat i * 5 + 2) > intAt cs (off + Int.toNat i * 5 + 1) then intAt cs (off + Int.toNat i * 5 + 2) else intAt cs (off + Int.toNat i * 5 + 1)) ≥ (8 : Int)) == false) = true → (((intAt cs (off + Int.toNat i * 5) == (6 : Int)) == true) = true → (decide (IntKind.wrap IntKind.i64 (intAt cs (off + Int.toNat i * 5 + 4)) ≥ (↑n : Int)) = true → (!decide (i ≥ (0 : Int))) = r) ∧ (decide (IntKind.wrap IntKind.i64 (intAt cs (off + Int.toNat i * 5 + 4)) ≥ (↑n : Int)) = false → Q (ari BinOp.add IntKind.i64 i (1 : Int)) ∧ CallKind.normal = CallKind.normal ∧ TodoOk (ren 1 [(1, 1)]) mH0 mH0 ∧ off = off ∧ n = n ∧ Fn.func (49 : Nat) = Fn.func (49 : Nat) ∧ (↑n : Int) = (↑n : Int) ∧ ari BinOp.add IntKind.i64 i (1 : Int) = ari BinOp.add IntKind.i64 i (1 : Int) ∧ off = off ∧ n = n ∧ CallKind.normal = CallKind.normal ∧ TodoOk (ren 1 [(1, 1)]) mT1 mT1 ∧ off = off ∧ n = n ∧ Fn.func (49 : Nat) = Fn.func (49 : Nat) ∧ off = off ∧ n = n ∧ Fn.func (49 : Nat) = Fn.func (49 : Nat) ∧ CallKind.normal = CallKind.normal ∧ TodoOk (ren 1 [(1, 1)]) mT2 mT2 ∧ off = off ∧ n = n ∧ Fn.func (49 : Nat) = Fn.func (49 : Nat) ∧ decide ((↑n : Int) ≤ (64 : Int)) = decide ((↑n : Int) ≤ (64 : Int)) ∧ off = off ∧ n = n ∧ off = off ∧ n = n ∧ Fn.func (49 : Nat) = Fn.func (49 : Nat) ∧ (↑n : Int) = (↑n : Int) ∧ Fn.func (49 : Nat) = Fn.func (49 : Nat) ∧ ty = ty ∧ cs = cs ∧ (76 : Nat) = (76 : Nat) ∧ off = off ∧ n = n ∧ True)) ∧ (((intAt cs (off + Int.toNat i * 5) == (6 : Int)) == true) = false → Q (ari BinOp.add IntKind.i64 i (1 : Int)) ∧ CallKind.normal = CallKind.normal ∧ TodoOk (ren 1 [(1, 1)]) mH0 mH0 ∧ off = off ∧ n = n ∧ Fn.func (49 : Nat) = Fn.func (49 : Nat) ∧ (↑n : Int) = (↑n : Int) ∧ ari BinOp.add IntKind.i64 i (1 : Int) = ari BinOp.add IntKind.i64 i (1 : Int) ∧ off = off ∧ n = n ∧ CallKind.normal = CallKind.normal ∧ TodoOk (ren 1 [(1, 1)]) mT1 mT1 ∧ off = off ∧ n = n ∧ Fn.func (49 : Nat) = Fn.func (49 : Nat) ∧ off = off ∧ n = n ∧ Fn.func (49 : Nat) = Fn.func (49 : Nat) ∧ CallKind.normal = CallKind.normal ∧ TodoOk (ren 1 [(1, 1)]) mT2 mT2 ∧ off = off ∧ n = n ∧ Fn.func (49 : Nat) = Fn.func (49 : Nat) ∧ decide ((↑n : Int) ≤ (64 : Int)) = decide ((↑n : Int) ≤ (64 : Int)) ∧ off = off ∧ n = n ∧ off = off ∧ n = n ∧ Fn.func (49 : Nat) = Fn.func (49 : Nat) ∧ (↑n : Int) = (↑n : Int) ∧ Fn.func (49 : Nat) = Fn.func (49 : Nat) ∧ ty = ty ∧ cs = cs ∧ (76 : Nat) = (76 : Nat) ∧ off = off ∧ n = n ∧ True)) ∧ ((decide ((if intAt cs (off + Int.toNat i * 5 + 3) > if intAt cs (off + Int.toNat i * 5 + 2) > intAt cs (off + Int.toNat i * 5 + 1) then intAt cs (off + Int.toNat i * 5 + 2) else intAt cs (off + Int.toNat i * 5 + 1) then intAt cs (off + Int.toNat i * 5 + 3) else if intAt cs (off + Int.toNat i * 5 + 2) > intAt cs (off + Int.toNat i * 5 + 1) then intAt cs (off + Int.toNat i * 5 + 2) else intAt cs (off + Int.toNat i * 5 + 1)) ≥ (8 : Int)) == false) = false → (!decide (i ≥ (0 : Int))) = r))) ∧ (((intAt cs (off + Int.toNat i * 5) == (5 : Int)) == false) = false → ((decide (intAt cs (off + Int.toNat i * 5) ≤ (6 : Int)) == false) = true → ((decide (intAt cs (off + Int.toNat i * 5) > (16 : Int)) == true) = true → (((!decide (intAt cs (off + Int.toNat i * 5) ≤ (38 : Int))) == false) = true → ((decide ((if intAt cs (off + Int.toNat i * 5 + 3) > if intAt cs (off + Int.toNat i * 5 + 2) > intAt cs (off + Int.toNat i * 5 + 1) then intAt cs (off + Int.toNat i * 5 + 2) else intAt cs (off + Int.toNat i * 5 + 1) then intAt cs (off + Int.toNat i * 5 + 3) else if intAt cs (off + Int.toNat i * 5 + 2) > intAt cs (off + Int.toNat i * 5 + 1) then intAt cs (off + Int.toNat i * 5 + 2) else intAt cs (off + Int.toNat i * 5 + 1)) ≥ (8 : Int)) == false) = true → (decide (IntKind.wrap IntKind.i64 (intAt cs (off + Int.toNat i * 5 + 4)) ≥ (↑n : Int)) = true → (!decide (i ≥ (0 : Int))) = r) ∧ (decide (IntKind.wrap IntKind.i64 (intAt cs (off + Int.toNat i * 5 + 4)) ≥ (↑n : Int)) = false → Q (ari BinOp.add IntKind.i64 i (1 : Int)) ∧ CallKind.normal = CallKind.normal ∧ TodoOk (ren 1 [(1, 1)]) mH0 mH0 ∧ off = off ∧ n = n ∧ Fn.func (49 : Nat) = Fn.func (49 : Nat) ∧ (↑n : Int) = (↑n : Int) ∧ ari BinOp.add IntKind.i64 i (1 : Int) = ari BinOp.add IntKind.i64 i (1 : Int) ∧ off = off ∧ n = n ∧ CallKind.normal = CallKind.normal ∧ TodoOk (ren 1 [(1, 1)]) mT1 mT1 ∧ off = off ∧ n = n ∧ Fn.func (49 : Nat) = Fn.func (49 : Nat) ∧ off = off ∧ n = n ∧ Fn.func (49 : Nat) = Fn.func (49 : Nat) ∧ CallKind.normal = CallKind.normal ∧ TodoOk (ren 1 [(1, 1)]) mT2 mT2 ∧ off = off ∧ n = n ∧ Fn.func (49 : Nat) = Fn.func (49 : Nat) ∧ decide ((↑n : Int) ≤ (64 : Int)) = decide ((↑n : Int) ≤ (64 : Int)) ∧ off = off ∧ n = n ∧ off = off ∧ n = n ∧ Fn.func (49 : Nat) = Fn.func (49 : Nat) ∧ (↑n : Int) = (↑n : Int) ∧ Fn.func (49 : Nat) = Fn.func (49 : Nat) ∧ ty = ty ∧ cs = cs ∧ (76 : Nat) = (76 : Nat) ∧ off = off ∧ n = n ∧ True)) ∧ ((decide ((if intAt cs (off + Int.toNat i * 5 + 3) > if intAt cs (off + Int.toNat i * 5 + 2) > intAt cs (off + Int.toNat i * 5 + 1) then intAt cs (off + Int.toNat i * 5 + 2) else intAt cs (off + Int.toNat i * 5 + 1) then intAt cs (off + Int.toNat i * 5 + 3) else if intAt cs (off + Int.toNat i * 5 + 2) > intAt cs (off + Int.toNat i * 5 + 1) then intAt cs (off + Int.toNat i * 5 + 2) else intAt cs (off + Int.toNat i * 5 + 1)) ≥ (8 : Int)) == false) = false → (!decide (i ≥ (0 : Int))) = r)) ∧ (((!decide (intAt cs (off + Int.toNat i * 5) ≤ (38 : Int))) == false) = false → (!decide (i ≥ (0 : Int))) = r)) ∧ ((decide (intAt cs (off + Int.toNat i * 5) > (16 : Int)) == true) = false → (!decide (i ≥ (0 : Int))) = r)) ∧ ((decide (intAt cs (off + Int.toNat i * 5) ≤ (6 : Int)) == false) = false → ((decide ((if intAt cs (off + Int.toNat i * 5 + 3) > if intAt cs (off + Int.toNat i * 5 + 2) > intAt cs (off + Int.toNat i * 5 + 1) then intAt cs (off + Int.toNat i * 5 + 2) else intAt cs (off + Int.toNat i * 5 + 1) then intAt cs (off + Int.toNat i * 5 + 3) else if intAt cs (off + Int.toNat i * 5 + 2) > intAt cs (off + Int.toNat i * 5 + 1) then intAt cs (off + Int.toNat i * 5 + 2) else intAt cs (off + Int.toNat i * 5 + 1)) ≥ (8 : Int)) == false) = true → (decide (IntKind.wrap IntKind.i64 (intAt cs (off + Int.toNat i * 5 + 4)) ≥ (↑n : Int)) = true → (!decide (i ≥ (0 : Int))) = r) ∧ (decide (IntKind.wrap IntKind.i64 (intAt cs (off + Int.toNat i * 5 + 4)) ≥ (↑n : Int)) = false → Q (ari BinOp.add IntKind.i64 i (1 : Int)) ∧ CallKind.normal = CallKind.normal ∧ TodoOk (ren 1 [(1, 1)]) mH0 mH0 ∧ off = off ∧ n = n ∧ Fn.func (49 : Nat) = Fn.func (49 : Nat) ∧ (↑n : Int) = (↑n : Int) ∧ ari BinOp.add IntKind.i64 i (1 : Int) = ari BinOp.add IntKind.i64 i (1 : Int) ∧ off = off ∧ n = n ∧ CallKind.normal = CallKind.normal ∧ TodoOk (ren 1 [(1, 1)]) mT1 mT1 ∧ off = off ∧ n = n ∧ Fn.func (49 : Nat) = Fn.func (49 : Nat) ∧ off = off ∧ n = n ∧ Fn.func (49 : Nat) = Fn.func (49 : Nat) ∧ CallKind.normal = CallKind.normal ∧ TodoOk (ren 1 [(1, 1)]) mT2 mT2 ∧ off = off ∧ n = n ∧ Fn.func (49 : Nat) = Fn.func (49 : Nat) ∧ decide ((↑n : Int) ≤ (64 : Int)) = decide ((↑n : Int) ≤ (64 : Int)) ∧ off = off ∧ n = n ∧ off = off ∧ n = n ∧ Fn.func (49 : Nat) = Fn.func (49 : Nat) ∧ (↑n : Int) = (↑n : Int) ∧ Fn.func (49 : Nat) = Fn.func (49 : Nat) ∧ ty = ty ∧ cs = cs ∧ (76 : Nat) = (76 : Nat) ∧ off = off ∧ n = n ∧ True)) ∧ ((decide ((if intAt cs (off + Int.toNat i * 5 + 3) > if intAt cs (off + Int.toNat i * 5 + 2) > intAt cs (off + Int.toNat i * 5 + 1) then intAt cs (off + Int.toNat i * 5 + 2) else intAt cs (off + Int.toNat i * 5 + 1) then intAt cs (off + Int.toNat i * 5 + 3) else if intAt cs (off + Int.toNat i * 5 + 2) > intAt cs (off + Int.toNat i * 5 + 1) then intAt cs (off + Int.toNat i * 5 + 2) else intAt cs (off + Int.toNat i * 5 + 1)) ≥ (8 : Int)) == false) = false → (!decide (i ≥ (0 : Int))) = r)))) ∧ (decide (i < (↑n : Int)) = false → (!decide ((-1 : Int) ≥ (0 : Int))) = r)) := by kernel_rfl
theorem may_step_p (off n : Nat) (cs : Array Value) (ty : TypeId) (r : Bool) (i : Int) (Q : Int → Prop) : (gS EM 1 (mayC off n) (prM false cs ty) [(8, i64 (.o i))] []).vc (boolR r) (mayN true false off n cs ty Q) =
    ((decide (i < (↑n : Int)) = true → (((0 : Int) ≤ i ∧ i < (↑n : Int)) ∧ True) ∧ (IsInt IntKind.u8 cs (off + Int.toNat i * 5) ∧ IsInt IntKind.u8 cs (off + Int.toNat i * 5 + 1) ∧ IsInt IntKind.u8 cs (off + Int.toNat i * 5 + 2) ∧ IsInt IntKind.u8 cs (off + Int.toNat i * 5 + 3) ∧ IsInt IntKind.u16 cs (off + Int.toNat i * 5 + 4) ∧ True) ∧ (((intAt cs (off + Int.toNat i * 5) == (5 : Int)) == false) = true → ((decide (intAt cs (off + Int.toNat i * 5) ≤ (6 : Int)) == false) = true → ((decide (intAt cs (off + Int.toNat i * 5) > (16 : Int)) == true) = true → (((!decide (intAt cs (off + Int.toNat i * 5) ≤ (38 : Int))) == false) = true → ((decide ((if intAt cs (off + Int.toNat i * 5 + 3) > if intAt cs (off + Int.toNat i * 5 + 2) > intAt cs (off + Int.toNat i * 5 + 1) then intAt cs (off + Int.toNat i * 5 + 2) else intAt cs (off + Int.toNat i * 5 + 1) then intAt cs (off + Int.toNat i * 5 + 3) else if intAt cs (off + Int.toNat i * 5 + 2) > intAt cs (off + Int.toNat i * 5 + 1) then intAt cs (off + Int.toNat i * 5 + 2) else intAt cs (off + Int.toNat i * 5 + 1)) ≥ (8 : Int)) == false) = true → (((intAt cs (off + Int.toNat i * 5) == (6 : Int)) == true) = true → (decide (IntKind.wrap IntKind.i64 (intAt cs (off + Int.toNat i * 5 + 4)) ≥ (↑n : Int)) = true → (!decide (i ≥ (0 : Int))) = r) ∧ (decide (IntKind.wrap IntKind.i64 (intAt cs (off + Int.toNat i * 5 + 4)) ≥ (↑n : Int)) = false → Q (ari BinOp.add IntKind.i64 i (1 : Int)) ∧ CallKind.normal = CallKind.normal ∧ TodoOk (ren 1 [(1, 1)]) mH0 mH0 ∧ off = off ∧ n = n ∧ Fn.func (49 : Nat) = Fn.func (49 : Nat) ∧ (↑n : Int) = (↑n : Int) ∧ ari BinOp.add IntKind.i64 i (1 : Int) = ari BinOp.add IntKind.i64 i (1 : Int) ∧ off = off ∧ n = n ∧ CallKind.normal = CallKind.normal ∧ TodoOk (ren 1 [(1, 1)]) mT1 mT1 ∧ off = off ∧ n = n ∧ Fn.func (49 : Nat) = Fn.func (49 : Nat) ∧ off = off ∧ n = n ∧ Fn.func (49 : Nat) = Fn.func (49 : Nat) ∧ CallKind.normal = CallKind.normal ∧ TodoOk (ren 1 [(1, 1)]) mT2 mT2 ∧ off = off ∧ n = n ∧ Fn.func (49 : Nat) = Fn.func (49 : Nat) ∧ decide ((↑n : Int) ≤ (64 : Int)) = decide ((↑n : Int) ≤ (64 : Int)) ∧ off = off ∧ n = n ∧ off = off ∧ n = n ∧ Fn.func (49 : Nat) = Fn.func (49 : Nat) ∧ (↑n : Int) = (↑n : Int) ∧ Fn.func (49 : Nat) = Fn.func (49 : Nat) ∧ ty = ty ∧ cs = cs ∧ (76 : Nat) = (76 : Nat) ∧ off = off ∧ n = n ∧ True)) ∧ (((intAt cs (off + Int.toNat i * 5) == (6 : Int)) == true) = false → Q (ari BinOp.add IntKind.i64 i (1 : Int)) ∧ CallKind.normal = CallKind.normal ∧ TodoOk (ren 1 [(1, 1)]) mH0 mH0 ∧ off = off ∧ n = n ∧ Fn.func (49 : Nat) = Fn.func (49 : Nat) ∧ (↑n : Int) = (↑n : Int) ∧ ari BinOp.add IntKind.i64 i (1 : Int) = ari BinOp.add IntKind.i64 i (1 : Int) ∧ off = off ∧ n = n ∧ CallKind.normal = CallKind.normal ∧ TodoOk (ren 1 [(1, 1)]) mT1 mT1 ∧ off = off ∧ n = n ∧ Fn.func (49 : Nat) = Fn.func (49 : Nat) ∧ off = off ∧ n = n ∧ Fn.func (49 : Nat) = Fn.func (49 : Nat) ∧ CallKind.normal = CallKind.normal ∧ TodoOk (ren 1 [(1, 1)]) mT2 mT2 ∧ off = off ∧ n = n ∧ Fn.func (49 : Nat) = Fn.func (49 : Nat) ∧ decide ((↑n : Int) ≤ (64 : Int)) = decide ((↑n : Int) ≤ (64 : Int)) ∧ off = off ∧ n = n ∧ off = off ∧ n = n ∧ Fn.func (49 : Nat) = Fn.func (49 : Nat) ∧ (↑n : Int) = (↑n : Int) ∧ Fn.func (49 : Nat) = Fn.func (49 : Nat) ∧ ty = ty ∧ cs = cs ∧ (76 : Nat) = (76 : Nat) ∧ off = off ∧ n = n ∧ True)) ∧ ((decide ((if intAt cs (off + Int.toNat i * 5 + 3) > if intAt cs (off + Int.toNat i * 5 + 2) > intAt cs (off + Int.toNat i * 5 + 1) then intAt cs (off + Int.toNat i * 5 + 2) else intAt cs (off + Int.toNat i * 5 + 1) then intAt cs (off + Int.toNat i * 5 + 3) else if intAt cs (off + Int.toNat i * 5 + 2) > intAt cs (off + Int.toNat i * 5 + 1) then intAt cs (off + Int.toNat i * 5 + 2) else intAt cs (off + Int.toNat i * 5 + 1)) ≥ (8 : Int)) == false) = false → (!decide (i ≥ (0 : Int))) = r)) ∧ (((!decide (intAt cs (off + Int.toNat i * 5) ≤ (38 : Int))) == false) = false → (!decide (i ≥ (0 : Int))) = r)) ∧ ((decide (intAt cs (off + Int.toNat i * 5) > (16 : Int)) == true) = false → (!decide (i ≥ (0 : Int))) = r)) ∧ ((decide (intAt cs (off + Int.toNat i * 5) ≤ (6 : Int)) == false) = false → ((decide ((if intAt cs (off + Int.toNat i * 5 + 3) > if intAt cs (off + Int.toNat i * 5 + 2) > intAt cs (off + Int.toNat i * 5 + 1) then intAt cs (off + Int.toNat i * 5 + 2) else intAt cs (off + Int.toNat i * 5 + 1) then intAt cs (off + Int.toNat i * 5 + 3) else if intAt cs (off + Int.toNat i * 5 + 2) > intAt cs (off + Int.toNat i * 5 + 1) then intAt cs (off + Int.toNat i * 5 + 2) else intAt cs (off + Int.toNat i * 5 + 1)) ≥ (8 : Int)) == false) = true → (((intAt cs (off + Int.toNat i * 5) == (6 : Int)) == true) = true → (decide (IntKind.wrap IntKind.i64 (intAt cs (off + Int.toNat i * 5 + 4)) ≥ (↑n : Int)) = true → (!decide (i ≥ (0 : Int))) = r) ∧ (decide (IntKind.wrap IntKind.i64 (intAt cs (off + Int.toNat i * 5 + 4)) ≥ (↑n : Int)) = false → Q (ari BinOp.add IntKind.i64 i (1 : Int)) ∧ CallKind.normal = CallKind.normal ∧ TodoOk (ren 1 [(1, 1)]) mH0 mH0 ∧ off = off ∧ n = n ∧ Fn.func (49 : Nat) = Fn.func (49 : Nat) ∧ (↑n : Int) = (↑n : Int) ∧ ari BinOp.add IntKind.i64 i (1 : Int) = ari BinOp.add IntKind.i64 i (1 : Int) ∧ off = off ∧ n = n ∧ CallKind.normal = CallKind.normal ∧ TodoOk (ren 1 [(1, 1)]) mT1 mT1 ∧ off = off ∧ n = n ∧ Fn.func (49 : Nat) = Fn.func (49 : Nat) ∧ off = off ∧ n = n ∧ Fn.func (49 : Nat) = Fn.func (49 : Nat) ∧ CallKind.normal = CallKind.normal ∧ TodoOk (ren 1 [(1, 1)]) mT2 mT2 ∧ off = off ∧ n = n ∧ Fn.func (49 : Nat) = Fn.func (49 : Nat) ∧ decide ((↑n : Int) ≤ (64 : Int)) = decide ((↑n : Int) ≤ (64 : Int)) ∧ off = off ∧ n = n ∧ off = off ∧ n = n ∧ Fn.func (49 : Nat) = Fn.func (49 : Nat) ∧ (↑n : Int) = (↑n : Int) ∧ Fn.func (49 : Nat) = Fn.func (49 : Nat) ∧ ty = ty ∧ cs = cs ∧ (76 : Nat) = (76 : Nat) ∧ off = off ∧ n = n ∧ True)) ∧ (((intAt cs (off + Int.toNat i * 5) == (6 : Int)) == true) = false → Q (ari BinOp.add IntKind.i64 i (1 : Int)) ∧ CallKind.normal = CallKind.normal ∧ TodoOk (ren 1 [(1, 1)]) mH0 mH0 ∧ off = off ∧ n = n ∧ Fn.func (49 : Nat) = Fn.func (49 : Nat) ∧ (↑n : Int) = (↑n : Int) ∧ ari BinOp.add IntKind.i64 i (1 : Int) = ari BinOp.add IntKind.i64 i (1 : Int) ∧ off = off ∧ n = n ∧ CallKind.normal = CallKind.normal ∧ TodoOk (ren 1 [(1, 1)]) mT1 mT1 ∧ off = off ∧ n = n ∧ Fn.func (49 : Nat) = Fn.func (49 : Nat) ∧ off = off ∧ n = n ∧ Fn.func (49 : Nat) = Fn.func (49 : Nat) ∧ CallKind.normal = CallKind.normal ∧ TodoOk (ren 1 [(1, 1)]) mT2 mT2 ∧ off = off ∧ n = n ∧ Fn.func (49 : Nat) = Fn.func (49 : Nat) ∧ decide ((↑n : Int) ≤ (64 : Int)) = decide ((↑n : Int) ≤ (64 : Int)) ∧ off = off ∧ n = n ∧ off = off ∧ n = n ∧ Fn.func (49 : Nat) = Fn.func (49 : Nat) ∧ (↑n : Int) = (↑n : Int) ∧ Fn.func (49 : Nat) = Fn.func (49 : Nat) ∧ ty = ty ∧ cs = cs ∧ (76 : Nat) = (76 : Nat) ∧ off = off ∧ n = n ∧ True)) ∧ ((decide ((if intAt cs (off + Int.toNat i * 5 + 3) > if intAt cs (off + Int.toNat i * 5 + 2) > intAt cs (off + Int.toNat i * 5 + 1) then intAt cs (off + Int.toNat i * 5 + 2) else intAt cs (off + Int.toNat i * 5 + 1) then intAt cs (off + Int.toNat i * 5 + 3) else if intAt cs (off + Int.toNat i * 5 + 2) > intAt cs (off + Int.toNat i * 5 + 1) then intAt cs (off + Int.toNat i * 5 + 2) else intAt cs (off + Int.toNat i * 5 + 1)) ≥ (8 : Int)) == false) = false → (!decide (i ≥ (0 : Int))) = r))) ∧ (((intAt cs (off + Int.toNat i * 5) == (5 : Int)) == false) = false → ((decide (intAt cs (off + Int.toNat i * 5) ≤ (6 : Int)) == false) = true → ((decide (intAt cs (off + Int.toNat i * 5) > (16 : Int)) == true) = true → (((!decide (intAt cs (off + Int.toNat i * 5) ≤ (38 : Int))) == false) = true → ((decide ((if intAt cs (off + Int.toNat i * 5 + 3) > if intAt cs (off + Int.toNat i * 5 + 2) > intAt cs (off + Int.toNat i * 5 + 1) then intAt cs (off + Int.toNat i * 5 + 2) else intAt cs (off + Int.toNat i * 5 + 1) then intAt cs (off + Int.toNat i * 5 + 3) else if intAt cs (off + Int.toNat i * 5 + 2) > intAt cs (off + Int.toNat i * 5 + 1) then intAt cs (off + Int.toNat i * 5 + 2) else intAt cs (off + Int.toNat i * 5 + 1)) ≥ (8 : Int)) == false) = true → (decide (IntKind.wrap IntKind.i64 (intAt cs (off + Int.toNat i * 5 + 4)) ≥ (↑n : Int)) = true → (!decide (i ≥ (0 : Int))) = r) ∧ (decide (IntKind.wrap IntKind.i64 (intAt cs (off + Int.toNat i * 5 + 4)) ≥ (↑n : Int)) = false → Q (ari BinOp.add IntKind.i64 i (1 : Int)) ∧ CallKind.normal = CallKind.normal ∧ TodoOk (ren 1 [(1, 1)]) mH0 mH0 ∧ off = off ∧ n = n ∧ Fn.func (49 : Nat) = Fn.func (49 : Nat) ∧ (↑n : Int) = (↑n : Int) ∧ ari BinOp.add IntKind.i64 i (1 : Int) = ari BinOp.add IntKind.i64 i (1 : Int) ∧ off = off ∧ n = n ∧ CallKind.normal = CallKind.normal ∧ TodoOk (ren 1 [(1, 1)]) mT1 mT1 ∧ off = off ∧ n = n ∧ Fn.func (49 : Nat) = Fn.func (49 : Nat) ∧ off = off ∧ n = n ∧ Fn.func (49 : Nat) = Fn.func (49 : Nat) ∧ CallKind.normal = CallKind.normal ∧ TodoOk (ren 1 [(1, 1)]) mT2 mT2 ∧ off = off ∧ n = n ∧ Fn.func (49 : Nat) = Fn.func (49 : Nat) ∧ decide ((↑n : Int) ≤ (64 : Int)) = decide ((↑n : Int) ≤ (64 : Int)) ∧ off = off ∧ n = n ∧ off = off ∧ n = n ∧ Fn.func (49 : Nat) = Fn.func (49 : Nat) ∧ (↑n : Int) = (↑n : Int) ∧ Fn.func (49 : Nat) = Fn.func (49 : Nat) ∧ ty = ty ∧ cs = cs ∧ (76 : Nat) = (76 : Nat) ∧ off = off ∧ n = n ∧ True)) ∧ ((decide ((if intAt cs (off + Int.toNat i * 5 + 3) > if intAt cs (off + Int.toNat i * 5 + 2) > intAt cs (off + Int.toNat i * 5 + 1) then intAt cs (off + Int.toNat i * 5 + 2) else intAt cs (off + Int.toNat i * 5 + 1) then intAt cs (off + Int.toNat i * 5 + 3) else if intAt cs (off + Int.toNat i * 5 + 2) > intAt cs (off + Int.toNat i * 5 + 1) then intAt cs (off + Int.toNat i * 5 + 2) else intAt cs (off + Int.toNat i * 5 + 1)) ≥ (8 : Int)) == false) = false → (!decide (i ≥ (0 : Int))) = r)) ∧ (((!decide (intAt cs (off + Int.toNat i * 5) ≤ (38 : Int))) == false) = false → (!decide (i ≥ (0 : Int))) = r)) ∧ ((decide (intAt cs (off + Int.toNat i * 5) > (16 : Int)) == true) = false → (!decide (i ≥ (0 : Int))) = r)) ∧ ((decide (intAt cs (off + Int.toNat i * 5) ≤ (6 : Int)) == false) = false → ((decide ((if intAt cs (off + Int.toNat i * 5 + 3) > if intAt cs (off + Int.toNat i * 5 + 2) > intAt cs (off + Int.toNat i * 5 + 1) then intAt cs (off + Int.toNat i * 5 + 2) else intAt cs (off + Int.toNat i * 5 + 1) then intAt cs (off + Int.toNat i * 5 + 3) else if intAt cs (off + Int.toNat i * 5 + 2) > intAt cs (off + Int.toNat i * 5 + 1) then intAt cs (off + Int.toNat i * 5 + 2) else intAt cs (off + Int.toNat i * 5 + 1)) ≥ (8 : Int)) == false) = true → (decide (IntKind.wrap IntKind.i64 (intAt cs (off + Int.toNat i * 5 + 4)) ≥ (↑n : Int)) = true → (!decide (i ≥ (0 : Int))) = r) ∧ (decide (IntKind.wrap IntKind.i64 (intAt cs (off + Int.toNat i * 5 + 4)) ≥ (↑n : Int)) = false → Q (ari BinOp.add IntKind.i64 i (1 : Int)) ∧ CallKind.normal = CallKind.normal ∧ TodoOk (ren 1 [(1, 1)]) mH0 mH0 ∧ off = off ∧ n = n ∧ Fn.func (49 : Nat) = Fn.func (49 : Nat) ∧ (↑n : Int) = (↑n : Int) ∧ ari BinOp.add IntKind.i64 i (1 : Int) = ari BinOp.add IntKind.i64 i (1 : Int) ∧ off = off ∧ n = n ∧ CallKind.normal = CallKind.normal ∧ TodoOk (ren 1 [(1, 1)]) mT1 mT1 ∧ off = off ∧ n = n ∧ Fn.func (49 : Nat) = Fn.func (49 : Nat) ∧ off = off ∧ n = n ∧ Fn.func (49 : Nat) = Fn.func (49 : Nat) ∧ CallKind.normal = CallKind.normal ∧ TodoOk (ren 1 [(1, 1)]) mT2 mT2 ∧ off = off ∧ n = n ∧ Fn.func (49 : Nat) = Fn.func (49 : Nat) ∧ decide ((↑n : Int) ≤ (64 : Int)) = decide ((↑n : Int) ≤ (64 : Int)) ∧ off = off ∧ n = n ∧ off = off ∧ n = n ∧ Fn.func (49 : Nat) = Fn.func (49 : Nat) ∧ (↑n : Int) = (↑n : Int) ∧ Fn.func (49 : Nat) = Fn.func (49 : Nat) ∧ ty = ty ∧ cs = cs ∧ (76 : Nat) = (76 : Nat) ∧ off = off ∧ n = n ∧ True)) ∧ ((decide ((if intAt cs (off + Int.toNat i * 5 + 3) > if intAt cs (off + Int.toNat i * 5 + 2) > intAt cs (off + Int.toNat i * 5 + 1) then intAt cs (off + Int.toNat i * 5 + 2) else intAt cs (off + Int.toNat i * 5 + 1) then intAt cs (off + Int.toNat i * 5 + 3) else if intAt cs (off + Int.toNat i * 5 + 2) > intAt cs (off + Int.toNat i * 5 + 1) then intAt cs (off + Int.toNat i * 5 + 2) else intAt cs (off + Int.toNat i * 5 + 1)) ≥ (8 : Int)) == false) = false → (!decide (i ≥ (0 : Int))) = r)))) ∧ (decide (i < (↑n : Int)) = false → (!decide ((-1 : Int) ≥ (0 : Int))) = r)) := by kernel_rfl
end Go.Proofs.Ytapkbgccbmjfaaa
/- Of journal: instructions, and what May answers. No condition. -/
namespace Go.Proofs.Ytapkbgccbmjfaaa
set_option maxRecDepth 100000
structure Ins where
  o : Int
  a : Int
  b : Int
  c : Int
  n : Int
theorem Ins.ext' {x y : Ins} (h1 : x.o = y.o) (h2 : x.a = y.a) (h3 : x.b = y.b) (h4 : x.c = y.c) (h5 : x.n = y.n) : x = y := by cases x; cases y; simp_all
def ins (cs : Array Value) (off i : Nat) : Ins := ⟨intAt cs (off + i * 5), intAt cs (off + i * 5 + 1), intAt cs (off + i * 5 + 2), intAt cs (off + i * 5 + 3), intAt cs (off + i * 5 + 4)⟩
def Ins.In (x : Ins) : Prop := (0 ≤ x.o ∧ x.o ≤ 255) ∧ (0 ≤ x.a ∧ x.a ≤ 255) ∧ (0 ≤ x.b ∧ x.b ≤ 255) ∧ (0 ≤ x.c ∧ x.c ≤ 255) ∧ (0 ≤ x.n ∧ x.n ≤ 65535)
def InsAt (cs : Array Value) (p : Nat) : Prop := IsInt .u8 cs p ∧ IsInt .u8 cs (p + 1) ∧ IsInt .u8 cs (p + 2) ∧ IsInt .u8 cs (p + 3) ∧ IsInt .u16 cs (p + 4)
def InsOk (cs : Array Value) (off n : Nat) : Prop := n < 9223372036854775807 ∧ ∀ i, i < n → InsAt cs (off + i * 5) ∧ (ins cs off i).In
def Ins.okN (x : Ins) (n : Nat) : Bool := decide ((x.o ≤ 6 ∨ (16 < x.o ∧ x.o ≤ 38)) ∧ x.a < 8 ∧ x.b < 8 ∧ x.c < 8 ∧ ¬ ((x.o = 5 ∨ x.o = 6) ∧ (n : Int) ≤ x.n))
theorem Ins.okN_iff {x : Ins} {n : Nat} : x.okN n = true ↔ (x.o ≤ 6 ∨ (16 < x.o ∧ x.o ≤ 38)) ∧ x.a < 8 ∧ x.b < 8 ∧ x.c < 8 ∧ ¬ ((x.o = 5 ∨ x.o = 6) ∧ (n : Int) ≤ x.n) := by unfold Ins.okN; rw [decide_eq_true_eq]
def allOk (cs : Array Value) (off N : Nat) : Nat → Bool
  | 0 => true
  | k + 1 => allOk cs off N k && (ins cs off k).okN N
theorem allOk_iff {cs : Array Value} {off N : Nat} : ∀ {k : Nat}, allOk cs off N k = true ↔ ∀ i, i < k → (ins cs off i).okN N = true
  | 0 => by simp [allOk]
  | k + 1 => by
    unfold allOk
    rw [Bool.and_eq_true, allOk_iff]
    refine ⟨fun h i hi => ?_, fun h => ⟨fun i hi => h i (by omega), h k (by omega)⟩⟩
    by_cases e : i = k
    · rw [e]; exact h.2
    · exact h.1 i (by omega)
def mayV (cs : Array Value) (off n : Nat) : Bool := decide (n ≤ 64) && allOk cs off n n
theorem mayV_iff {cs : Array Value} {off n : Nat} : mayV cs off n = true ↔ n ≤ 64 ∧ ∀ i, i < n → (ins cs off i).okN n = true := by
  unfold mayV
  rw [Bool.and_eq_true, decide_eq_true_eq, allOk_iff]
theorem i64_nat {k : Nat} (h : k < 9223372036854775807) : IntKind.i64.wrap ((k : Int) + 1) = ((k + 1 : Nat) : Int) := by
  rw [Go.IntWalk.i64_in _ (by omega)]; rfl
theorem mayN_good {h v : Bool} {off n : Nat} {cs : Array Value} {ty : TypeId} {A : SV → SMem → Prop} {Q : Int → Prop} (hg : ∀ i, Q i → Good EM.P A 1 (gH EM 1 (mayC off n) (prM v cs ty) [(8, i64 (.o i))]) (gM EM 1 (mayC off n) (prM v cs ty) [])) {fs : List SFr} {m : SMem} (hb : mayN h v off n cs ty Q fs m) : Good EM.P A 1 fs m := by
  unfold mayN at hb
  split at hb
  · split at hb
    · exact gN_good hb.2 (hg _ hb.1)
    · exact hb.elim
  · exact hb.elim
theorem mT0_ok : TodoOk (ren 1 [(1, 1)]) mT0 mT0 := TodoOk.same (by kernel_rfl)
theorem mT1_ok : TodoOk (ren 1 [(1, 1)]) mT1 mT1 := TodoOk.same (by kernel_rfl)
theorem mT2_ok : TodoOk (ren 1 [(1, 1)]) mT2 mT2 := TodoOk.same (by kernel_rfl)
theorem max3 {a b c : Int} : (if c > if b > a then b else a then c else if b > a then b else a) ≥ 8 ↔ ¬ (a < 8 ∧ b < 8 ∧ c < 8) := by
  split <;> split <;> omega
theorem eqJ {b : Bool} : ((b == true) = true) = (b = true) := by cases b <;> rfl
theorem gM_may (v : Bool) (off n : Nat) (cs : Array Value) (ty : TypeId) : gM EM 1 (mayC off n) (prM v cs ty) [] = gM EM 1 (mayC off n) (prM v cs ty) [] := rfl
section
variable (off n : Nat) (cs : Array Value) (ty : TypeId) (hI : InsOk cs off n)
include hI
theorem may_round {v : Bool} (hn : n ≤ 64)
    (step : ∀ (r : Bool) (i : Int) (Q : Int → Prop), (gS EM 1 (mayC off n) (prM v cs ty) [(8, i64 (.o i))] []).vc (boolR r) (mayN true v off n cs ty Q) = (gS EM 1 (mayC off n) (prM true cs ty) [(8, i64 (.o i))] []).vc (boolR r) (mayN true true off n cs ty Q)) :
    ∀ (k i : Nat), n - i < k → i ≤ n → (∀ j, j < i → (ins cs off j).okN n = true) → Good EM.P (boolR (mayV cs off n)) 1 (gH EM 1 (mayC off n) (prM v cs ty) [(8, i64 (.o i))]) (gM EM 1 (mayC off n) (prM v cs ty) []) := by
  intro k
  induction k with
  | zero => intro i h; omega
  | succ k ih =>
    intro i hk hi hd
    refine past_vc EM_ok 1000 ((step (mayV cs off n) i (fun i' => ∃ j : Nat, i' = j ∧ n - j < k ∧ j ≤ n ∧ ∀ t, t < j → (ins cs off t).okN n = true)).trans (may_step_r off n cs ty (mayV cs off n) i _)) ?_ (fun _ _ h => h)
      (fun fs m hb => mayN_good (fun i' ⟨j, e, k1, k2, k3⟩ => by rw [e]; exact ih j k1 k2 k3) hb)
    have hn64 : n < 9223372036854775807 := hI.1
    refine ⟨fun h => ?_, fun h => ?_⟩
    · have hlt : i < n := by simpa using h
      obtain ⟨⟨i1, i2, i3, i4, i5⟩, r1, r2, r3, r4, r5⟩ := hI.2 i hlt
      rw [Int.toNat_natCast]
      refine ⟨⟨⟨by omega, by omega⟩, trivial⟩, ⟨i1, i2, i3, i4, i5, trivial⟩, ?_⟩
      have hyes : (ins cs off i).okN n = true → ∃ j : Nat, ((i + 1 : Nat) : Int) = j ∧ n - j < k ∧ j ≤ n ∧ ∀ t, t < j → (ins cs off t).okN n = true := fun h => ⟨i + 1, rfl, by omega, by omega, fun t ht => by
        by_cases e : t = i
        · rw [e]; exact h
        · exact hd t (by omega)⟩
      have hno : ¬ (ins cs off i).okN n = true → (!decide ((i : Int) ≥ 0)) = mayV cs off n := fun h => by
        have e1 : decide ((i : Int) ≥ 0) = true := by simp
        have e2 : mayV cs off n = false := by
          cases e : mayV cs off n with
          | false => rfl
          | true => exact (h ((mayV_iff.1 e).2 i hlt)).elim
        rw [e1, e2]; rfl
      have eA : ari BinOp.add IntKind.i64 (i : Int) 1 = ((i + 1 : Nat) : Int) := by rw [ari_add, i64_nat (show i < 9223372036854775807 by omega)]
      rw [eA]
      generalize hYe : (∃ j : Nat, ((i + 1 : Nat) : Int) = j ∧ n - j < k ∧ j ≤ n ∧ ∀ t, t < j → (ins cs off t).okN n = true) = Y at hyes ⊢
      generalize hRe : ((!decide ((i : Int) ≥ 0)) = mayV cs off n) = Z at hno ⊢
      rw [Ins.okN_iff] at hyes hno
      simp only [ins] at hyes hno r1 r2 r3 r4 r5
      generalize intAt cs (off + i * 5) = xo at hyes hno r1 r2 r3 r4 r5 ⊢
      generalize intAt cs (off + i * 5 + 1) = xa at hyes hno r1 r2 r3 r4 r5 ⊢
      generalize intAt cs (off + i * 5 + 2) = xb at hyes hno r1 r2 r3 r4 r5 ⊢
      generalize intAt cs (off + i * 5 + 3) = xc at hyes hno r1 r2 r3 r4 r5 ⊢
      generalize intAt cs (off + i * 5 + 4) = xn at hyes hno r1 r2 r3 r4 r5 ⊢
      rw [Go.IntWalk.i64_in xn (by omega)]
      simp only [max3, eqJ, beq_iff_eq, beq_eq_false_iff_ne, decide_eq_true_eq, decide_eq_false_iff_not, Bool.not_eq_eq_eq_not, Bool.not_true, Bool.not_false, ne_eq]
      clear hYe hRe step ih hd
      repeat' first | apply And.intro | (intro hh)
      all_goals first | exact trivial | exact mH0_ok | exact mT1_ok | exact mT2_ok | exact rfl | skip
      all_goals first | (refine hyes ?_; omega) | (refine hno ?_; omega) | skip
    · have h1 : ¬ i < n := by simpa using h
      have e : mayV cs off n = true := mayV_iff.2 ⟨hn, fun j hj => hd j (by omega)⟩
      rw [e]
      rfl
end
end Go.Proofs.Ytapkbgccbmjfaaa
/- Of journal: what the functions promise, and the states of Encode and Decode. No condition. -/
namespace Go.Proofs.Ytapkbgccbmjfaaa
noncomputable section
def nilV : SV := .s (.c (.f (.lit (.slice none 0 0))))
def rowI (m : SMem) (i : Nat) : Option (Array Value) := match getB m.bl i with
  | some ⟨.raw cs, _, _⟩ => some cs
  | some ⟨.pop cs, _, _⟩ => some cs
  | _ => none
def mayT (m : SMem) : SV → Option Tree
  | .s (.c (.f (.lit (.slice none 0 0)))) => some (.ret (sB (.l true)) m)
  | .s (.c (.f .e0)) => some (.ret (sB (.l true)) m)
  | .s (.c (.f (.slice i o n _))) => match rowI m i with
    | some cs => some (needs [InsOk cs o.den n.den] (.ret (sB (.o (mayV cs o.den n.den))) m))
    | none => none
  | _ => none
def con9 (g : FuncId) (l : List SV) (m : SMem) : Option Tree := match g, l with
  | 46, [x] => mayT m x
  | _, _ => none
def E9 : Env := ⟨Try.prog, fnOf, con9, fun _ _ x => isLoop x⟩
def u8V (n : Int) : Value := .int .u8 n
end
end Go.Proofs.Ytapkbgccbmjfaaa
/- Of journal: the states of Decode. No condition. -/
namespace Go.Proofs.Ytapkbgccbmjfaaa
noncomputable section
def strV (s : ByteArray) : SV := .s (.c (.f (.opq (.string s))))
def decC (s : ByteArray) : List SFr := [callFr 40 Try.f40.ntmps [strV s] (Try.f40.body.getD .skip)]
def M0 : SMem := ⟨0, .nil, []⟩
def xsA (x0 x1 x2 x3 x4 x5 : Int) : SA := .ls [.f (.int .u8 (.o x0)), .f (.int .u8 (.o x1)), .f (.int .u8 (.o x2)), .f (.int .u8 (.o x3)), .f (.int .u8 (.o x4)), .f (.int .u8 (.o x5))]
def rdX (m : SMem) (id : Nat) : Option (Int × Int × Int × Int × Int × Int) := match getB m.bl id with
  | some ⟨.ls [.f (.int _ a), .f (.int _ b), .f (.int _ c), .f (.int _ d), .f (.int _ e), .f (.int _ g)], _, _⟩ => some (a.den, b.den, c.den, d.den, e.den, g.den)
  | _ => none
def decH0 (s : ByteArray) (i : Int) : List SFr := gH E9 0 (decC s) M0 [(6, i64 (.o i))]
def decM0 (s : ByteArray) (x0 x1 x2 x3 x4 x5 : Int) : SMem := gM E9 0 (decC s) M0 [(0, xsA x0 x1 x2 x3 x4 x5)]
def decH1 (s : ByteArray) (i : Int) (k : Nat) : List SFr := gH E9 0 (decC s) M0 [(6, i64 (.o i)), (4, .s (.c (.f (.slice 1 (.l 0) (.o k) (.full 5)))))]
def decM1 (s : ByteArray) (x0 x1 x2 x3 x4 x5 : Int) (cs : Array Value) : SMem := ⟨2, (decM0 s x0 x1 x2 x3 x4 x5).bl.set 1 (some ⟨.pop cs, 86, true⟩), []⟩
def decS0 (s : ByteArray) (i x0 x1 x2 x3 x4 x5 : Int) : Tree := stepT E9.go (run E9 1000) 0 (decH0 s i) (decM0 s x0 x1 x2 x3 x4 x5)
def decS1 (s : ByteArray) (i x0 x1 x2 x3 x4 x5 : Int) (k : Nat) (cs : Array Value) : Tree := stepT E9.go (run E9 1000) 0 (decH1 s i k) (decM1 s x0 x1 x2 x3 x4 x5 cs)
def decN0 (s : ByteArray) (Q : Int → Prop) (fs : List SFr) (m : SMem) : Prop := match fs with
  | f :: _ => match rdI f 6, rdX m 0 with
    | some i, some (a, b, c, d, e, g) => Q i ∧ subOk 0 [(0, 0)] (gF E9 0 (decC s) M0 [(6, i64 (.o i))]) (decM0 s a b c d e g) fs m
    | _, _ => False
  | [] => False
def decN1 (s : ByteArray) (Q : Int → Nat → Array Value → Prop) (fs : List SFr) (m : SMem) : Prop := match fs with
  | f :: _ => match rdI f 6, rdX m 0, rdS f 4 m with
    | some i, some (a, b, c, d, e, g), some (some (sid, k, cs)) => Q i k cs ∧ subOk 0 [(0, 0), (1, sid)] (decH1 s i k) (decM1 s a b c d e g cs) fs m
    | _, _, _ => False
  | [] => False
def decA (e : Int) (k : Nat) (cs : Array Value) (s : SV) (m : SMem) : Prop := match s with
  | .tup [.c (.f (.lit (.slice none 0 0))), .c (.f (.int .i64 y))] => y.den = 3 ∧ e = 3
  | .tup [.c (.f (.slice sid _ _ _)), .c (.f (.int _ _))] => e = 0 ∧ retOk 0 [(0, sid)] (.tup [.c (.f (.slice 0 (.l 0) (.o k) .any)), .c (.f (.int .i64 (.l 0)))]) ⟨1, Tr.nil.set 0 (some ⟨.pop cs, 86, true⟩), []⟩ s m
  | _ => False
def dT0 : List SIt := headTd (gF E9 0 (decC .empty) M0 [])
def dH0 : List SIt := headTd (gH E9 0 (decC .empty) M0 [])
end
end Go.Proofs.Ytapkbgccbmjfaaa
/- Of journal: the reference's May and Decode: their states. No condition. -/
namespace Go.Proofs.Ytapkbgccbmjfaaa
noncomputable section
def i64V (n : Int) : Value := .int .i64 n
def rmC (off n : Nat) : List SFr := [callFr 36 Try.f36.ntmps [prS off n] (Try.f36.body.getD .skip)]
def rmN (h : Bool) (off n : Nat) (cs : Array Value) (ty : TypeId) (Q : Int → Prop) (fs : List SFr) (m : SMem) : Prop := match fs with
  | f :: _ => match rdI f 3 with
    | some i => Q i ∧ gN E9 1 (rmC off n) (prM false cs ty) h [(3, i64 (.o i))] [] fs m
    | none => False
  | [] => False
def RowOk (cs : Array Value) (off n : Nat) : Prop := n < 9223372036854775807 ∧ ∀ i, i < n → IsInt .i64 cs (off + i * 5) ∧ IsInt .i64 cs (off + i * 5 + 1) ∧ IsInt .i64 cs (off + i * 5 + 2) ∧ IsInt .i64 cs (off + i * 5 + 3) ∧ IsInt .i64 cs (off + i * 5 + 4)
def rowR (m : SMem) (i : Nat) : Option (Array Value) := match getB m.bl i with
  | some ⟨.pop cs, _, _⟩ => some cs
  | _ => none
def mayRT (m : SMem) : SV → Option Tree
  | .s (.c (.f (.lit (.slice none 0 0)))) => some (.ret (sB (.l true)) m)
  | .s (.c (.f (.slice i o n _))) => match rowR m i with
    | some cs => some (needs [RowOk cs o.den n.den] (.ret (sB (.o (mayV cs o.den n.den))) m))
    | none => none
  | _ => none
def con7 (g : FuncId) (l : List SV) (m : SMem) : Option Tree := match g, l with
  | 36, [x] => mayRT m x
  | _, _ => none
def E7 : Env := ⟨Try.prog, fnOf, con7, fun _ _ x => isLoop x⟩
def rdC (s : ByteArray) : List SFr := [callFr 26 Try.f26.ntmps [strV s] (Try.f26.body.getD .skip)]
def rdH0 (s t : ByteArray) : List SFr := gH E7 0 (rdC s) M0 [(0, strV t)]
def rdH1 (s t : ByteArray) (k : Nat) : List SFr := gH E7 0 (rdC s) M0 [(0, strV t), (4, .s (.c (.f (.slice 0 (.l 0) (.o k) (.full 5)))))]
def rdM1 (rs : Array Value) : SMem := ⟨1, Tr.nil.set 0 (some ⟨.pop rs, 72, true⟩), []⟩
def rdN0 (s : ByteArray) (Q : ByteArray → Prop) (fs : List SFr) (m : SMem) : Prop := match fs with
  | f :: _ => match f.tm.get 0 with
    | some x => match strS x with
      | some (_, t) => Q t ∧ subOk 0 [] (gF E7 0 (rdC s) M0 [(0, strV t)]) M0 fs m
      | none => False
    | _ => False
  | [] => False
def rdN1 (s : ByteArray) (Q : ByteArray → Nat → Array Value → Prop) (fs : List SFr) (m : SMem) : Prop := match fs with
  | f :: _ => match f.tm.get 0, rdS f 4 m with
    | some x, some (some (sid, k, rs)) => match strS x with
      | some (_, t) => Q t k rs ∧ subOk 0 [(0, sid)] (rdH1 s t k) (rdM1 rs) fs m
      | none => False
    | _, _ => False
  | [] => False
def rdAn (ok : Bool) (k : Nat) (rs : Array Value) (s : SV) (m : SMem) : Prop := match s with
  | .tup [.c (.f (.lit (.slice none 0 0))), .c (.f (.bool y))] => y.den = false ∧ ok = false
  | .tup [.c (.f (.slice sid _ _ _)), .c (.f (.bool _))] => ok = true ∧ retOk 0 [(0, sid)] (.tup [.c (.f (.slice 0 (.l 0) (.o k) .any)), .c (.f (.bool (.l true)))]) (rdM1 rs) s m
  | _ => False
def rd0A (y : Bool) (s : SV) (_ : SMem) : Prop := match s with
  | .tup [.c (.f (.lit (.slice none 0 0))), .c (.f (.bool z))] => z.den = y
  | _ => False
def rmT0 : List SIt := headTd (gF E9 1 (rmC 0 0) (prM false #[] 0) [])
def rmH0 : List SIt := headTd (gH E9 1 (rmC 0 0) (prM false #[] 0) [])
def rdT0 : List SIt := headTd (gF E7 0 (rdC .empty) M0 [])
def rdH00 : List SIt := headTd (gH E7 0 (rdC .empty) M0 [])
end
end Go.Proofs.Ytapkbgccbmjfaaa
/- Of journal: the reference's functions' rounds, as propositions. No condition. -/
namespace Go.Proofs.Ytapkbgccbmjfaaa
set_option maxRecDepth 100000
theorem rm_start (off n : Nat) (cs : Array Value) (ty : TypeId) (r : Bool) (Q : Int → Prop) : (gR E9 1 (rmC off n) (prM false cs ty)).vc (boolR r) (rmN false off n cs ty Q) =
    ((decide ((↑n : Int) > (64 : Int)) = true → false = r) ∧ (decide ((↑n : Int) > (64 : Int)) = false → Q (0 : Int) ∧ CallKind.normal = CallKind.normal ∧ TodoOk (ren 1 []) rmT0 rmT0 ∧ off = off ∧ n = n ∧ (0 : Int) = (0 : Int) ∧ off = off ∧ n = n ∧ (↑n : Int) = (↑n : Int) ∧ ty = ty ∧ cs = cs ∧ True)) := by kernel_rfl
theorem rm_step (off n : Nat) (cs : Array Value) (ty : TypeId) (r : Bool) (i : Int) (Q : Int → Prop) : (gS E9 1 (rmC off n) (prM false cs ty) [(3, i64 (.o i))] []).vc (boolR r) (rmN true off n cs ty Q) =
    ((decide (i < (↑n : Int)) = true → (((0 : Int) ≤ i ∧ i < (↑n : Int)) ∧ True) ∧ (IsInt IntKind.i64 cs (off + Int.toNat i * 5) ∧ IsInt IntKind.i64 cs (off + Int.toNat i * 5 + 1) ∧ IsInt IntKind.i64 cs (off + Int.toNat i * 5 + 2) ∧ IsInt IntKind.i64 cs (off + Int.toNat i * 5 + 3) ∧ IsInt IntKind.i64 cs (off + Int.toNat i * 5 + 4) ∧ True) ∧ ((decide (intAt cs (off + Int.toNat i * 5) > (6 : Int)) == true) = true → ((decide (intAt cs (off + Int.toNat i * 5) < (17 : Int)) == false) = true → ((decide (intAt cs (off + Int.toNat i * 5) > (38 : Int)) == false) = true → ((decide (intAt cs (off + Int.toNat i * 5 + 1) > (7 : Int)) == false) = true → ((decide (intAt cs (off + Int.toNat i * 5 + 2) > (7 : Int)) == false) = true → ((decide (intAt cs (off + Int.toNat i * 5 + 3) > (7 : Int)) == false) = true → (((intAt cs (off + Int.toNat i * 5) == (5 : Int)) == false) = true → (((intAt cs (off + Int.toNat i * 5) == (6 : Int)) == true) = true → (decide (intAt cs (off + Int.toNat i * 5 + 4) ≥ (↑n : Int)) = true → false = r) ∧ (decide (intAt cs (off + Int.toNat i * 5 + 4) ≥ (↑n : Int)) = false → Q (ari BinOp.add IntKind.i64 i (1 : Int)) ∧ CallKind.normal = CallKind.normal ∧ TodoOk (ren 1 []) rmH0 rmH0 ∧ off = off ∧ n = n ∧ ari BinOp.add IntKind.i64 i (1 : Int) = ari BinOp.add IntKind.i64 i (1 : Int) ∧ off = off ∧ n = n ∧ (↑n : Int) = (↑n : Int) ∧ ty = ty ∧ cs = cs ∧ True)) ∧ (((intAt cs (off + Int.toNat i * 5) == (6 : Int)) == true) = false → Q (ari BinOp.add IntKind.i64 i (1 : Int)) ∧ CallKind.normal = CallKind.normal ∧ TodoOk (ren 1 []) rmH0 rmH0 ∧ off = off ∧ n = n ∧ ari BinOp.add IntKind.i64 i (1 : Int) = ari BinOp.add IntKind.i64 i (1 : Int) ∧ off = off ∧ n = n ∧ (↑n : Int) = (↑n : Int) ∧ ty = ty ∧ cs = cs ∧ True)) ∧ (((intAt cs (off + Int.toNat i * 5) == (5 : Int)) == false) = false → (decide (intAt cs (off + Int.toNat i * 5 + 4) ≥ (↑n : Int)) = true → false = r) ∧ (decide (intAt cs (off + Int.toNat i * 5 + 4) ≥ (↑n : Int)) = false → Q (ari BinOp.add IntKind.i64 i (1 : Int)) ∧ CallKind.normal = CallKind.normal ∧ TodoOk (ren 1 []) rmH0 rmH0 ∧ off = off ∧ n = n ∧ ari BinOp.add IntKind.i64 i (1 : Int) = ari BinOp.add IntKind.i64 i (1 : Int) ∧ off = off ∧ n = n ∧ (↑n : Int) = (↑n : Int) ∧ ty = ty ∧ cs = cs ∧ True))) ∧ ((decide (intAt cs (off + Int.toNat i * 5 + 3) > (7 : Int)) == false) = false → false = r)) ∧ ((decide (intAt cs (off + Int.toNat i * 5 + 2) > (7 : Int)) == false) = false → false = r)) ∧ ((decide (intAt cs (off + Int.toNat i * 5 + 1) > (7 : Int)) == false) = false → false = r)) ∧ ((decide (intAt cs (off + Int.toNat i * 5) > (38 : Int)) == false) = false → false = r)) ∧ ((decide (intAt cs (off + Int.toNat i * 5) < (17 : Int)) == false) = false → false = r)) ∧ ((decide (intAt cs (off + Int.toNat i * 5) > (6 : Int)) == true) = false → ((decide (intAt cs (off + Int.toNat i * 5) > (38 : Int)) == false) = true → ((decide (intAt cs (off + Int.toNat i * 5 + 1) > (7 : Int)) == false) = true → ((decide (intAt cs (off + Int.toNat i * 5 + 2) > (7 : Int)) == false) = true → ((decide (intAt cs (off + Int.toNat i * 5 + 3) > (7 : Int)) == false) = true → (((intAt cs (off + Int.toNat i * 5) == (5 : Int)) == false) = true → (((intAt cs (off + Int.toNat i * 5) == (6 : Int)) == true) = true → (decide (intAt cs (off + Int.toNat i * 5 + 4) ≥ (↑n : Int)) = true → false = r) ∧ (decide (intAt cs (off + Int.toNat i * 5 + 4) ≥ (↑n : Int)) = false → Q (ari BinOp.add IntKind.i64 i (1 : Int)) ∧ CallKind.normal = CallKind.normal ∧ TodoOk (ren 1 []) rmH0 rmH0 ∧ off = off ∧ n = n ∧ ari BinOp.add IntKind.i64 i (1 : Int) = ari BinOp.add IntKind.i64 i (1 : Int) ∧ off = off ∧ n = n ∧ (↑n : Int) = (↑n : Int) ∧ ty = ty ∧ cs = cs ∧ True)) ∧ (((intAt cs (off + Int.toNat i * 5) == (6 : Int)) == true) = false → Q (ari BinOp.add IntKind.i64 i (1 : Int)) ∧ CallKind.normal = CallKind.normal ∧ TodoOk (ren 1 []) rmH0 rmH0 ∧ off = off ∧ n = n ∧ ari BinOp.add IntKind.i64 i (1 : Int) = ari BinOp.add IntKind.i64 i (1 : Int) ∧ off = off ∧ n = n ∧ (↑n : Int) = (↑n : Int) ∧ ty = ty ∧ cs = cs ∧ True)) ∧ (((intAt cs (off + Int.toNat i * 5) == (5 : Int)) == false) = false → (decide (intAt cs (off + Int.toNat i * 5 + 4) ≥ (↑n : Int)) = true → false = r) ∧ (decide (intAt cs (off + Int.toNat i * 5 + 4) ≥ (↑n : Int)) = false → Q (ari BinOp.add IntKind.i64 i (1 : Int)) ∧ CallKind.normal = CallKind.normal ∧ TodoOk (ren 1 []) rmH0 rmH0 ∧ off = off ∧ n = n ∧ ari BinOp.add IntKind.i64 i (1 : Int) = ari BinOp.add IntKind.i64 i (1 : Int) ∧ off = off ∧ n = n ∧ (↑n : Int) = (↑n : Int) ∧ ty = ty ∧ cs = cs ∧ True))) ∧ ((decide (intAt cs (off + Int.toNat i * 5 + 3) > (7 : Int)) == false) = false → false = r)) ∧ ((decide (intAt cs (off + Int.toNat i * 5 + 2) > (7 : Int)) == false) = false → false = r)) ∧ ((decide (intAt cs (off + Int.toNat i * 5 + 1) > (7 : Int)) == false) = false → false = r)) ∧ ((decide (intAt cs (off + Int.toNat i * 5) > (38 : Int)) == false) = false → false = r))) ∧ (decide (i < (↑n : Int)) = false → true = r)) := by kernel_rfl
theorem rd_start (s : ByteArray) (ok : Bool) (kF : Nat) (rF : Array Value) (Q : ByteArray → Prop) : (gR E7 0 (rdC s) M0).vc (rdAn ok kF rF) (rdN0 s Q) =
    (Q s ∧ CallKind.normal = CallKind.normal ∧ TodoOk (ren 0 []) rdT0 rdT0 ∧ Value.string s = Value.string s ∧ Value.slice none (0 : Nat) (0 : Nat) = Value.slice none (0 : Nat) (0 : Nat) ∧ Value.slice none (0 : Nat) (0 : Nat) = Value.slice none (0 : Nat) (0 : Nat) ∧ True) := by kernel_rfl
theorem rd_nil (s t : ByteArray) (ok : Bool) (kF : Nat) (rF : Array Value) (Q : ByteArray → Nat → Array Value → Prop) : (stepT E7.go (run E7 1000) 0 (rdH0 s t) M0).vc (rdAn ok kF rF) (rdN1 s Q) =
    ((decide (((↑(ByteArray.size t) : Int)) ≥ (6 : Int)) = true → (((0 : Int) ≤ (0 : Int) ∧ (0 : Int) < (↑(ByteArray.size t) : Int)) ∧ True) ∧ (((0 : Int) ≤ (1 : Int) ∧ (1 : Int) < (↑(ByteArray.size t) : Int)) ∧ True) ∧ (((0 : Int) ≤ (2 : Int) ∧ (2 : Int) < (↑(ByteArray.size t) : Int)) ∧ True) ∧ (((0 : Int) ≤ (3 : Int) ∧ (3 : Int) < (↑(ByteArray.size t) : Int)) ∧ True) ∧ (((0 : Int) ≤ (4 : Int) ∧ (4 : Int) < (↑(ByteArray.size t) : Int)) ∧ True) ∧ (((0 : Int) ≤ (5 : Int) ∧ (5 : Int) < (↑(ByteArray.size t) : Int)) ∧ True) ∧ (((6 : Nat) ≤ ByteArray.size t) ∧ True) ∧ Q (ByteArray.extract t (6 : Nat) (ByteArray.size t)) (1 : Nat) #[Value.int IntKind.i64 (IntKind.wrap IntKind.i64 (byteAt t (0 : Nat))), Value.int IntKind.i64 (IntKind.wrap IntKind.i64 (byteAt t (1 : Nat))), Value.int IntKind.i64 (IntKind.wrap IntKind.i64 (byteAt t (2 : Nat))), Value.int IntKind.i64 (IntKind.wrap IntKind.i64 (byteAt t (3 : Nat))), Value.int IntKind.i64 (ari BinOp.add IntKind.i64 (IntKind.wrap IntKind.i64 (byteAt t (4 : Nat))) (ari BinOp.mul IntKind.i64 (256 : Int) (IntKind.wrap IntKind.i64 (byteAt t (5 : Nat)))))] ∧ CallKind.normal = CallKind.normal ∧ TodoOk (ren 0 [(0, 1)]) rdH00 rdH00 ∧ Value.string (ByteArray.extract t (6 : Nat) (ByteArray.size t)) = Value.string (ByteArray.extract t (6 : Nat) (ByteArray.size t)) ∧ Value.slice none (0 : Nat) (0 : Nat) = Value.slice none (0 : Nat) (0 : Nat) ∧ (1 : Nat) = (1 : Nat) ∧ (72 : TypeId) = (72 : Nat) ∧ #[Value.int IntKind.i64 (IntKind.wrap IntKind.i64 (byteAt t (0 : Nat))), Value.int IntKind.i64 (IntKind.wrap IntKind.i64 (byteAt t (1 : Nat))), Value.int IntKind.i64 (IntKind.wrap IntKind.i64 (byteAt t (2 : Nat))), Value.int IntKind.i64 (IntKind.wrap IntKind.i64 (byteAt t (3 : Nat))), Value.int IntKind.i64 (ari BinOp.add IntKind.i64 (IntKind.wrap IntKind.i64 (byteAt t (4 : Nat))) (ari BinOp.mul IntKind.i64 (256 : Int) (IntKind.wrap IntKind.i64 (byteAt t (5 : Nat)))))] = #[Value.int IntKind.i64 (IntKind.wrap IntKind.i64 (byteAt t (0 : Nat))), Value.int IntKind.i64 (IntKind.wrap IntKind.i64 (byteAt t (1 : Nat))), Value.int IntKind.i64 (IntKind.wrap IntKind.i64 (byteAt t (2 : Nat))), Value.int IntKind.i64 (IntKind.wrap IntKind.i64 (byteAt t (3 : Nat))), Value.int IntKind.i64 (ari BinOp.add IntKind.i64 (IntKind.wrap IntKind.i64 (byteAt t (4 : Nat))) (ari BinOp.mul IntKind.i64 (256 : Int) (IntKind.wrap IntKind.i64 (byteAt t (5 : Nat)))))] ∧ True) ∧ (decide (((↑(ByteArray.size t) : Int)) ≥ (6 : Int)) = false → ((decide (((↑(ByteArray.size t) : Int)) > (0 : Int)) == false) = true → true = false ∧ ok = false) ∧ ((decide (((↑(ByteArray.size t) : Int)) > (0 : Int)) == false) = false → false = false ∧ ok = false))) := by kernel_rfl
theorem rd_step (s t : ByteArray) (ok : Bool) (kF : Nat) (rF : Array Value) (k : Nat) (rs : Array Value) (Q : ByteArray → Nat → Array Value → Prop) : (stepT E7.go (run E7 1000) 0 (rdH1 s t k) (rdM1 rs)).vc (rdAn ok kF rF) (rdN1 s Q) =
    ((decide (((↑(ByteArray.size t) : Int)) ≥ (6 : Int)) = true → (((0 : Int) ≤ (0 : Int) ∧ (0 : Int) < (↑(ByteArray.size t) : Int)) ∧ True) ∧ (((0 : Int) ≤ (1 : Int) ∧ (1 : Int) < (↑(ByteArray.size t) : Int)) ∧ True) ∧ (((0 : Int) ≤ (2 : Int) ∧ (2 : Int) < (↑(ByteArray.size t) : Int)) ∧ True) ∧ (((0 : Int) ≤ (3 : Int) ∧ (3 : Int) < (↑(ByteArray.size t) : Int)) ∧ True) ∧ (((0 : Int) ≤ (4 : Int) ∧ (4 : Int) < (↑(ByteArray.size t) : Int)) ∧ True) ∧ (((0 : Int) ≤ (5 : Int) ∧ (5 : Int) < (↑(ByteArray.size t) : Int)) ∧ True) ∧ (((k + 1) * 40 ≤ (140737488355328 : Nat) ∧ k + 1 ≤ (140737488355328 : Nat)) ∧ k * 5 = Array.size rs ∧ True) ∧ (((6 : Nat) ≤ ByteArray.size t) ∧ True) ∧ Q (ByteArray.extract t (6 : Nat) (ByteArray.size t)) (k + 1) (rs ++ #[Value.int IntKind.i64 (IntKind.wrap IntKind.i64 (byteAt t (0 : Nat))), Value.int IntKind.i64 (IntKind.wrap IntKind.i64 (byteAt t (1 : Nat))), Value.int IntKind.i64 (IntKind.wrap IntKind.i64 (byteAt t (2 : Nat))), Value.int IntKind.i64 (IntKind.wrap IntKind.i64 (byteAt t (3 : Nat))), Value.int IntKind.i64 (ari BinOp.add IntKind.i64 (IntKind.wrap IntKind.i64 (byteAt t (4 : Nat))) (ari BinOp.mul IntKind.i64 (256 : Int) (IntKind.wrap IntKind.i64 (byteAt t (5 : Nat)))))]) ∧ CallKind.normal = CallKind.normal ∧ TodoOk (ren 0 [(0, 2)]) rdH00 rdH00 ∧ Value.string (ByteArray.extract t (6 : Nat) (ByteArray.size t)) = Value.string (ByteArray.extract t (6 : Nat) (ByteArray.size t)) ∧ Value.slice none (0 : Nat) (0 : Nat) = Value.slice none (0 : Nat) (0 : Nat) ∧ k + 1 = k + 1 ∧ (72 : TypeId) = (72 : Nat) ∧ rs ++ #[Value.int IntKind.i64 (IntKind.wrap IntKind.i64 (byteAt t (0 : Nat))), Value.int IntKind.i64 (IntKind.wrap IntKind.i64 (byteAt t (1 : Nat))), Value.int IntKind.i64 (IntKind.wrap IntKind.i64 (byteAt t (2 : Nat))), Value.int IntKind.i64 (IntKind.wrap IntKind.i64 (byteAt t (3 : Nat))), Value.int IntKind.i64 (ari BinOp.add IntKind.i64 (IntKind.wrap IntKind.i64 (byteAt t (4 : Nat))) (ari BinOp.mul IntKind.i64 (256 : Int) (IntKind.wrap IntKind.i64 (byteAt t (5 : Nat)))))] = rs ++ #[Value.int IntKind.i64 (IntKind.wrap IntKind.i64 (byteAt t (0 : Nat))), Value.int IntKind.i64 (IntKind.wrap IntKind.i64 (byteAt t (1 : Nat))), Value.int IntKind.i64 (IntKind.wrap IntKind.i64 (byteAt t (2 : Nat))), Value.int IntKind.i64 (IntKind.wrap IntKind.i64 (byteAt t (3 : Nat))), Value.int IntKind.i64 (ari BinOp.add IntKind.i64 (IntKind.wrap IntKind.i64 (byteAt t (4 : Nat))) (ari BinOp.mul IntKind.i64 (256 : Int) (IntKind.wrap IntKind.i64 (byteAt t (5 : Nat)))))] ∧ True) ∧ (decide (((↑(ByteArray.size t) : Int)) ≥ (6 : Int)) = false → ((decide (((↑(ByteArray.size t) : Int)) > (0 : Int)) == false) = true → (RowOk rs (0 : Nat) k ∧ True) ∧ ((!mayV rs (0 : Nat) k) = true → false = false ∧ ok = false) ∧ ((!mayV rs (0 : Nat) k) = false → ok = true ∧ kF = k ∧ (72 : TypeId) = (72 : TypeId) ∧ rF = rs ∧ True)) ∧ ((decide (((↑(ByteArray.size t) : Int)) > (0 : Int)) == false) = false → false = false ∧ ok = false))) := by kernel_rfl
theorem rd_lit (y : Bool) : (run E0 1000 0 [callFr 26 Try.f26.ntmps [.s (.c (.f (.lit (.string ⟨⟨[]⟩⟩))))] (Try.f26.body.getD .skip)] ⟨0, .nil, []⟩).vc (rd0A y) (fun _ _ => False) =
    (true = y) := by kernel_rfl
end Go.Proofs.Ytapkbgccbmjfaaa
/- Of journal: the rounds of Decode, as propositions. No condition. -/
namespace Go.Proofs.Ytapkbgccbmjfaaa
set_option maxRecDepth 100000
theorem dec_start (s : ByteArray) (e : Int) (k : Nat) (cs : Array Value) (Q : Int → Prop) : (gR E9 0 (decC s) M0).vc (decA e k cs) (decN0 s Q) =
    ((((ari BinOp.rem IntKind.i64 ((↑(ByteArray.size s) : Int)) (6 : Int) != (0 : Int)) == false) = true → (decide (((↑(ByteArray.size s) : Int)) > (384 : Int)) = true → (3 : Int) = (3 : Int) ∧ e = (3 : Int)) ∧ (decide (((↑(ByteArray.size s) : Int)) > (384 : Int)) = false → Q (0 : Int) ∧ CallKind.normal = CallKind.normal ∧ TodoOk (ren 0 [(0, 0)]) dT0 dT0 ∧ Value.string s = Value.string s ∧ Value.string s = Value.string s ∧ ari BinOp.rem IntKind.i64 ((↑(ByteArray.size s) : Int)) (6 : Int) = ari BinOp.rem IntKind.i64 ((↑(ByteArray.size s) : Int)) (6 : Int) ∧ (((↑(ByteArray.size s) : Int)) = (↑(ByteArray.size s) : Int)) ∧ Value.slice none (0 : Nat) (0 : Nat) = Value.slice none (0 : Nat) (0 : Nat) ∧ Value.slice none (0 : Nat) (0 : Nat) = Value.slice none (0 : Nat) (0 : Nat) ∧ (((↑(ByteArray.size s) : Int)) = (↑(ByteArray.size s) : Int)) ∧ Value.string s = Value.string s ∧ (0 : Int) = (0 : Int) ∧ (ari BinOp.rem IntKind.i64 ((↑(ByteArray.size s) : Int)) (6 : Int) != (0 : Int)) = (ari BinOp.rem IntKind.i64 ((↑(ByteArray.size s) : Int)) (6 : Int) != (0 : Int)) ∧ decide (((↑(ByteArray.size s) : Int)) > (384 : Int)) = decide (((↑(ByteArray.size s) : Int)) > (384 : Int)) ∧ (84 : Nat) = (84 : Nat) ∧ (0 : Int) = (0 : Int) ∧ (0 : Int) = (0 : Int) ∧ (0 : Int) = (0 : Int) ∧ (0 : Int) = (0 : Int) ∧ (0 : Int) = (0 : Int) ∧ (0 : Int) = (0 : Int) ∧ True)) ∧ (((ari BinOp.rem IntKind.i64 ((↑(ByteArray.size s) : Int)) (6 : Int) != (0 : Int)) == false) = false → (3 : Int) = (3 : Int) ∧ e = (3 : Int))) := by kernel_rfl
theorem dec_nil (s : ByteArray) (e : Int) (kF : Nat) (csF : Array Value) (i x0 x1 x2 x3 x4 x5 : Int) (Q : Int → Nat → Array Value → Prop) : (decS0 s i x0 x1 x2 x3 x4 x5).vc (decA e kF csF) (decN1 s Q) =
    ((decide (i < (↑(ByteArray.size s) : Int)) = true → ((0 : Int) ≤ i ∧ (Int.toNat i ≤ ByteArray.size s) ∧ True) ∧ ((6 : Nat) ≤ ByteArray.size (ByteArray.extract s (Int.toNat i) (ByteArray.size s)) ∧ True) ∧ Q (ari BinOp.add IntKind.i64 i (6 : Int)) (1 : Nat) #[Value.int IntKind.u8 (byteAt (ByteArray.extract s (Int.toNat i) (ByteArray.size s)) (0 : Nat)), Value.int IntKind.u8 (byteAt (ByteArray.extract s (Int.toNat i) (ByteArray.size s)) (1 : Nat)), Value.int IntKind.u8 (byteAt (ByteArray.extract s (Int.toNat i) (ByteArray.size s)) (2 : Nat)), Value.int IntKind.u8 (byteAt (ByteArray.extract s (Int.toNat i) (ByteArray.size s)) (3 : Nat)), Value.int IntKind.u16 (ari BinOp.or IntKind.u16 (IntKind.wrap IntKind.u16 (byteAt (ByteArray.extract s (Int.toNat i) (ByteArray.size s)) (4 : Nat))) (ari BinOp.shl IntKind.u16 (IntKind.wrap IntKind.u16 (byteAt (ByteArray.extract s (Int.toNat i) (ByteArray.size s)) (5 : Nat))) (8 : Int)))] ∧ CallKind.normal = CallKind.normal ∧ TodoOk (ren 0 [(0, 0), (1, 2)]) dH0 dH0 ∧ Value.string s = Value.string s ∧ Value.string s = Value.string s ∧ ari BinOp.rem IntKind.i64 ((↑(ByteArray.size s) : Int)) (6 : Int) = ari BinOp.rem IntKind.i64 ((↑(ByteArray.size s) : Int)) (6 : Int) ∧ (((↑(ByteArray.size s) : Int)) = (↑(ByteArray.size s) : Int)) ∧ Value.slice none (0 : Nat) (0 : Nat) = Value.slice none (0 : Nat) (0 : Nat) ∧ (1 : Nat) = (1 : Nat) ∧ (((↑(ByteArray.size s) : Int)) = (↑(ByteArray.size s) : Int)) ∧ Value.string s = Value.string s ∧ ari BinOp.add IntKind.i64 i (6 : Int) = ari BinOp.add IntKind.i64 i (6 : Int) ∧ (ari BinOp.rem IntKind.i64 ((↑(ByteArray.size s) : Int)) (6 : Int) != (0 : Int)) = (ari BinOp.rem IntKind.i64 ((↑(ByteArray.size s) : Int)) (6 : Int) != (0 : Int)) ∧ decide (((↑(ByteArray.size s) : Int)) > (384 : Int)) = decide (((↑(ByteArray.size s) : Int)) > (384 : Int)) ∧ (84 : Nat) = (84 : Nat) ∧ byteAt (ByteArray.extract s (Int.toNat i) (ByteArray.size s)) (0 : Nat) = byteAt (ByteArray.extract s (Int.toNat i) (ByteArray.size s)) (0 : Nat) ∧ byteAt (ByteArray.extract s (Int.toNat i) (ByteArray.size s)) (1 : Nat) = byteAt (ByteArray.extract s (Int.toNat i) (ByteArray.size s)) (1 : Nat) ∧ byteAt (ByteArray.extract s (Int.toNat i) (ByteArray.size s)) (2 : Nat) = byteAt (ByteArray.extract s (Int.toNat i) (ByteArray.size s)) (2 : Nat) ∧ byteAt (ByteArray.extract s (Int.toNat i) (ByteArray.size s)) (3 : Nat) = byteAt (ByteArray.extract s (Int.toNat i) (ByteArray.size s)) (3 : Nat) ∧ byteAt (ByteArray.extract s (Int.toNat i) (ByteArray.size s)) (4 : Nat) = byteAt (ByteArray.extract s (Int.toNat i) (ByteArray.size s)) (4 : Nat) ∧ byteAt (ByteArray.extract s (Int.toNat i) (ByteArray.size s)) (5 : Nat) = byteAt (ByteArray.extract s (Int.toNat i) (ByteArray.size s)) (5 : Nat) ∧ (86 : TypeId) = (86 : Nat) ∧ #[Value.int IntKind.u8 (byteAt (ByteArray.extract s (Int.toNat i) (ByteArray.size s)) (0 : Nat)), Value.int IntKind.u8 (byteAt (ByteArray.extract s (Int.toNat i) (ByteArray.size s)) (1 : Nat)), Value.int IntKind.u8 (byteAt (ByteArray.extract s (Int.toNat i) (ByteArray.size s)) (2 : Nat)), Value.int IntKind.u8 (byteAt (ByteArray.extract s (Int.toNat i) (ByteArray.size s)) (3 : Nat)), Value.int IntKind.u16 (ari BinOp.or IntKind.u16 (IntKind.wrap IntKind.u16 (byteAt (ByteArray.extract s (Int.toNat i) (ByteArray.size s)) (4 : Nat))) (ari BinOp.shl IntKind.u16 (IntKind.wrap IntKind.u16 (byteAt (ByteArray.extract s (Int.toNat i) (ByteArray.size s)) (5 : Nat))) (8 : Int)))] = #[Value.int IntKind.u8 (byteAt (ByteArray.extract s (Int.toNat i) (ByteArray.size s)) (0 : Nat)), Value.int IntKind.u8 (byteAt (ByteArray.extract s (Int.toNat i) (ByteArray.size s)) (1 : Nat)), Value.int IntKind.u8 (byteAt (ByteArray.extract s (Int.toNat i) (ByteArray.size s)) (2 : Nat)), Value.int IntKind.u8 (byteAt (ByteArray.extract s (Int.toNat i) (ByteArray.size s)) (3 : Nat)), Value.int IntKind.u16 (ari BinOp.or IntKind.u16 (IntKind.wrap IntKind.u16 (byteAt (ByteArray.extract s (Int.toNat i) (ByteArray.size s)) (4 : Nat))) (ari BinOp.shl IntKind.u16 (IntKind.wrap IntKind.u16 (byteAt (ByteArray.extract s (Int.toNat i) (ByteArray.size s)) (5 : Nat))) (8 : Int)))] ∧ True) ∧ (decide (i < (↑(ByteArray.size s) : Int)) = false → (0 : Int) = (3 : Int) ∧ e = (3 : Int))) := by kernel_rfl
theorem dec_step (s : ByteArray) (e : Int) (kF : Nat) (csF : Array Value) (i x0 x1 x2 x3 x4 x5 : Int) (k : Nat) (cs : Array Value) (Q : Int → Nat → Array Value → Prop) : (decS1 s i x0 x1 x2 x3 x4 x5 k cs).vc (decA e kF csF) (decN1 s Q) =
    ((decide (i < (↑(ByteArray.size s) : Int)) = true → ((0 : Int) ≤ i ∧ (Int.toNat i ≤ ByteArray.size s) ∧ True) ∧ ((6 : Nat) ≤ ByteArray.size (ByteArray.extract s (Int.toNat i) (ByteArray.size s)) ∧ True) ∧ (((k + 1) * 6 ≤ (140737488355328 : Nat) ∧ k + 1 ≤ (140737488355328 : Nat)) ∧ k * 5 = Array.size cs ∧ True) ∧ Q (ari BinOp.add IntKind.i64 i (6 : Int)) (k + 1) (cs ++ #[Value.int IntKind.u8 (byteAt (ByteArray.extract s (Int.toNat i) (ByteArray.size s)) (0 : Nat)), Value.int IntKind.u8 (byteAt (ByteArray.extract s (Int.toNat i) (ByteArray.size s)) (1 : Nat)), Value.int IntKind.u8 (byteAt (ByteArray.extract s (Int.toNat i) (ByteArray.size s)) (2 : Nat)), Value.int IntKind.u8 (byteAt (ByteArray.extract s (Int.toNat i) (ByteArray.size s)) (3 : Nat)), Value.int IntKind.u16 (ari BinOp.or IntKind.u16 (IntKind.wrap IntKind.u16 (byteAt (ByteArray.extract s (Int.toNat i) (ByteArray.size s)) (4 : Nat))) (ari BinOp.shl IntKind.u16 (IntKind.wrap IntKind.u16 (byteAt (ByteArray.extract s (Int.toNat i) (ByteArray.size s)) (5 : Nat))) (8 : Int)))]) ∧ CallKind.normal = CallKind.normal ∧ TodoOk (ren 0 [(0, 0), (1, 3)]) dH0 dH0 ∧ Value.string s = Value.string s ∧ Value.string s = Value.string s ∧ ari BinOp.rem IntKind.i64 ((↑(ByteArray.size s) : Int)) (6 : Int) = ari BinOp.rem IntKind.i64 ((↑(ByteArray.size s) : Int)) (6 : Int) ∧ (((↑(ByteArray.size s) : Int)) = (↑(ByteArray.size s) : Int)) ∧ Value.slice none (0 : Nat) (0 : Nat) = Value.slice none (0 : Nat) (0 : Nat) ∧ k + 1 = k + 1 ∧ (((↑(ByteArray.size s) : Int)) = (↑(ByteArray.size s) : Int)) ∧ Value.string s = Value.string s ∧ ari BinOp.add IntKind.i64 i (6 : Int) = ari BinOp.add IntKind.i64 i (6 : Int) ∧ (ari BinOp.rem IntKind.i64 ((↑(ByteArray.size s) : Int)) (6 : Int) != (0 : Int)) = (ari BinOp.rem IntKind.i64 ((↑(ByteArray.size s) : Int)) (6 : Int) != (0 : Int)) ∧ decide (((↑(ByteArray.size s) : Int)) > (384 : Int)) = decide (((↑(ByteArray.size s) : Int)) > (384 : Int)) ∧ (84 : Nat) = (84 : Nat) ∧ byteAt (ByteArray.extract s (Int.toNat i) (ByteArray.size s)) (0 : Nat) = byteAt (ByteArray.extract s (Int.toNat i) (ByteArray.size s)) (0 : Nat) ∧ byteAt (ByteArray.extract s (Int.toNat i) (ByteArray.size s)) (1 : Nat) = byteAt (ByteArray.extract s (Int.toNat i) (ByteArray.size s)) (1 : Nat) ∧ byteAt (ByteArray.extract s (Int.toNat i) (ByteArray.size s)) (2 : Nat) = byteAt (ByteArray.extract s (Int.toNat i) (ByteArray.size s)) (2 : Nat) ∧ byteAt (ByteArray.extract s (Int.toNat i) (ByteArray.size s)) (3 : Nat) = byteAt (ByteArray.extract s (Int.toNat i) (ByteArray.size s)) (3 : Nat) ∧ byteAt (ByteArray.extract s (Int.toNat i) (ByteArray.size s)) (4 : Nat) = byteAt (ByteArray.extract s (Int.toNat i) (ByteArray.size s)) (4 : Nat) ∧ byteAt (ByteArray.extract s (Int.toNat i) (ByteArray.size s)) (5 : Nat) = byteAt (ByteArray.extract s (Int.toNat i) (ByteArray.size s)) (5 : Nat) ∧ (86 : TypeId) = (86 : Nat) ∧ cs ++ #[Value.int IntKind.u8 (byteAt (ByteArray.extract s (Int.toNat i) (ByteArray.size s)) (0 : Nat)), Value.int IntKind.u8 (byteAt (ByteArray.extract s (Int.toNat i) (ByteArray.size s)) (1 : Nat)), Value.int IntKind.u8 (byteAt (ByteArray.extract s (Int.toNat i) (ByteArray.size s)) (2 : Nat)), Value.int IntKind.u8 (byteAt (ByteArray.extract s (Int.toNat i) (ByteArray.size s)) (3 : Nat)), Value.int IntKind.u16 (ari BinOp.or IntKind.u16 (IntKind.wrap IntKind.u16 (byteAt (ByteArray.extract s (Int.toNat i) (ByteArray.size s)) (4 : Nat))) (ari BinOp.shl IntKind.u16 (IntKind.wrap IntKind.u16 (byteAt (ByteArray.extract s (Int.toNat i) (ByteArray.size s)) (5 : Nat))) (8 : Int)))] = cs ++ #[Value.int IntKind.u8 (byteAt (ByteArray.extract s (Int.toNat i) (ByteArray.size s)) (0 : Nat)), Value.int IntKind.u8 (byteAt (ByteArray.extract s (Int.toNat i) (ByteArray.size s)) (1 : Nat)), Value.int IntKind.u8 (byteAt (ByteArray.extract s (Int.toNat i) (ByteArray.size s)) (2 : Nat)), Value.int IntKind.u8 (byteAt (ByteArray.extract s (Int.toNat i) (ByteArray.size s)) (3 : Nat)), Value.int IntKind.u16 (ari BinOp.or IntKind.u16 (IntKind.wrap IntKind.u16 (byteAt (ByteArray.extract s (Int.toNat i) (ByteArray.size s)) (4 : Nat))) (ari BinOp.shl IntKind.u16 (IntKind.wrap IntKind.u16 (byteAt (ByteArray.extract s (Int.toNat i) (ByteArray.size s)) (5 : Nat))) (8 : Int)))] ∧ True) ∧ (decide (i < (↑(ByteArray.size s) : Int)) = false → ((k < (9223372036854775807 : Nat) ∧ ∀ (i : Nat), i < k → (IsInt IntKind.u8 cs ((0 : Nat) + i * 5) ∧ IsInt IntKind.u8 cs ((0 : Nat) + i * 5 + 1) ∧ IsInt IntKind.u8 cs ((0 : Nat) + i * 5 + 2) ∧ IsInt IntKind.u8 cs ((0 : Nat) + i * 5 + 3) ∧ IsInt IntKind.u16 cs ((0 : Nat) + i * 5 + 4)) ∧ ((0 : Int) ≤ Ins.o (ins cs (0 : Nat) i) ∧ Ins.o (ins cs (0 : Nat) i) ≤ (255 : Int)) ∧ ((0 : Int) ≤ Ins.a (ins cs (0 : Nat) i) ∧ Ins.a (ins cs (0 : Nat) i) ≤ (255 : Int)) ∧ ((0 : Int) ≤ Ins.b (ins cs (0 : Nat) i) ∧ Ins.b (ins cs (0 : Nat) i) ≤ (255 : Int)) ∧ ((0 : Int) ≤ Ins.c (ins cs (0 : Nat) i) ∧ Ins.c (ins cs (0 : Nat) i) ≤ (255 : Int)) ∧ (0 : Int) ≤ Ins.n (ins cs (0 : Nat) i) ∧ Ins.n (ins cs (0 : Nat) i) ≤ (65535 : Int)) ∧ True) ∧ ((!mayV cs (0 : Nat) k) = true → (3 : Int) = (3 : Int) ∧ e = (3 : Int)) ∧ ((!mayV cs (0 : Nat) k) = false → e = (0 : Int) ∧ kF = k ∧ (86 : TypeId) = (86 : TypeId) ∧ csF = cs ∧ True))) := by kernel_rfl
end Go.Proofs.Ytapkbgccbmjfaaa
/- Of journal: bytes of numbers. No condition. -/
namespace Go.Proofs.Ytapkbgccbmjfaaa
def word (a b : Int) : Int := ari .or .u16 (IntKind.u16.wrap a) (ari .shl .u16 (IntKind.u16.wrap b) 8)
def upto (p : Nat → Bool) : Nat → Bool := fun n => Nat.rec true (fun k r => match p k with | true => r | false => false) n
theorem upto_ok {p : Nat → Bool} : ∀ {n : Nat}, upto p n = true → ∀ i, i < n → p i = true
  | 0, _, i, hi => by omega
  | n + 1, h, i, hi => by
    have h : (match p n with | true => upto p n | false => false) = true := h
    split at h
    · rename_i e
      by_cases c : i = n
      · rw [c]; exact e
      · exact upto_ok h i (by omega)
    · cases h
theorem lohi_all : upto (fun a => upto (fun b => decide (word a b = a + 256 * b)) 256) 256 = true := by kernel_rfl
theorem word_eq {a b : Int} (ha : 0 ≤ a ∧ a ≤ 255) (hb : 0 ≤ b ∧ b ≤ 255) : word a b = a + 256 * b := by
  have h := upto_ok (upto_ok lohi_all a.toNat (by omega)) b.toNat (by omega)
  simp only [decide_eq_true_eq] at h
  rw [show ((a.toNat : Nat) : Int) = a by omega, show ((b.toNat : Nat) : Int) = b by omega] at h
  exact h
end Go.Proofs.Ytapkbgccbmjfaaa
/- Of journal: rows of instructions, and their bytes. No condition. -/
namespace Go.Proofs.Ytapkbgccbmjfaaa
def byteOf (v : Value) : UInt8 := UInt8.ofNat (match v with | .int _ n => n.toNat | _ => 0)
theorem strOf_go (vs : List Value) : ∀ r : ByteArray, (vs.foldl (fun r v => r.push (UInt8.ofNat (match v with | .int _ n => n.toNat | _ => 0))) r).data.toList = r.data.toList ++ vs.map byteOf := by
  induction vs with
  | nil => intro r; simp
  | cons v vs ih =>
    intro r
    rw [List.foldl_cons, ih]
    have : ∀ b, (r.push b).data.toList = r.data.toList ++ [b] := fun b => Array.toList_push
    rw [this]
    simp [byteOf]
theorem strOf_list (vs : List Value) : (strOf vs).data.toList = vs.map byteOf := by
  exact (strOf_go vs ByteArray.empty).trans (List.nil_append _)
theorem size_list (s : ByteArray) : s.size = s.data.toList.length := by rw [Array.length_toList]; rfl
theorem strOf_size (vs : List Value) : (strOf vs).size = vs.length := by rw [size_list, strOf_list, List.length_map]
theorem byteAt_list (s : ByteArray) (i : Nat) : byteAt s i = (s.data.toList[i]?.map fun b => (b.toNat : Int)).getD 0 := by
  unfold byteAt
  by_cases h : i < s.size
  · have h2 : i < s.data.toList.length := by rw [← size_list]; exact h
    rw [getElem?_pos s i h, List.getElem?_eq_getElem h2]
    rfl
  · have h2 : ¬ i < s.data.toList.length := by rw [← size_list]; exact h
    rw [getElem?_neg s i h, List.getElem?_eq_none (by omega)]
    rfl
theorem byteAt_range (s : ByteArray) (i : Nat) : 0 ≤ byteAt s i ∧ byteAt s i ≤ 255 := by
  rw [byteAt_list]
  cases s.data.toList[i]? with
  | none => exact ⟨by decide, by decide⟩
  | some b => have := b.toNat_lt; exact ⟨by simp, by simp; omega⟩
theorem byteAt_cut (s : ByteArray) (j i : Nat) : byteAt (s.extract j s.size) i = byteAt s (j + i) := by
  rw [byteAt_list, byteAt_list, ByteArray.data_extract, Array.toList_extract, List.extract_eq_take_drop, List.getElem?_take]
  split
  · rw [List.getElem?_drop]
  · rename_i h
    rw [List.getElem?_eq_none]
    rw [← size_list]; omega
theorem bytes_ext {s t : ByteArray} (hs : s.size = t.size) (h : ∀ i, i < s.size → byteAt s i = byteAt t i) : s = t := by
  apply ByteArray.ext
  rw [← Array.toList_inj]
  apply List.ext_getElem?
  intro i
  by_cases hi : i < s.size
  · have h1 : i < s.data.toList.length := by rw [← size_list]; exact hi
    have h2 : i < t.data.toList.length := by rw [← size_list, ← hs]; exact hi
    have := h i hi
    rw [byteAt_list, byteAt_list, List.getElem?_eq_getElem h1, List.getElem?_eq_getElem h2] at this
    rw [List.getElem?_eq_getElem h1, List.getElem?_eq_getElem h2]
    simp only [Option.map_some, Option.getD_some, Int.natCast_inj] at this
    rw [UInt8.toNat_inj.1 this]
  · rw [List.getElem?_eq_none, List.getElem?_eq_none]
    · rw [← size_list]; omega
    · rw [← size_list]; omega
def parts (f : Nat → List Value) : Nat → List Value
  | 0 => []
  | i + 1 => parts f i ++ f i
theorem parts_len {f : Nat → List Value} {c : Nat} (hf : ∀ i, (f i).length = c) : ∀ n, (parts f n).length = n * c
  | 0 => by simp [parts]
  | n + 1 => by rw [parts, List.length_append, parts_len hf n, hf, Nat.succ_mul]
theorem parts_at {f : Nat → List Value} {c : Nat} (hf : ∀ i, (f i).length = c) : ∀ {n i t : Nat}, i < n → t < c → (parts f n)[i * c + t]? = (f i)[t]?
  | 0, _, _, h, _ => by omega
  | n + 1, i, t, h, ht => by
    unfold parts
    by_cases e : i = n
    · subst e
      rw [List.getElem?_append_right (by rw [parts_len hf]; omega), parts_len hf, Nat.add_sub_cancel_left]
    · have hlt : i * c + t < n * c := by
        have : (i + 1) * c ≤ n * c := Nat.mul_le_mul_right c (by omega)
        rw [Nat.succ_mul] at this
        omega
      rw [List.getElem?_append_left (by rw [parts_len hf]; exact hlt)]
      exact parts_at hf (by omega) ht
end Go.Proofs.Ytapkbgccbmjfaaa
/- Of journal: what May and Encode answer, as contracts. No condition. -/
namespace Go.Proofs.Ytapkbgccbmjfaaa
set_option maxRecDepth 100000
theorem Con.ro {E : Env} (hE : EnvOk E) {g : FuncId} {fn : Func} {c : Code} {l l' : List SV} {m ms : SMem} {q : List Prop} {s0 : SV} {A : SV → SMem → Prop} (h1 : E.fn g = some fn) (h2 : fn.body = some c) (hxs : ms.xs = []) (ι : Nat → Nat)
    (hm : ∀ i b, getB ms.bl i = some b → i < ms.next ∧ b.wr = false ∧ ∃ d, getB m.bl (ι i) = some d ∧ b.ty = d.ty ∧ ∀ R cs, d.arr.okM R cs → b.arr.okM (pull ι ms.next R) cs)
    (hl : ∀ R vs, All2 (SV.ok R) l vs → All2 (SV.ok (pull ι ms.next R)) l' vs) (good : (∀ p ∈ q, p) → Good E.P A ms.next [callFr g fn.ntmps l' c] ms)
    (hs : ∀ s m' R R' v, A s m' → s.ok R' v → s0.ok R v) : Con E g l m (needs q (.ret s0 m)) := by
  intro B hB
  obtain ⟨hq, hA⟩ := Tree.sat_needs hB
  refine ⟨fn, h1, by rw [h2]; rfl, fun n0 F w0 w R args ha hR => ?_⟩
  refine (frame_ro (hE.fns _ _ h1).1 h2 (good hq) hxs hm (hl R _ ha) hR).mono ?_
  rintro v w' ⟨k1, k2, s, m', R', k3, k4⟩
  exact ⟨s0, m, R, hA, ⟨fun _ _ h => h, fun _ _ h => .inl h, k2, Nat.le_refl _⟩, k1, hs _ _ _ _ _ k3 k4⟩
theorem needs_br {q : List Prop} {b : Bool} {t e : Tree} {A : SV → SMem → Prop} (h : (needs q (.br b t e)).sat A (fun _ _ => False)) : (b = true → (needs q t).sat A (fun _ _ => False)) ∧ (b = false → (needs q e).sat A (fun _ _ => False)) := by
  cases q with
  | nil => exact ⟨fun x => h.1 x, fun x => h.2 x⟩
  | cons p l => exact ⟨fun x => ⟨h.1, h.2.1 x⟩, fun x => ⟨h.1, h.2.2 x⟩⟩
theorem Con.br {E : Env} {g : FuncId} {l : List SV} {m : SMem} {q : List Prop} {b : Bool} {t e : Tree} (h1 : b = true → Con E g l m (needs q t)) (h2 : b = false → Con E g l m (needs q e)) : Con E g l m (needs q (.br b t e)) := by
  intro A hs
  cases b with
  | true => exact h1 rfl A ((needs_br hs).1 rfl)
  | false => exact h2 rfl A ((needs_br hs).2 rfl)
theorem row_of {m : SMem} {i : Nat} {cs : Array Value} (h : rowI m i = some cs) : ∃ v ty wr, getB m.bl i = some ⟨prA v cs, ty, wr⟩ := by
  unfold rowI at h
  split at h
  · rename_i e; cases h; exact ⟨true, _, _, e⟩
  · rename_i e; cases h; exact ⟨false, _, _, e⟩
  · cases h
theorem prM_get {v : Bool} {cs : Array Value} {ty : TypeId} {i : Nat} {b : SBlk} (h : getB (prM v cs ty).bl i = some b) : i = 0 ∧ b = ⟨prA v cs, ty, false⟩ := by
  unfold getB prM at h
  cases i with
  | zero => cases h; exact ⟨rfl, rfl⟩
  | succ i =>
    have h : ((Tr.node .nil (some ⟨prA v cs, ty, false⟩) .nil : Tr SBlk)).get (i + 1) = some b := h
    rw [Tr.get_succ, Tr.get_nil, ite_self] at h
    cases h
theorem Con.row {g : FuncId} {fn : Func} {c : Code} {m : SMem} {i : Nat} {o n : SN} {cap : SK} {cs : Array Value} {q : List Prop} {s0 : SV} {A : SV → SMem → Prop} (h1 : E0.fn g = some fn) (h2 : fn.body = some c) (hr : rowI m i = some cs)
    (good : ∀ v ty, (∀ p ∈ q, p) → Good Try.prog A 1 [callFr g fn.ntmps [prS o.den n.den] c] (prM v cs ty)) (hs : ∀ s m' R R' v, A s m' → s.ok R' v → s0.ok R v) :
    Con E0 g [.s (.c (.f (.slice i o n cap)))] m (needs q (.ret s0 m)) := by
  obtain ⟨v, ty, wr, hb⟩ := row_of hr
  refine Con.ro E0_ok (l' := [prS o.den n.den]) (ms := prM v cs ty) (A := A) h1 h2 rfl (fun _ => i) ?_ ?_ (good v ty) hs
  · intro j b hj
    obtain ⟨rfl, rfl⟩ := prM_get hj
    refine ⟨Nat.zero_lt_one, rfl, _, hb, rfl, fun R cs' h => ?_⟩
    cases v <;> exact h
  · intro R vs ha
    match vs, ha with
    | [x], ha =>
      obtain ⟨⟨gl, cp, e1, e2, e3, e4⟩, _⟩ := ha
      exact ⟨⟨gl, cp, by unfold pull; exact e1, e2, trivial, e4⟩, trivial⟩
theorem may_good (v : Bool) (off n : Nat) (cs : Array Value) (ty : TypeId) (hI : InsOk cs off n) : Good Try.prog (boolR (mayV cs off n)) 1 (mayC off n) (prM v cs ty) := by
  have step : ∀ (r : Bool) (i : Int) (Q : Int → Prop), (gS EM 1 (mayC off n) (prM v cs ty) [(8, i64 (.o i))] []).vc (boolR r) (mayN true v off n cs ty Q) = (gS EM 1 (mayC off n) (prM true cs ty) [(8, i64 (.o i))] []).vc (boolR r) (mayN true true off n cs ty Q) := by
    intro r i Q
    cases v with
    | true => rfl
    | false => exact (may_step_p off n cs ty r i Q).trans (may_step_r off n cs ty r i Q).symm
  have start : ∀ (r : Bool) (Q : Int → Prop), (gR EM 1 (mayC off n) (prM v cs ty)).vc (boolR r) (mayN false v off n cs ty Q) = (gR EM 1 (mayC off n) (prM true cs ty)).vc (boolR r) (mayN false true off n cs ty Q) := by
    intro r Q
    cases v with
    | true => rfl
    | false => exact (may_start_p off n cs ty r Q).trans (may_start_r off n cs ty r Q).symm
  refine run_vc EM_ok 1000 ((start (mayV cs off n) (fun i => i = 0 ∧ n ≤ 64)).trans (may_start_r off n cs ty _ _)) ?_ (fun _ _ h => h)
    (fun fs m hb => mayN_good (fun i ⟨e, hn⟩ => by rw [e]; exact may_round off n cs ty hI hn step (n + 1) 0 (by omega) (by omega) (fun j hj => by omega)) hb)
  refine ⟨fun h => ?_, fun h => ?_⟩
  · have : n ≤ 64 := by simp at h; omega
    repeat' first | exact this | exact trivial | exact mT0_ok | exact mT1_ok | exact mT2_ok | apply And.intro | exact rfl
  · have : ¬ n ≤ 64 := by simp at h; omega
    unfold mayV
    rw [decide_eq_false this]; rfl
theorem fn9 : E0.fn 46 = some Try.f46 := by kernel_rfl
theorem body9 : Try.f46.body = some (Try.f46.body.getD .skip) := by kernel_rfl
theorem may_con {m : SMem} {i : Nat} {o n : SN} {cap : SK} {cs : Array Value} (hr : rowI m i = some cs) : Con E0 46 [.s (.c (.f (.slice i o n cap)))] m (needs [InsOk cs o.den n.den] (.ret (sB (.o (mayV cs o.den n.den))) m)) := by
  refine Con.row fn9 body9 hr (A := boolR (mayV cs o.den n.den)) (fun v ty hq => may_good v o.den n.den cs ty (hq _ (List.mem_cons_self ..))) ?_
  intro s m' R R' v h hv
  unfold boolR at h
  split at h
  · have hv : v = .bool _ := hv
    rw [hv, h]; rfl
  · exact h.elim
theorem may_nil : (run E0 1000 0 [callFr 46 Try.f46.ntmps [nilV] (Try.f46.body.getD .skip)] ⟨0, .nil, []⟩).allTrue = true := by kernel_rfl
theorem may_e0 : (run E0 1000 0 [callFr 46 Try.f46.ntmps [.s (.c (.f .e0))] (Try.f46.body.getD .skip)] ⟨0, .nil, []⟩).allTrue = true := by kernel_rfl
theorem mayT_ok {m : SMem} {x : SV} {t : Tree} (h : mayT m x = some t) : Con E0 46 [x] m t := by
  unfold mayT at h
  split at h
  · cases h
    exact Con.pure (q := []) E0_ok fn9 body9 (by kernel_rfl) (by kernel_rfl) fun _ => good_true E0_ok may_nil
  · cases h
    exact Con.pure (q := []) E0_ok fn9 body9 (by kernel_rfl) (by kernel_rfl) fun _ => good_true E0_ok may_e0
  · split at h
    · rename_i cs e
      cases h
      exact may_con e
    · cases h
  · cases h
theorem con9_ok (g : FuncId) (l : List SV) (m : SMem) (t : Tree) (h : con9 g l m = some t) : Con E0 g l m t := by
  unfold con9 at h
  split at h
  · exact mayT_ok h
  · cases h
theorem E9_ok : EnvOk E9 := EnvOk.with E0_ok _ _ con9_ok
end Go.Proofs.Ytapkbgccbmjfaaa
/- Of journal: what Decode answers. No condition. -/
namespace Go.Proofs.Ytapkbgccbmjfaaa
set_option linter.unusedSectionVars false
set_option maxRecDepth 100000
def five (s : ByteArray) (i : Nat) : List Value := [u8V (byteAt s (6 * i)), u8V (byteAt s (6 * i + 1)), u8V (byteAt s (6 * i + 2)), u8V (byteAt s (6 * i + 3)), .int .u16 (word (byteAt s (6 * i + 4)) (byteAt s (6 * i + 5)))]
def decL (s : ByteArray) : Nat → List Value := parts (five s)
def insD (s : ByteArray) (i : Nat) : Ins := ⟨byteAt s (6 * i), byteAt s (6 * i + 1), byteAt s (6 * i + 2), byteAt s (6 * i + 3), word (byteAt s (6 * i + 4)) (byteAt s (6 * i + 5))⟩
theorem decL_len (s : ByteArray) (n : Nat) : (decL s n).length = n * 5 := parts_len (f := five s) (fun _ => rfl) n
theorem decL_more (s : ByteArray) (i : Nat) : (decL s i).toArray ++ (five s i).toArray = (decL s (i + 1)).toArray := by
  show _ = (decL s i ++ five s i).toArray
  rw [List.append_toArray]
theorem decL_at (s : ByteArray) {n i t : Nat} (hi : i < n) (ht : t < 5) : (decL s n).toArray[0 + i * 5 + t]? = (five s i)[t]? := by
  rw [List.getElem?_toArray, Nat.zero_add]
  exact parts_at (f := five s) (fun _ => rfl) hi ht
theorem intAt_is {cs : Array Value} {p : Nat} {k : IntKind} {n : Int} (h : cs[p]? = some (.int k n)) : intAt cs p = n ∧ IsInt k cs p := by
  have e : intAt cs p = n := by unfold intAt; rw [h]
  exact ⟨e, by unfold IsInt; rw [e]; exact h⟩
theorem ins_dec (s : ByteArray) {n i : Nat} (hi : i < n) : ins (decL s n).toArray 0 i = insD s i ∧ InsAt (decL s n).toArray (0 + i * 5) := by
  obtain ⟨a0, b0⟩ := intAt_is (decL_at s (t := 0) hi (by decide))
  obtain ⟨a1, b1⟩ := intAt_is (decL_at s (t := 1) hi (by decide))
  obtain ⟨a2, b2⟩ := intAt_is (decL_at s (t := 2) hi (by decide))
  obtain ⟨a3, b3⟩ := intAt_is (decL_at s (t := 3) hi (by decide))
  obtain ⟨a4, b4⟩ := intAt_is (decL_at s (t := 4) hi (by decide))
  exact ⟨Ins.ext' a0 a1 a2 a3 a4, b0, b1, b2, b3, b4⟩
theorem insD_in (s : ByteArray) (i : Nat) : (insD s i).In := by
  have h := fun j => byteAt_range s j
  refine ⟨h _, h _, h _, h _, ?_⟩
  show 0 ≤ word _ _ ∧ word _ _ ≤ 65535
  rw [word_eq (h _) (h _)]
  have h1 := h (6 * i + 4)
  have h2 := h (6 * i + 5)
  omega
theorem dec_insOk (s : ByteArray) {n : Nat} (hn : n < 9223372036854775807) : InsOk (decL s n).toArray 0 n :=
  ⟨hn, fun i hi => ⟨(ins_dec s hi).2, by rw [(ins_dec s hi).1]; exact insD_in s i⟩⟩
def decOk (s : ByteArray) : Bool := decide (s.size % 6 = 0 ∧ s.size ≤ 384) && mayV (decL s (s.size / 6)).toArray 0 (s.size / 6)
theorem dT0_ok : TodoOk (ren 0 [(0, 0)]) dT0 dT0 := TodoOk.same (by kernel_rfl)
theorem dH0_2 : TodoOk (ren 0 [(0, 0), (1, 2)]) dH0 dH0 := TodoOk.same (by kernel_rfl)
theorem dH0_3 : TodoOk (ren 0 [(0, 0), (1, 3)]) dH0 dH0 := TodoOk.same (by kernel_rfl)
theorem decN0_good {s : ByteArray} {A : SV → SMem → Prop} {Q : Int → Prop} (hg : ∀ i a b c d e g, Q i → Good E9.P A 0 (decH0 s i) (decM0 s a b c d e g)) {fs : List SFr} {m : SMem} (hb : decN0 s Q fs m) : Good E9.P A 0 fs m := by
  unfold decN0 at hb
  split at hb
  · split at hb
    · exact Good.of_sub hb.2 (Good.head (hg _ _ _ _ _ _ _ hb.1))
    · exact hb.elim
  · exact hb.elim
theorem decN1_good {s : ByteArray} {A : SV → SMem → Prop} {Q : Int → Nat → Array Value → Prop} (hg : ∀ i a b c d e g k cs, Q i k cs → Good E9.P A 0 (decH1 s i k) (decM1 s a b c d e g cs)) {fs : List SFr} {m : SMem} (hb : decN1 s Q fs m) : Good E9.P A 0 fs m := by
  unfold decN1 at hb
  split at hb
  · split at hb
    · exact Good.of_sub hb.2 (hg _ _ _ _ _ _ _ _ _ hb.1)
    · exact hb.elim
  · exact hb.elim
def resE (s : ByteArray) : Int := if decOk s = true then 0 else 3
section
variable (s : ByteArray) (h6 : s.size % 6 = 0) (hsz : s.size ≤ 384) (h0 : s.size ≠ 0)
include h6 hsz h0
omit h6 hsz h0 in
theorem dec_five (j : Nat) : [Value.int .u8 (byteAt (s.extract (6 * j) s.size) 0), Value.int .u8 (byteAt (s.extract (6 * j) s.size) 1), Value.int .u8 (byteAt (s.extract (6 * j) s.size) 2), Value.int .u8 (byteAt (s.extract (6 * j) s.size) 3), Value.int .u16 (ari .or .u16 (IntKind.u16.wrap (byteAt (s.extract (6 * j) s.size) 4)) (ari .shl .u16 (IntKind.u16.wrap (byteAt (s.extract (6 * j) s.size) 5)) 8))] = five s j := by
  simp only [byteAt_cut]
  rfl
theorem dec_round : ∀ (K j : Nat), s.size / 6 - j < K → 1 ≤ j → 6 * j ≤ s.size → ∀ a b c d e g, Good Try.prog (decA (resE s) (s.size / 6) (decL s (s.size / 6)).toArray) 0 (decH1 s ((6 * j : Nat) : Int) j) (decM1 s a b c d e g (decL s j).toArray) := by
  intro K
  induction K with
  | zero => intro j h; omega
  | succ K ih =>
    intro j hk h1 hj a b c d e g
    refine past_vc E9_ok 1000 (dec_step s (resE s) (s.size / 6) (decL s (s.size / 6)).toArray ((6 * j : Nat) : Int) a b c d e g j (decL s j).toArray (fun i' k cs => ∃ t : Nat, i' = ((6 * t : Nat) : Int) ∧ s.size / 6 - t < K ∧ 1 ≤ t ∧ 6 * t ≤ s.size ∧ k = t ∧ cs = (decL s t).toArray)) ?_ (fun _ _ h => h)
      (fun fs m hb => decN1_good (fun i' a b c d e g k cs ⟨t, e1, k1, k2, k3, k4, k5⟩ => by rw [e1, k4, k5]; exact ih t k1 k2 k3 a b c d e g) hb)
    have hls : (decL s j).toArray.size = j * 5 := by rw [List.size_toArray, decL_len]
    refine ⟨fun h => ?_, fun h => ?_⟩
    · have hlt : 6 * j < s.size := by simp at h; omega
      have eA : ari BinOp.add IntKind.i64 ((6 * j : Nat) : Int) 6 = ((6 * (j + 1) : Nat) : Int) := by rw [ari_add, Go.IntWalk.i64_in _ (by omega)]; omega
      rw [Int.toNat_natCast, eA]
      have hext : (s.extract (6 * j) s.size).size = s.size - 6 * j := by rw [ByteArray.size_extract]; omega
      refine ⟨⟨by omega, by omega, trivial⟩, ⟨by rw [hext]; omega, trivial⟩, ⟨⟨by omega, by omega⟩, by rw [hls], trivial⟩, ⟨j + 1, rfl, by omega, by omega, by omega, rfl, ?_⟩, ?_⟩
      · rw [← decL_more, ← dec_five s j]
      repeat' first | exact trivial | exact dH0_3 | apply And.intro | exact rfl
    · have e : j = s.size / 6 := by simp at h; omega
      have hI := dec_insOk s (n := j) (by omega)
      have hr : resE s = if mayV (decL s j).toArray 0 j = true then 0 else 3 := by
        unfold resE decOk
        rw [← e, decide_eq_true ⟨h6, hsz⟩, Bool.true_and]
      rw [← e]
      refine ⟨⟨hI, trivial⟩, ⟨fun hm => ⟨rfl, ?_⟩, fun hm => ?_⟩⟩
      · rw [hr, if_neg]
        simpa using hm
      · have hm : mayV (decL s j).toArray 0 j = true := by simpa using hm
        rw [hr, if_pos hm]
        exact ⟨rfl, rfl, rfl, rfl, trivial⟩
theorem dec_first (a b c d e g : Int) : Good Try.prog (decA (resE s) (s.size / 6) (decL s (s.size / 6)).toArray) 0 (decH0 s 0) (decM0 s a b c d e g) := by
  refine past_vc E9_ok 1000 (dec_nil s (resE s) (s.size / 6) (decL s (s.size / 6)).toArray 0 a b c d e g (fun i' k cs => i' = ((6 * 1 : Nat) : Int) ∧ k = 1 ∧ cs = (decL s 1).toArray)) ?_ (fun _ _ h => h)
    (fun fs m hb => decN1_good (fun i' a b c d e g k cs ⟨e1, k4, k5⟩ => by rw [e1, k4, k5]; exact dec_round s h6 hsz h0 (s.size + 1) 1 (by omega) (by omega) (by omega) a b c d e g) hb)
  refine ⟨fun h => ?_, fun h => ?_⟩
  · have hext : (s.extract 0 s.size).size = s.size := by rw [ByteArray.size_extract]; omega
    refine ⟨⟨by omega, by rw [show Int.toNat 0 = 0 from rfl]; omega, trivial⟩, ⟨by rw [show Int.toNat 0 = 0 from rfl, hext]; omega, trivial⟩, ⟨rfl, rfl, ?_⟩, ?_⟩
    · have := dec_five s 0
      exact congrArg List.toArray this
    repeat' first | exact trivial | exact dH0_2 | apply And.intro | exact rfl
  · have := of_decide_eq_false h; omega
omit h0 in
theorem rem6 : (ari .rem .i64 (s.size : Int) 6 != 0) = false := by
  rw [ari_rem]
  have : (s.size : Int).tmod 6 = 0 := by
    rw [Int.tmod_eq_emod_of_nonneg (by omega)]; omega
  rw [this]; rfl
theorem dec_all : Good Try.prog (decA (resE s) (s.size / 6) (decL s (s.size / 6)).toArray) 0 (decC s) M0 := by
  refine run_vc E9_ok 1000 (dec_start s (resE s) (s.size / 6) (decL s (s.size / 6)).toArray (fun i => i = 0)) ?_ (fun _ _ h => h)
    (fun fs m hb => decN0_good (fun i a b c d e g hi => by rw [hi]; exact dec_first s h6 hsz h0 a b c d e g) hb)
  rw [rem6 s h6 hsz]
  refine ⟨fun _ => ⟨fun h => ?_, fun h => ?_⟩, fun h => ?_⟩
  · simp at h; omega
  · repeat' first | exact trivial | exact dT0_ok | apply And.intro | exact rfl
  · cases h
end
theorem dec_no (s : ByteArray) (h : ¬ (s.size % 6 = 0 ∧ s.size ≤ 384)) (hl : s.size < 9223372036854775807) : Good Try.prog (decA 3 0 #[]) 0 (decC s) M0 := by
  refine run_vc E9_ok 1000 (dec_start s 3 0 #[] (fun i => False)) ?_ (fun _ _ h => h) (fun fs m hb => decN0_good (fun i a b c d e g hi => hi.elim) hb)
  refine ⟨fun h1 => ⟨fun _ => ⟨rfl, rfl⟩, fun h2 => ?_⟩, fun _ => ⟨rfl, rfl⟩⟩
  exfalso
  rw [ari_rem, Int.tmod_eq_emod_of_nonneg (by omega)] at h1
  simp at h1 h2
  omega
end Go.Proofs.Ytapkbgccbmjfaaa
/- Of journal: what is asked of the empty ones. No condition. -/
namespace Go.Proofs.Ytapkbgccbmjfaaa
noncomputable section
def dec0A (e : Int) (s : SV) (_ : SMem) : Prop := match s with
  | .tup [.c (.f (.lit (.slice none 0 0))), .c (.f (.int .i64 y))] => y.den = e
  | _ => False
end
end Go.Proofs.Ytapkbgccbmjfaaa
/- Of journal: what the empty ones come to, as propositions. No condition. -/
namespace Go.Proofs.Ytapkbgccbmjfaaa
set_option maxRecDepth 100000
theorem dec_lit (e : Int) : (run E0 1000 0 [callFr 40 Try.f40.ntmps [.s (.c (.f (.lit (.string ⟨⟨[]⟩⟩))))] (Try.f40.body.getD .skip)] ⟨0, .nil, []⟩).vc (dec0A e) (fun _ _ => False) =
    ((0 : Int) = e) := by kernel_rfl
end Go.Proofs.Ytapkbgccbmjfaaa
/- Of journal: the contracts of Encode and Decode together. No condition. -/
namespace Go.Proofs.Ytapkbgccbmjfaaa
set_option maxRecDepth 100000
theorem Con.freshT {E : Env} (hE : EnvOk E) {g : FuncId} {l : List SV} {m : SMem} {q : List Prop} {k : SN} {cap : SK} {a : SA} {ty : TypeId} {e : Int} {fn : Func} {c : Code} (h1 : E.fn g = some fn) (h2 : fn.body = some c) (hl0 : allB noIds l = true) (ha : freeA a = true)
    (h : (∀ p ∈ q, p) → Good E.P (fun s m' => s = .tup [.c (.f (.slice 0 (.l 0) k cap)), .c (.f (.int .i64 (.l e)))] ∧ m' = ⟨1, Tr.nil.set 0 (some ⟨a, ty, true⟩), []⟩) 0 [callFr g fn.ntmps l c] ⟨0, .nil, []⟩) :
    Con E g l m (needs q (.ret (.tup [.c (.f (.slice m.next (.l 0) k cap)), .c (.f (.int .i64 (.l e)))]) (m.new a ty))) := by
  intro A hs
  obtain ⟨hq, hA⟩ := Tree.sat_needs hs
  refine ⟨fn, h1, by rw [h2]; rfl, fun n0 F w0 w R args hl hR => ?_⟩
  refine (answers_of_good (m := ⟨0, .nil, []⟩) (hE.fns _ _ h1).1 h2 (h hq) (ok_anys hl0 hl) hR.none).mono ?_
  rintro v w' ⟨s, m', R', ⟨rfl, rfl⟩, hX, hR', hv⟩
  have hb0 : getB (Tr.nil.set 0 (some ⟨a, ty, true⟩)) 0 = some ⟨a, ty, true⟩ := rfl
  obtain ⟨gl, cs, fz, e1, e2, e3, e4, e5⟩ := hR'.blk 0 _ hb0
  obtain ⟨e6, ez⟩ := e5 rfl
  have e7 : w.heap.size ≤ gl.b := e6.resolve_right fun x => x
  obtain ⟨R2, k1, k2, k3⟩ := hR.grow hR'.fr.to e7 (hR'.lt 0 gl e1) e2 e3 (free_ok (R' := R) ha e4) ez
  obtain ⟨vs, rfl, hv⟩ := hv
  match hvs : vs.toList, hv with
  | [x, y], hv =>
    obtain ⟨⟨g, cp, f1, rfl, f2, f3⟩, hy, _⟩ := hv
    rw [e1] at f1
    cases f1
    refine ⟨_, _, R2, hA, k1, k3, vs, rfl, ?_⟩
    rw [hvs]
    exact ⟨⟨gl, cp, k2, rfl, f2, f3⟩, hy, trivial⟩
noncomputable section
def nil3 : SV := .tup [.c (.f (.lit (.slice none 0 0))), .c (.f (.int .i64 (.l 3)))]
def nil0 : SV := .tup [.c (.f (.lit (.slice none 0 0))), .c (.f (.int .i64 (.l 0)))]
def rowD (s : ByteArray) : Array Value := (decL s (s.size / 6)).toArray
def sizeD (s : ByteArray) : Nat := s.size / 6
def decT (m : SMem) : SV → Option Tree
  | .s (.c (.f (.lit (.string ⟨⟨[]⟩⟩)))) => some (.ret nil0 m)
  | .s (.c (.f (.opq (.string s)))) => some (needs [s.size ≠ 0, s.size < 9223372036854775807] (.br (decOk s) (.ret (.tup [.c (.f (.slice m.next (.l 0) (.o (sizeD s)) .any)), .c (.f (.int .i64 (.l 0)))]) (m.new (.pop (rowD s)) 86)) (.ret nil3 m)))
  | _ => none
def conE (g : FuncId) (l : List SV) (m : SMem) : Option Tree := match g, l with
  | 46, [x] => mayT m x
  | 40, [x] => decT m x
  | _, _ => none
def EL : Env := ⟨Try.prog, fnOf, conE, fun _ _ _ => false⟩
end
theorem fn11 : E0.fn 40 = some Try.f40 := by kernel_rfl
theorem body11 : Try.f40.body = some (Try.f40.body.getD .skip) := by kernel_rfl
theorem strV_ok {s : ByteArray} {R R' : Ren} {vs : List Value} (h : All2 (SV.ok R) [strV s] vs) : All2 (SV.ok R') [strV s] vs := by
  match vs, h with
  | [x], h => exact ⟨h.1, trivial⟩
theorem nil3_ok {k : Nat} {cs : Array Value} {s : SV} {m' : SMem} {R R' : Ren} {v : Value} (h : decA 3 k cs s m') (hv : s.ok R' v) : nil3.ok R v := by
  unfold decA at h
  split at h
  · rename_i y
    obtain ⟨h1, _⟩ := h
    obtain ⟨vs, rfl, hl⟩ := hv
    match hvs : vs.toList, hl with
    | [a, c], hl =>
      refine ⟨vs, rfl, ?_⟩
      rw [hvs]
      obtain ⟨ha, hc, _⟩ := hl
      have hc : c = .int .i64 y.den := hc
      rw [h1] at hc
      exact ⟨ha, hc, trivial⟩
  · exact absurd h.1 (by decide)
  · exact h.elim
theorem Con.none {g : FuncId} {fn : Func} {c : Code} {l : List SV} {m : SMem} {s0 : SV} {A : SV → SMem → Prop} (h1 : E0.fn g = some fn) (h2 : fn.body = some c) (hl : allB noIds l = true) (good : Good Try.prog A 0 [callFr g fn.ntmps l c] M0)
    (hs : ∀ s m' R R' v, A s m' → s.ok R' v → s0.ok R v) : Con E0 g l m (.ret s0 m) :=
  Con.ro E0_ok (l := l) (l' := l) (ms := M0) (m := m) (q := []) h1 h2 rfl (fun i => i) (fun i b hb => by
    have hb : (Tr.nil : Tr SBlk).get i = some b := hb
    rw [Tr.get_nil] at hb; cases hb) (fun R vs ha => ok_anys hl ha) (fun _ => good) hs
theorem nil0_ok {s : SV} {m' : SMem} {R R' : Ren} {v : Value} (h : dec0A 0 s m') (hv : s.ok R' v) : nil0.ok R v := by
  unfold dec0A at h
  split at h
  · rename_i y
    obtain ⟨vs, rfl, hl⟩ := hv
    match hvs : vs.toList, hl with
    | [a, c], hl =>
      refine ⟨vs, rfl, ?_⟩
      rw [hvs]
      obtain ⟨ha, hc, _⟩ := hl
      have hc : c = .int .i64 y.den := hc
      rw [h] at hc
      exact ⟨ha, hc, trivial⟩
  · exact h.elim
theorem dec_yes (s : ByteArray) (h0 : s.size ≠ 0) (hd : decOk s = true) : Good Try.prog (fun r m' => r = .tup [.c (.f (.slice 0 (.l 0) (.o (sizeD s)) .any)), .c (.f (.int .i64 (.l 0)))] ∧ m' = ⟨1, Tr.nil.set 0 (some ⟨.pop (rowD s), 86, true⟩), []⟩) 0 (decC s) M0 := by
  have hc : s.size % 6 = 0 ∧ s.size ≤ 384 := by unfold decOk at hd; simp at hd; exact hd.1
  refine Good.retX ((dec_all s hc.1 hc.2 h0).mono ?_)
  intro r m' h
  have he : resE s = 0 := by unfold resE; rw [if_pos hd]
  rw [he] at h
  unfold decA at h
  split at h
  · exact absurd h.2 (by decide)
  · exact ⟨_, h.2⟩
  · exact h.elim
theorem dec_not (s : ByteArray) (h0 : s.size ≠ 0) (hl : s.size < 9223372036854775807) (hd : decOk s = false) : ∃ k cs, Good Try.prog (decA 3 k cs) 0 (decC s) M0 := by
  by_cases hc : s.size % 6 = 0 ∧ s.size ≤ 384
  · have he : resE s = 3 := by unfold resE; rw [hd]; rfl
    exact ⟨_, _, he ▸ dec_all s hc.1 hc.2 h0⟩
  · exact ⟨_, _, dec_no s hc hl⟩
theorem decT_ok {m : SMem} {x : SV} {t : Tree} (h : decT m x = some t) : Con E0 40 [x] m t := by
  unfold decT at h
  split at h
  · cases h
    exact Con.none fn11 body11 (by kernel_rfl) (run_vc E0_ok 1000 (dec_lit 0) rfl (fun s m h => h) fun _ _ h => h.elim) fun _ _ _ _ _ => nil0_ok
  · rename_i s
    cases h
    refine Con.br (fun hd => ?_) fun hd => ?_
    · exact Con.freshT E0_ok fn11 body11 (by kernel_rfl) rfl fun hq => dec_yes s (hq _ (by simp)) hd
    · intro B hB
      obtain ⟨hq, _⟩ := Tree.sat_needs hB
      obtain ⟨k, cs, hg⟩ := dec_not s (hq _ (by simp)) (hq _ (by simp)) hd
      exact Con.ro E0_ok (l := [strV s]) (l' := [strV s]) (ms := M0) (m := m) (q := _) fn11 body11 rfl (fun i => i) (fun i b hb => by
        have hb : (Tr.nil : Tr SBlk).get i = some b := hb
        rw [Tr.get_nil] at hb; cases hb) (fun R vs ha => strV_ok ha) (fun _ => hg) (fun _ _ _ _ _ => nil3_ok) B hB
  · cases h
theorem conE_ok (g : FuncId) (l : List SV) (m : SMem) (t : Tree) (h : conE g l m = some t) : Con E0 g l m t := by
  unfold conE at h
  split at h
  · exact mayT_ok h
  · exact decT_ok h
  · cases h
theorem EL_ok : EnvOk EL := EnvOk.with E0_ok _ _ conE_ok
end Go.Proofs.Ytapkbgccbmjfaaa
/- Of journal: what the reference's May and Decode answer. No condition. -/
namespace Go.Proofs.Ytapkbgccbmjfaaa
set_option linter.unusedSectionVars false
set_option maxRecDepth 100000
theorem dec_ins {s : ByteArray} {k i : Nat} (hi : i < k) : ins (decL s k).toArray 0 i = insD s i := (ins_dec s hi).1
theorem mayV_congr {cs ds : Array Value} {off off' n : Nat} (h : ∀ i, i < n → ins cs off i = ins ds off' i) : mayV cs off n = mayV ds off' n := by
  rw [Bool.eq_iff_iff, mayV_iff, mayV_iff]
  exact ⟨fun ⟨a, b⟩ => ⟨a, fun i hi => by rw [← h i hi]; exact b i hi⟩, fun ⟨a, b⟩ => ⟨a, fun i hi => by rw [h i hi]; exact b i hi⟩⟩
theorem w64 {x : Int} (h : 0 ≤ x ∧ x ≤ 65535) : IntKind.i64.wrap x = x := Go.IntWalk.i64_in _ (by omega)
theorem rmT0_ok : TodoOk (ren 1 []) rmT0 rmT0 := TodoOk.same (by kernel_rfl)
theorem rmN_good {h : Bool} {off n : Nat} {cs : Array Value} {ty : TypeId} {A : SV → SMem → Prop} {Q : Int → Prop} (hg : ∀ i, Q i → Good E9.P A 1 (gH E9 1 (rmC off n) (prM false cs ty) [(3, i64 (.o i))]) (gM E9 1 (rmC off n) (prM false cs ty) [])) {fs : List SFr} {m : SMem} (hb : rmN h off n cs ty Q fs m) : Good E9.P A 1 fs m := by
  unfold rmN at hb
  split at hb
  · split at hb
    · exact gN_good hb.2 (hg _ hb.1)
    · exact hb.elim
  · exact hb.elim
section
variable (off n : Nat) (cs : Array Value) (ty : TypeId) (hR : RowOk cs off n)
include hR
theorem rm_round (hn : n ≤ 64) : ∀ (k i : Nat), n - i < k → i ≤ n → (∀ j, j < i → (ins cs off j).okN n = true) → Good E9.P (boolR (mayV cs off n)) 1 (gH E9 1 (rmC off n) (prM false cs ty) [(3, i64 (.o i))]) (gM E9 1 (rmC off n) (prM false cs ty) []) := by
  intro k
  induction k with
  | zero => intro i h; omega
  | succ k ih =>
    intro i hk hi hd
    refine past_vc E9_ok 1000 (rm_step off n cs ty (mayV cs off n) i (fun i' => ∃ j : Nat, i' = j ∧ n - j < k ∧ j ≤ n ∧ ∀ t, t < j → (ins cs off t).okN n = true)) ?_ (fun _ _ h => h)
      (fun fs m hb => rmN_good (fun i' ⟨j, e, k1, k2, k3⟩ => by rw [e]; exact ih j k1 k2 k3) hb)
    refine ⟨fun h => ?_, fun h => ?_⟩
    · have hlt : i < n := by have := of_decide_eq_true h; omega
      obtain ⟨i1, i2, i3, i4, i5⟩ := hR.2 i hlt
      rw [Int.toNat_natCast]
      refine ⟨⟨⟨by omega, by omega⟩, trivial⟩, ⟨i1, i2, i3, i4, i5, trivial⟩, ?_⟩
      have hyes : (ins cs off i).okN n = true → ∃ j : Nat, ((i + 1 : Nat) : Int) = j ∧ n - j < k ∧ j ≤ n ∧ ∀ t, t < j → (ins cs off t).okN n = true := fun h => ⟨i + 1, rfl, by omega, by omega, fun t ht => by
        by_cases e : t = i
        · rw [e]; exact h
        · exact hd t (by omega)⟩
      have hno : ¬ (ins cs off i).okN n = true → false = mayV cs off n := fun h => by
        cases e : mayV cs off n with
        | false => rfl
        | true => exact (h ((mayV_iff.1 e).2 i hlt)).elim
      have eA : ari BinOp.add IntKind.i64 (i : Int) 1 = ((i + 1 : Nat) : Int) := by rw [ari_add, i64_nat (show i < 9223372036854775807 by omega)]
      rw [eA]
      generalize hYe : (∃ j : Nat, ((i + 1 : Nat) : Int) = j ∧ n - j < k ∧ j ≤ n ∧ ∀ t, t < j → (ins cs off t).okN n = true) = Y at hyes ⊢
      generalize hRe : (false = mayV cs off n) = Z at hno ⊢
      rw [Ins.okN_iff] at hyes hno
      simp only [ins] at hyes hno
      generalize intAt cs (off + i * 5) = xo at hyes hno ⊢
      generalize intAt cs (off + i * 5 + 1) = xa at hyes hno ⊢
      generalize intAt cs (off + i * 5 + 2) = xb at hyes hno ⊢
      generalize intAt cs (off + i * 5 + 3) = xc at hyes hno ⊢
      generalize intAt cs (off + i * 5 + 4) = xn at hyes hno ⊢
      simp only [eqJ, beq_iff_eq, beq_eq_false_iff_ne, decide_eq_true_eq, decide_eq_false_iff_not, Bool.not_eq_eq_eq_not, Bool.not_true, Bool.not_false, ne_eq]
      clear hYe hRe ih hd
      repeat' first | apply And.intro | (intro hh)
      all_goals first | exact trivial | exact rmH0_ok | exact rfl | skip
      all_goals first | (refine hyes ?_; omega) | (refine hno ?_; omega) | skip
    · have h1 : ¬ i < n := by have := of_decide_eq_false h; omega
      exact (mayV_iff.2 ⟨hn, fun j hj => hd j (by omega)⟩).symm
theorem rm_good : Good Try.prog (boolR (mayV cs off n)) 1 (rmC off n) (prM false cs ty) := by
  refine run_vc E9_ok 1000 (rm_start off n cs ty (mayV cs off n) (fun i => i = 0 ∧ n ≤ 64)) ?_ (fun _ _ h => h)
    (fun fs m hb => rmN_good (fun i ⟨e, hn⟩ => by rw [e]; exact rm_round off n cs ty hR hn (n + 1) 0 (by omega) (by omega) (fun j hj => by omega)) hb)
  refine ⟨fun h => ?_, fun h => ?_⟩
  · have : ¬ n ≤ 64 := by have := of_decide_eq_true h; omega
    unfold mayV
    rw [decide_eq_false this]; rfl
  · have : n ≤ 64 := by have := of_decide_eq_false h; omega
    repeat' first | exact this | exact trivial | exact rmT0_ok | apply And.intro | exact rfl
end
theorem rowR_of {m : SMem} {i : Nat} {cs : Array Value} (h : rowR m i = some cs) : ∃ ty wr, getB m.bl i = some ⟨.pop cs, ty, wr⟩ := by
  unfold rowR at h
  split at h
  · rename_i e; cases h; exact ⟨_, _, e⟩
  · cases h
theorem Con.rowR {g : FuncId} {fn : Func} {c : Code} {m : SMem} {i : Nat} {o n : SN} {cap : SK} {cs : Array Value} {q : List Prop} {s0 : SV} {A : SV → SMem → Prop} (h1 : E0.fn g = some fn) (h2 : fn.body = some c) (hr : rowR m i = some cs)
    (good : ∀ ty, (∀ p ∈ q, p) → Good Try.prog A 1 [callFr g fn.ntmps [prS o.den n.den] c] (prM false cs ty)) (hs : ∀ s m' R R' v, A s m' → s.ok R' v → s0.ok R v) :
    Con E0 g [.s (.c (.f (.slice i o n cap)))] m (needs q (.ret s0 m)) := by
  obtain ⟨ty, wr, hb⟩ := rowR_of hr
  refine Con.ro E0_ok (l' := [prS o.den n.den]) (ms := prM false cs ty) (A := A) h1 h2 rfl (fun _ => i) ?_ ?_ (good ty) hs
  · intro j b hj
    obtain ⟨rfl, rfl⟩ := prM_get hj
    exact ⟨Nat.zero_lt_one, rfl, _, hb, rfl, fun R cs' h => h⟩
  · intro R vs ha
    match vs, ha with
    | [x], ha =>
      obtain ⟨⟨gl, cp, e1, e2, e3, e4⟩, _⟩ := ha
      exact ⟨⟨gl, cp, by unfold pull; exact e1, e2, trivial, e4⟩, trivial⟩
theorem fnR18 : E0.fn 36 = some Try.f36 := by kernel_rfl
theorem bodyR18 : Try.f36.body = some (Try.f36.body.getD .skip) := by kernel_rfl
theorem rm_nil : (run E0 1000 0 [callFr 36 Try.f36.ntmps [nilV] (Try.f36.body.getD .skip)] ⟨0, .nil, []⟩).allTrue = true := by kernel_rfl
theorem bool_ok {b : Bool} {s : SV} {m' : SMem} {R R' : Ren} {v : Value} (h : boolR b s m') (hv : s.ok R' v) : (sB (.o b)).ok R v := by
  unfold boolR at h
  split at h
  · have hv : v = .bool _ := hv
    rw [hv, h]; rfl
  · exact h.elim
theorem mayRT_ok {m : SMem} {x : SV} {t : Tree} (h : mayRT m x = some t) : Con E0 36 [x] m t := by
  unfold mayRT at h
  split at h
  · cases h
    exact Con.pure (q := []) E0_ok fnR18 bodyR18 (by kernel_rfl) (by kernel_rfl) fun _ => good_true E0_ok rm_nil
  · split at h
    · rename_i o n cap _ cs e
      cases h
      exact Con.rowR fnR18 bodyR18 e (A := boolR (mayV cs o.den n.den)) (fun ty hq => rm_good o.den n.den cs ty (hq _ (List.mem_cons_self ..))) fun _ _ _ _ _ => bool_ok
    · cases h
  · cases h
theorem con7_ok (g : FuncId) (l : List SV) (m : SMem) (t : Tree) (h : con7 g l m = some t) : Con E0 g l m t := by
  unfold con7 at h
  split at h
  · exact mayRT_ok h
  · cases h
theorem E7_ok : EnvOk E7 := EnvOk.with E0_ok _ _ con7_ok
def fiveD (s : ByteArray) (j : Nat) : List Value := [i64V (IntKind.i64.wrap (byteAt s (6 * j))), i64V (IntKind.i64.wrap (byteAt s (6 * j + 1))), i64V (IntKind.i64.wrap (byteAt s (6 * j + 2))), i64V (IntKind.i64.wrap (byteAt s (6 * j + 3))), i64V (ari .add .i64 (IntKind.i64.wrap (byteAt s (6 * j + 4))) (ari .mul .i64 256 (IntKind.i64.wrap (byteAt s (6 * j + 5)))))]
def rdQ (s : ByteArray) : Nat → List Value := parts (fiveD s)
def rdRow (s : ByteArray) : Array Value := (rdQ s (s.size / 6)).toArray
theorem rdQ_len (s : ByteArray) (n : Nat) : (rdQ s n).length = n * 5 := parts_len (f := fiveD s) (fun _ => rfl) n
theorem rdQ_more (s : ByteArray) (i : Nat) : (rdQ s i).toArray ++ (fiveD s i).toArray = (rdQ s (i + 1)).toArray := by
  show _ = (rdQ s i ++ fiveD s i).toArray
  rw [List.append_toArray]
theorem rdQ_at (s : ByteArray) {n i t : Nat} (hi : i < n) (ht : t < 5) : (rdQ s n).toArray[0 + i * 5 + t]? = (fiveD s i)[t]? := by
  rw [List.getElem?_toArray, Nat.zero_add]
  exact parts_at (f := fiveD s) (fun _ => rfl) hi ht
theorem rd_row (s : ByteArray) {n : Nat} (hn : n < 9223372036854775807) : RowOk (rdQ s n).toArray 0 n ∧ ∀ i, i < n → ins (rdQ s n).toArray 0 i = insD s i := by
  have key : ∀ i, i < n → (IsInt .i64 (rdQ s n).toArray (0 + i * 5) ∧ IsInt .i64 (rdQ s n).toArray (0 + i * 5 + 1) ∧ IsInt .i64 (rdQ s n).toArray (0 + i * 5 + 2) ∧ IsInt .i64 (rdQ s n).toArray (0 + i * 5 + 3) ∧ IsInt .i64 (rdQ s n).toArray (0 + i * 5 + 4)) ∧ ins (rdQ s n).toArray 0 i = insD s i := by
    intro i hi
    have hb := fun j => byteAt_range s j
    have h0 := hb (6 * i)
    have h1 := hb (6 * i + 1)
    have h2 := hb (6 * i + 2)
    have h3 := hb (6 * i + 3)
    have h4 := hb (6 * i + 4)
    have h5 := hb (6 * i + 5)
    obtain ⟨a0, b0⟩ := intAt_is (rdQ_at s (t := 0) hi (by decide))
    obtain ⟨a1, b1⟩ := intAt_is (rdQ_at s (t := 1) hi (by decide))
    obtain ⟨a2, b2⟩ := intAt_is (rdQ_at s (t := 2) hi (by decide))
    obtain ⟨a3, b3⟩ := intAt_is (rdQ_at s (t := 3) hi (by decide))
    obtain ⟨a4, b4⟩ := intAt_is (rdQ_at s (t := 4) hi (by decide))
    refine ⟨⟨b0, b1, b2, b3, b4⟩, Ins.ext' (a0.trans (w64 (by omega))) (a1.trans (w64 (by omega))) (a2.trans (w64 (by omega))) (a3.trans (w64 (by omega))) (a4.trans ?_)⟩
    show _ = word _ _
    rw [word_eq h4 h5, ari_add, ari_mul, w64 (x := byteAt s (6 * i + 4)) (by omega), w64 (x := byteAt s (6 * i + 5)) (by omega), w64 (x := 256 * byteAt s (6 * i + 5)) (by omega), w64 (by omega)]
  exact ⟨⟨hn, fun i hi => (key i hi).1⟩, fun i hi => (key i hi).2⟩
def refOk (s : ByteArray) : Bool := decide (s.size % 6 = 0) && mayV (rdRow s) 0 (s.size / 6)
theorem cut_size (s : ByteArray) (a : Nat) : (s.extract a s.size).size = s.size - a := by rw [ByteArray.size_extract]; omega
theorem cut_cut (s : ByteArray) (a : Nat) : (s.extract a s.size).extract 6 (s.extract a s.size).size = s.extract (a + 6) s.size := by
  refine bytes_ext (by rw [cut_size, cut_size, cut_size]; omega) fun i _ => ?_
  rw [byteAt_cut, byteAt_cut, byteAt_cut, Nat.add_assoc]
theorem rdT0_ok : TodoOk (ren 0 []) rdT0 rdT0 := TodoOk.same (by kernel_rfl)
theorem rdH_1 : TodoOk (ren 0 [(0, 1)]) rdH00 rdH00 := TodoOk.same (by kernel_rfl)
theorem rdH_2 : TodoOk (ren 0 [(0, 2)]) rdH00 rdH00 := TodoOk.same (by kernel_rfl)
theorem rdN0_good {s : ByteArray} {A : SV → SMem → Prop} {Q : ByteArray → Prop} (hg : ∀ t, Q t → Good E7.P A 0 (rdH0 s t) M0) {fs : List SFr} {m : SMem} (hb : rdN0 s Q fs m) : Good E7.P A 0 fs m := by
  unfold rdN0 at hb
  split at hb
  · split at hb
    · split at hb
      · exact Good.of_sub hb.2 (Good.head (hg _ hb.1))
      · exact hb.elim
    · exact hb.elim
  · exact hb.elim
theorem rdN1_good {s : ByteArray} {A : SV → SMem → Prop} {Q : ByteArray → Nat → Array Value → Prop} (hg : ∀ t k rs, Q t k rs → Good E7.P A 0 (rdH1 s t k) (rdM1 rs)) {fs : List SFr} {m : SMem} (hb : rdN1 s Q fs m) : Good E7.P A 0 fs m := by
  unfold rdN1 at hb
  split at hb
  · split at hb
    · split at hb
      · exact Good.of_sub hb.2 (hg _ _ _ hb.1)
      · exact hb.elim
    · exact hb.elim
  · exact hb.elim
section
variable (s : ByteArray) (h0 : s.size ≠ 0) (hs : s.size ≤ 2000)
include h0 hs
theorem rd_round : ∀ (K j : Nat), s.size / 6 - j < K → 1 ≤ j → 6 * j ≤ s.size → Good Try.prog (rdAn (refOk s) (s.size / 6) (rdRow s)) 0 (rdH1 s (s.extract (6 * j) s.size) j) (rdM1 (rdQ s j).toArray) := by
  intro K
  induction K with
  | zero => intro j h; omega
  | succ K ih =>
    intro j hk h1 hj
    refine past_vc E7_ok 1000 (rd_step s (s.extract (6 * j) s.size) (refOk s) (s.size / 6) (rdRow s) j (rdQ s j).toArray (fun t k rs => ∃ i : Nat, t = s.extract (6 * i) s.size ∧ s.size / 6 - i < K ∧ 1 ≤ i ∧ 6 * i ≤ s.size ∧ k = i ∧ rs = (rdQ s i).toArray)) ?_ (fun _ _ h => h)
      (fun fs m hb => rdN1_good (fun t k rs ⟨i, e1, k1, k2, k3, k4, k5⟩ => by rw [e1, k4, k5]; exact ih i k1 k2 k3) hb)
    have hls : (rdQ s j).toArray.size = j * 5 := by rw [List.size_toArray, rdQ_len]
    rw [cut_cut, cut_size]
    simp only [byteAt_cut]
    refine ⟨fun h => ?_, fun h => ?_⟩
    · have hlt : 6 ≤ s.size - 6 * j := by have := of_decide_eq_true h; omega
      refine ⟨⟨⟨by omega, by omega⟩, trivial⟩, ⟨⟨by omega, by omega⟩, trivial⟩, ⟨⟨by omega, by omega⟩, trivial⟩, ⟨⟨by omega, by omega⟩, trivial⟩, ⟨⟨by omega, by omega⟩, trivial⟩, ⟨⟨by omega, by omega⟩, trivial⟩, ⟨⟨by omega, by omega⟩, by rw [hls], trivial⟩, ⟨hlt, trivial⟩, ⟨j + 1, rfl, by omega, by omega, by omega, rfl, rdQ_more s j⟩, ?_⟩
      repeat' first | exact trivial | exact rdH_2 | apply And.intro | exact rfl
    · have hlt : s.size - 6 * j < 6 := by have := of_decide_eq_false h; omega
      have e : j = s.size / 6 := by omega
      refine ⟨fun h2 => ?_, fun h2 => ?_⟩
      · have hz : s.size % 6 = 0 := by
          have h2 : decide (((s.size - 6 * j : Nat) : Int) > 0) = false := by simpa only [beq_iff_eq] using h2
          have := of_decide_eq_false h2
          omega
        have hr : refOk s = mayV (rdQ s j).toArray 0 j := by
          unfold refOk rdRow
          rw [← e, decide_eq_true hz, Bool.true_and]
        have e2 : rdRow s = (rdQ s j).toArray := by unfold rdRow; rw [← e]
        rw [hr, e2, ← e]
        refine ⟨⟨(rd_row s (n := j) (by omega)).1, trivial⟩, ⟨fun hm => ⟨trivial, ?_⟩, fun hm => ⟨?_, ?_⟩⟩⟩
        · simpa using hm
        · simpa using hm
        · repeat' first | exact trivial | apply And.intro | exact rfl
      · have hz : s.size % 6 ≠ 0 := by
          have h2 : decide (((s.size - 6 * j : Nat) : Int) > 0) = true := by
            cases hd : decide (((s.size - 6 * j : Nat) : Int) > 0) with
            | true => rfl
            | false => rw [hd] at h2; cases h2
          have := of_decide_eq_true h2
          omega
        have hr : refOk s = false := by
          unfold refOk
          rw [decide_eq_false hz]; rfl
        exact ⟨trivial, hr⟩
theorem rd_first : Good Try.prog (rdAn (refOk s) (s.size / 6) (rdRow s)) 0 (rdH0 s s) M0 := by
  refine past_vc E7_ok 1000 (rd_nil s s (refOk s) (s.size / 6) (rdRow s) (fun t k rs => 6 ≤ s.size ∧ t = s.extract (6 * 1) s.size ∧ k = 1 ∧ rs = (rdQ s 1).toArray)) ?_ (fun _ _ h => h)
    (fun fs m hb => rdN1_good (fun t k rs ⟨h6, e1, k4, k5⟩ => by rw [e1, k4, k5]; exact rd_round s h0 hs (s.size + 1) 1 (by omega) (by omega) (by omega)) hb)
  refine ⟨fun h => ?_, fun h => ?_⟩
  · have hlt : 6 ≤ s.size := by have := of_decide_eq_true h; omega
    refine ⟨⟨⟨by omega, by omega⟩, trivial⟩, ⟨⟨by omega, by omega⟩, trivial⟩, ⟨⟨by omega, by omega⟩, trivial⟩, ⟨⟨by omega, by omega⟩, trivial⟩, ⟨⟨by omega, by omega⟩, trivial⟩, ⟨⟨by omega, by omega⟩, trivial⟩, ⟨hlt, trivial⟩, ⟨hlt, rfl, rfl, rfl⟩, ?_⟩
    repeat' first | exact trivial | exact rdH_1 | apply And.intro | exact rfl
  · have hlt : s.size < 6 := by have := of_decide_eq_false h; omega
    have hr : refOk s = false := by
      unfold refOk
      rw [decide_eq_false (by omega)]; rfl
    refine ⟨fun h2 => ?_, fun h2 => ⟨rfl, hr⟩⟩
    have h2 : decide ((s.size : Int) > 0) = false := by
      cases hd : decide ((s.size : Int) > 0) with
      | false => rfl
      | true => rw [hd] at h2; cases h2
    have := of_decide_eq_false h2
    omega
theorem rd_all : Good Try.prog (rdAn (refOk s) (s.size / 6) (rdRow s)) 0 (rdC s) M0 := by
  refine run_vc E7_ok 1000 (rd_start s (refOk s) (s.size / 6) (rdRow s) (fun t => t = s)) ?_ (fun _ _ h => h)
    (fun fs m hb => rdN0_good (fun t e => by rw [e]; exact rd_first s h0 hs) hb)
  repeat' first | exact trivial | exact rdT0_ok | apply And.intro | exact rfl
end
theorem refOk_eq (s : ByteArray) (hs : s.size ≤ 2000) : refOk s = decOk s := by
  unfold refOk decOk
  have hm : mayV (rdRow s) 0 (s.size / 6) = mayV (decL s (s.size / 6)).toArray 0 (s.size / 6) :=
    mayV_congr fun i hi => by rw [dec_ins hi]; exact (rd_row s (by omega)).2 i hi
  rw [hm]
  cases e : mayV (decL s (s.size / 6)).toArray 0 (s.size / 6) with
  | false => rw [Bool.and_false, Bool.and_false]
  | true =>
    rw [Bool.and_true, Bool.and_true]
    have := (mayV_iff.1 e).1
    apply decide_eq_decide.2
    omega
noncomputable section
def nilB (b : Bool) : SV := .tup [.c (.f (.lit (.slice none 0 0))), .c (.f (.bool (.l b)))]
end
theorem fnR7 : E0.fn 26 = some Try.f26 := by kernel_rfl
theorem bodyR7 : Try.f26.body = some (Try.f26.body.getD .skip) := by kernel_rfl
theorem Con.freshB {E : Env} (hE : EnvOk E) {g : FuncId} {l : List SV} {m : SMem} {q : List Prop} {k : SN} {cap : SK} {a : SA} {ty : TypeId} {fn : Func} {c : Code} (h1 : E.fn g = some fn) (h2 : fn.body = some c) (hl0 : allB noIds l = true) (ha : freeA a = true)
    (h : (∀ p ∈ q, p) → Good E.P (fun s m' => s = .tup [.c (.f (.slice 0 (.l 0) k cap)), .c (.f (.bool (.l true)))] ∧ m' = ⟨1, Tr.nil.set 0 (some ⟨a, ty, true⟩), []⟩) 0 [callFr g fn.ntmps l c] ⟨0, .nil, []⟩) :
    Con E g l m (needs q (.ret (.tup [.c (.f (.slice m.next (.l 0) k cap)), .c (.f (.bool (.l true)))]) (m.new a ty))) := by
  intro A hs
  obtain ⟨hq, hA⟩ := Tree.sat_needs hs
  refine ⟨fn, h1, by rw [h2]; rfl, fun n0 F w0 w R args hl hR => ?_⟩
  refine (answers_of_good (m := ⟨0, .nil, []⟩) (hE.fns _ _ h1).1 h2 (h hq) (ok_anys hl0 hl) hR.none).mono ?_
  rintro v w' ⟨s, m', R', ⟨rfl, rfl⟩, hX, hR', hv⟩
  have hb0 : getB (Tr.nil.set 0 (some ⟨a, ty, true⟩)) 0 = some ⟨a, ty, true⟩ := rfl
  obtain ⟨gl, cs, fz, e1, e2, e3, e4, e5⟩ := hR'.blk 0 _ hb0
  obtain ⟨e6, ez⟩ := e5 rfl
  have e7 : w.heap.size ≤ gl.b := e6.resolve_right fun x => x
  obtain ⟨R2, k1, k2, k3⟩ := hR.grow hR'.fr.to e7 (hR'.lt 0 gl e1) e2 e3 (free_ok (R' := R) ha e4) ez
  obtain ⟨vs, rfl, hv⟩ := hv
  match hvs : vs.toList, hv with
  | [x, y], hv =>
    obtain ⟨⟨g, cp, f1, rfl, f2, f3⟩, hy, _⟩ := hv
    rw [e1] at f1
    cases f1
    refine ⟨_, _, R2, hA, k1, k3, vs, rfl, ?_⟩
    rw [hvs]
    exact ⟨⟨gl, cp, k2, rfl, f2, f3⟩, hy, trivial⟩
theorem nilB_of {b : Bool} {y : SB} {vs : Array Value} {R R' : Ren} (hy : y.den = b) (hl : All2 (S1.ok R') [.c (.f (.lit (.slice none 0 0))), .c (.f (.bool y))] vs.toList) : (nilB b).ok R (.tuple vs) := by
  match hvs : vs.toList, hl with
  | [a, c], hl =>
    refine ⟨vs, rfl, ?_⟩
    rw [hvs]
    obtain ⟨ha, hc, _⟩ := hl
    have hc : c = .bool y.den := hc
    rw [hy] at hc
    exact ⟨ha, hc, trivial⟩
theorem nilB_no {k : Nat} {cs : Array Value} {s : SV} {m' : SMem} {R R' : Ren} {v : Value} (h : rdAn false k cs s m') (hv : s.ok R' v) : (nilB false).ok R v := by
  unfold rdAn at h
  split at h
  · obtain ⟨vs, rfl, hl⟩ := hv
    exact nilB_of h.1 hl
  · cases h.1
  · exact h.elim
theorem nilB_yes {s : SV} {m' : SMem} {R R' : Ren} {v : Value} (h : rd0A true s m') (hv : s.ok R' v) : (nilB true).ok R v := by
  unfold rd0A at h
  split at h
  · obtain ⟨vs, rfl, hl⟩ := hv
    exact nilB_of h hl
  · exact h.elim
theorem rd_yes (s : ByteArray) (h0 : s.size ≠ 0) (hs : s.size ≤ 2000) (hd : refOk s = true) : Good Try.prog (fun r m' => r = .tup [.c (.f (.slice 0 (.l 0) (.o (sizeD s)) .any)), .c (.f (.bool (.l true)))] ∧ m' = ⟨1, Tr.nil.set 0 (some ⟨.pop (rdRow s), 72, true⟩), []⟩) 0 (rdC s) M0 := by
  refine Good.retX ((rd_all s h0 hs).mono ?_)
  intro r m' h
  rw [hd] at h
  unfold rdAn at h
  split at h
  · cases h.2
  · exact ⟨_, h.2⟩
  · exact h.elim
end Go.Proofs.Ytapkbgccbmjfaaa
/- Of journal: which programs and picks may not be: their loops' states. No condition. -/
namespace Go.Proofs.Ytapkbgccbmjfaaa
noncomputable section
def strV' (s : ByteArray) : SV := .s (.c (.f (.opq (.string s))))
def wrT (m : SMem) : SV → Option Tree
  | .s (.c (.f (.opq (.string s)))) => some (needs [s.size < 9223372036854775807] (.ret (sB (.o (!decOk s))) m))
  | _ => none
def conW (g : FuncId) (l : List SV) (m : SMem) : Option Tree := match g, l with
  | 39, [x] => wrT m x
  | _, _ => none
def EW : Env := ⟨Try.prog, fnOf, conW, fun _ f x => (Nat.beq f 47 || Nat.beq f 48) && isLoop x⟩
def fnV (g : Nat) : SV := .s (.c (.fn (.func g) [] []))
def cfC (b : Bool) (off n : Nat) : List SFr := match b with
  | true => [callFr 41 Try.f41.ntmps [prS off n, fnV 39] (Try.f41.body.getD .skip)]
  | false => [callFr 42 Try.f42.ntmps [prS off n, fnV 43] (Try.f42.body.getD .skip)]
def cfN (b h v : Bool) (off n : Nat) (cs : Array Value) (ty : TypeId) (Q : Int → Prop) (fs : List SFr) (m : SMem) : Prop := match fs with
  | f :: _ => match rdI f 8 with
    | some i => Q i ∧ gN EW 1 (cfC b off n) (prM v cs ty) h [(8, i64 (.o i))] [] fs m
    | none => False
  | [] => False
def sT0 : List SIt := headTd (gF EW 1 (cfC true 0 0) (prM true #[] 0) [])
def sH0 : List SIt := headTd (gH EW 1 (cfC true 0 0) (prM true #[] 0) [])
def sT1 : List SIt := headTd ((gF EW 1 (cfC true 0 0) (prM true #[] 0) []).drop 1)
def bT0' : List SIt := headTd (gF EW 1 (cfC false 0 0) (prM true #[] 0) [])
def bH0' : List SIt := headTd (gH EW 1 (cfC false 0 0) (prM true #[] 0) [])
def bT1' : List SIt := headTd ((gF EW 1 (cfC false 0 0) (prM true #[] 0) []).drop 1)
end
end Go.Proofs.Ytapkbgccbmjfaaa
/- Of journal: the rounds of those loops, as propositions. No condition. -/
namespace Go.Proofs.Ytapkbgccbmjfaaa
set_option maxRecDepth 100000
theorem cs_start_r (off n : Nat) (cs : Array Value) (ty : TypeId) (r : Bool) (Q : Int → Prop) : (gR EW 1 (cfC true off n) (prM true cs ty)).vc (boolR r) (cfN true false true off n cs ty Q) =
    (Q (0 : Int) ∧ CallKind.normal = CallKind.normal ∧ TodoOk (ren 1 []) sT0 sT0 ∧ off = off ∧ n = n ∧ Fn.func (39 : Nat) = Fn.func (39 : Nat) ∧ (↑n : Int) = (↑n : Int) ∧ (0 : Int) = (0 : Int) ∧ off = off ∧ n = n ∧ CallKind.normal = CallKind.normal ∧ TodoOk (ren 1 []) sT1 sT1 ∧ off = off ∧ n = n ∧ Fn.func (39 : Nat) = Fn.func (39 : Nat) ∧ off = off ∧ n = n ∧ Fn.func (39 : Nat) = Fn.func (39 : Nat) ∧ ty = ty ∧ cs = cs ∧ True) := by kernel_rfl
theorem cs_start_p (off n : Nat) (cs : Array Value) (ty : TypeId) (r : Bool) (Q : Int → Prop) : (gR EW 1 (cfC true off n) (prM false cs ty)).vc (boolR r) (cfN true false false off n cs ty Q) =
    (Q (0 : Int) ∧ CallKind.normal = CallKind.normal ∧ TodoOk (ren 1 []) sT0 sT0 ∧ off = off ∧ n = n ∧ Fn.func (39 : Nat) = Fn.func (39 : Nat) ∧ (↑n : Int) = (↑n : Int) ∧ (0 : Int) = (0 : Int) ∧ off = off ∧ n = n ∧ CallKind.normal = CallKind.normal ∧ TodoOk (ren 1 []) sT1 sT1 ∧ off = off ∧ n = n ∧ Fn.func (39 : Nat) = Fn.func (39 : Nat) ∧ off = off ∧ n = n ∧ Fn.func (39 : Nat) = Fn.func (39 : Nat) ∧ ty = ty ∧ cs = cs ∧ True) := by kernel_rfl
theorem cs_step_r (off n : Nat) (cs : Array Value) (ty : TypeId) (r : Bool) (i : Int) (Q : Int → Prop) : (gS EW 1 (cfC true off n) (prM true cs ty) [(8, i64 (.o i))] []).vc (boolR r) (cfN true true true off n cs ty Q) =
    ((decide (i < (↑n : Int)) = true → (((0 : Int) ≤ i ∧ i < (↑n : Int)) ∧ True) ∧ (cs[off + Int.toNat i * 1]? = some (Value.string (strAt cs (off + Int.toNat i * 1))) ∧ True) ∧ (ByteArray.size (strAt cs (off + Int.toNat i * 1)) < (9223372036854775807 : Nat) ∧ True) ∧ ((!decOk (strAt cs (off + Int.toNat i * 1))) = true → decide (i ≥ (0 : Int)) = r) ∧ ((!decOk (strAt cs (off + Int.toNat i * 1))) = false → Q (ari BinOp.add IntKind.i64 i (1 : Int)) ∧ CallKind.normal = CallKind.normal ∧ TodoOk (ren 1 []) sH0 sH0 ∧ off = off ∧ n = n ∧ Fn.func (39 : Nat) = Fn.func (39 : Nat) ∧ (↑n : Int) = (↑n : Int) ∧ ari BinOp.add IntKind.i64 i (1 : Int) = ari BinOp.add IntKind.i64 i (1 : Int) ∧ off = off ∧ n = n ∧ CallKind.normal = CallKind.normal ∧ TodoOk (ren 1 []) sT1 sT1 ∧ off = off ∧ n = n ∧ Fn.func (39 : Nat) = Fn.func (39 : Nat) ∧ off = off ∧ n = n ∧ Fn.func (39 : Nat) = Fn.func (39 : Nat) ∧ ty = ty ∧ cs = cs ∧ True)) ∧ (decide (i < (↑n : Int)) = false → decide ((-1 : Int) ≥ (0 : Int)) = r)) := by kernel_rfl
theorem cs_step_p (off n : Nat) (cs : Array Value) (ty : TypeId) (r : Bool) (i : Int) (Q : Int → Prop) : (gS EW 1 (cfC true off n) (prM false cs ty) [(8, i64 (.o i))] []).vc (boolR r) (cfN true true false off n cs ty Q) =
    ((decide (i < (↑n : Int)) = true → (((0 : Int) ≤ i ∧ i < (↑n : Int)) ∧ True) ∧ (cs[off + Int.toNat i * 1]? = some (Value.string (strAt cs (off + Int.toNat i * 1))) ∧ True) ∧ (ByteArray.size (strAt cs (off + Int.toNat i * 1)) < (9223372036854775807 : Nat) ∧ True) ∧ ((!decOk (strAt cs (off + Int.toNat i * 1))) = true → decide (i ≥ (0 : Int)) = r) ∧ ((!decOk (strAt cs (off + Int.toNat i * 1))) = false → Q (ari BinOp.add IntKind.i64 i (1 : Int)) ∧ CallKind.normal = CallKind.normal ∧ TodoOk (ren 1 []) sH0 sH0 ∧ off = off ∧ n = n ∧ Fn.func (39 : Nat) = Fn.func (39 : Nat) ∧ (↑n : Int) = (↑n : Int) ∧ ari BinOp.add IntKind.i64 i (1 : Int) = ari BinOp.add IntKind.i64 i (1 : Int) ∧ off = off ∧ n = n ∧ CallKind.normal = CallKind.normal ∧ TodoOk (ren 1 []) sT1 sT1 ∧ off = off ∧ n = n ∧ Fn.func (39 : Nat) = Fn.func (39 : Nat) ∧ off = off ∧ n = n ∧ Fn.func (39 : Nat) = Fn.func (39 : Nat) ∧ ty = ty ∧ cs = cs ∧ True)) ∧ (decide (i < (↑n : Int)) = false → decide ((-1 : Int) ≥ (0 : Int)) = r)) := by kernel_rfl
theorem cb_start_r (off n : Nat) (cs : Array Value) (ty : TypeId) (r : Bool) (Q : Int → Prop) : (gR EW 1 (cfC false off n) (prM true cs ty)).vc (boolR r) (cfN false false true off n cs ty Q) =
    (Q (0 : Int) ∧ CallKind.normal = CallKind.normal ∧ TodoOk (ren 1 []) bT0' bT0' ∧ off = off ∧ n = n ∧ Fn.func (43 : Nat) = Fn.func (43 : Nat) ∧ (↑n : Int) = (↑n : Int) ∧ (0 : Int) = (0 : Int) ∧ off = off ∧ n = n ∧ CallKind.normal = CallKind.normal ∧ TodoOk (ren 1 []) bT1' bT1' ∧ off = off ∧ n = n ∧ Fn.func (43 : Nat) = Fn.func (43 : Nat) ∧ off = off ∧ n = n ∧ Fn.func (43 : Nat) = Fn.func (43 : Nat) ∧ ty = ty ∧ cs = cs ∧ True) := by kernel_rfl
theorem cb_start_p (off n : Nat) (cs : Array Value) (ty : TypeId) (r : Bool) (Q : Int → Prop) : (gR EW 1 (cfC false off n) (prM false cs ty)).vc (boolR r) (cfN false false false off n cs ty Q) =
    (Q (0 : Int) ∧ CallKind.normal = CallKind.normal ∧ TodoOk (ren 1 []) bT0' bT0' ∧ off = off ∧ n = n ∧ Fn.func (43 : Nat) = Fn.func (43 : Nat) ∧ (↑n : Int) = (↑n : Int) ∧ (0 : Int) = (0 : Int) ∧ off = off ∧ n = n ∧ CallKind.normal = CallKind.normal ∧ TodoOk (ren 1 []) bT1' bT1' ∧ off = off ∧ n = n ∧ Fn.func (43 : Nat) = Fn.func (43 : Nat) ∧ off = off ∧ n = n ∧ Fn.func (43 : Nat) = Fn.func (43 : Nat) ∧ ty = ty ∧ cs = cs ∧ True) := by kernel_rfl
theorem cb_step_r (off n : Nat) (cs : Array Value) (ty : TypeId) (r : Bool) (i : Int) (Q : Int → Prop) : (gS EW 1 (cfC false off n) (prM true cs ty) [(8, i64 (.o i))] []).vc (boolR r) (cfN false true true off n cs ty Q) =
    ((decide (i < (↑n : Int)) = true → (((0 : Int) ≤ i ∧ i < (↑n : Int)) ∧ True) ∧ (IsInt IntKind.u8 cs (off + Int.toNat i * 1) ∧ True) ∧ ((decide (intAt cs (off + Int.toNat i * 1) ≥ (8 : Int)) == true) = true → (((intAt cs (off + Int.toNat i * 1) != (8 : Int)) == true) = true → ((decide (intAt cs (off + Int.toNat i * 1) < (16 : Int)) == false) = true → (decide (intAt cs (off + Int.toNat i * 1) ≥ (24 : Int)) = true → decide (i ≥ (0 : Int)) = r) ∧ (decide (intAt cs (off + Int.toNat i * 1) ≥ (24 : Int)) = false → Q (ari BinOp.add IntKind.i64 i (1 : Int)) ∧ CallKind.normal = CallKind.normal ∧ TodoOk (ren 1 []) bH0' bH0' ∧ off = off ∧ n = n ∧ Fn.func (43 : Nat) = Fn.func (43 : Nat) ∧ (↑n : Int) = (↑n : Int) ∧ ari BinOp.add IntKind.i64 i (1 : Int) = ari BinOp.add IntKind.i64 i (1 : Int) ∧ off = off ∧ n = n ∧ CallKind.normal = CallKind.normal ∧ TodoOk (ren 1 []) bT1' bT1' ∧ off = off ∧ n = n ∧ Fn.func (43 : Nat) = Fn.func (43 : Nat) ∧ off = off ∧ n = n ∧ Fn.func (43 : Nat) = Fn.func (43 : Nat) ∧ ty = ty ∧ cs = cs ∧ True)) ∧ ((decide (intAt cs (off + Int.toNat i * 1) < (16 : Int)) == false) = false → decide (i ≥ (0 : Int)) = r)) ∧ (((intAt cs (off + Int.toNat i * 1) != (8 : Int)) == true) = false → Q (ari BinOp.add IntKind.i64 i (1 : Int)) ∧ CallKind.normal = CallKind.normal ∧ TodoOk (ren 1 []) bH0' bH0' ∧ off = off ∧ n = n ∧ Fn.func (43 : Nat) = Fn.func (43 : Nat) ∧ (↑n : Int) = (↑n : Int) ∧ ari BinOp.add IntKind.i64 i (1 : Int) = ari BinOp.add IntKind.i64 i (1 : Int) ∧ off = off ∧ n = n ∧ CallKind.normal = CallKind.normal ∧ TodoOk (ren 1 []) bT1' bT1' ∧ off = off ∧ n = n ∧ Fn.func (43 : Nat) = Fn.func (43 : Nat) ∧ off = off ∧ n = n ∧ Fn.func (43 : Nat) = Fn.func (43 : Nat) ∧ ty = ty ∧ cs = cs ∧ True)) ∧ ((decide (intAt cs (off + Int.toNat i * 1) ≥ (8 : Int)) == true) = false → Q (ari BinOp.add IntKind.i64 i (1 : Int)) ∧ CallKind.normal = CallKind.normal ∧ TodoOk (ren 1 []) bH0' bH0' ∧ off = off ∧ n = n ∧ Fn.func (43 : Nat) = Fn.func (43 : Nat) ∧ (↑n : Int) = (↑n : Int) ∧ ari BinOp.add IntKind.i64 i (1 : Int) = ari BinOp.add IntKind.i64 i (1 : Int) ∧ off = off ∧ n = n ∧ CallKind.normal = CallKind.normal ∧ TodoOk (ren 1 []) bT1' bT1' ∧ off = off ∧ n = n ∧ Fn.func (43 : Nat) = Fn.func (43 : Nat) ∧ off = off ∧ n = n ∧ Fn.func (43 : Nat) = Fn.func (43 : Nat) ∧ ty = ty ∧ cs = cs ∧ True)) ∧ (decide (i < (↑n : Int)) = false → decide ((-1 : Int) ≥ (0 : Int)) = r)) := by kernel_rfl
theorem cb_step_p (off n : Nat) (cs : Array Value) (ty : TypeId) (r : Bool) (i : Int) (Q : Int → Prop) : (gS EW 1 (cfC false off n) (prM false cs ty) [(8, i64 (.o i))] []).vc (boolR r) (cfN false true false off n cs ty Q) =
    ((decide (i < (↑n : Int)) = true → (((0 : Int) ≤ i ∧ i < (↑n : Int)) ∧ True) ∧ (IsInt IntKind.u8 cs (off + Int.toNat i * 1) ∧ True) ∧ ((decide (intAt cs (off + Int.toNat i * 1) ≥ (8 : Int)) == true) = true → (((intAt cs (off + Int.toNat i * 1) != (8 : Int)) == true) = true → ((decide (intAt cs (off + Int.toNat i * 1) < (16 : Int)) == false) = true → (decide (intAt cs (off + Int.toNat i * 1) ≥ (24 : Int)) = true → decide (i ≥ (0 : Int)) = r) ∧ (decide (intAt cs (off + Int.toNat i * 1) ≥ (24 : Int)) = false → Q (ari BinOp.add IntKind.i64 i (1 : Int)) ∧ CallKind.normal = CallKind.normal ∧ TodoOk (ren 1 []) bH0' bH0' ∧ off = off ∧ n = n ∧ Fn.func (43 : Nat) = Fn.func (43 : Nat) ∧ (↑n : Int) = (↑n : Int) ∧ ari BinOp.add IntKind.i64 i (1 : Int) = ari BinOp.add IntKind.i64 i (1 : Int) ∧ off = off ∧ n = n ∧ CallKind.normal = CallKind.normal ∧ TodoOk (ren 1 []) bT1' bT1' ∧ off = off ∧ n = n ∧ Fn.func (43 : Nat) = Fn.func (43 : Nat) ∧ off = off ∧ n = n ∧ Fn.func (43 : Nat) = Fn.func (43 : Nat) ∧ ty = ty ∧ cs = cs ∧ True)) ∧ ((decide (intAt cs (off + Int.toNat i * 1) < (16 : Int)) == false) = false → decide (i ≥ (0 : Int)) = r)) ∧ (((intAt cs (off + Int.toNat i * 1) != (8 : Int)) == true) = false → Q (ari BinOp.add IntKind.i64 i (1 : Int)) ∧ CallKind.normal = CallKind.normal ∧ TodoOk (ren 1 []) bH0' bH0' ∧ off = off ∧ n = n ∧ Fn.func (43 : Nat) = Fn.func (43 : Nat) ∧ (↑n : Int) = (↑n : Int) ∧ ari BinOp.add IntKind.i64 i (1 : Int) = ari BinOp.add IntKind.i64 i (1 : Int) ∧ off = off ∧ n = n ∧ CallKind.normal = CallKind.normal ∧ TodoOk (ren 1 []) bT1' bT1' ∧ off = off ∧ n = n ∧ Fn.func (43 : Nat) = Fn.func (43 : Nat) ∧ off = off ∧ n = n ∧ Fn.func (43 : Nat) = Fn.func (43 : Nat) ∧ ty = ty ∧ cs = cs ∧ True)) ∧ ((decide (intAt cs (off + Int.toNat i * 1) ≥ (8 : Int)) == true) = false → Q (ari BinOp.add IntKind.i64 i (1 : Int)) ∧ CallKind.normal = CallKind.normal ∧ TodoOk (ren 1 []) bH0' bH0' ∧ off = off ∧ n = n ∧ Fn.func (43 : Nat) = Fn.func (43 : Nat) ∧ (↑n : Int) = (↑n : Int) ∧ ari BinOp.add IntKind.i64 i (1 : Int) = ari BinOp.add IntKind.i64 i (1 : Int) ∧ off = off ∧ n = n ∧ CallKind.normal = CallKind.normal ∧ TodoOk (ren 1 []) bT1' bT1' ∧ off = off ∧ n = n ∧ Fn.func (43 : Nat) = Fn.func (43 : Nat) ∧ off = off ∧ n = n ∧ Fn.func (43 : Nat) = Fn.func (43 : Nat) ∧ ty = ty ∧ cs = cs ∧ True)) ∧ (decide (i < (↑n : Int)) = false → decide ((-1 : Int) ≥ (0 : Int)) = r)) := by kernel_rfl
theorem wrong_vc (s : ByteArray) (b : Bool) : (run EL 1000 0 [callFr 39 Try.f39.ntmps [strV' s] (Try.f39.body.getD .skip)] ⟨0, .nil, []⟩).vc (boolR b) (fun _ _ => False) =
    ((ByteArray.size s ≠ (0 : Nat) ∧ ByteArray.size s < (9223372036854775807 : Nat) ∧ True) ∧ (decOk s = true → ((0 : Int) != (0 : Int)) = b) ∧ (decOk s = false → ((3 : Int) != (0 : Int)) = b)) := by kernel_rfl
theorem wrong_0 (b : Bool) : (run EL 1000 0 [callFr 39 Try.f39.ntmps [.s (.c (.f (.lit (.string ⟨⟨[]⟩⟩))))] (Try.f39.body.getD .skip)] ⟨0, .nil, []⟩).vc (boolR b) (fun _ _ => False) =
    (((0 : Int) != (0 : Int)) = b) := by kernel_rfl
end Go.Proofs.Ytapkbgccbmjfaaa
/- Of journal: which programs and picks may not be, as contracts. No condition. -/
namespace Go.Proofs.Ytapkbgccbmjfaaa
set_option linter.unusedSectionVars false
set_option maxRecDepth 100000
theorem fn16 : E0.fn 39 = some Try.f39 := by kernel_rfl
theorem body16 : Try.f39.body = some (Try.f39.body.getD .skip) := by kernel_rfl
theorem dec_empty : decOk ⟨⟨[]⟩⟩ = true := by decide +kernel
theorem boolR_con {b : Bool} {s : SV} {m' : SMem} {R R' : Ren} {v : Value} (h : boolR b s m') (hv : s.ok R v) : (sB (.o b)).ok R' v := by
  unfold boolR at h
  split at h
  · rename_i x
    have hv : v = .bool x.den := hv
    rw [h] at hv
    exact hv
  · exact h.elim
theorem str_empty {s : ByteArray} (h : s.size = 0) : s = ⟨⟨[]⟩⟩ := by
  apply ByteArray.ext
  exact Array.eq_empty_of_size_eq_zero h
theorem wrT_ok {m : SMem} {x : SV} {t : Tree} (h : wrT m x = some t) : Con E0 39 [x] m t := by
  unfold wrT at h
  split at h
  · rename_i s
    cases h
    by_cases h0 : s.size = 0
    · have e := str_empty h0
      refine Con.ro E0_ok (l := [strV' s]) (l' := [.s (.c (.f (.lit (.string ⟨⟨[]⟩⟩))))]) (ms := M0) (m := m) (q := _) (A := boolR (!decOk s)) fn16 body16 rfl (fun i => i) (fun i b hb => by
        have hb : (Tr.nil : Tr SBlk).get i = some b := hb
        rw [Tr.get_nil] at hb; cases hb) (fun R vs ha => ?_) (fun _ => ?_) (fun _ _ _ _ _ => boolR_con)
      · match vs, ha with
        | [v], ha => exact ⟨by rw [← e]; exact ha.1, trivial⟩
      · exact run_vc EL_ok 1000 (wrong_0 _) (by rw [e, dec_empty]; rfl) (fun _ _ h => h) (fun _ _ h => h.elim)
    · refine Con.ro E0_ok (l := [strV' s]) (l' := [strV' s]) (ms := M0) (m := m) (q := _) (A := boolR (!decOk s)) fn16 body16 rfl (fun i => i) (fun i b hb => by
        have hb : (Tr.nil : Tr SBlk).get i = some b := hb
        rw [Tr.get_nil] at hb; cases hb) (fun R vs ha => strV_ok ha) (fun hq => ?_) (fun _ _ _ _ _ => boolR_con)
      exact run_vc EL_ok 1000 (wrong_vc s _) ⟨⟨h0, hq _ (by simp), trivial⟩, fun h => by rw [h]; rfl, fun h => by rw [h]; rfl⟩ (fun _ _ h => h) (fun _ _ h => h.elim)
  · cases h
theorem conW_ok (g : FuncId) (l : List SV) (m : SMem) (t : Tree) (h : conW g l m = some t) : Con E0 g l m t := by
  unfold conW at h
  split at h
  · exact wrT_ok h
  · cases h
theorem EW_ok : EnvOk EW := EnvOk.with E0_ok _ _ conW_ok
def anyS (cs : Array Value) (off : Nat) : Nat → Bool
  | 0 => false
  | k + 1 => anyS cs off k || !decOk (strAt cs (off + k))
def noP (x : Int) : Bool := decide (8 < x ∧ (16 ≤ x → 24 ≤ x))
def anyB (cs : Array Value) (off : Nat) : Nat → Bool
  | 0 => false
  | k + 1 => anyB cs off k || noP (intAt cs (off + k))
theorem anyS_at {cs : Array Value} {off : Nat} : ∀ {n : Nat}, anyS cs off n = false ↔ ∀ j, j < n → decOk (strAt cs (off + j)) = true
  | 0 => ⟨fun _ j h => by omega, fun _ => rfl⟩
  | k + 1 => by
    unfold anyS
    rw [Bool.or_eq_false_iff, anyS_at, Bool.not_eq_false']
    refine ⟨fun h j hj => ?_, fun h => ⟨fun j hj => h j (by omega), h k (by omega)⟩⟩
    by_cases e : j = k
    · rw [e]; exact h.2
    · exact h.1 j (by omega)
theorem anyB_at {cs : Array Value} {off : Nat} : ∀ {n : Nat}, anyB cs off n = false ↔ ∀ j, j < n → noP (intAt cs (off + j)) = false
  | 0 => ⟨fun _ j h => by omega, fun _ => rfl⟩
  | k + 1 => by
    unfold anyB
    rw [Bool.or_eq_false_iff, anyB_at]
    refine ⟨fun h j hj => ?_, fun h => ⟨fun j hj => h j (by omega), h k (by omega)⟩⟩
    by_cases e : j = k
    · rw [e]; exact h.2
    · exact h.1 j (by omega)
def StrOk (cs : Array Value) (off n : Nat) : Prop := n < 9223372036854775807 ∧ ∀ j, j < n → IsStr cs (off + j) ∧ (strAt cs (off + j)).size < 9223372036854775807
def BytOk (cs : Array Value) (off n : Nat) : Prop := n < 9223372036854775807 ∧ ∀ j, j < n → IsInt .u8 cs (off + j)
theorem cfN_good {b h v : Bool} {off n : Nat} {cs : Array Value} {ty : TypeId} {A : SV → SMem → Prop} {Q : Int → Prop} (hg : ∀ i, Q i → Good EW.P A 1 (gH EW 1 (cfC b off n) (prM v cs ty) [(8, i64 (.o i))]) (gM EW 1 (cfC b off n) (prM v cs ty) [])) {fs : List SFr} {m : SMem} (hb : cfN b h v off n cs ty Q fs m) : Good EW.P A 1 fs m := by
  unfold cfN at hb
  split at hb
  · split at hb
    · exact gN_good hb.2 (hg _ hb.1)
    · exact hb.elim
  · exact hb.elim
theorem sT0_ok : TodoOk (ren 1 []) sT0 sT0 := TodoOk.same (by kernel_rfl)
theorem sH0_ok : TodoOk (ren 1 []) sH0 sH0 := TodoOk.same (by kernel_rfl)
theorem sT1_ok : TodoOk (ren 1 []) sT1 sT1 := TodoOk.same (by kernel_rfl)
theorem bT0'_ok : TodoOk (ren 1 []) bT0' bT0' := TodoOk.same (by kernel_rfl)
theorem bT1'_ok : TodoOk (ren 1 []) bT1' bT1' := TodoOk.same (by kernel_rfl)
section
variable (off n : Nat) (cs : Array Value) (ty : TypeId)
theorem cs_round {v : Bool} (hI : StrOk cs off n)
    (step : ∀ (r : Bool) (i : Int) (Q : Int → Prop), (gS EW 1 (cfC true off n) (prM v cs ty) [(8, i64 (.o i))] []).vc (boolR r) (cfN true true v off n cs ty Q) = (gS EW 1 (cfC true off n) (prM true cs ty) [(8, i64 (.o i))] []).vc (boolR r) (cfN true true true off n cs ty Q)) :
    ∀ (K j : Nat), n - j < K → j ≤ n → anyS cs off j = false → Good EW.P (boolR (anyS cs off n)) 1 (gH EW 1 (cfC true off n) (prM v cs ty) [(8, i64 (.o j))]) (gM EW 1 (cfC true off n) (prM v cs ty) []) := by
  intro K
  induction K with
  | zero => intro j h; omega
  | succ K ih =>
    intro j hk hj hd
    refine past_vc EW_ok 1000 ((step (anyS cs off n) j (fun i' => ∃ t : Nat, i' = t ∧ n - t < K ∧ t ≤ n ∧ anyS cs off t = false)).trans (cs_step_r off n cs ty _ j _)) ?_ (fun _ _ h => h)
      (fun fs m hb => cfN_good (fun i' ⟨t, e, k1, k2, k3⟩ => by rw [e]; exact ih t k1 k2 k3) hb)
    have hn := hI.1
    rw [Int.toNat_natCast, Nat.mul_one]
    refine ⟨fun h => ?_, fun h => ?_⟩
    · have hlt : j < n := by simpa using h
      obtain ⟨i1, i2⟩ := hI.2 j hlt
      refine ⟨⟨⟨by omega, by omega⟩, trivial⟩, ⟨i1, trivial⟩, ⟨i2, trivial⟩, fun hb => ?_, fun hb => ?_⟩
      · have e1 : decide ((j : Int) ≥ 0) = true := by simp
        have e2 : anyS cs off n = true := by
          cases e : anyS cs off n with
          | true => rfl
          | false =>
            rw [anyS_at.1 e j hlt] at hb
            cases hb
        rw [e1, e2]
      · rw [ari_add, i64_nat (show j < 9223372036854775807 by omega)]
        refine ⟨⟨j + 1, rfl, by omega, by omega, by unfold anyS; rw [hd, hb]; rfl⟩, ?_⟩
        repeat' first | exact trivial | exact sH0_ok | exact sT1_ok | apply And.intro | exact rfl
    · have h1 : ¬ j < n := by simpa using h
      obtain rfl : j = n := by omega
      rw [hd]
      rfl
theorem cb_round {v : Bool} (hI : BytOk cs off n)
    (step : ∀ (r : Bool) (i : Int) (Q : Int → Prop), (gS EW 1 (cfC false off n) (prM v cs ty) [(8, i64 (.o i))] []).vc (boolR r) (cfN false true v off n cs ty Q) = (gS EW 1 (cfC false off n) (prM true cs ty) [(8, i64 (.o i))] []).vc (boolR r) (cfN false true true off n cs ty Q)) :
    ∀ (K j : Nat), n - j < K → j ≤ n → anyB cs off j = false → Good EW.P (boolR (anyB cs off n)) 1 (gH EW 1 (cfC false off n) (prM v cs ty) [(8, i64 (.o j))]) (gM EW 1 (cfC false off n) (prM v cs ty) []) := by
  intro K
  induction K with
  | zero => intro j h; omega
  | succ K ih =>
    intro j hk hj hd
    refine past_vc EW_ok 1000 ((step (anyB cs off n) j (fun i' => ∃ t : Nat, i' = t ∧ n - t < K ∧ t ≤ n ∧ anyB cs off t = false)).trans (cb_step_r off n cs ty _ j _)) ?_ (fun _ _ h => h)
      (fun fs m hb => cfN_good (fun i' ⟨t, e, k1, k2, k3⟩ => by rw [e]; exact ih t k1 k2 k3) hb)
    have hn := hI.1
    rw [Int.toNat_natCast, Nat.mul_one]
    refine ⟨fun h => ?_, fun h => ?_⟩
    · have hlt : j < n := by simpa using h
      have i1 := hI.2 j hlt
      refine ⟨⟨⟨by omega, by omega⟩, trivial⟩, ⟨i1, trivial⟩, ?_⟩
      have hno : noP (intAt cs (off + j)) = true → decide ((j : Int) ≥ 0) = anyB cs off n := fun hb => by
        have e1 : decide ((j : Int) ≥ 0) = true := by simp
        have e2 : anyB cs off n = true := by
          cases e : anyB cs off n with
          | true => rfl
          | false =>
            rw [anyB_at.1 e j hlt] at hb
            cases hb
        rw [e1, e2]
      have hyes : noP (intAt cs (off + j)) = false → ∃ t : Nat, ((j + 1 : Nat) : Int) = t ∧ n - t < K ∧ t ≤ n ∧ anyB cs off t = false := fun hb => ⟨j + 1, rfl, by omega, by omega, by unfold anyB; rw [hd, hb]; rfl⟩
      rw [ari_add, i64_nat (show j < 9223372036854775807 by omega)]
      generalize (∃ t : Nat, ((j + 1 : Nat) : Int) = t ∧ n - t < K ∧ t ≤ n ∧ anyB cs off t = false) = Y at hyes ⊢
      generalize (decide ((j : Int) ≥ 0) = anyB cs off n) = Z at hno ⊢
      unfold noP at hyes hno
      rw [decide_eq_false_iff_not] at hyes
      rw [decide_eq_true_eq] at hno
      generalize intAt cs (off + j) = x at hyes hno ⊢
      simp only [eqJ, beq_iff_eq, bne_iff_ne, beq_eq_false_iff_ne, decide_eq_true_eq, decide_eq_false_iff_not, Bool.not_eq_eq_eq_not, Bool.not_true, Bool.not_false, ne_eq]
      clear step ih hd
      repeat' first | apply And.intro | (intro hh)
      all_goals first | exact trivial | exact bH0'_ok | exact bT1'_ok | exact rfl | skip
      all_goals first | (refine hyes ?_; simp at *; omega) | (refine hno ?_; simp at *; omega) | skip
    · have h1 : ¬ j < n := by simpa using h
      obtain rfl : j = n := by omega
      rw [hd]
      rfl
theorem cs_good (v : Bool) (hI : StrOk cs off n) : Good Try.prog (boolR (anyS cs off n)) 1 (cfC true off n) (prM v cs ty) := by
  have step : ∀ (r : Bool) (i : Int) (Q : Int → Prop), (gS EW 1 (cfC true off n) (prM v cs ty) [(8, i64 (.o i))] []).vc (boolR r) (cfN true true v off n cs ty Q) = (gS EW 1 (cfC true off n) (prM true cs ty) [(8, i64 (.o i))] []).vc (boolR r) (cfN true true true off n cs ty Q) := by
    intro r i Q
    cases v with
    | true => rfl
    | false => exact (cs_step_p off n cs ty r i Q).trans (cs_step_r off n cs ty r i Q).symm
  have start : ∀ (r : Bool) (Q : Int → Prop), (gR EW 1 (cfC true off n) (prM v cs ty)).vc (boolR r) (cfN true false v off n cs ty Q) = (gR EW 1 (cfC true off n) (prM true cs ty)).vc (boolR r) (cfN true false true off n cs ty Q) := by
    intro r Q
    cases v with
    | true => rfl
    | false => exact (cs_start_p off n cs ty r Q).trans (cs_start_r off n cs ty r Q).symm
  refine run_vc EW_ok 1000 ((start (anyS cs off n) (fun i => i = 0)).trans (cs_start_r off n cs ty _ _)) ?_ (fun _ _ h => h)
    (fun fs m hb => cfN_good (fun i e => by rw [e]; exact cs_round off n cs ty hI step (n + 1) 0 (by omega) (by omega) rfl) hb)
  repeat' first | exact trivial | exact sT0_ok | exact sT1_ok | apply And.intro | exact rfl
theorem cb_good (v : Bool) (hI : BytOk cs off n) : Good Try.prog (boolR (anyB cs off n)) 1 (cfC false off n) (prM v cs ty) := by
  have step : ∀ (r : Bool) (i : Int) (Q : Int → Prop), (gS EW 1 (cfC false off n) (prM v cs ty) [(8, i64 (.o i))] []).vc (boolR r) (cfN false true v off n cs ty Q) = (gS EW 1 (cfC false off n) (prM true cs ty) [(8, i64 (.o i))] []).vc (boolR r) (cfN false true true off n cs ty Q) := by
    intro r i Q
    cases v with
    | true => rfl
    | false => exact (cb_step_p off n cs ty r i Q).trans (cb_step_r off n cs ty r i Q).symm
  have start : ∀ (r : Bool) (Q : Int → Prop), (gR EW 1 (cfC false off n) (prM v cs ty)).vc (boolR r) (cfN false false v off n cs ty Q) = (gR EW 1 (cfC false off n) (prM true cs ty)).vc (boolR r) (cfN false false true off n cs ty Q) := by
    intro r Q
    cases v with
    | true => rfl
    | false => exact (cb_start_p off n cs ty r Q).trans (cb_start_r off n cs ty r Q).symm
  refine run_vc EW_ok 1000 ((start (anyB cs off n) (fun i => i = 0)).trans (cb_start_r off n cs ty _ _)) ?_ (fun _ _ h => h)
    (fun fs m hb => cfN_good (fun i e => by rw [e]; exact cb_round off n cs ty hI step (n + 1) 0 (by omega) (by omega) rfl) hb)
  repeat' first | exact trivial | exact bT0'_ok | exact bT1'_ok | apply And.intro | exact rfl
end
end Go.Proofs.Ytapkbgccbmjfaaa
/- Of journal: Encode's states. No condition. -/
namespace Go.Proofs.Ytapkbgccbmjfaaa
noncomputable section
def rowOk (b : Bool) (cs : Array Value) (o n : Nat) : Prop := match b with
  | true => StrOk cs o n
  | false => BytOk cs o n
def anyV (b : Bool) (cs : Array Value) (o n : Nat) : Bool := match b with
  | true => anyS cs o n
  | false => anyB cs o n
def cfT (b : Bool) (m : SMem) : SV → Option Tree
  | .s (.c (.f (.slice i o n _))) => match rowI m i with
    | some cs => some (needs [rowOk b cs o.den n.den] (.ret (sB (.o (anyV b cs o.den n.den))) m))
    | none => none
  | .s (.c (.f (.lit (.slice none 0 0)))) => match b with
    | false => some (.ret (sB (.l false)) m)
    | true => none
  | _ => none
def conV (g : FuncId) (l : List SV) (m : SMem) : Option Tree := match g, l with
  | 41, [x, .s (.c (.fn (.func 39) [] []))] => cfT true m x
  | 42, [x, .s (.c (.fn (.func 43) [] []))] => cfT false m x
  | _, _ => none
def EV : Env := ⟨Try.prog, fnOf, conV, fun _ f x => (Nat.beq f 24 || (Nat.beq f 37 || (Nat.beq f 22 || Nat.beq f 23))) && isLoop x⟩
def slC (i o n : Nat) : SC := .f (.slice i (.o o) (.o n) .any)
def nilC : SC := .f (.lit (.slice none 0 0))
def pkC (w : Bool) (n : Nat) : SC := cond w (.f (.slice 1 (.l 0) (.o n) .any)) nilC
def scV (P : Int) (A B : SC) : SV := .s (.agg (.ls [.f (.int .i64 (.o P)), A, B]))
def rdM2 (v : Bool) (cs bs : Array Value) (ty ty' : TypeId) : SMem := ⟨2, ((Tr.nil : Tr SBlk).set 0 (some ⟨prA v cs, ty, false⟩)).set 1 (some ⟨.pop bs, ty', false⟩), []⟩
def encC (P : Int) (A B : SC) : List SFr := [callFr 24 Try.f24.ntmps [scV P A B] (Try.f24.body.getD .skip)]
def StrIs (s e : ByteArray) : Prop := s = e
def encA (ok : Bool) (e : ByteArray) (s : SV) (_ : SMem) : Prop := match s with
  | .tup [.c (.f (.opq (.string s))), .c (.f (.int .i64 y))] => ok = true ∧ StrIs s e ∧ y.den = 0
  | .tup [.c (.f (.lit (.string s))), .c (.f (.int .i64 y))] => ok = false ∧ StrIs s .empty ∧ y.den = 3
  | _ => False
section
variable (v w : Bool) (P : Int) (o n k' : Nat) (cs bs : Array Value) (ty ty' : TypeId)
def eR : Tree := gR EV 2 (encC P (slC 0 o n) (pkC w k')) (rdM2 v cs bs ty ty')
def eF0 : List SFr := (eR v w P o n k' cs bs ty ty').fsE.map SFr.bare
def eM0 : SMem := (eR v w P o n k' cs bs ty ty').memE.bare
def eF1 (i : Int) (k : Nat) : List SFr := setSl [(21, i64 (.o i)), (4, .s (.c (.f (.slice 4 (.l 0) (.o k) (.full 1)))))] (dropSl [17] (eF0 v w P o n k' cs bs ty ty'))
def eM1 (vs : Array Value) : SMem := putAll [(4, .pop vs)] (eM0 v w P o n k' cs bs ty ty')
def eS0 : Tree := stepT EV.go (run EV 1000) 2 (headF (eF0 v w P o n k' cs bs ty ty')) (eM0 v w P o n k' cs bs ty ty')
def eS1 (i : Int) (k : Nat) (vs : Array Value) : Tree := stepT EV.go (run EV 1000) 2 (headF (eF1 v w P o n k' cs bs ty ty' i k)) (eM1 v w P o n k' cs bs ty ty' vs)
def eN0 (fs : List SFr) (m : SMem) : Prop := subOk 2 (idFrom 2 (eM0 v w P o n k' cs bs ty ty').next) (eF0 v w P o n k' cs bs ty ty') (eM0 v w P o n k' cs bs ty ty') fs m
def eN1 (Q : Int → Nat → Array Value → Prop) (fs : List SFr) (m : SMem) : Prop := match fs with
  | f :: _ => match rdI f 21, rdS f 4 m with
    | some i, some (some (sid, k, vs)) => Q i k vs ∧ subOk 2 [(2, 2), (3, 3), (4, sid)] (headF (eF1 v w P o n k' cs bs ty ty' i k)) (eM1 v w P o n k' cs bs ty ty' vs) fs m
    | _, _ => False
  | [] => False
end
def eT0 : List SIt := headTd (eF0 true true 0 0 0 0 #[] #[] 0 0)
def eH0 : List SIt := headTd (headF (eF0 true true 0 0 0 0 #[] #[] 0 0))
end
end Go.Proofs.Ytapkbgccbmjfaaa
/- Of journal: Encode's rounds, as propositions. No condition. -/
namespace Go.Proofs.Ytapkbgccbmjfaaa
set_option maxRecDepth 100000
theorem en_start_ff (P : Int) (o n k' : Nat) (cs bs : Array Value) (ty ty' : TypeId) (ok : Bool) (e : ByteArray) : (eR false false P o n k' cs bs ty ty').vc (encA ok e) (eN0 false false P o n k' cs bs ty ty') =
    (((decide (P < (1 : Int)) == false) = true → ((decide (P > (64 : Int)) == false) = true → ((decide ((↑n : Int) < (1 : Int)) == false) = true → ((decide ((↑n : Int) > (8 : Int)) == false) = true → (rowOk true cs o n ∧ True) ∧ (((!anyV true cs o n) == true) = true → CallKind.normal = CallKind.normal ∧ TodoOk (ren 2 [(2, 2), (3, 3), (4, 4)]) eT0 eT0 ∧ P = P ∧ o = o ∧ n = n ∧ Value.slice none (0 : Nat) (0 : Nat) = Value.slice none (0 : Nat) (0 : Nat) ∧ P = P ∧ o = o ∧ n = n ∧ Value.slice none (0 : Nat) (0 : Nat) = Value.slice none (0 : Nat) (0 : Nat) ∧ (↑n : Int) = (↑n : Int) ∧ P = P ∧ o = o ∧ n = n ∧ Value.string (ByteArray.mk #[]) = Value.string (ByteArray.mk #[]) ∧ IntKind.wrap IntKind.u8 (↑n : Int) = IntKind.wrap IntKind.u8 (↑n : Int) ∧ IntKind.wrap IntKind.u8 P = IntKind.wrap IntKind.u8 P ∧ (↑n : Int) = (↑n : Int) ∧ o = o ∧ n = n ∧ ty = ty ∧ cs = cs ∧ ty' = ty' ∧ bs = bs ∧ (32 : Nat) = (32 : Nat) ∧ P = P ∧ o = o ∧ n = n ∧ Value.slice none (0 : Nat) (0 : Nat) = Value.slice none (0 : Nat) (0 : Nat) ∧ (32 : Nat) = (32 : Nat) ∧ P = P ∧ o = o ∧ n = n ∧ Value.slice none (0 : Nat) (0 : Nat) = Value.slice none (0 : Nat) (0 : Nat) ∧ (5 : Nat) = (5 : Nat) ∧ IntKind.wrap IntKind.u8 P = IntKind.wrap IntKind.u8 P ∧ IntKind.wrap IntKind.u8 (↑n : Int) = IntKind.wrap IntKind.u8 (↑n : Int) ∧ True) ∧ (((!anyV true cs o n) == true) = false → ok = false ∧ StrIs (ByteArray.mk #[]) ByteArray.empty ∧ (3 : Int) = (3 : Int))) ∧ ((decide ((↑n : Int) > (8 : Int)) == false) = false → ok = false ∧ StrIs (ByteArray.mk #[]) ByteArray.empty ∧ (3 : Int) = (3 : Int))) ∧ ((decide ((↑n : Int) < (1 : Int)) == false) = false → ok = false ∧ StrIs (ByteArray.mk #[]) ByteArray.empty ∧ (3 : Int) = (3 : Int))) ∧ ((decide (P > (64 : Int)) == false) = false → ok = false ∧ StrIs (ByteArray.mk #[]) ByteArray.empty ∧ (3 : Int) = (3 : Int))) ∧ ((decide (P < (1 : Int)) == false) = false → ok = false ∧ StrIs (ByteArray.mk #[]) ByteArray.empty ∧ (3 : Int) = (3 : Int))) := by kernel_rfl
theorem en_first_ff (P : Int) (o n k' : Nat) (cs bs : Array Value) (ty ty' : TypeId) (ok : Bool) (e : ByteArray) (Q : Int → Nat → Array Value → Prop) : (eS0 false false P o n k' cs bs ty ty').vc (encA ok e) (eN1 false false P o n k' cs bs ty ty' Q) =
    ((decide ((0 : Int) < (↑n : Int)) = true → (((0 : Int) ≤ (0 : Int) ∧ (0 : Int) < (↑n : Int)) ∧ True) ∧ (cs[o]? = some (Value.string (strAt cs o)) ∧ True) ∧ ((((3 : Nat) + ByteArray.size (strAt cs o)) * 1 ≤ (140737488355328 : Nat) ∧ (3 : Nat) + ByteArray.size (strAt cs o) ≤ (140737488355328 : Nat)) ∧ True) ∧ Q (1 : Int) ((3 : Nat) + ByteArray.size (strAt cs o)) (#[Value.int IntKind.u8 (IntKind.wrap IntKind.u8 P), Value.int IntKind.u8 (IntKind.wrap IntKind.u8 (↑n : Int)), Value.int IntKind.u8 (IntKind.wrap IntKind.u8 (ari BinOp.quo IntKind.i64 ((((ByteArray.size (strAt cs o)) : Nat) : Int)) (6 : Int)))] ++ Array.map (fun b => Value.int IntKind.u8 (↑(UInt8.toNat b) : Int)) (ByteArray.data (strAt cs o))) ∧ CallKind.normal = CallKind.normal ∧ TodoOk (ren 2 [(2, 2), (3, 3), (4, 7)]) eH0 eH0 ∧ P = P ∧ o = o ∧ n = n ∧ Value.slice none (0 : Nat) (0 : Nat) = Value.slice none (0 : Nat) (0 : Nat) ∧ P = P ∧ o = o ∧ n = n ∧ Value.slice none (0 : Nat) (0 : Nat) = Value.slice none (0 : Nat) (0 : Nat) ∧ (↑n : Int) = (↑n : Int) ∧ P = P ∧ o = o ∧ n = n ∧ (1 : Int) = (1 : Int) ∧ Value.string (ByteArray.mk #[]) = Value.string (ByteArray.mk #[]) ∧ (3 : Nat) + ByteArray.size (strAt cs o) = (3 : Nat) + ByteArray.size (strAt cs o) ∧ IntKind.wrap IntKind.u8 (↑n : Int) = IntKind.wrap IntKind.u8 (↑n : Int) ∧ IntKind.wrap IntKind.u8 P = IntKind.wrap IntKind.u8 P ∧ (↑n : Int) = (↑n : Int) ∧ o = o ∧ n = n ∧ ty = ty ∧ cs = cs ∧ ty' = ty' ∧ bs = bs ∧ (32 : Nat) = (32 : Nat) ∧ P = P ∧ o = o ∧ n = n ∧ Value.slice none (0 : Nat) (0 : Nat) = Value.slice none (0 : Nat) (0 : Nat) ∧ (32 : Nat) = (32 : Nat) ∧ P = P ∧ o = o ∧ n = n ∧ Value.slice none (0 : Nat) (0 : Nat) = Value.slice none (0 : Nat) (0 : Nat) ∧ (5 : Nat) = (5 : Nat) ∧ #[Value.int IntKind.u8 (IntKind.wrap IntKind.u8 P), Value.int IntKind.u8 (IntKind.wrap IntKind.u8 (↑n : Int)), Value.int IntKind.u8 (IntKind.wrap IntKind.u8 (ari BinOp.quo IntKind.i64 ((((ByteArray.size (strAt cs o)) : Nat) : Int)) (6 : Int)))] ++ Array.map (fun b => Value.int IntKind.u8 (↑(UInt8.toNat b) : Int)) (ByteArray.data (strAt cs o)) = #[Value.int IntKind.u8 (IntKind.wrap IntKind.u8 P), Value.int IntKind.u8 (IntKind.wrap IntKind.u8 (↑n : Int)), Value.int IntKind.u8 (IntKind.wrap IntKind.u8 (ari BinOp.quo IntKind.i64 ((((ByteArray.size (strAt cs o)) : Nat) : Int)) (6 : Int)))] ++ Array.map (fun b => Value.int IntKind.u8 (↑(UInt8.toNat b) : Int)) (ByteArray.data (strAt cs o)) ∧ True) ∧ (decide ((0 : Int) < (↑n : Int)) = false → ok = true ∧ StrIs (strOf [Value.int IntKind.u8 (IntKind.wrap IntKind.u8 P), Value.int IntKind.u8 (IntKind.wrap IntKind.u8 (↑n : Int))]) e ∧ (0 : Int) = (0 : Int))) := by kernel_rfl
theorem en_step_ff (P : Int) (o n k' : Nat) (cs bs : Array Value) (ty ty' : TypeId) (ok : Bool) (e : ByteArray) (i : Int) (k : Nat) (vs : Array Value) (Q : Int → Nat → Array Value → Prop) : (eS1 false false P o n k' cs bs ty ty' i k vs).vc (encA ok e) (eN1 false false P o n k' cs bs ty ty' Q) =
    ((decide (i < (↑n : Int)) = true → (((0 : Int) ≤ i ∧ i < (↑n : Int)) ∧ True) ∧ (cs[o + Int.toNat i * 1]? = some (Value.string (strAt cs (o + Int.toNat i * 1))) ∧ True) ∧ (((k + 1) * 1 ≤ (140737488355328 : Nat) ∧ k + 1 ≤ (140737488355328 : Nat)) ∧ k * 1 = Array.size vs ∧ True) ∧ (((k + 1 + ByteArray.size (strAt cs (o + Int.toNat i * 1))) * 1 ≤ (140737488355328 : Nat) ∧ k + 1 + ByteArray.size (strAt cs (o + Int.toNat i * 1)) ≤ (140737488355328 : Nat)) ∧ (k + 1) * 1 = Array.size (vs ++ #[Value.int IntKind.u8 (IntKind.wrap IntKind.u8 (ari BinOp.quo IntKind.i64 ((((ByteArray.size (strAt cs (o + Int.toNat i * 1))) : Nat) : Int)) (6 : Int)))]) ∧ True) ∧ Q (ari BinOp.add IntKind.i64 i (1 : Int)) (k + 1 + ByteArray.size (strAt cs (o + Int.toNat i * 1))) (vs ++ #[Value.int IntKind.u8 (IntKind.wrap IntKind.u8 (ari BinOp.quo IntKind.i64 ((((ByteArray.size (strAt cs (o + Int.toNat i * 1))) : Nat) : Int)) (6 : Int)))] ++ Array.map (fun b => Value.int IntKind.u8 (↑(UInt8.toNat b) : Int)) (ByteArray.data (strAt cs (o + Int.toNat i * 1)))) ∧ CallKind.normal = CallKind.normal ∧ TodoOk (ren 2 [(2, 2), (3, 3), (4, 7)]) eH0 eH0 ∧ P = P ∧ o = o ∧ n = n ∧ Value.slice none (0 : Nat) (0 : Nat) = Value.slice none (0 : Nat) (0 : Nat) ∧ P = P ∧ o = o ∧ n = n ∧ Value.slice none (0 : Nat) (0 : Nat) = Value.slice none (0 : Nat) (0 : Nat) ∧ (↑n : Int) = (↑n : Int) ∧ P = P ∧ o = o ∧ n = n ∧ ari BinOp.add IntKind.i64 i (1 : Int) = ari BinOp.add IntKind.i64 i (1 : Int) ∧ Value.string (ByteArray.mk #[]) = Value.string (ByteArray.mk #[]) ∧ k + 1 + ByteArray.size (strAt cs (o + Int.toNat i * 1)) = k + 1 + ByteArray.size (strAt cs (o + Int.toNat i * 1)) ∧ IntKind.wrap IntKind.u8 (↑n : Int) = IntKind.wrap IntKind.u8 (↑n : Int) ∧ IntKind.wrap IntKind.u8 P = IntKind.wrap IntKind.u8 P ∧ (↑n : Int) = (↑n : Int) ∧ o = o ∧ n = n ∧ ty = ty ∧ cs = cs ∧ ty' = ty' ∧ bs = bs ∧ (32 : Nat) = (32 : Nat) ∧ P = P ∧ o = o ∧ n = n ∧ Value.slice none (0 : Nat) (0 : Nat) = Value.slice none (0 : Nat) (0 : Nat) ∧ (32 : Nat) = (32 : Nat) ∧ P = P ∧ o = o ∧ n = n ∧ Value.slice none (0 : Nat) (0 : Nat) = Value.slice none (0 : Nat) (0 : Nat) ∧ (5 : Nat) = (5 : Nat) ∧ vs ++ #[Value.int IntKind.u8 (IntKind.wrap IntKind.u8 (ari BinOp.quo IntKind.i64 ((((ByteArray.size (strAt cs (o + Int.toNat i * 1))) : Nat) : Int)) (6 : Int)))] ++ Array.map (fun b => Value.int IntKind.u8 (↑(UInt8.toNat b) : Int)) (ByteArray.data (strAt cs (o + Int.toNat i * 1))) = vs ++ #[Value.int IntKind.u8 (IntKind.wrap IntKind.u8 (ari BinOp.quo IntKind.i64 ((((ByteArray.size (strAt cs (o + Int.toNat i * 1))) : Nat) : Int)) (6 : Int)))] ++ Array.map (fun b => Value.int IntKind.u8 (↑(UInt8.toNat b) : Int)) (ByteArray.data (strAt cs (o + Int.toNat i * 1))) ∧ True) ∧ (decide (i < (↑n : Int)) = false → ((0 : Nat) + k ≤ Array.size vs ∧ AllU8 (Array.extract vs (0 : Nat) ((0 : Nat) + k)).1 ∧ True) ∧ ok = true ∧ StrIs (strOf (Array.toList (Array.extract vs (0 : Nat) ((0 : Nat) + k)))) e ∧ (0 : Int) = (0 : Int))) := by kernel_rfl
theorem en_no_ff (P : Int) (o n k' : Nat) (cs bs : Array Value) (ty ty' : TypeId) (ok : Bool) (e : ByteArray) : (eR false false P o n k' cs bs ty ty').vc (encA ok e) (fun _ _ => False) =
    (((decide (P < (1 : Int)) == false) = true → ((decide (P > (64 : Int)) == false) = true → ((decide ((↑n : Int) < (1 : Int)) == false) = true → ((decide ((↑n : Int) > (8 : Int)) == false) = true → (rowOk true cs o n ∧ True) ∧ (((!anyV true cs o n) == true) = true → False) ∧ (((!anyV true cs o n) == true) = false → ok = false ∧ StrIs (ByteArray.mk #[]) ByteArray.empty ∧ (3 : Int) = (3 : Int))) ∧ ((decide ((↑n : Int) > (8 : Int)) == false) = false → ok = false ∧ StrIs (ByteArray.mk #[]) ByteArray.empty ∧ (3 : Int) = (3 : Int))) ∧ ((decide ((↑n : Int) < (1 : Int)) == false) = false → ok = false ∧ StrIs (ByteArray.mk #[]) ByteArray.empty ∧ (3 : Int) = (3 : Int))) ∧ ((decide (P > (64 : Int)) == false) = false → ok = false ∧ StrIs (ByteArray.mk #[]) ByteArray.empty ∧ (3 : Int) = (3 : Int))) ∧ ((decide (P < (1 : Int)) == false) = false → ok = false ∧ StrIs (ByteArray.mk #[]) ByteArray.empty ∧ (3 : Int) = (3 : Int))) := by kernel_rfl
end Go.Proofs.Ytapkbgccbmjfaaa
/- Of journal: Encode, as a contract. No condition. -/
namespace Go.Proofs.Ytapkbgccbmjfaaa
set_option linter.unusedSectionVars false
set_option maxRecDepth 100000
theorem fn18 : E0.fn 41 = some Try.f41 := by kernel_rfl
theorem body18 : Try.f41.body = some (Try.f41.body.getD .skip) := by kernel_rfl
theorem fn19 : E0.fn 42 = some Try.f42 := by kernel_rfl
theorem body19 : Try.f42.body = some (Try.f42.body.getD .skip) := by kernel_rfl
theorem Con.row2 {g h : FuncId} {fn : Func} {c : Code} {m : SMem} {i : Nat} {o n : SN} {cap : SK} {cs : Array Value} {q : List Prop} {s0 : SV} {A : SV → SMem → Prop} (h1 : E0.fn g = some fn) (h2 : fn.body = some c) (hr : rowI m i = some cs)
    (good : ∀ v ty, (∀ p ∈ q, p) → Good Try.prog A 1 [callFr g fn.ntmps [prS o.den n.den, fnV h] c] (prM v cs ty)) (hs : ∀ s m' R R' v, A s m' → s.ok R v → s0.ok R' v) :
    Con E0 g [.s (.c (.f (.slice i o n cap))), fnV h] m (needs q (.ret s0 m)) := by
  obtain ⟨v, ty, wr, hb⟩ := row_of hr
  refine Con.ro E0_ok (l' := [prS o.den n.den, fnV h]) (ms := prM v cs ty) (A := A) h1 h2 rfl (fun _ => i) ?_ ?_ (good v ty) (fun s m' R R' v a b => hs s m' R' R v a b)
  · intro j b hj
    obtain ⟨rfl, rfl⟩ := prM_get hj
    refine ⟨Nat.zero_lt_one, rfl, _, hb, rfl, fun R cs' h => ?_⟩
    cases v <;> exact h
  · intro R vs ha
    match vs, ha with
    | [x, y], ha =>
      obtain ⟨⟨gl, cp, e1, e2, e3, e4⟩, ⟨x1, y1, f1, f2, f3⟩, _⟩ := ha
      refine ⟨⟨gl, cp, by unfold pull; exact e1, e2, trivial, e4⟩, ⟨x1, y1, f1, ?_, ?_⟩, trivial⟩
      · match hx : x1.toList, f2 with
        | [], _ => trivial
      · match hx : y1.toList, f3 with
        | [], _ => trivial
theorem cb_nil (b : Bool) : (run E0 1000 0 [callFr 42 Try.f42.ntmps [.s (.c nilC), fnV 43] (Try.f42.body.getD .skip)] ⟨0, .nil, []⟩).vc (boolR b) (fun _ _ => False) = (decide ((-1 : Int) ≥ 0) = b) := by kernel_rfl
theorem cfT_ok {b : Bool} {m : SMem} {x : SV} {t : Tree} (h : cfT b m x = some t) : Con E0 (cond b 41 42) [x, fnV (cond b 39 43)] m t := by
  unfold cfT at h
  split at h
  · split at h
    · rename_i cs hr
      cases h
      cases b with
      | true => exact Con.row2 fn18 body18 hr (A := boolR _) (fun v ty hq => cs_good _ _ _ ty v (hq _ (List.mem_cons_self ..))) (fun _ _ _ _ _ => boolR_con)
      | false => exact Con.row2 fn19 body19 hr (A := boolR _) (fun v ty hq => cb_good _ _ _ ty v (hq _ (List.mem_cons_self ..))) (fun _ _ _ _ _ => boolR_con)
    · cases h
  · split at h
    · cases h
      exact Con.ro E0_ok (l := [.s (.c nilC), fnV 43]) (l' := [.s (.c nilC), fnV 43]) (ms := M0) (m := m) (q := []) (A := boolR false) fn19 body19 rfl (fun i => i) (fun i b hb => by
        have hb : (Tr.nil : Tr SBlk).get i = some b := hb
        rw [Tr.get_nil] at hb; cases hb) (fun R vs ha => ok_anys (by kernel_rfl) ha) (fun _ => run_vc E0_ok 1000 (cb_nil false) (by decide) (fun _ _ h => h) (fun _ _ h => h.elim)) (fun _ _ _ _ _ h hv => by
          unfold boolR at h
          split at h
          · rename_i x
            have hv : _ = Value.bool x.den := hv
            rw [h] at hv
            exact hv
          · exact h.elim)
    · cases h
  · cases h
theorem conV_ok (g : FuncId) (l : List SV) (m : SMem) (t : Tree) (h : conV g l m = some t) : Con E0 g l m t := by
  unfold conV at h
  split at h
  · exact cfT_ok h
  · exact cfT_ok h
  · cases h
theorem EV_ok : EnvOk EV := EnvOk.with E0_ok _ _ conV_ok
def sz6 (s : ByteArray) : Value := .int .u8 (IntKind.wrap .u8 (ari .quo .i64 (s.size : Int) 6))
def celA (s : ByteArray) : Array Value := s.data.map fun b => .int .u8 (b.toNat : Int)
def progA (P : Int) (n : Nat) (cs : Array Value) (o : Nat) : Nat → Array Value
  | 0 => #[.int .u8 (IntKind.wrap .u8 P), .int .u8 (IntKind.wrap .u8 (n : Int))]
  | j + 1 => progA P n cs o j ++ #[sz6 (strAt cs (o + j))] ++ celA (strAt cs (o + j))
def mayS (P : Int) (o n k' : Nat) (cs bs : Array Value) : Bool := decide (1 ≤ P ∧ P ≤ 64 ∧ 1 ≤ n ∧ n ≤ 8 ∧ k' ≤ 4000) && !anyS cs o n && !anyB bs 0 k'
def encS (P : Int) (o n k' : Nat) (cs bs : Array Value) : ByteArray := strOf (progA P n cs o n ++ bs.extract 0 k').toList
theorem celA_size (s : ByteArray) : (celA s).size = s.size := by unfold celA; rw [Array.size_map]; rfl
theorem progA_succ (P : Int) (n : Nat) (cs : Array Value) (o j : Nat) : (progA P n cs o (j + 1)).size = (progA P n cs o j).size + 1 + (strAt cs (o + j)).size := by
  show (progA P n cs o j ++ #[sz6 (strAt cs (o + j))] ++ celA (strAt cs (o + j))).size = _
  rw [Array.size_append, Array.size_append, celA_size]
  rfl
theorem decOk_size {s : ByteArray} (h : decOk s = true) : s.size % 6 = 0 ∧ s.size ≤ 384 := by
  unfold decOk at h
  rw [Bool.and_eq_true, decide_eq_true_eq] at h
  exact h.1
theorem progA_le {P : Int} {n : Nat} {cs : Array Value} {o : Nat} : ∀ {j : Nat}, anyS cs o j = false → (progA P n cs o j).size ≤ 2 + 385 * j
  | 0, _ => Nat.le_refl 2
  | j + 1, h => by
    have h1 : anyS cs o j = false ∧ decOk (strAt cs (o + j)) = true := by
      unfold anyS at h
      rw [Bool.or_eq_false_iff, Bool.not_eq_false'] at h
      exact h
    have := progA_le (P := P) (n := n) h1.1
    have := (decOk_size h1.2).2
    rw [progA_succ]
    omega
theorem celA_u8 (s : ByteArray) : ∀ v ∈ (celA s).toList, ∃ n, v = .int .u8 n := by
  intro v hv
  unfold celA at hv
  rw [Array.toList_map] at hv
  obtain ⟨b, _, rfl⟩ := List.mem_map.1 hv
  exact ⟨_, rfl⟩
theorem progA_u8 (P : Int) (n : Nat) (cs : Array Value) (o : Nat) : ∀ j, AllU8 (progA P n cs o j).toList
  | 0 => by
    intro v hv
    have hv : v ∈ [Value.int .u8 (IntKind.wrap .u8 P), .int .u8 (IntKind.wrap .u8 (n : Int))] := hv
    simp only [List.mem_cons, List.not_mem_nil, or_false] at hv
    rcases hv with rfl | rfl <;> exact ⟨_, rfl⟩
  | j + 1 => by
    intro v hv
    have hv : v ∈ (progA P n cs o j ++ #[sz6 (strAt cs (o + j))] ++ celA (strAt cs (o + j))).toList := hv
    rw [Array.toList_append, Array.toList_append, List.mem_append, List.mem_append] at hv
    rcases hv with (hv | hv) | hv
    · exact progA_u8 P n cs o j v hv
    · have hv : v ∈ [sz6 (strAt cs (o + j))] := hv
      rw [List.mem_singleton.1 hv]
      exact ⟨_, rfl⟩
    · exact celA_u8 _ v hv
theorem eT0_ok : TodoOk (ren 2 [(2, 2), (3, 3), (4, 4)]) eT0 eT0 := TodoOk.same (by kernel_rfl)
theorem eH0_7 : TodoOk (ren 2 [(2, 2), (3, 3), (4, 7)]) eH0 eH0 := TodoOk.same (by kernel_rfl)
theorem eN1_good {v w : Bool} {P : Int} {o n k' : Nat} {cs bs : Array Value} {ty ty' : TypeId} {A : SV → SMem → Prop} {Q : Int → Nat → Array Value → Prop} (hg : ∀ i k vs, Q i k vs → Good EV.P A 2 (headF (eF1 v w P o n k' cs bs ty ty' i k)) (eM1 v w P o n k' cs bs ty ty' vs)) {fs : List SFr} {m : SMem} (hb : eN1 v w P o n k' cs bs ty ty' Q fs m) : Good EV.P A 2 fs m := by
  unfold eN1 at hb
  split at hb
  · split at hb
    · exact Good.of_sub hb.2 (hg _ _ _ hb.1)
    · exact hb.elim
  · exact hb.elim
theorem eN0_good {v w : Bool} {P : Int} {o n k' : Nat} {cs bs : Array Value} {ty ty' : TypeId} {A : SV → SMem → Prop} (hg : Good EV.P A 2 (headF (eF0 v w P o n k' cs bs ty ty')) (eM0 v w P o n k' cs bs ty ty')) {fs : List SFr} {m : SMem} (hb : eN0 v w P o n k' cs bs ty ty' fs m) : Good EV.P A 2 fs m :=
  Good.of_sub hb (Good.head hg)
theorem anyV_t (cs : Array Value) (o n : Nat) : anyV true cs o n = anyS cs o n := rfl
theorem anyV_f (cs : Array Value) (o n : Nat) : anyV false cs o n = anyB cs o n := rfl
section
variable (P : Int) (o n k' : Nat) (cs bs : Array Value) (ty ty' : TypeId)
theorem en_round_ff (hS : StrOk cs o n) (hB : BytOk bs 0 k') (hk0 : false = false → k' = 0) (hm : mayS P o n k' cs bs = true) :
    ∀ (K j : Nat), n - j < K → 1 ≤ j → j ≤ n → Good EV.P (encA true (encS P o n k' cs bs)) 2 (headF (eF1 false false P o n k' cs bs ty ty' (j : Int) (progA P n cs o j).size)) (eM1 false false P o n k' cs bs ty ty' (progA P n cs o j)) := by
  unfold mayS at hm
  rw [Bool.and_eq_true, Bool.and_eq_true, decide_eq_true_eq, Bool.not_eq_true', Bool.not_eq_true'] at hm
  obtain ⟨⟨⟨p1, p2, p3, p4, p5⟩, p6⟩, p7⟩ := hm
  intro K
  induction K with
  | zero => intro j h; omega
  | succ K ih =>
    intro j hk hj1 hj
    have hpre : anyS cs o j = false := anyS_at.2 fun t ht => anyS_at.1 p6 t (by omega)
    have hsz := progA_le (P := P) (n := n) hpre
    refine past_vc EV_ok 1000 (en_step_ff P o n k' cs bs ty ty' true _ (j : Int) (progA P n cs o j).size (progA P n cs o j) (fun i' k vs => ∃ t : Nat, i' = t ∧ k = (progA P n cs o t).size ∧ vs = progA P n cs o t ∧ n - t < K ∧ 1 ≤ t ∧ t ≤ n)) ?_ (fun _ _ h => h)
      (fun fs m hb => eN1_good (fun i' k vs ⟨t, e1, e2, e3, k1, k2, k3⟩ => by rw [e1, e2, e3]; exact ih t k1 k2 k3) hb)
    rw [Int.toNat_natCast, Nat.mul_one]
    refine ⟨fun h => ?_, fun h => ?_⟩
    · have hlt : j < n := by simpa using h
      obtain ⟨i1, i2⟩ := hS.2 j hlt
      have hd := (decOk_size (anyS_at.1 p6 j hlt)).2
      have eA : ari BinOp.add IntKind.i64 (j : Int) 1 = ((j + 1 : Nat) : Int) := by rw [ari_add, i64_nat (show j < 9223372036854775807 by omega)]
      rw [eA]
      refine ⟨⟨⟨by omega, by omega⟩, trivial⟩, ⟨i1, trivial⟩, ⟨⟨by omega, by omega⟩, by omega, trivial⟩, ⟨⟨by omega, by omega⟩, ?_, trivial⟩, ⟨j + 1, rfl, (progA_succ ..).symm, rfl, by omega, by omega, by omega⟩, ?_⟩
      · rw [Array.size_append, Nat.mul_one]; rfl
      · repeat' first | exact trivial | exact eH0_7 | apply And.intro | exact rfl
    · have h1 : ¬ j < n := by simpa using h
      have hjn : j = n := by omega
      rw [hjn]
      rw [hjn] at hsz
      have h0 : k' = 0 := hk0 rfl
      rw [Nat.zero_add, Array.extract_size]
      refine ⟨⟨Nat.le_refl _, progA_u8 P n cs o n, trivial⟩, rfl, ?_, rfl⟩
      show strOf _ = encS P o n k' cs bs
      unfold encS
      rw [h0, Array.extract_zero, Array.append_empty]
theorem en_good_ff (hS : StrOk cs o n) (hB : BytOk bs 0 k') (hk0 : false = false → k' = 0) (hn : n < 9223372036854775807) : Good Try.prog (encA (mayS P o n k' cs bs) (encS P o n k' cs bs)) 2 (encC P (slC 0 o n) (pkC false k')) (rdM2 false cs bs ty ty') := by
  cases hm : mayS P o n k' cs bs with
  | true =>
    have hm' := hm
    unfold mayS at hm'
    rw [Bool.and_eq_true, Bool.and_eq_true, decide_eq_true_eq, Bool.not_eq_true', Bool.not_eq_true'] at hm'
    obtain ⟨⟨⟨p1, p2, p3, p4, p5⟩, p6⟩, p7⟩ := hm'
    have first : Good EV.P (encA true (encS P o n k' cs bs)) 2 (headF (eF0 false false P o n k' cs bs ty ty')) (eM0 false false P o n k' cs bs ty ty') := by
      refine past_vc EV_ok 1000 (en_first_ff P o n k' cs bs ty ty' true _ (fun i' k vs => i' = ((1 : Nat) : Int) ∧ k = (progA P n cs o 1).size ∧ vs = progA P n cs o 1)) ?_ (fun _ _ h => h)
        (fun fs m hb => eN1_good (fun i' k vs ⟨e1, e2, e3⟩ => by rw [e1, e2, e3]; exact en_round_ff P o n k' cs bs ty ty' hS hB hk0 hm (n + 1) 1 (by omega) (by omega) (by omega)) hb)
      have hd := (decOk_size (anyS_at.1 p6 0 (by omega))).2
      obtain ⟨i1, i2⟩ := hS.2 0 (by omega)
      rw [Nat.add_zero] at hd i1
      refine ⟨fun h => ?_, fun h => ?_⟩
      · refine ⟨⟨⟨by omega, by omega⟩, trivial⟩, ⟨i1, trivial⟩, ⟨⟨by omega, by omega⟩, trivial⟩, ⟨rfl, ?_, rfl⟩, ?_⟩
        · rw [progA_succ]
          rfl
        · repeat' first | exact trivial | exact eH0_7 | apply And.intro | exact rfl
      · have h1 : ¬ 0 < n := by simpa using h
        omega
    refine run_vc EV_ok 1000 (en_start_ff P o n k' cs bs ty ty' true _) ?_ (fun _ _ h => h) (fun fs m hb => eN0_good first hb)
    have d1 : decide (P < 1) = false := decide_eq_false (by omega)
    have d2 : decide (P > 64) = false := decide_eq_false (by omega)
    have d3 : decide ((n : Int) < 1) = false := decide_eq_false (by omega)
    have d4 : decide ((n : Int) > 8) = false := decide_eq_false (by omega)
    have d5 : decide ((k' : Int) > 4000) = false := decide_eq_false (by omega)
    simp only [d1, d2, d3, d4, d5, anyV_t, anyV_f, p6, p7, beq_self_eq_true, Bool.not_false, Bool.not_true, Bool.true_eq_false, Bool.false_eq_true, false_implies, true_implies, reduceCtorEq]
    repeat' first | exact trivial | exact hS | exact hB | exact eT0_ok | apply And.intro | exact rfl
  | false =>
    refine run_vc EV_ok 1000 (en_no_ff P o n k' cs bs ty ty' false _) ?_ (fun _ _ h => h) (fun fs m hb => hb.elim)
    repeat' first | exact trivial | exact hS | exact hB | exact rfl | apply And.intro | intro _
    all_goals
      exfalso
      have e0 : anyB bs 0 k' = false := by rw [hk0 rfl]; rfl
      have hk4 : k' ≤ 4000 := by have := hk0 rfl; omega
      clear hk0 hB
      simp_all [mayS, anyV]
      try omega
end
end Go.Proofs.Ytapkbgccbmjfaaa
/- Of journal: Decode's states. No condition. -/
namespace Go.Proofs.Ytapkbgccbmjfaaa
noncomputable section
def Tree.pick : Tree → List Bool → Tree
  | .need _ t, p => t.pick p
  | .br _ t _, true :: p => t.pick p
  | .br _ _ e, false :: p => e.pick p
  | t, _ => t
def dcC (b : ByteArray) : List SFr := [callFr 37 Try.f37.ntmps [strV' b] (Try.f37.body.getD .skip)]
def dR (b : ByteArray) : Tree := (gR EV 0 (dcC b) M0).pick [false, false]
def dF (b : ByteArray) (n i : Int) : List SFr := setSl [(19, i64 (.o n)), (20, i64 (.o i))] (dropSl [9, 11, 12, 13, 14, 15, 16, 17, 18] ((dR b).fsE.map SFr.bare))
def strA (s : ByteArray) : SA := .ls [.f (.opq (.string s))]
def scA (P : Int) (A : SC) : SA := .ls [.f (.int .i64 (.o P)), A, nilC]
def dM0 (b L : ByteArray) (P : Int) : SMem := putAll [(1, strA L), (4, scA P nilC)] (dR b).memE.bare
def dM1 (b L : ByteArray) (P : Int) (k : Nat) (rs : Array Value) : SMem :=
  ⟨6, (putAll [(1, strA L), (4, scA P (.f (.slice 5 (.l 0) (.o k) (.full 1))))] (dR b).memE.bare).bl.set 5 (some ⟨.pop rs, 9, true⟩), []⟩
def rdStr (m : SMem) (id : Nat) : Option ByteArray := match getB m.bl id with
  | some ⟨.ls [.f (.opq (.string L))], _, _⟩ => some L
  | _ => none
def rdSc (m : SMem) (id : Nat) : Option (Int × SF) := match getB m.bl id with
  | some ⟨.ls [.f (.int .i64 p), .f A, .f _], _, _⟩ => some (p.den, A)
  | _ => none
def dN (b : ByteArray) (Q0 : Int → Int → ByteArray → Int → Prop) (Q1 : Int → Int → ByteArray → Int → Nat → Array Value → Prop) (fs : List SFr) (m : SMem) : Prop := match fs with
  | f :: _ => match rdI f 19, rdI f 20, rdStr m 1, rdSc m 4 with
    | some n, some i, some L, some (P, .lit (.slice none 0 0)) => Q0 n i L P ∧ subOk 0 (idFrom 0 5) (headF (dF b n i)) (dM0 b L P) fs m
    | some n, some i, some L, some (P, .slice sid _ k _) => match rdA m sid with
      | some rs => Q1 n i L P k.den rs ∧ subOk 0 [(0, 0), (1, 1), (2, 2), (3, 3), (4, 4), (5, sid)] (headF (dF b n i)) (dM1 b L P k.den rs) fs m
      | none => False
    | _, _, _, _ => False
  | [] => False
def dN0 (b : ByteArray) (Q0 : Int → Int → ByteArray → Int → Prop) (fs : List SFr) (m : SMem) : Prop := match fs with
  | f :: _ => match rdI f 19, rdI f 20, rdStr m 1, rdSc m 4 with
    | some n, some i, some L, some (P, _) => Q0 n i L P ∧ subOk 0 (idFrom 0 5) (dF b n i) (dM0 b L P) fs m
    | _, _, _, _ => False
  | [] => False
def dS0 (b L : ByteArray) (P n i : Int) : Tree := stepT EV.go (run EV 1000) 0 (headF (dF b n i)) (dM0 b L P)
def dS1 (b L : ByteArray) (P n i : Int) (k : Nat) (rs : Array Value) : Tree := stepT EV.go (run EV 1000) 0 (headF (dF b n i)) (dM1 b L P k rs)
def resV (P : Int) (n : Nat) (B : SC) : SV := .tup [.agg (.ls [.f (.int .i64 (.o P)), .f (.slice 0 (.l 0) (.o n) .any), B]), .c (.f (.int .i64 (.l 0)))]
def resM (w : Bool) (rs bs : Array Value) : SMem := match w with
  | false => ⟨1, Tr.nil.set 0 (some ⟨.pop rs, 9, true⟩), []⟩
  | true => ⟨2, (Tr.nil.set 0 (some ⟨.pop rs, 9, true⟩)).set 1 (some ⟨.pop bs, 5, true⟩), []⟩
def dA (ok w : Bool) (P : Int) (n k : Nat) (rs bs : Array Value) (s : SV) (m : SMem) : Prop := match s with
  | .tup [.agg (.ls [.f (.int .i64 p), .f A, .f B]), .c (.f (.int .i64 y))] => match A with
    | .lit (.slice none 0 0) => ok = false ∧ p.den = 0 ∧ y.den = 3 ∧ (match B with | .lit (.slice none 0 0) => True | _ => False)
    | .slice sid _ _ _ => match B with
      | .lit (.slice none 0 0) => ok = true ∧ w = false ∧ retOk 0 [(0, sid)] (resV P n nilC) (resM false rs bs) s m
      | .slice tid _ _ _ => ok = true ∧ w = true ∧ retOk 0 [(0, sid), (1, tid)] (resV P n (.f (.slice 1 (.l 0) (.o k) .any))) (resM true rs bs) s m
      | _ => False
    | _ => False
  | _ => False
def dT0' : List SIt := headTd (dF .empty 0 0)
def dH0' : List SIt := headTd (headF (dF .empty 0 0))
def EVn : Env := ⟨Try.prog, fnOf, conV, fun _ _ _ => false⟩
end
end Go.Proofs.Ytapkbgccbmjfaaa
/- Of journal: Decode's rounds, as propositions. No condition. -/
namespace Go.Proofs.Ytapkbgccbmjfaaa
set_option maxRecDepth 100000
theorem d_start (b : ByteArray) (ok w : Bool) (P : Int) (n k : Nat) (rs bs : Array Value) (Q0 : Int → Int → ByteArray → Int → Prop) : (gR EV 0 (dcC b) M0).vc (dA ok w P n k rs bs) (dN0 b Q0) =
    ((decide ((1 : Int) > (((ByteArray.size b) : Nat) : Int)) = true → (decide ((1 : Int) > (((ByteArray.size b) : Nat) : Int)) = true → Q0 (0 : Int) (0 : Int) b (0 : Int) ∧ False) ∧ (decide ((1 : Int) > (((ByteArray.size b) : Nat) : Int)) = false → (((1 : Nat) ≤ (ByteArray.size b)) ∧ True) ∧ (((1 : Nat) ≤ (ByteArray.size b)) ∧ True) ∧ Q0 (0 : Int) (0 : Int) (ByteArray.extract b (1 : Nat) ((ByteArray.size b))) (0 : Int) ∧ False)) ∧ (decide ((1 : Int) > (((ByteArray.size b) : Nat) : Int)) = false → (((1 : Nat) ≤ (ByteArray.size b)) ∧ True) ∧ (((1 : Nat) ≤ (ByteArray.size b)) ∧ True) ∧ (((0 : Int) ≤ (0 : Int) ∧ (0 : Int) < (↑((ByteArray.size (ByteArray.extract b (0 : Nat) (1 : Nat)))) : Int)) ∧ True) ∧ (decide ((1 : Int) > (((ByteArray.size (ByteArray.extract b (1 : Nat) ((ByteArray.size b)))) : Nat) : Int)) = true → Q0 (0 : Int) (0 : Int) (ByteArray.extract b (1 : Nat) ((ByteArray.size b))) (IntKind.wrap IntKind.i64 (byteAt (ByteArray.extract b (0 : Nat) (1 : Nat)) (0 : Nat))) ∧ False) ∧ (decide ((1 : Int) > (((ByteArray.size (ByteArray.extract b (1 : Nat) ((ByteArray.size b)))) : Nat) : Int)) = false → (((1 : Nat) ≤ (ByteArray.size (ByteArray.extract b (1 : Nat) ((ByteArray.size b))))) ∧ True) ∧ (((1 : Nat) ≤ (ByteArray.size (ByteArray.extract b (1 : Nat) ((ByteArray.size b))))) ∧ True) ∧ (((0 : Int) ≤ (0 : Int) ∧ (0 : Int) < (↑((ByteArray.size (ByteArray.extract (ByteArray.extract b (1 : Nat) ((ByteArray.size b))) (0 : Nat) (1 : Nat)))) : Int)) ∧ True) ∧ Q0 (IntKind.wrap IntKind.i64 (byteAt (ByteArray.extract (ByteArray.extract b (1 : Nat) ((ByteArray.size b))) (0 : Nat) (1 : Nat)) (0 : Nat))) (0 : Int) (ByteArray.extract (ByteArray.extract b (1 : Nat) ((ByteArray.size b))) (1 : Nat) ((ByteArray.size (ByteArray.extract b (1 : Nat) ((ByteArray.size b)))))) (IntKind.wrap IntKind.i64 (byteAt (ByteArray.extract b (0 : Nat) (1 : Nat)) (0 : Nat))) ∧ CallKind.normal = CallKind.normal ∧ TodoOk (ren 0 [(0, 0), (1, 1), (2, 2), (3, 3), (4, 4)]) dT0' dT0' ∧ Value.string b = Value.string b ∧ Fn.func (45 : Nat) = Fn.func (45 : Nat) ∧ IntKind.wrap IntKind.i64 (byteAt (ByteArray.extract (ByteArray.extract b (1 : Nat) ((ByteArray.size b))) (0 : Nat) (1 : Nat)) (0 : Nat)) = IntKind.wrap IntKind.i64 (byteAt (ByteArray.extract (ByteArray.extract b (1 : Nat) ((ByteArray.size b))) (0 : Nat) (1 : Nat)) (0 : Nat)) ∧ (0 : Int) = (0 : Int) ∧ (32 : Nat) = (32 : Nat) ∧ Value.slice none (0 : Nat) (0 : Nat) = Value.slice none (0 : Nat) (0 : Nat) ∧ Value.slice none (0 : Nat) (0 : Nat) = Value.slice none (0 : Nat) (0 : Nat) ∧ (9 : Nat) = (9 : Nat) ∧ Value.string (ByteArray.extract (ByteArray.extract b (1 : Nat) ((ByteArray.size b))) (1 : Nat) ((ByteArray.size (ByteArray.extract b (1 : Nat) ((ByteArray.size b)))))) = Value.string (ByteArray.extract (ByteArray.extract b (1 : Nat) ((ByteArray.size b))) (1 : Nat) ((ByteArray.size (ByteArray.extract b (1 : Nat) ((ByteArray.size b)))))) ∧ (82 : Nat) = (82 : Nat) ∧ Fn.func (44 : Nat) = Fn.func (44 : Nat) ∧ (4 : Nat) = (4 : Nat) ∧ (32 : Nat) = (32 : Nat) ∧ IntKind.wrap IntKind.i64 (byteAt (ByteArray.extract b (0 : Nat) (1 : Nat)) (0 : Nat)) = IntKind.wrap IntKind.i64 (byteAt (ByteArray.extract b (0 : Nat) (1 : Nat)) (0 : Nat)) ∧ Value.slice none (0 : Nat) (0 : Nat) = Value.slice none (0 : Nat) (0 : Nat) ∧ Value.slice none (0 : Nat) (0 : Nat) = Value.slice none (0 : Nat) (0 : Nat) ∧ True))) := by kernel_rfl
theorem d_first (b L : ByteArray) (P n i : Int) (ok w : Bool) (P' : Int) (n' k' : Nat) (rs' bs' : Array Value) (Q0 : Int → Int → ByteArray → Int → Prop) (Q1 : Int → Int → ByteArray → Int → Nat → Array Value → Prop) : (dS0 b L P n i).vc (dA ok w P' n' k' rs' bs') (dN b Q0 Q1) =
    ((decide (i < n) = true → (decide ((1 : Int) > (((ByteArray.size L) : Nat) : Int)) = true → (false = true → (decide (ByteArray.size L = (0 : Nat)) = true → ok = false ∧ (0 : Int) = (0 : Int) ∧ (3 : Int) = (3 : Int) ∧ True) ∧ (decide (ByteArray.size L = (0 : Nat)) = false → ((0 : Nat) < ByteArray.size L ∧ (((0 : Nat) + ByteArray.size L) * 1 ≤ (140737488355328 : Nat) ∧ (0 : Nat) + ByteArray.size L ≤ (140737488355328 : Nat)) ∧ True) ∧ ok = false ∧ (0 : Int) = (0 : Int) ∧ (3 : Int) = (3 : Int) ∧ True)) ∧ (false = false → (((0 : Nat) ≤ (ByteArray.size L)) ∧ True) ∧ (((0 : Nat) ≤ (ByteArray.size L)) ∧ True) ∧ (decide (ByteArray.size (ByteArray.extract L (0 : Nat) ((ByteArray.size L))) = (0 : Nat)) = true → ok = false ∧ (0 : Int) = (0 : Int) ∧ (3 : Int) = (3 : Int) ∧ True) ∧ (decide (ByteArray.size (ByteArray.extract L (0 : Nat) ((ByteArray.size L))) = (0 : Nat)) = false → ((0 : Nat) < ByteArray.size (ByteArray.extract L (0 : Nat) ((ByteArray.size L))) ∧ (((0 : Nat) + ByteArray.size (ByteArray.extract L (0 : Nat) ((ByteArray.size L)))) * 1 ≤ (140737488355328 : Nat) ∧ (0 : Nat) + ByteArray.size (ByteArray.extract L (0 : Nat) ((ByteArray.size L))) ≤ (140737488355328 : Nat)) ∧ True) ∧ ok = false ∧ (0 : Int) = (0 : Int) ∧ (3 : Int) = (3 : Int) ∧ True))) ∧ (decide ((1 : Int) > (((ByteArray.size L) : Nat) : Int)) = false → (((1 : Nat) ≤ (ByteArray.size L)) ∧ True) ∧ (((1 : Nat) ≤ (ByteArray.size L)) ∧ True) ∧ (((0 : Int) ≤ (0 : Int) ∧ (0 : Int) < (↑((ByteArray.size (ByteArray.extract L (0 : Nat) (1 : Nat)))) : Int)) ∧ True) ∧ (decide (ari BinOp.mul IntKind.i64 (6 : Int) (IntKind.wrap IntKind.i64 (byteAt (ByteArray.extract L (0 : Nat) (1 : Nat)) (0 : Nat))) > (((ByteArray.size (ByteArray.extract L (1 : Nat) ((ByteArray.size L)))) : Nat) : Int)) = true → (decide (ByteArray.size (ByteArray.extract L (1 : Nat) ((ByteArray.size L))) = (0 : Nat)) = true → ok = false ∧ (0 : Int) = (0 : Int) ∧ (3 : Int) = (3 : Int) ∧ True) ∧ (decide (ByteArray.size (ByteArray.extract L (1 : Nat) ((ByteArray.size L))) = (0 : Nat)) = false → ((0 : Nat) < ByteArray.size (ByteArray.extract L (1 : Nat) ((ByteArray.size L))) ∧ (((0 : Nat) + ByteArray.size (ByteArray.extract L (1 : Nat) ((ByteArray.size L)))) * 1 ≤ (140737488355328 : Nat) ∧ (0 : Nat) + ByteArray.size (ByteArray.extract L (1 : Nat) ((ByteArray.size L))) ≤ (140737488355328 : Nat)) ∧ True) ∧ ok = false ∧ (0 : Int) = (0 : Int) ∧ (3 : Int) = (3 : Int) ∧ True)) ∧ (decide (ari BinOp.mul IntKind.i64 (6 : Int) (IntKind.wrap IntKind.i64 (byteAt (ByteArray.extract L (0 : Nat) (1 : Nat)) (0 : Nat))) > (((ByteArray.size (ByteArray.extract L (1 : Nat) ((ByteArray.size L)))) : Nat) : Int)) = false → ((0 : Int) ≤ ari BinOp.mul IntKind.i64 (6 : Int) (IntKind.wrap IntKind.i64 (byteAt (ByteArray.extract L (0 : Nat) (1 : Nat)) (0 : Nat))) ∧ (Int.toNat (ari BinOp.mul IntKind.i64 (6 : Int) (IntKind.wrap IntKind.i64 (byteAt (ByteArray.extract L (0 : Nat) (1 : Nat)) (0 : Nat)))) ≤ (ByteArray.size (ByteArray.extract L (1 : Nat) ((ByteArray.size L))))) ∧ True) ∧ ((0 : Int) ≤ ari BinOp.mul IntKind.i64 (6 : Int) (IntKind.wrap IntKind.i64 (byteAt (ByteArray.extract L (0 : Nat) (1 : Nat)) (0 : Nat))) ∧ (Int.toNat (ari BinOp.mul IntKind.i64 (6 : Int) (IntKind.wrap IntKind.i64 (byteAt (ByteArray.extract L (0 : Nat) (1 : Nat)) (0 : Nat)))) ≤ (ByteArray.size (ByteArray.extract L (1 : Nat) ((ByteArray.size L))))) ∧ True) ∧ Q1 n (ari BinOp.add IntKind.i64 i (1 : Int)) (ByteArray.extract (ByteArray.extract L (1 : Nat) ((ByteArray.size L))) (Int.toNat (ari BinOp.mul IntKind.i64 (6 : Int) (IntKind.wrap IntKind.i64 (byteAt (ByteArray.extract L (0 : Nat) (1 : Nat)) (0 : Nat))))) ((ByteArray.size (ByteArray.extract L (1 : Nat) ((ByteArray.size L)))))) P (1 : Nat) #[Value.string (ByteArray.extract (ByteArray.extract L (1 : Nat) ((ByteArray.size L))) (0 : Nat) (Int.toNat (ari BinOp.mul IntKind.i64 (6 : Int) (IntKind.wrap IntKind.i64 (byteAt (ByteArray.extract L (0 : Nat) (1 : Nat)) (0 : Nat))))))] ∧ CallKind.normal = CallKind.normal ∧ TodoOk (ren 0 [(0, 0), (1, 1), (2, 2), (3, 3), (4, 4), (5, 6)]) dH0' dH0' ∧ Value.string b = Value.string b ∧ Fn.func (45 : Nat) = Fn.func (45 : Nat) ∧ n = n ∧ ari BinOp.add IntKind.i64 i (1 : Int) = ari BinOp.add IntKind.i64 i (1 : Int) ∧ (32 : Nat) = (32 : Nat) ∧ Value.slice none (0 : Nat) (0 : Nat) = Value.slice none (0 : Nat) (0 : Nat) ∧ Value.slice none (0 : Nat) (0 : Nat) = Value.slice none (0 : Nat) (0 : Nat) ∧ (9 : Nat) = (9 : Nat) ∧ Value.string (ByteArray.extract (ByteArray.extract L (1 : Nat) ((ByteArray.size L))) (Int.toNat (ari BinOp.mul IntKind.i64 (6 : Int) (IntKind.wrap IntKind.i64 (byteAt (ByteArray.extract L (0 : Nat) (1 : Nat)) (0 : Nat))))) ((ByteArray.size (ByteArray.extract L (1 : Nat) ((ByteArray.size L)))))) = Value.string (ByteArray.extract (ByteArray.extract L (1 : Nat) ((ByteArray.size L))) (Int.toNat (ari BinOp.mul IntKind.i64 (6 : Int) (IntKind.wrap IntKind.i64 (byteAt (ByteArray.extract L (0 : Nat) (1 : Nat)) (0 : Nat))))) ((ByteArray.size (ByteArray.extract L (1 : Nat) ((ByteArray.size L)))))) ∧ (82 : Nat) = (82 : Nat) ∧ Fn.func (44 : Nat) = Fn.func (44 : Nat) ∧ (9 : TypeId) = (9 : Nat) ∧ #[Value.string (ByteArray.extract (ByteArray.extract L (1 : Nat) ((ByteArray.size L))) (0 : Nat) (Int.toNat (ari BinOp.mul IntKind.i64 (6 : Int) (IntKind.wrap IntKind.i64 (byteAt (ByteArray.extract L (0 : Nat) (1 : Nat)) (0 : Nat))))))] = #[Value.string (ByteArray.extract (ByteArray.extract L (1 : Nat) ((ByteArray.size L))) (0 : Nat) (Int.toNat (ari BinOp.mul IntKind.i64 (6 : Int) (IntKind.wrap IntKind.i64 (byteAt (ByteArray.extract L (0 : Nat) (1 : Nat)) (0 : Nat))))))] ∧ (4 : Nat) = (4 : Nat) ∧ (32 : Nat) = (32 : Nat) ∧ P = P ∧ (1 : Nat) = (1 : Nat) ∧ Value.slice none (0 : Nat) (0 : Nat) = Value.slice none (0 : Nat) (0 : Nat) ∧ True))) ∧ (decide (i < n) = false → (decide (ByteArray.size L = (0 : Nat)) = true → ((decide (P < (1 : Int)) == false) = true → ((decide (P > (64 : Int)) == false) = true → ok = false ∧ (0 : Int) = (0 : Int) ∧ (3 : Int) = (3 : Int) ∧ True) ∧ ((decide (P > (64 : Int)) == false) = false → ok = false ∧ (0 : Int) = (0 : Int) ∧ (3 : Int) = (3 : Int) ∧ True)) ∧ ((decide (P < (1 : Int)) == false) = false → ok = false ∧ (0 : Int) = (0 : Int) ∧ (3 : Int) = (3 : Int) ∧ True)) ∧ (decide (ByteArray.size L = (0 : Nat)) = false → ((0 : Nat) < ByteArray.size L ∧ (((0 : Nat) + ByteArray.size L) * 1 ≤ (140737488355328 : Nat) ∧ (0 : Nat) + ByteArray.size L ≤ (140737488355328 : Nat)) ∧ True) ∧ ((decide (P < (1 : Int)) == false) = true → ((decide (P > (64 : Int)) == false) = true → ok = false ∧ (0 : Int) = (0 : Int) ∧ (3 : Int) = (3 : Int) ∧ True) ∧ ((decide (P > (64 : Int)) == false) = false → ok = false ∧ (0 : Int) = (0 : Int) ∧ (3 : Int) = (3 : Int) ∧ True)) ∧ ((decide (P < (1 : Int)) == false) = false → ok = false ∧ (0 : Int) = (0 : Int) ∧ (3 : Int) = (3 : Int) ∧ True)))) := by kernel_rfl
theorem d_step (b L : ByteArray) (P n i : Int) (k : Nat) (rs : Array Value) (ok w : Bool) (P' : Int) (n' k' : Nat) (rs' bs' : Array Value) (Q0 : Int → Int → ByteArray → Int → Prop) (Q1 : Int → Int → ByteArray → Int → Nat → Array Value → Prop) : (dS1 b L P n i k rs).vc (dA ok w P' n' k' rs' bs') (dN b Q0 Q1) =
    ((decide (i < n) = true → (decide ((1 : Int) > (((ByteArray.size L) : Nat) : Int)) = true → (false = true → (decide (ByteArray.size L = (0 : Nat)) = true → ok = false ∧ (0 : Int) = (0 : Int) ∧ (3 : Int) = (3 : Int) ∧ True) ∧ (decide (ByteArray.size L = (0 : Nat)) = false → ((0 : Nat) < ByteArray.size L ∧ (((0 : Nat) + ByteArray.size L) * 1 ≤ (140737488355328 : Nat) ∧ (0 : Nat) + ByteArray.size L ≤ (140737488355328 : Nat)) ∧ True) ∧ ok = false ∧ (0 : Int) = (0 : Int) ∧ (3 : Int) = (3 : Int) ∧ True)) ∧ (false = false → (((0 : Nat) ≤ (ByteArray.size L)) ∧ True) ∧ (((0 : Nat) ≤ (ByteArray.size L)) ∧ True) ∧ (decide (ByteArray.size (ByteArray.extract L (0 : Nat) ((ByteArray.size L))) = (0 : Nat)) = true → ok = false ∧ (0 : Int) = (0 : Int) ∧ (3 : Int) = (3 : Int) ∧ True) ∧ (decide (ByteArray.size (ByteArray.extract L (0 : Nat) ((ByteArray.size L))) = (0 : Nat)) = false → ((0 : Nat) < ByteArray.size (ByteArray.extract L (0 : Nat) ((ByteArray.size L))) ∧ (((0 : Nat) + ByteArray.size (ByteArray.extract L (0 : Nat) ((ByteArray.size L)))) * 1 ≤ (140737488355328 : Nat) ∧ (0 : Nat) + ByteArray.size (ByteArray.extract L (0 : Nat) ((ByteArray.size L))) ≤ (140737488355328 : Nat)) ∧ True) ∧ ok = false ∧ (0 : Int) = (0 : Int) ∧ (3 : Int) = (3 : Int) ∧ True))) ∧ (decide ((1 : Int) > (((ByteArray.size L) : Nat) : Int)) = false → (((1 : Nat) ≤ (ByteArray.size L)) ∧ True) ∧ (((1 : Nat) ≤ (ByteArray.size L)) ∧ True) ∧ (((0 : Int) ≤ (0 : Int) ∧ (0 : Int) < (↑((ByteArray.size (ByteArray.extract L (0 : Nat) (1 : Nat)))) : Int)) ∧ True) ∧ (decide (ari BinOp.mul IntKind.i64 (6 : Int) (IntKind.wrap IntKind.i64 (byteAt (ByteArray.extract L (0 : Nat) (1 : Nat)) (0 : Nat))) > (((ByteArray.size (ByteArray.extract L (1 : Nat) ((ByteArray.size L)))) : Nat) : Int)) = true → (decide (ByteArray.size (ByteArray.extract L (1 : Nat) ((ByteArray.size L))) = (0 : Nat)) = true → ok = false ∧ (0 : Int) = (0 : Int) ∧ (3 : Int) = (3 : Int) ∧ True) ∧ (decide (ByteArray.size (ByteArray.extract L (1 : Nat) ((ByteArray.size L))) = (0 : Nat)) = false → ((0 : Nat) < ByteArray.size (ByteArray.extract L (1 : Nat) ((ByteArray.size L))) ∧ (((0 : Nat) + ByteArray.size (ByteArray.extract L (1 : Nat) ((ByteArray.size L)))) * 1 ≤ (140737488355328 : Nat) ∧ (0 : Nat) + ByteArray.size (ByteArray.extract L (1 : Nat) ((ByteArray.size L))) ≤ (140737488355328 : Nat)) ∧ True) ∧ ok = false ∧ (0 : Int) = (0 : Int) ∧ (3 : Int) = (3 : Int) ∧ True)) ∧ (decide (ari BinOp.mul IntKind.i64 (6 : Int) (IntKind.wrap IntKind.i64 (byteAt (ByteArray.extract L (0 : Nat) (1 : Nat)) (0 : Nat))) > (((ByteArray.size (ByteArray.extract L (1 : Nat) ((ByteArray.size L)))) : Nat) : Int)) = false → ((0 : Int) ≤ ari BinOp.mul IntKind.i64 (6 : Int) (IntKind.wrap IntKind.i64 (byteAt (ByteArray.extract L (0 : Nat) (1 : Nat)) (0 : Nat))) ∧ (Int.toNat (ari BinOp.mul IntKind.i64 (6 : Int) (IntKind.wrap IntKind.i64 (byteAt (ByteArray.extract L (0 : Nat) (1 : Nat)) (0 : Nat)))) ≤ (ByteArray.size (ByteArray.extract L (1 : Nat) ((ByteArray.size L))))) ∧ True) ∧ ((0 : Int) ≤ ari BinOp.mul IntKind.i64 (6 : Int) (IntKind.wrap IntKind.i64 (byteAt (ByteArray.extract L (0 : Nat) (1 : Nat)) (0 : Nat))) ∧ (Int.toNat (ari BinOp.mul IntKind.i64 (6 : Int) (IntKind.wrap IntKind.i64 (byteAt (ByteArray.extract L (0 : Nat) (1 : Nat)) (0 : Nat)))) ≤ (ByteArray.size (ByteArray.extract L (1 : Nat) ((ByteArray.size L))))) ∧ True) ∧ (((k + 1) * 16 ≤ (140737488355328 : Nat) ∧ k + 1 ≤ (140737488355328 : Nat)) ∧ k * 1 = Array.size rs ∧ True) ∧ Q1 n (ari BinOp.add IntKind.i64 i (1 : Int)) (ByteArray.extract (ByteArray.extract L (1 : Nat) ((ByteArray.size L))) (Int.toNat (ari BinOp.mul IntKind.i64 (6 : Int) (IntKind.wrap IntKind.i64 (byteAt (ByteArray.extract L (0 : Nat) (1 : Nat)) (0 : Nat))))) ((ByteArray.size (ByteArray.extract L (1 : Nat) ((ByteArray.size L)))))) P (k + 1) (rs ++ #[Value.string (ByteArray.extract (ByteArray.extract L (1 : Nat) ((ByteArray.size L))) (0 : Nat) (Int.toNat (ari BinOp.mul IntKind.i64 (6 : Int) (IntKind.wrap IntKind.i64 (byteAt (ByteArray.extract L (0 : Nat) (1 : Nat)) (0 : Nat))))))]) ∧ CallKind.normal = CallKind.normal ∧ TodoOk (ren 0 [(0, 0), (1, 1), (2, 2), (3, 3), (4, 4), (5, 7)]) dH0' dH0' ∧ Value.string b = Value.string b ∧ Fn.func (45 : Nat) = Fn.func (45 : Nat) ∧ n = n ∧ ari BinOp.add IntKind.i64 i (1 : Int) = ari BinOp.add IntKind.i64 i (1 : Int) ∧ (32 : Nat) = (32 : Nat) ∧ Value.slice none (0 : Nat) (0 : Nat) = Value.slice none (0 : Nat) (0 : Nat) ∧ Value.slice none (0 : Nat) (0 : Nat) = Value.slice none (0 : Nat) (0 : Nat) ∧ (9 : Nat) = (9 : Nat) ∧ Value.string (ByteArray.extract (ByteArray.extract L (1 : Nat) ((ByteArray.size L))) (Int.toNat (ari BinOp.mul IntKind.i64 (6 : Int) (IntKind.wrap IntKind.i64 (byteAt (ByteArray.extract L (0 : Nat) (1 : Nat)) (0 : Nat))))) ((ByteArray.size (ByteArray.extract L (1 : Nat) ((ByteArray.size L)))))) = Value.string (ByteArray.extract (ByteArray.extract L (1 : Nat) ((ByteArray.size L))) (Int.toNat (ari BinOp.mul IntKind.i64 (6 : Int) (IntKind.wrap IntKind.i64 (byteAt (ByteArray.extract L (0 : Nat) (1 : Nat)) (0 : Nat))))) ((ByteArray.size (ByteArray.extract L (1 : Nat) ((ByteArray.size L)))))) ∧ (82 : Nat) = (82 : Nat) ∧ Fn.func (44 : Nat) = Fn.func (44 : Nat) ∧ (9 : TypeId) = (9 : Nat) ∧ rs ++ #[Value.string (ByteArray.extract (ByteArray.extract L (1 : Nat) ((ByteArray.size L))) (0 : Nat) (Int.toNat (ari BinOp.mul IntKind.i64 (6 : Int) (IntKind.wrap IntKind.i64 (byteAt (ByteArray.extract L (0 : Nat) (1 : Nat)) (0 : Nat))))))] = rs ++ #[Value.string (ByteArray.extract (ByteArray.extract L (1 : Nat) ((ByteArray.size L))) (0 : Nat) (Int.toNat (ari BinOp.mul IntKind.i64 (6 : Int) (IntKind.wrap IntKind.i64 (byteAt (ByteArray.extract L (0 : Nat) (1 : Nat)) (0 : Nat))))))] ∧ (4 : Nat) = (4 : Nat) ∧ (32 : Nat) = (32 : Nat) ∧ P = P ∧ k + 1 = k + 1 ∧ Value.slice none (0 : Nat) (0 : Nat) = Value.slice none (0 : Nat) (0 : Nat) ∧ True))) ∧ (decide (i < n) = false → (decide (ByteArray.size L = (0 : Nat)) = true → ((decide (P < (1 : Int)) == false) = true → ((decide (P > (64 : Int)) == false) = true → ((decide ((↑k : Int) < (1 : Int)) == false) = true → ((decide ((↑k : Int) > (8 : Int)) == false) = true → (rowOk true rs (0 : Nat) k ∧ True) ∧ (((!anyV true rs (0 : Nat) k) == true) = true → ok = true ∧ w = false ∧ P' = P ∧ n' = k ∧ Value.slice none (0 : Nat) (0 : Nat) = Value.slice none (0 : Nat) (0 : Nat) ∧ (9 : TypeId) = (9 : TypeId) ∧ rs' = rs ∧ True) ∧ (((!anyV true rs (0 : Nat) k) == true) = false → ok = false ∧ (0 : Int) = (0 : Int) ∧ (3 : Int) = (3 : Int) ∧ True)) ∧ ((decide ((↑k : Int) > (8 : Int)) == false) = false → ok = false ∧ (0 : Int) = (0 : Int) ∧ (3 : Int) = (3 : Int) ∧ True)) ∧ ((decide ((↑k : Int) < (1 : Int)) == false) = false → ok = false ∧ (0 : Int) = (0 : Int) ∧ (3 : Int) = (3 : Int) ∧ True)) ∧ ((decide (P > (64 : Int)) == false) = false → ok = false ∧ (0 : Int) = (0 : Int) ∧ (3 : Int) = (3 : Int) ∧ True)) ∧ ((decide (P < (1 : Int)) == false) = false → ok = false ∧ (0 : Int) = (0 : Int) ∧ (3 : Int) = (3 : Int) ∧ True)) ∧ (decide (ByteArray.size L = (0 : Nat)) = false → ((0 : Nat) < ByteArray.size L ∧ (((0 : Nat) + ByteArray.size L) * 1 ≤ (140737488355328 : Nat) ∧ (0 : Nat) + ByteArray.size L ≤ (140737488355328 : Nat)) ∧ True) ∧ ((decide (P < (1 : Int)) == false) = true → ((decide (P > (64 : Int)) == false) = true → ((decide ((↑k : Int) < (1 : Int)) == false) = true → ((decide ((↑k : Int) > (8 : Int)) == false) = true → (decide ((↑(ByteArray.size L) : Int) > (4000 : Int)) = true → ok = false ∧ (0 : Int) = (0 : Int) ∧ (3 : Int) = (3 : Int) ∧ True) ∧ (decide ((↑(ByteArray.size L) : Int) > (4000 : Int)) = false → (rowOk true rs (0 : Nat) k ∧ True) ∧ (((!anyV true rs (0 : Nat) k) == true) = true → (rowOk false (Array.map (fun b => Value.int IntKind.u8 (↑(UInt8.toNat b) : Int)) (ByteArray.data L)) (0 : Nat) (ByteArray.size L) ∧ True) ∧ ((!!anyV false (Array.map (fun b => Value.int IntKind.u8 (↑(UInt8.toNat b) : Int)) (ByteArray.data L)) (0 : Nat) (ByteArray.size L)) = true → ok = false ∧ (0 : Int) = (0 : Int) ∧ (3 : Int) = (3 : Int) ∧ True) ∧ ((!!anyV false (Array.map (fun b => Value.int IntKind.u8 (↑(UInt8.toNat b) : Int)) (ByteArray.data L)) (0 : Nat) (ByteArray.size L)) = false → ok = true ∧ w = true ∧ P' = P ∧ n' = k ∧ k' = ByteArray.size L ∧ (9 : TypeId) = (9 : TypeId) ∧ rs' = rs ∧ (5 : TypeId) = (5 : Nat) ∧ bs' = Array.map (fun b => Value.int IntKind.u8 (↑(UInt8.toNat b) : Int)) (ByteArray.data L) ∧ True)) ∧ (((!anyV true rs (0 : Nat) k) == true) = false → ok = false ∧ (0 : Int) = (0 : Int) ∧ (3 : Int) = (3 : Int) ∧ True))) ∧ ((decide ((↑k : Int) > (8 : Int)) == false) = false → ok = false ∧ (0 : Int) = (0 : Int) ∧ (3 : Int) = (3 : Int) ∧ True)) ∧ ((decide ((↑k : Int) < (1 : Int)) == false) = false → ok = false ∧ (0 : Int) = (0 : Int) ∧ (3 : Int) = (3 : Int) ∧ True)) ∧ ((decide (P > (64 : Int)) == false) = false → ok = false ∧ (0 : Int) = (0 : Int) ∧ (3 : Int) = (3 : Int) ∧ True)) ∧ ((decide (P < (1 : Int)) == false) = false → ok = false ∧ (0 : Int) = (0 : Int) ∧ (3 : Int) = (3 : Int) ∧ True)))) := by kernel_rfl
theorem d_none (b : ByteArray) (ok w : Bool) (P : Int) (n k : Nat) (rs bs : Array Value) : (run EVn 1000 0 (dcC b) M0).follow (dA ok w P n k rs bs) (fun _ _ => False) [true, true, true] =
    (decide ((1 : Int) > (((ByteArray.size b) : Nat) : Int)) = true ∧ decide ((1 : Int) > (((ByteArray.size b) : Nat) : Int)) = true ∧ decide (ByteArray.size b = (0 : Nat)) = true ∧ ok = false ∧ (0 : Int) = (0 : Int) ∧ (3 : Int) = (3 : Int) ∧ True) := by kernel_rfl
theorem d_none' (b : ByteArray) (ok w : Bool) (P : Int) (n k : Nat) (rs bs : Array Value) : (run EVn 1000 0 (dcC b) M0).follow (dA ok w P n k rs bs) (fun _ _ => False) [false, true, true] =
    (decide ((1 : Int) > (((ByteArray.size b) : Nat) : Int)) = false ∧ (((1 : Nat) ≤ (ByteArray.size b)) ∧ True) ∧ (((1 : Nat) ≤ (ByteArray.size b)) ∧ True) ∧ (((0 : Int) ≤ (0 : Int) ∧ (0 : Int) < (↑((ByteArray.size (ByteArray.extract b (0 : Nat) (1 : Nat)))) : Int)) ∧ True) ∧ decide ((1 : Int) > (((ByteArray.size (ByteArray.extract b (1 : Nat) ((ByteArray.size b)))) : Nat) : Int)) = true ∧ decide (ByteArray.size (ByteArray.extract b (1 : Nat) ((ByteArray.size b))) = (0 : Nat)) = true ∧ ok = false ∧ (0 : Int) = (0 : Int) ∧ (3 : Int) = (3 : Int) ∧ True) := by kernel_rfl
end Go.Proofs.Ytapkbgccbmjfaaa
